/- Package cut: Segments. -/
import Derived.Test.YtppjmmdiglnkfaaQbh
namespace Go.Proofs.Ytppjmmdiglnkfaa
set_option maxRecDepth 100000
open Go.ChangeShapes Go.WideShapes Go.ChangeAt Go.RowKit Go.PlainAid Go.Deep Go.Shelf Go.Sort
namespace Cu
attribute [local go_sem ↓ high] load_op store_o app_seg
def mkS (s : SegV) (c : List OpV) : SegV := ⟨s.obj, s.kind, c⟩
theorem cut_new {s : SegV} {P : List OpV} {ps : List (SegV × Value)} {o : OpV} (u : Value) (h : ps.map Prod.fst = (cutL P).map (mkS s)) (hc : ps = [] ∨ ∃ init q, ps = init ++ [q] ∧ q.1.ops.all (befB · o) = true) : (ps ++ [(SegV.add ⟨s.obj, s.kind, []⟩ o, u)]).map Prod.fst = (cutL (P ++ [o])).map (mkS s) := by
  rw [cutL_snoc, List.map_append, h]
  rcases hc with rfl | ⟨init, q, rfl, hq⟩
  · have : cutL P = [] := by simpa using h.symm
    rw [this, cutStep_nil]
    rfl
  · have hne : cutL P ≠ [] := by intro e; rw [e] at h; simp at h
    obtain ⟨ci, c, hc⟩ := snoc_of hne
    rw [hc] at h ⊢
    rw [List.map_append, List.map_append] at h
    have h2 := (List.append_inj' h rfl).2
    simp only [List.map_cons, List.map_nil, List.cons.injEq, and_true] at h2
    rw [h2] at hq
    have hq : c.all (befB · o) = true := hq
    rw [cutStep_cut hq, List.map_append (l₁ := ci ++ [c])]
    rfl
theorem cut_on {s : SegV} {P : List OpV} {init : List (SegV × Value)} {q : SegV × Value} {o : OpV} (u : Value) (h : (init ++ [q]).map Prod.fst = (cutL P).map (mkS s)) (hq : q.1.ops.all (befB · o) = false) : (init ++ [(q.1.add o, u)]).map Prod.fst = (cutL (P ++ [o])).map (mkS s) := by
  have hne : cutL P ≠ [] := by intro e; rw [e] at h; simp at h
  obtain ⟨ci, c, hc⟩ := snoc_of hne
  rw [cutL_snoc, hc]
  rw [hc, List.map_append, List.map_append] at h
  obtain ⟨h1, h2⟩ := List.append_inj' h rfl
  simp only [List.map_cons, List.map_nil, List.cons.injEq, and_true] at h2
  rw [h2] at hq
  have hq : c.all (befB · o) = false := hq
  rw [cutStep_on hq, List.map_append, List.map_append, h1, h2]
  rfl
theorem flat_le {S : List OpV} {k : Nat} {c : List OpV} (hc : c ∈ cutL (S.take k)) : c.length ≤ S.length := by
  have h := (cutL_ok (S.take k)).flat
  have h1 : c.length ≤ (cutL (S.take k)).flatten.length := List.Sublist.length_le (List.sublist_flatten_of_mem hc)
  rw [h, List.length_take] at h1
  omega
theorem cut_few {P : List OpV} : (cutL P).length ≤ P.length := by
  have h := cutL_ok P
  have : ∀ l : List (List OpV), (∀ c ∈ l, c ≠ []) → l.length ≤ l.flatten.length := fun l => by
    induction l with
    | nil => intro _; simp
    | cons c r ih =>
      intro hs
      rw [List.flatten_cons, List.length_append, List.length_cons]
      have h1 := ih fun t ht => hs t (by simp [ht])
      have := List.length_pos_iff.2 (hs c (by simp))
      omega
  have h2 := this _ h.ne
  rwa [h.flat] at h2
/-- What is known at a round's end. -/
structure SgI (w W : World) (s : SegV) (S : List OpV) (k b4 : Nat) (last : OpV) (v : Value) (ps : List (SegV × Value)) (R : List (Nat × Obj)) : Prop where
  mem : SegM w W v ps ((b4, .cells #[Value.int .i64 last.id, Value.int .i64 last.proc, Value.int .i64 last.obj, Value.int .i64 last.kind, Value.int .i64 last.meth, Value.int .i64 last.arg, Value.int .i64 last.sec, Value.bool last.done, Value.int .i64 last.res, Value.int .i64 last.inv, Value.int .i64 last.ret] 43 (0, 0)) :: R)
  cut : ps.map Prod.fst = (cutL (S.take k)).map (mkS s)
  ok : LastOk w W v ps ((b4, .cells #[Value.int .i64 last.id, Value.int .i64 last.proc, Value.int .i64 last.obj, Value.int .i64 last.kind, Value.int .i64 last.meth, Value.int .i64 last.arg, Value.int .i64 last.sec, Value.bool last.done, Value.int .i64 last.res, Value.int .i64 last.inv, Value.int .i64 last.ret] 43 (0, 0)) :: R)
  clear : ∀ q ∈ ps, q.2.ownBlock ≠ some b4
  ends : ∀ init q, ps = init ++ [q] → ∀ p, befB last p = q.1.ops.all (befB · p)
theorem SgI.few {w W : World} {s : SegV} {S : List OpV} {k b4 : Nat} {last : OpV} {v : Value} {ps : List (SegV × Value)} {R : List (Nat × Obj)} (h : SgI w W s S k b4 last v ps R) : ps.length ≤ S.length := by
  have e : ps.length = (cutL (S.take k)).length := by rw [← List.length_map (f := Prod.fst), h.cut, List.length_map]
  have := cut_few (P := S.take k)
  rw [List.length_take] at this
  omega
theorem SgI.le {w W : World} {s : SegV} {S : List OpV} {k b4 : Nat} {last : OpV} {v : Value} {ps : List (SegV × Value)} {R : List (Nat × Obj)} (h : SgI w W s S k b4 last v ps R) : ∀ q ∈ ps, q.1.ops.length ≤ S.length := fun q hq => by
  have : q.1 ∈ (cutL (S.take k)).map (mkS s) := by rw [← h.cut]; exact List.mem_map.2 ⟨q, hq, rfl⟩
  obtain ⟨c, hc, e⟩ := List.mem_map.1 this
  rw [← e]
  exact flat_le hc
theorem LastM.mono {w0 W W' : World} {init : List (SegV × Value)} {q : SegV × Value} {R R' : List (Nat × Obj)} (h : LastM w0 W init q R) (hg : OpsOwn w0.heap.size W' q.2 q.1.ops) (hs : ∀ x ∈ R', ∃ y ∈ R, y.1 = x.1) (ho : ∀ p ∈ init, OpsOwn w0.heap.size W' p.2 p.1.ops) : LastM w0 W' init q R' := ⟨hg, h.apart, fun x hx => by
  obtain ⟨y, hy, e⟩ := hs x hx
  rw [← e]
  exact h.keep y hy, ho, h.pw⟩
/-- The latest operation is put down, beside the box of the one that is looked at. -/
theorem set_last {w W : World} {v : Value} {init : List (SegV × Value)} {q : SegV × Value} {b4 b6 : Nat} {R : List (Nat × Obj)} {last o : OpV} (h : SegM w W v (init ++ [q]) ((b6, .cells #[Value.int .i64 o.id, Value.int .i64 o.proc, Value.int .i64 o.obj, Value.int .i64 o.kind, Value.int .i64 o.meth, Value.int .i64 o.arg, Value.int .i64 o.sec, Value.bool o.done, Value.int .i64 o.res, Value.int .i64 o.inv, Value.int .i64 o.ret] 43 (0, 0)) :: (b4, .cells #[Value.int .i64 last.id, Value.int .i64 last.proc, Value.int .i64 last.obj, Value.int .i64 last.kind, Value.int .i64 last.meth, Value.int .i64 last.arg, Value.int .i64 last.sec, Value.bool last.done, Value.int .i64 last.res, Value.int .i64 last.inv, Value.int .i64 last.ret] 43 (0, 0)) :: R)) (hl : LastM w W init q ((b6, .cells #[Value.int .i64 o.id, Value.int .i64 o.proc, Value.int .i64 o.obj, Value.int .i64 o.kind, Value.int .i64 o.meth, Value.int .i64 o.arg, Value.int .i64 o.sec, Value.bool o.done, Value.int .i64 o.res, Value.int .i64 o.inv, Value.int .i64 o.ret] 43 (0, 0)) :: (b4, .cells #[Value.int .i64 last.id, Value.int .i64 last.proc, Value.int .i64 last.obj, Value.int .i64 last.kind, Value.int .i64 last.meth, Value.int .i64 last.arg, Value.int .i64 last.sec, Value.bool last.done, Value.int .i64 last.res, Value.int .i64 last.inv, Value.int .i64 last.ret] 43 (0, 0)) :: R)) (hc : ∀ p ∈ init ++ [q], p.2.ownBlock ≠ some b4) (hb : b6 ≠ b4) (hR : ∀ x ∈ R, x.1 ≠ b4) (hlo : w.heap.size ≤ b4) :
    ∃ W', (storeS 43 (.pointer (some ⟨b4, 0, none⟩)) (Value.agg #[Value.int .i64 o.id, Value.int .i64 o.proc, Value.int .i64 o.obj, Value.int .i64 o.kind, Value.int .i64 o.meth, Value.int .i64 o.arg, Value.int .i64 o.sec, Value.bool o.done, Value.int .i64 o.res, Value.int .i64 o.inv, Value.int .i64 o.ret])).run Try.prog W = .ok () W' ∧ SegM w W' v (init ++ [q]) ((b6, .cells #[Value.int .i64 o.id, Value.int .i64 o.proc, Value.int .i64 o.obj, Value.int .i64 o.kind, Value.int .i64 o.meth, Value.int .i64 o.arg, Value.int .i64 o.sec, Value.bool o.done, Value.int .i64 o.res, Value.int .i64 o.inv, Value.int .i64 o.ret] 43 (0, 0)) :: (b4, .cells #[Value.int .i64 o.id, Value.int .i64 o.proc, Value.int .i64 o.obj, Value.int .i64 o.kind, Value.int .i64 o.meth, Value.int .i64 o.arg, Value.int .i64 o.sec, Value.bool o.done, Value.int .i64 o.res, Value.int .i64 o.inv, Value.int .i64 o.ret] 43 (0, 0)) :: R) ∧ LastM w W' init q ((b6, .cells #[Value.int .i64 o.id, Value.int .i64 o.proc, Value.int .i64 o.obj, Value.int .i64 o.kind, Value.int .i64 o.meth, Value.int .i64 o.arg, Value.int .i64 o.sec, Value.bool o.done, Value.int .i64 o.res, Value.int .i64 o.inv, Value.int .i64 o.ret] 43 (0, 0)) :: (b4, .cells #[Value.int .i64 o.id, Value.int .i64 o.proc, Value.int .i64 o.obj, Value.int .i64 o.kind, Value.int .i64 o.meth, Value.int .i64 o.arg, Value.int .i64 o.sec, Value.bool o.done, Value.int .i64 o.res, Value.int .i64 o.inv, Value.int .i64 o.ret] 43 (0, 0)) :: R) := by
  obtain ⟨W', h1, h2, h3, _⟩ := SegM.setR (R := (b6, .cells #[Value.int .i64 o.id, Value.int .i64 o.proc, Value.int .i64 o.obj, Value.int .i64 o.kind, Value.int .i64 o.meth, Value.int .i64 o.arg, Value.int .i64 o.sec, Value.bool o.done, Value.int .i64 o.res, Value.int .i64 o.inv, Value.int .i64 o.ret] 43 (0, 0)) :: R) (b := b4) (c := #[Value.int .i64 last.id, Value.int .i64 last.proc, Value.int .i64 last.obj, Value.int .i64 last.kind, Value.int .i64 last.meth, Value.int .i64 last.arg, Value.int .i64 last.sec, Value.bool last.done, Value.int .i64 last.res, Value.int .i64 last.inv, Value.int .i64 last.ret]) (h.sub fun x hx => by
    simp only [List.mem_cons] at hx ⊢
    rcases hx with h | h | h <;> simp [h]) hc (fun x hx => by
    rcases List.mem_cons.1 hx with rfl | hx
    · exact hb
    · exact hR x hx) hlo rfl o
  refine ⟨W', h1, h2.sub fun x hx => by
    simp only [List.mem_cons] at hx ⊢
    rcases hx with h | h | h <;> simp [h], (hl.grown h3 (hc q (by simp)) fun p hp => hc p (by simp [hp])).mono (World.ownsRow.kept hl.own h3 (.inr (hc q (by simp)))) (fun x hx => ?_) fun p hp => World.ownsRow.kept (hl.olds p hp) h3 (.inr (hc p (by simp [hp])))⟩
  simp only [List.mem_cons] at hx
  rcases hx with rfl | rfl | hx
  · exact ⟨_, by simp, rfl⟩
  · exact ⟨(b4, .cells #[Value.int .i64 last.id, Value.int .i64 last.proc, Value.int .i64 last.obj, Value.int .i64 last.kind, Value.int .i64 last.meth, Value.int .i64 last.arg, Value.int .i64 last.sec, Value.bool last.done, Value.int .i64 last.res, Value.int .i64 last.inv, Value.int .i64 last.ret] 43 (0, 0)), by simp, rfl⟩
  · exact ⟨x, by simp [hx], rfl⟩
theorem ends_one (o : OpV) : ∀ p, befB (if endB o o then o else o) p = ([] ++ [o] : List OpV).all (befB · p) := fun p => by
  cases endB o o <;> simp
set_option maxHeartbeats 4000000 in
theorem segments_any {s : SegV} {vO : Value} {w : World} (h : OpsOf w vO s.ops) (hl : s.ops.length ≤ 65536) : Calls Try.prog 31 #[.agg #[.int .i64 s.obj, .int .i64 s.kind, vO]] w fun e w' => ∃ v', e = .returned v' ∧ ∃ ps S, SegM w w' v' ps [] ∧ Sorted cfInv s.ops S ∧ ps.map Prod.fst = (cutL S).map (mkS s) ∧ AprS w.heap.size w' ps := by
  obtain ⟨b1, hb1⟩ : ∃ b, w.heap.size = b := ⟨_, rfl⟩
  have g1 := heap_alloc_new w (.cells #[.int .i64 s.obj, .int .i64 s.kind, vO] 24)
  have hb01 : Below w.heap.size w (w.alloc (.cells #[.int .i64 s.obj, .int .i64 s.kind, vO] 24)) := by go_grown
  have z1 : (w.alloc (.cells #[.int .i64 s.obj, .int .i64 s.kind, vO] 24)).heap.size = b1 + 1 := by rw [World.size_alloc, hb1]
  obtain ⟨W1, hW1⟩ : ∃ W, w.alloc (.cells #[.int .i64 s.obj, .int .i64 s.kind, vO] 24) = W := ⟨_, rfl⟩
  rw [hW1] at g1 hb01 z1
  have g4 := heap_alloc_new W1 (.cells #[Value.int .i64 0, Value.int .i64 0, Value.int .i64 0, Value.int .i64 0, Value.int .i64 0, Value.int .i64 0, Value.int .i64 0, Value.bool false, Value.int .i64 0, Value.int .i64 0, Value.int .i64 0] 43)
  have hb12 : Below W1.heap.size W1 (W1.alloc (.cells #[Value.int .i64 0, Value.int .i64 0, Value.int .i64 0, Value.int .i64 0, Value.int .i64 0, Value.int .i64 0, Value.int .i64 0, Value.bool false, Value.int .i64 0, Value.int .i64 0, Value.int .i64 0] 43)) := by go_grown
  have z2 : (W1.alloc (.cells #[Value.int .i64 0, Value.int .i64 0, Value.int .i64 0, Value.int .i64 0, Value.int .i64 0, Value.int .i64 0, Value.int .i64 0, Value.bool false, Value.int .i64 0, Value.int .i64 0, Value.int .i64 0] 43)).heap.size = b1 + 2 := by rw [World.size_alloc, z1]
  obtain ⟨W2, hW2⟩ : ∃ W, W1.alloc (.cells #[Value.int .i64 0, Value.int .i64 0, Value.int .i64 0, Value.int .i64 0, Value.int .i64 0, Value.int .i64 0, Value.int .i64 0, Value.bool false, Value.int .i64 0, Value.int .i64 0, Value.int .i64 0] 43) = W := ⟨_, rfl⟩
  rw [hW2] at g4 hb12 z2
  obtain ⟨b4, hb4⟩ : ∃ b, W1.heap.size = b := ⟨_, rfl⟩
  rw [hb4] at g4
  rw [hb1] at g1
  have hb02 := hb01.on hb12
  have g1' : W2.heap[b1]? = some (.cells #[.int .i64 s.obj, .int .i64 s.kind, vO] 24 (0, 0)) := (hb12.block b1 (by omega)).trans g1
  have HC := Lib.hid (sorted_any cmp_inv (h.on hb02) (by omega))
  have HW := Lib.hid h.2
  have c2 : W2.cell? ⟨b1, 2, none⟩ = some vO := by rw [cell_of_row _ _ _ _ _ _ g1']; rfl
  have HG := Lib.hid (And.intro g1' (And.intro g4 (And.intro hb02 (And.intro z2 (And.intro hb1 (And.intro hb4 z1))))))
  clear h g1 hb01 z1 g4 hb12 z2 hb02 g1'
  go_enter Try.func31, Try.ntmps31
  go_wp2_with fail
  refine HC.out.mono ?_
  rintro _ w1 ⟨vS, S, rfl, ho, hs, hb⟩
  have hwf : ∀ o ∈ S, o.Wf := fun o h => HW.out o (hs.1.mem_iff.1 h)
  obtain ⟨Rs, hR, hK⟩ := own_known ho hwf
  obtain ⟨aS, cS, rfl⟩ := (hK w1 fun x hx => (hR x hx).1).len
  have HS := Lib.hid hs
  have HK := Lib.hid hK
  have hSl : S.length ≤ 65536 := by rw [hs.1.length_eq]; exact hl
  obtain ⟨R0, hR0⟩ : ∃ R, (b1, Obj.cells #[.int .i64 s.obj, .int .i64 s.kind, vO] 24 (0, 0)) :: Rs = R := ⟨_, rfl⟩
  have HRB := Lib.hid (show ∀ x ∈ R0, x.1 ≠ b4 from fun x hx => by
    rw [← hR0] at hx
    have := HG.out
    rcases List.mem_cons.1 hx with rfl | hx
    · simp only; omega
    · have := (hR x hx).2; omega)
  have HB4 := Lib.hid (show w.heap.size ≤ b4 from by have := HG.out; omega)
  have HI0 := Lib.hid (show SgI w w1 s S 0 b4 zeroV (.slice none 0 0) [] R0 from ⟨⟨HG.out.2.2.1.on hb, World.ownsRow_nil _ _ _ _, (fun q hq => by cases hq), fun x hx => ⟨by
    rw [← hR0] at hx
    rcases List.mem_cons.1 hx with rfl | hx
    · exact (hb.block b4 (by have := HG.out; omega)).trans HG.out.2.1
    · rcases List.mem_cons.1 hx with rfl | hx
      · exact (hb.block b1 (by have := HG.out; omega)).trans HG.out.1
      · exact (hR x hx).1, by simp [Value.ownBlock]⟩⟩, by rw [List.take_zero]; rfl, .inl ⟨rfl, rfl⟩, (fun q hq => by cases hq), fun i q e => by simp at e⟩)
  have HB4s := Lib.hid (show b4 < w1.heap.size from by have := HG.out; have := hb.size; omega)
  have HR0 := Lib.hid hR0
  clear ho hs hb hwf hR hK HC HW hR0 c2 hW1 hW2 hb1 hb4
  go_wp2_with fail
  go_loopw [3, 11] (fun s3 s11 wr => ∃ (k : Nat) (ps : List (SegV × Value)) (last : OpV), s11 = .int .i64 k ∧ k ≤ S.length ∧ Hid (SgI w wr s S k b4 last s3 ps R0)) (fun _ s11 _ => S.length - (intOf s11).toNat)
  case atStart => exact ⟨0, [], zeroV, rfl, Nat.zero_le _, HI0⟩
  case round =>
    clear HI0
    obtain ⟨k, ps, last, rfl, hk, HI⟩ := hrel
    by_cases hkl : k < S.length
    · obtain ⟨o, hok⟩ : ∃ o, S[k]? = some o := ⟨_, List.getElem?_eq_getElem hkl⟩
      have q1 : (k : Int) < (S.length : Int) := by omega
      have q3 : IntKind.i64.wrap ((k : Int) + 1) = (k : Int) + 1 := IntWalk.i64_in _ (by omega)
      obtain ⟨b, p, cap, hv, hblt, hwf, hc⟩ := OpsOf.at (HK.out wr fun x hx => (HI.out.mem.keep x (by rw [← HR0.out]; simp [hx])).1) hok
      have e0 : aS = some ⟨b, p, none⟩ := by cases hv; rfl
      subst e0
      have l1 := load_cellsO (p := p + k * 11) hc
      have HO := Lib.hid hok
      have HWO := Lib.hid hwf
      have st := store_op_new wr (#[Value.int .i64 0, Value.int .i64 0, Value.int .i64 0, Value.int .i64 0, Value.int .i64 0, Value.int .i64 0, Value.int .i64 0, Value.bool false, Value.int .i64 0, Value.int .i64 0, Value.int .i64 0]) rfl o
      have hR0 := HR0.out
      clear hv hblt hc hok hwf
      obtain ⟨b6, hb6⟩ : ∃ b, wr.heap.size = b := ⟨_, rfl⟩
      have HB6 := Lib.hid (show b6 ≠ b4 from by have := HI.out.mem.lt (x := (b4, .cells #[Value.int .i64 last.id, Value.int .i64 last.proc, Value.int .i64 last.obj, Value.int .i64 last.kind, Value.int .i64 last.meth, Value.int .i64 last.arg, Value.int .i64 last.sec, Value.bool last.done, Value.int .i64 last.res, Value.int .i64 last.inv, Value.int .i64 last.ret] 43 (0, 0))) List.mem_cons_self; simp only at this; omega)
      have hm1 := HI.out.mem.push (.cells #[Value.int .i64 o.id, Value.int .i64 o.proc, Value.int .i64 o.obj, Value.int .i64 o.kind, Value.int .i64 o.meth, Value.int .i64 o.arg, Value.int .i64 o.sec, Value.bool o.done, Value.int .i64 o.res, Value.int .i64 o.inv, Value.int .i64 o.ret] 43 (0, 0))
      have HL1 := fun init q (hl : LastM w wr init q ((b4, .cells #[Value.int .i64 last.id, Value.int .i64 last.proc, Value.int .i64 last.obj, Value.int .i64 last.kind, Value.int .i64 last.meth, Value.int .i64 last.arg, Value.int .i64 last.sec, Value.bool last.done, Value.int .i64 last.res, Value.int .i64 last.inv, Value.int .i64 last.ret] 43 (0, 0)) :: R0)) => hl.push (.cells #[Value.int .i64 o.id, Value.int .i64 o.proc, Value.int .i64 o.obj, Value.int .i64 o.kind, Value.int .i64 o.meth, Value.int .i64 o.arg, Value.int .i64 o.sec, Value.bool o.done, Value.int .i64 o.res, Value.int .i64 o.inv, Value.int .i64 o.ret] 43 (0, 0))
      obtain ⟨W1, hW1⟩ : ∃ W, wr.alloc (.cells #[Value.int .i64 o.id, Value.int .i64 o.proc, Value.int .i64 o.obj, Value.int .i64 o.kind, Value.int .i64 o.meth, Value.int .i64 o.arg, Value.int .i64 o.sec, Value.bool o.done, Value.int .i64 o.res, Value.int .i64 o.inv, Value.int .i64 o.ret] 43) = W := ⟨_, rfl⟩
      rw [hW1] at hm1 st HL1
      rw [hb6] at hm1 HL1 st
      have HF := Lib.hid (show ps.length ≤ 65536 from by have := HI.out.few; omega)
      have HLE := Lib.hid (show ∀ q ∈ ps, q.1.ops.length ≤ 65536 from fun q hq => by have := HI.out.le q hq; omega)
      have HLO := HI.out.ok
      by_cases hk0 : k = 0
      · subst hk0
        rcases HLO with ⟨rfl, rfl⟩ | ⟨init, q, rfl, hl⟩
        · clear HL1
          simp only [Nat.zero_mul, Nat.add_zero] at l1
          have b1c := hm1.mem (x := (b1, .cells #[.int .i64 s.obj, .int .i64 s.kind, vO] 24 (0, 0))) (by simp [← hR0])
          have c0 : W1.cell? ⟨b1, 0, none⟩ = some (.int .i64 s.obj) := by rw [cell_of_row _ _ _ _ _ _ b1c]; rfl
          have c1 : W1.cell? ⟨b1, 1, none⟩ = some (.int .i64 s.kind) := by rw [cell_of_row _ _ _ _ _ _ b1c]; rfl
          obtain ⟨g6, cap6, W6, hrun, h6, hz6, _⟩ := SegM.app hm1 ⟨s.obj, s.kind, []⟩ (rd_nil W1) (by simp)
          have l6 : LastM w W6 ([]) (⟨s.obj, s.kind, []⟩, .slice none 0 0) ((b6, .cells #[Value.int .i64 o.id, Value.int .i64 o.proc, Value.int .i64 o.obj, Value.int .i64 o.kind, Value.int .i64 o.meth, Value.int .i64 o.arg, Value.int .i64 o.sec, Value.bool o.done, Value.int .i64 o.res, Value.int .i64 o.inv, Value.int .i64 o.ret] 43 (0, 0)) :: (b4, .cells #[Value.int .i64 last.id, Value.int .i64 last.proc, Value.int .i64 last.obj, Value.int .i64 last.kind, Value.int .i64 last.meth, Value.int .i64 last.arg, Value.int .i64 last.sec, Value.bool last.done, Value.int .i64 last.res, Value.int .i64 last.inv, Value.int .i64 last.ret] 43 (0, 0)) :: R0) := LastM.new rfl (by simp) (by simp)
          have hc6 : ∀ p ∈ [] ++ [((⟨s.obj, s.kind, []⟩ : SegV), Value.slice none 0 0)], p.2.ownBlock ≠ some b4 := fun p hp => by
            rcases List.mem_append.1 hp with hp | hp
            · exact HI.out.clear p hp
            · rw [List.mem_singleton.1 hp]; simp [Value.ownBlock]
          have m6a := OpAt.load (o := o) (h6.mem List.mem_cons_self)
          obtain ⟨W8, hst8, h8, l8⟩ := set_last h6 l6 hc6 HB6.out HRB.out HB4.out
          simp only at m6a
          simp only [List.length_nil, Nat.zero_add] at hrun h8
          clear b1c hm1 h6 l6
          have m6 := OpAt.load (o := o) (h8.mem List.mem_cons_self)
          simp only at m6
          have HP := Lib.hid (put_any (init := []) (s := (⟨s.obj, s.kind, []⟩ : SegV)) (u := .slice none 0 0) h8 l8 o HWO.out (by simp) (by simp))
          have HCL := Lib.hid hc6
          clear h8 l8 hc6
          go_wp2_with fail
          (with_reducible refine HP.out.mono ?_)
          rintro _ w7 ⟨rfl, u7, h7, l7⟩
          have m7 := OpAt.load (o := o) (h7.mem List.mem_cons_self)
          have m8 := OpAt.load (o := o) (h7.mem (List.mem_cons_of_mem _ List.mem_cons_self))
          simp only at m7 m8
          have hc7 : ∀ p ∈ [] ++ [(SegV.add (⟨s.obj, s.kind, []⟩ : SegV) o, u7)], p.2.ownBlock ≠ some b4 := fun p hp => by
            rcases List.mem_append.1 hp with hp | hp
            · exact HCL.out p (List.mem_append_left _ hp)
            · rw [List.mem_singleton.1 hp]; exact l7.keep (b4, .cells #[Value.int .i64 o.id, Value.int .i64 o.proc, Value.int .i64 o.obj, Value.int .i64 o.kind, Value.int .i64 o.meth, Value.int .i64 o.arg, Value.int .i64 o.sec, Value.bool o.done, Value.int .i64 o.res, Value.int .i64 o.inv, Value.int .i64 o.ret] 43 (0, 0)) (by simp)
          obtain ⟨bb, hbb⟩ : ∃ b, endB o o = b := ⟨_, rfl⟩
          have HBB := Lib.hid hbb
          have HEC := Lib.hid (ends_any o o w7)
          rw [hbb] at HEC
          have H7 := Lib.hid (And.intro h7 (And.intro l7 hc7))
          clear h7 l7 hc7 HP hbb m6
          cases bb with
          | true =>
            go_wp2_with fail
            (with_reducible refine HEC.out.mono ?_)
            rintro _ w8 ⟨rfl, hb8⟩
            have h8 := H7.out.1.on hb8
            have l8 := H7.out.2.1.on hb8
            have m9 := OpAt.load (o := o) (h8.mem List.mem_cons_self)
            simp only at m9
            obtain ⟨W9, hst9, h9, l9⟩ := set_last h8 l8 H7.out.2.2 HB6.out HRB.out HB4.out
            have HE := Lib.hid (show SgI w W9 s S (0 + 1) b4 o _ ([] ++ [(SegV.add (⟨s.obj, s.kind, []⟩ : SegV) o, u7)]) R0 from ⟨h9.sub fun x hx => List.mem_cons_of_mem _ hx, by rw [take_snoc HO.out]; exact cut_new u7 HI.out.cut (.inl rfl), .inr ⟨_, _, rfl, l9.sub fun x hx => List.mem_cons_of_mem _ hx⟩, H7.out.2.2, fun i q hq p => by
              obtain ⟨_, e⟩ := List.append_inj' hq rfl
              obtain rfl : _ = q := by simpa using e
              have := (ends_one o) p
              rw [if_pos HBB.out] at this
              exact this⟩)
            clear hb8 h8 l8 h9 l9 m7 m8 HEC
            go_wp2_with fail
            go_roundw
            case measure => simp [intOf] <;> omega
            case rel => exact ⟨0 + 1, _, o, by simp, by omega, HE⟩
          | false =>
            go_wp2_with fail
            (with_reducible refine HEC.out.mono ?_)
            rintro _ w8 ⟨rfl, hb8⟩
            have HE := Lib.hid (show SgI w w8 s S (0 + 1) b4 o _ ([] ++ [(SegV.add (⟨s.obj, s.kind, []⟩ : SegV) o, u7)]) R0 from ⟨(H7.out.1.on hb8).sub fun x hx => List.mem_cons_of_mem _ hx, by rw [take_snoc HO.out]; exact cut_new u7 HI.out.cut (.inl rfl), .inr ⟨_, _, rfl, (H7.out.2.1.on hb8).sub fun x hx => List.mem_cons_of_mem _ hx⟩, H7.out.2.2, fun i q hq p => by
              obtain ⟨_, e⟩ := List.append_inj' hq rfl
              obtain rfl : _ = q := by simpa using e
              have := (ends_one o) p
              rw [if_neg (by rw [HBB.out]; simp)] at this
              exact this⟩)
            clear hb8 m7 m8 HEC
            go_wp2_with fail
            go_roundw
            case measure => simp [intOf] <;> omega
            case rel => exact ⟨0 + 1, _, o, by simp, by omega, HE⟩
        · exfalso
          have := HI.out.cut
          rw [List.take_zero] at this
          simp [cutL] at this
      · rcases HLO with ⟨rfl, _⟩ | ⟨init, q, rfl, hl⟩
        · exfalso
          have := HI.out.cut
          have h2 := (cutL_ok (S.take k)).flat
          rw [List.map_nil] at this
          rw [List.map_eq_nil_iff.1 this.symm, List.flatten_nil] at h2
          have h3 := congrArg List.length h2
          rw [List.length_take, List.length_nil] at h3
          omega
        · obtain ⟨sq, u⟩ := q
          have hl1 := HL1 init (sq, u) hl
          have HCUT := Lib.hid HI.out.cut
          have HEND := Lib.hid (HI.out.ends init (sq, u) rfl)
          obtain ⟨bf, hbf⟩ : ∃ b, befB last o = b := ⟨_, rfl⟩
          have HBF := Lib.hid hbf
          have HBC := Lib.hid (before_any last o W1)
          rw [hbf] at HBC
          have n4 := OpAt.load (o := last) (hm1.mem (List.mem_cons_of_mem _ List.mem_cons_self))
          have n6 := OpAt.load (o := o) (hm1.mem List.mem_cons_self)
          simp only at n4 n6
          have q5 : ((k : Int) == 0) = false := by simp; omega
          have HM := Lib.hid (And.intro hm1 hl1)
          obtain ⟨g, cap, e1, _, _⟩ := HI.out.mem.at (by simp)
          have hlen1 : (init ++ [(sq, u)]).length = init.length + 1 := by simp
          rw [hlen1] at e1
          subst e1
          clear hm1 hl1 hl HL1 hbf hlen1
          cases bf with
          | true =>
            go_wp2_with fail
            (with_reducible refine HBC.out.mono ?_)
            rintro _ w2 ⟨rfl, hb2⟩
            have h5 := HM.out.1.on hb2
            have l5 := (HM.out.2.on hb2).all
            clear hb2 n4 n6 l1 st hW1
            have b1c := h5.mem (x := (b1, .cells #[.int .i64 s.obj, .int .i64 s.kind, vO] 24 (0, 0))) (by simp [← hR0])
            have c0 : w2.cell? ⟨b1, 0, none⟩ = some (.int .i64 s.obj) := by rw [cell_of_row _ _ _ _ _ _ b1c]; rfl
            have c1 : w2.cell? ⟨b1, 1, none⟩ = some (.int .i64 s.kind) := by rw [cell_of_row _ _ _ _ _ _ b1c]; rfl
            obtain ⟨g6, cap6, W6, hrun, h6, hz6, ho6⟩ := SegM.app h5 ⟨s.obj, s.kind, []⟩ (rd_nil w2) (by have := HF.out; simpa using this)
            have l6 : LastM w W6 (init ++ [(sq, u)]) (⟨s.obj, s.kind, []⟩, .slice none 0 0) ((b6, .cells #[Value.int .i64 o.id, Value.int .i64 o.proc, Value.int .i64 o.obj, Value.int .i64 o.kind, Value.int .i64 o.meth, Value.int .i64 o.arg, Value.int .i64 o.sec, Value.bool o.done, Value.int .i64 o.res, Value.int .i64 o.inv, Value.int .i64 o.ret] 43 (0, 0)) :: (b4, .cells #[Value.int .i64 last.id, Value.int .i64 last.proc, Value.int .i64 last.obj, Value.int .i64 last.kind, Value.int .i64 last.meth, Value.int .i64 last.arg, Value.int .i64 last.sec, Value.bool last.done, Value.int .i64 last.res, Value.int .i64 last.inv, Value.int .i64 last.ret] 43 (0, 0)) :: R0) := LastM.new rfl (l5.app h5 ⟨h5.below.os.trans h6.below.os.symm, h5.below.tape.trans h6.below.tape.symm, h5.below.output.trans h6.below.output.symm⟩ hz6 ho6).own l5.pw
            have hc6 : ∀ p ∈ init ++ [(sq, u)] ++ [((⟨s.obj, s.kind, []⟩ : SegV), Value.slice none 0 0)], p.2.ownBlock ≠ some b4 := fun p hp => by
              rcases List.mem_append.1 hp with hp | hp
              · exact HI.out.clear p hp
              · rw [List.mem_singleton.1 hp]; simp [Value.ownBlock]
            have m6a := OpAt.load (o := o) (h6.mem List.mem_cons_self)
            obtain ⟨W8, hst8, h8, l8⟩ := set_last h6 l6 hc6 HB6.out HRB.out HB4.out
            simp only at m6a
            simp only [List.length_append, List.length_cons, List.length_nil, Nat.zero_add] at hrun h8
            clear b1c h5 h6 l6 l5 ho6
            have m6 := OpAt.load (o := o) (h8.mem List.mem_cons_self)
            simp only at m6
            have HP := Lib.hid (put_any (init := init ++ [(sq, u)]) (s := (⟨s.obj, s.kind, []⟩ : SegV)) (u := .slice none 0 0) h8 l8 o HWO.out (by exact HF.out) (by simp))
            have HCL := Lib.hid hc6
            clear h8 l8 hc6
            go_wp2_with fail
            (with_reducible refine HP.out.mono ?_)
            rintro _ w7 ⟨rfl, u7, h7, l7⟩
            have m7 := OpAt.load (o := o) (h7.mem List.mem_cons_self)
            have m8 := OpAt.load (o := o) (h7.mem (List.mem_cons_of_mem _ List.mem_cons_self))
            simp only at m7 m8
            have hc7 : ∀ p ∈ init ++ [(sq, u)] ++ [(SegV.add (⟨s.obj, s.kind, []⟩ : SegV) o, u7)], p.2.ownBlock ≠ some b4 := fun p hp => by
              rcases List.mem_append.1 hp with hp | hp
              · exact HCL.out p (List.mem_append_left _ hp)
              · rw [List.mem_singleton.1 hp]; exact l7.keep (b4, .cells #[Value.int .i64 o.id, Value.int .i64 o.proc, Value.int .i64 o.obj, Value.int .i64 o.kind, Value.int .i64 o.meth, Value.int .i64 o.arg, Value.int .i64 o.sec, Value.bool o.done, Value.int .i64 o.res, Value.int .i64 o.inv, Value.int .i64 o.ret] 43 (0, 0)) (by simp)
            obtain ⟨bb, hbb⟩ : ∃ b, endB o o = b := ⟨_, rfl⟩
            have HBB := Lib.hid hbb
            have HEC := Lib.hid (ends_any o o w7)
            rw [hbb] at HEC
            have H7 := Lib.hid (And.intro h7 (And.intro l7 hc7))
            clear h7 l7 hc7 HP hbb m6
            cases bb with
            | true =>
              go_wp2_with fail
              (with_reducible refine HEC.out.mono ?_)
              rintro _ w8 ⟨rfl, hb8⟩
              have h8 := H7.out.1.on hb8
              have l8 := H7.out.2.1.on hb8
              have m9 := OpAt.load (o := o) (h8.mem List.mem_cons_self)
              simp only at m9
              obtain ⟨W9, hst9, h9, l9⟩ := set_last h8 l8 H7.out.2.2 HB6.out HRB.out HB4.out
              have HE := Lib.hid (show SgI w W9 s S (k + 1) b4 o _ (init ++ [(sq, u)] ++ [(SegV.add (⟨s.obj, s.kind, []⟩ : SegV) o, u7)]) R0 from ⟨h9.sub fun x hx => List.mem_cons_of_mem _ hx, by rw [take_snoc HO.out]; exact cut_new u7 HCUT.out (.inr ⟨_, _, rfl, by rw [← HEND.out o]; exact HBF.out⟩), .inr ⟨_, _, rfl, l9.sub fun x hx => List.mem_cons_of_mem _ hx⟩, H7.out.2.2, fun i q hq p => by
                obtain ⟨_, e⟩ := List.append_inj' hq rfl
                obtain rfl : _ = q := by simpa using e
                have := (ends_one o) p
                rw [if_pos HBB.out] at this
                exact this⟩)
              clear hb8 h8 l8 h9 l9 m7 m8 HEC
              go_wp2_with fail
              go_roundw
              case measure => simp [intOf] <;> omega
              case rel => exact ⟨k + 1, _, o, by simp, by omega, HE⟩
            | false =>
              go_wp2_with fail
              (with_reducible refine HEC.out.mono ?_)
              rintro _ w8 ⟨rfl, hb8⟩
              have HE := Lib.hid (show SgI w w8 s S (k + 1) b4 o _ (init ++ [(sq, u)] ++ [(SegV.add (⟨s.obj, s.kind, []⟩ : SegV) o, u7)]) R0 from ⟨(H7.out.1.on hb8).sub fun x hx => List.mem_cons_of_mem _ hx, by rw [take_snoc HO.out]; exact cut_new u7 HCUT.out (.inr ⟨_, _, rfl, by rw [← HEND.out o]; exact HBF.out⟩), .inr ⟨_, _, rfl, (H7.out.2.1.on hb8).sub fun x hx => List.mem_cons_of_mem _ hx⟩, H7.out.2.2, fun i q hq p => by
                obtain ⟨_, e⟩ := List.append_inj' hq rfl
                obtain rfl : _ = q := by simpa using e
                have := (ends_one o) p
                rw [if_neg (by rw [HBB.out]; simp)] at this
                exact this⟩)
              clear hb8 m7 m8 HEC
              go_wp2_with fail
              go_roundw
              case measure => simp [intOf] <;> omega
              case rel => exact ⟨k + 1, _, o, by simp, by omega, HE⟩
          | false =>
            go_wp2_with fail
            (with_reducible refine HBC.out.mono ?_)
            rintro _ w2 ⟨rfl, hb2⟩
            have h8 := HM.out.1.on hb2
            have l8 := HM.out.2.on hb2
            have hc8 := HI.out.clear
            clear hb2 n4 n6 l1 st hW1
            have m6 := OpAt.load (o := o) (h8.mem List.mem_cons_self)
            simp only at m6
            have HP := Lib.hid (put_any (init := init) (s := sq) (u := u) h8 l8 o HWO.out (by have := HF.out; simp at this; omega) (by exact HLE.out (sq, u) (by simp)))
            have HCL := Lib.hid hc8
            clear h8 l8 hc8
            go_wp2_with fail
            (with_reducible refine HP.out.mono ?_)
            rintro _ w7 ⟨rfl, u7, h7, l7⟩
            have m7 := OpAt.load (o := o) (h7.mem List.mem_cons_self)
            have m8 := OpAt.load (o := last) (h7.mem (List.mem_cons_of_mem _ List.mem_cons_self))
            simp only at m7 m8
            have hc7 : ∀ p ∈ init ++ [(SegV.add sq o, u7)], p.2.ownBlock ≠ some b4 := fun p hp => by
              rcases List.mem_append.1 hp with hp | hp
              · exact HCL.out p (List.mem_append_left _ hp)
              · rw [List.mem_singleton.1 hp]; exact l7.keep (b4, .cells #[Value.int .i64 last.id, Value.int .i64 last.proc, Value.int .i64 last.obj, Value.int .i64 last.kind, Value.int .i64 last.meth, Value.int .i64 last.arg, Value.int .i64 last.sec, Value.bool last.done, Value.int .i64 last.res, Value.int .i64 last.inv, Value.int .i64 last.ret] 43 (0, 0)) (by simp)
            obtain ⟨bb, hbb⟩ : ∃ b, endB o last = b := ⟨_, rfl⟩
            have HBB := Lib.hid hbb
            have HEC := Lib.hid (ends_any o last w7)
            rw [hbb] at HEC
            have H7 := Lib.hid (And.intro h7 (And.intro l7 hc7))
            clear h7 l7 hc7 HP hbb m6
            cases bb with
            | true =>
              go_wp2_with fail
              (with_reducible refine HEC.out.mono ?_)
              rintro _ w8 ⟨rfl, hb8⟩
              have h8 := H7.out.1.on hb8
              have l8 := H7.out.2.1.on hb8
              have m9 := OpAt.load (o := o) (h8.mem List.mem_cons_self)
              simp only at m9
              obtain ⟨W9, hst9, h9, l9⟩ := set_last h8 l8 H7.out.2.2 HB6.out HRB.out HB4.out
              have HE := Lib.hid (show SgI w W9 s S (k + 1) b4 o _ (init ++ [(SegV.add sq o, u7)]) R0 from ⟨h9.sub fun x hx => List.mem_cons_of_mem _ hx, by rw [take_snoc HO.out]; exact cut_on u7 HCUT.out (by rw [← HEND.out o]; exact HBF.out), .inr ⟨_, _, rfl, l9.sub fun x hx => List.mem_cons_of_mem _ hx⟩, H7.out.2.2, fun i q hq p => by
                obtain ⟨_, e⟩ := List.append_inj' hq rfl
                obtain rfl : _ = q := by simpa using e
                have := (ends_all (o := o) (last := last) (c := sq.ops) HEND.out) p
                rw [if_pos HBB.out] at this
                exact this⟩)
              clear hb8 h8 l8 h9 l9 m7 m8 HEC
              go_wp2_with fail
              go_roundw
              case measure => simp [intOf] <;> omega
              case rel => exact ⟨k + 1, _, o, by simp, by omega, HE⟩
            | false =>
              go_wp2_with fail
              (with_reducible refine HEC.out.mono ?_)
              rintro _ w8 ⟨rfl, hb8⟩
              have HE := Lib.hid (show SgI w w8 s S (k + 1) b4 last _ (init ++ [(SegV.add sq o, u7)]) R0 from ⟨(H7.out.1.on hb8).sub fun x hx => List.mem_cons_of_mem _ hx, by rw [take_snoc HO.out]; exact cut_on u7 HCUT.out (by rw [← HEND.out o]; exact HBF.out), .inr ⟨_, _, rfl, (H7.out.2.1.on hb8).sub fun x hx => List.mem_cons_of_mem _ hx⟩, H7.out.2.2, fun i q hq p => by
                obtain ⟨_, e⟩ := List.append_inj' hq rfl
                obtain rfl : _ = q := by simpa using e
                have := (ends_all (o := o) (last := last) (c := sq.ops) HEND.out) p
                rw [if_neg (by rw [HBB.out]; simp)] at this
                exact this⟩)
              clear hb8 m7 m8 HEC
              go_wp2_with fail
              go_roundw
              case measure => simp [intOf] <;> omega
              case rel => exact ⟨k + 1, _, last, by simp, by omega, HE⟩
    · obtain rfl : k = S.length := by omega
      have q1 : ¬ ((S.length : Int) < (S.length : Int)) := by omega
      have HA := Lib.hid (show AprS w.heap.size wr ps by
        rcases HI.out.ok with ⟨rfl, _⟩ | ⟨init, q, rfl, hl⟩
        · exact ⟨by simp, by simp⟩
        · exact hl.all)
      have HE := Lib.hid (And.intro (HI.out.mem.sub (R' := []) (by simp)) (show ps.map Prod.fst = (cutL S).map (mkS s) from by have := HI.out.cut; rw [List.take_length] at this; exact this))
      clear HI
      go_wp2_with fail
      go_returns
      exact ⟨_, rfl, ps, HE.out.1, S, HS.out, HE.out.2, HA.out⟩
end Cu
end Go.Proofs.Ytppjmmdiglnkfaa
