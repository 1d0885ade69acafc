/- Package cut: Objects. -/
import Derived.Test.YtgedlfilhpbfaaaCuP
namespace Go.Proofs.Ytgedlfilhpbfaaa
set_option maxRecDepth 100000
open Go.ChangeShapes Go.WideShapes Go.ChangeAt Go.RowKit Go.PlainAid Go.Deep Go.Shelf Go.Sort
namespace Cu
attribute [local go_sem ↓ high] load_op store_o app_seg
/-- A row that is read off its known blocks. -/
theorem own_known {n₀ : Nat} {W : World} {v : Value} {S : List OpV} (h : OpsOwn n₀ W v S) (hw : ∀ o ∈ S, o.Wf) : ∃ Rs : List (Nat × Obj), (∀ x ∈ Rs, W.heap[x.1]? = some x.2 ∧ n₀ ≤ x.1) ∧ ∀ W', (∀ x ∈ Rs, W'.heap[x.1]? = some x.2) → OpsOf W' v S := by
  rcases h.2 with ⟨rfl, h0⟩ | ⟨g, cap, cur, rfl, hn, hg, hl, hc, hsz, ht⟩
  · exact ⟨[], by simp, fun W' _ => ⟨.inl ⟨List.length_eq_zero_iff.1 h0, _, _, rfl⟩, hw⟩⟩
  · refine ⟨[(g, .cells cur 35 (0, 0))], fun x hx => by rw [List.mem_singleton.1 hx]; exact ⟨hg, hn⟩, fun W' hW => ?_⟩
    have hg' := hW _ (List.mem_singleton.2 rfl)
    exact OpsOwn.reads (n₀ := n₀) ⟨h.1, .inr ⟨g, cap, cur, rfl, hn, hg', hl, hc, hsz, ht⟩⟩ hw
def LastOk (w0 W : World) (v : Value) (ps : List (SegV × Value)) (R : List (Nat × Obj)) : Prop := (ps = [] ∧ v = .slice none 0 0) ∨ ∃ init q, ps = init ++ [q] ∧ LastM w0 W init q R
theorem GrpI.le {P : List OpV} {l : List SegV} (h : GrpI P l) {s : SegV} (hs : s ∈ l) : s.ops.length ≤ P.length := by
  rw [← h.flat]
  exact List.Sublist.length_le (List.sublist_flatten_of_mem (List.mem_map.2 ⟨s, hs, rfl⟩) |>.trans (by rw [List.flatMap]; exact List.Sublist.refl _))
theorem GrpI.few {P : List OpV} {l : List SegV} (h : GrpI P l) : l.length ≤ P.length := by
  have : ∀ l : List SegV, (∀ s ∈ l, ∃ o, s.ops.head? = some o) → l.length ≤ (l.flatMap SegV.ops).length := fun l => by
    induction l with
    | nil => intro _; simp
    | cons s r ih =>
      intro hs
      rw [List.flatMap_cons, List.length_append, List.length_cons]
      have h1 := ih fun t ht => hs t (by simp [ht])
      obtain ⟨o, ho⟩ := hs s (by simp)
      have : 0 < s.ops.length := List.length_pos_of_mem (List.mem_of_mem_head? ho)
      omega
  have h2 := this l fun s hs => by
    obtain ⟨_, o, ho, _⟩ := h.each s hs
    exact ⟨o, ho⟩
  rwa [h.flat] at h2
theorem rise_obj {S : List OpV} (h : S.Pairwise fun x y => ltO cfObj y x = false) {k : Nat} {o : OpV} (ho : S[k]? = some o) : ∀ x ∈ S.take k, x.obj ≤ o.obj := fun x hx => by
  obtain ⟨i, hi, rfl⟩ := List.mem_iff_getElem.1 hx
  rw [List.length_take] at hi
  obtain ⟨hk, rfl⟩ := List.getElem?_eq_some_iff.1 ho
  have := List.pairwise_iff_getElem.1 h i k (by omega) hk (by omega)
  rw [List.getElem_take]
  rw [lt_no, obj_lt] at this
  omega
theorem take_snoc {S : List OpV} {k : Nat} {o : OpV} (ho : S[k]? = some o) : S.take (k + 1) = S.take k ++ [o] := by
  rw [List.take_add_one, ho]; rfl
/-- What is known at a round's end. -/
def ObjI (w W : World) (S : List OpV) (k : Nat) (v : Value) (ps : List (SegV × Value)) (R : List (Nat × Obj)) : Prop := SegM w W v ps R ∧ GrpI (S.take k) (ps.map Prod.fst) ∧ LastOk w W v ps R
set_option maxHeartbeats 4000000 in
theorem objects_any {v : Value} {L : List OpV} {w : World} (h : OpsOf w v L) (hl : L.length ≤ 65536) : Calls Try.prog 10 #[v] w fun e w' => ∃ v' ps, e = .returned v' ∧ SegM w w' v' ps [] ∧ ObjOk L (ps.map Prod.fst) := by
  have HC := Lib.hid (sorted_any cmp_obj h (by omega))
  have HW := Lib.hid h.2
  clear h
  go_enter Try.func10, Try.ntmps10
  go_wp2_with fail
  refine HC.out.mono ?_
  rintro _ w1 ⟨vS, S, rfl, ho, hs, hb⟩
  have hwf : ∀ o ∈ S, o.Wf := fun o h => HW.out o (hs.1.mem_iff.1 h)
  obtain ⟨Rs, hR, hK⟩ := own_known ho hwf
  obtain ⟨aS, cS, rfl⟩ := (hK w1 fun x hx => (hR x hx).1).len
  have HS := Lib.hid hs
  have HK := Lib.hid hK
  have HWF := Lib.hid hwf
  have hSl : S.length ≤ 65536 := by rw [hs.1.length_eq]; exact hl
  have HI0 := Lib.hid (show ObjI w w1 S 0 (.slice none 0 0) [] Rs from ⟨⟨hb, World.ownsRow_nil _ _ _ _, (fun q hq => by cases hq), fun x hx => ⟨(hR x hx).1, by simp [Value.ownBlock]⟩⟩, by rw [List.take_zero]; exact GrpI.nil, .inl ⟨rfl, rfl⟩⟩)
  clear ho hs hb hwf hR hK HC HW
  go_wp2_with fail
  go_loopw [3, 10] (fun s3 s10 wr => ∃ (k : Nat) (ps : List (SegV × Value)), s10 = .int .i64 k ∧ k ≤ S.length ∧ Hid (ObjI w wr S k s3 ps Rs)) (fun _ s10 _ => S.length - (intOf s10).toNat)
  case atStart => exact ⟨0, [], rfl, Nat.zero_le _, HI0⟩
  case round =>
    clear HI0
    obtain ⟨k, ps, rfl, hk, HI⟩ := hrel
    by_cases hkl : k < S.length
    · obtain ⟨o, hok⟩ : ∃ o, S[k]? = some o := ⟨_, List.getElem?_eq_getElem hkl⟩
      have q1 : (k : Int) < (S.length : Int) := by omega
      have q3 : IntKind.i64.wrap ((k : Int) + 1) = (k : Int) + 1 := IntWalk.i64_in _ (by omega)
      obtain ⟨b, p, cap, hv, hblt, hwf, hc⟩ := OpsOf.at (HK.out wr fun x hx => (HI.out.1.keep x hx).1) hok
      have e0 : aS = some ⟨b, p, none⟩ := by cases hv; rfl
      subst e0
      have l1 := load_cellsO (p := p + k * 11) hc
      have HO := Lib.hid hok
      have HWO := Lib.hid hwf
      have st := store_op_new wr (#[Value.int .i64 0, Value.int .i64 0, Value.int .i64 0, Value.int .i64 0, Value.int .i64 0, Value.int .i64 0, Value.int .i64 0, Value.bool false, Value.int .i64 0, Value.int .i64 0, Value.int .i64 0]) rfl o
      clear hv hblt hc hok hwf
      obtain ⟨W1, hW1⟩ : ∃ W, wr.alloc (.cells #[Value.int .i64 o.id, Value.int .i64 o.proc, Value.int .i64 o.obj, Value.int .i64 o.kind, Value.int .i64 o.meth, Value.int .i64 o.arg, Value.int .i64 o.sec, Value.bool o.done, Value.int .i64 o.res, Value.int .i64 o.inv, Value.int .i64 o.ret] 35) = W := ⟨_, rfl⟩
      have hm1 := HI.out.1.push (.cells #[Value.int .i64 o.id, Value.int .i64 o.proc, Value.int .i64 o.obj, Value.int .i64 o.kind, Value.int .i64 o.meth, Value.int .i64 o.arg, Value.int .i64 o.sec, Value.bool o.done, Value.int .i64 o.res, Value.int .i64 o.inv, Value.int .i64 o.ret] 35 (0, 0))
      rw [hW1] at hm1 st
      have HM := Lib.hid hm1
      have HG := Lib.hid HI.out.2.1
      have HF := Lib.hid (show ps.length ≤ 65536 from by have := HI.out.2.1.few; rw [List.length_map, List.length_take] at this; omega)
      have HLE := Lib.hid (show ∀ q ∈ ps, q.1.ops.length ≤ 65536 from fun q hq => by have := HI.out.2.1.le (List.mem_map.2 ⟨q, hq, rfl⟩); rw [List.length_take] at this; omega)
      have HLO := HI.out.2.2
      have HL1 := fun init q (hl : LastM w wr init q Rs) => hl.push (.cells #[Value.int .i64 o.id, Value.int .i64 o.proc, Value.int .i64 o.obj, Value.int .i64 o.kind, Value.int .i64 o.meth, Value.int .i64 o.arg, Value.int .i64 o.sec, Value.bool o.done, Value.int .i64 o.res, Value.int .i64 o.inv, Value.int .i64 o.ret] 35 (0, 0))
      rw [hW1] at HL1
      rcases HLO with ⟨rfl, rfl⟩ | ⟨init, q, rfl, hl⟩
      · clear hm1 HI HL1
        go_wp2_with fail
        refine wp_region_quiet_below (by kernel_rfl) (by kernel_rfl) ?_
        repeat (go_big_quiet_step (fail))
        refine wpQuiet_nil ?_
        intro _ hw'
        obtain ⟨⟨dq, osq⟩, hw''⟩ := hw'
        subst hw''
        clear l1 st hW1
        have h5 := HM.out.on (below_regrown W1 dq osq)
        obtain ⟨W5, hW5⟩ : ∃ W, grow (redrawn W1 dq) osq = W := ⟨_, rfl⟩
        rw [hW5] at h5 ⊢
        have b5 := cells11 (h5.mem List.mem_cons_self : OpAt W5 wr.heap.size o)
        have c2 : W5.cell? ⟨wr.heap.size, 2, none⟩ = some (.int .i64 o.obj) := b5 2
        have c3 : W5.cell? ⟨wr.heap.size, 3, none⟩ = some (.int .i64 o.kind) := b5 3
        obtain ⟨g6, cap6, W6, hrun, h6, hz6, _⟩ := SegM.app h5 ⟨o.obj, o.kind, []⟩ (rd_nil W5) (by simp)
        have l6 : LastM w W6 ([]) (⟨o.obj, o.kind, []⟩, .slice none 0 0) ((wr.heap.size, .cells #[Value.int .i64 o.id, Value.int .i64 o.proc, Value.int .i64 o.obj, Value.int .i64 o.kind, Value.int .i64 o.meth, Value.int .i64 o.arg, Value.int .i64 o.sec, Value.bool o.done, Value.int .i64 o.res, Value.int .i64 o.inv, Value.int .i64 o.ret] 35 (0, 0)) :: Rs) := LastM.new rfl
        simp only [List.length_nil, Nat.zero_add] at hrun h6
        clear b5 h5 hW5
        have m5 := OpAt.load (o := o) (h6.mem List.mem_cons_self)
        simp only at m5
        have HP := Lib.hid (put_any (init := []) (s := ⟨o.obj, o.kind, []⟩) (u := .slice none 0 0) h6 l6 o HWO.out (by simp) (by simp))
        clear h6 l6
        go_wp2_with fail
        (with_reducible refine HP.out.mono ?_)
        rintro _ w7 ⟨rfl, u7, h7, l7⟩
        have HE := Lib.hid (show ObjI w w7 S (k + 1) _ ([] ++ [(SegV.add ⟨o.obj, o.kind, []⟩ o, u7)]) Rs from ⟨h7.sub fun x hx => by simp [hx], by rw [take_snoc HO.out]; exact GrpI.new HG.out (by simp), .inr ⟨_, _, rfl, l7.sub fun x hx => by simp [hx]⟩⟩)
        clear h7 l7 m5 HP
        go_wp2_with fail
        go_roundw
        case measure => simp [intOf] <;> omega
        case rel => exact ⟨k + 1, _, by simp, by omega, HE⟩
      · obtain ⟨s, u⟩ := q
        have hl1 := HL1 init (s, u) hl
        have HL := Lib.hid hl1
        obtain ⟨g, cap, e1, _, hat⟩ := HI.out.1.at (by simp)
        have hlen1 : (init ++ [(s, u)]).length = init.length + 1 := by simp
        rw [hlen1] at e1
        subst e1
        have cg : ∀ d os, (grow (redrawn W1 d) os).cell? ⟨g, init.length * 3, none⟩ = some (.int .i64 s.obj) := fun d os => by
          obtain ⟨ga, _, e2, _, hat2⟩ := (HM.out.on (below_regrown W1 d os)).at (by simp)
          obtain rfl : g = ga := (Addr.mk.inj (Option.some.inj (Value.slice.inj e2).1)).1
          exact (hat2 init.length (s, u) (by simp) 0 _ rfl).1
        have cb : ∀ d os, (grow (redrawn W1 d) os).cell? ⟨wr.heap.size, 2, none⟩ = some (.int .i64 o.obj) := fun d os => cells11 ((HM.out.on (below_regrown W1 d os)).mem List.mem_cons_self : OpAt (grow (redrawn W1 d) os) wr.heap.size o) 2
        have q4 : IntKind.i64.wrap ((init.length : Int) + 1 - 1) = (init.length : Int) := by rw [IntWalk.i64_in _ (by have := HF.out; simp at this; omega)]; omega
        have q4b : IntKind.i64.wrap (init.length : Int) = (init.length : Int) := IntWalk.i64_in _ (by have := HF.out; simp at this; omega)
        have q4c : init.length ≤ 65536 := by have := HF.out; simp at this; omega
        have q5 : decide ((init.length : Int) < 0) = false := decide_eq_false (by omega)
        have q6 : (init.length : Int) < (init.length : Int) + 1 := by omega
        have HG2 := Lib.hid (show GrpI (S.take k) (init.map Prod.fst ++ [s]) from by have := HG.out; simpa using this)
        have HRI := Lib.hid (HG2.out.last (rise_obj HS.out.2 HO.out))
        clear hm1 hl1 hl HL1 HI hlen1 hat
        by_cases he : s.obj = o.obj
        · have e1 : (s.obj != o.obj) = false := by rw [he]; simp
          have HEQ := Lib.hid he
          clear he
          go_wp2_with fail
          refine wp_region_quiet_below (by kernel_rfl) (by kernel_rfl) ?_
          repeat (go_big_quiet_step (fail))
          refine wpQuiet_nil ?_
          intro _ hw'
          obtain ⟨⟨dq, osq⟩, hw''⟩ := hw'
          subst hw''
          clear l1 st hW1 cg cb
          have h5 := HM.out.on (below_regrown W1 dq osq)
          have l5 := HL.out.on (below_regrown W1 dq osq)
          obtain ⟨W5, hW5⟩ : ∃ W, grow (redrawn W1 dq) osq = W := ⟨_, rfl⟩
          rw [hW5] at h5 l5 ⊢
          clear hW5
          have m5 := OpAt.load (o := o) (h5.mem List.mem_cons_self)
          simp only at m5
          have HP := Lib.hid (put_any (init := init) (s := s) (u := u) h5 l5 o HWO.out (by have := HF.out; simp at this; omega) (by exact HLE.out (s, u) (by simp)))
          clear h5 l5
          go_wp2_with fail
          (with_reducible refine HP.out.mono ?_)
          rintro _ w7 ⟨rfl, u7, h7, l7⟩
          have HE := Lib.hid (show ObjI w w7 S (k + 1) _ (init ++ [(SegV.add s o, u7)]) Rs from ⟨h7.sub fun x hx => by simp [hx], by rw [take_snoc HO.out]; have := HG2.out.put HEQ.out; simpa using this, .inr ⟨_, _, rfl, l7.sub fun x hx => by simp [hx]⟩⟩)
          clear h7 l7 m5 HP
          go_wp2_with fail
          go_roundw
          case measure => simp [intOf] <;> omega
          case rel => exact ⟨k + 1, _, by simp, by omega, HE⟩
        · have e1 : (s.obj != o.obj) = true := bne_iff_ne.2 he
          have HEQ := Lib.hid he
          clear he
          go_wp2_with fail
          refine wp_region_quiet_below (by kernel_rfl) (by kernel_rfl) ?_
          repeat (go_big_quiet_step (fail))
          refine wpQuiet_nil ?_
          intro _ hw'
          obtain ⟨⟨dq, osq⟩, hw''⟩ := hw'
          subst hw''
          clear l1 st hW1 cg cb
          have h5 := HM.out.on (below_regrown W1 dq osq)
          obtain ⟨W5, hW5⟩ : ∃ W, grow (redrawn W1 dq) osq = W := ⟨_, rfl⟩
          rw [hW5] at h5 ⊢
          have b5 := cells11 (h5.mem List.mem_cons_self : OpAt W5 wr.heap.size o)
          have c2 : W5.cell? ⟨wr.heap.size, 2, none⟩ = some (.int .i64 o.obj) := b5 2
          have c3 : W5.cell? ⟨wr.heap.size, 3, none⟩ = some (.int .i64 o.kind) := b5 3
          obtain ⟨g6, cap6, W6, hrun, h6, hz6, _⟩ := SegM.app h5 ⟨o.obj, o.kind, []⟩ (rd_nil W5) (by have := HF.out; simpa using this)
          have l6 : LastM w W6 (init ++ [(s, u)]) (⟨o.obj, o.kind, []⟩, .slice none 0 0) ((wr.heap.size, .cells #[Value.int .i64 o.id, Value.int .i64 o.proc, Value.int .i64 o.obj, Value.int .i64 o.kind, Value.int .i64 o.meth, Value.int .i64 o.arg, Value.int .i64 o.sec, Value.bool o.done, Value.int .i64 o.res, Value.int .i64 o.inv, Value.int .i64 o.ret] 35 (0, 0)) :: Rs) := LastM.new rfl
          simp only [List.length_append, List.length_cons, List.length_nil, Nat.zero_add] at hrun h6
          clear b5 h5 hW5
          have m5 := OpAt.load (o := o) (h6.mem List.mem_cons_self)
          simp only at m5
          have HP := Lib.hid (put_any (init := init ++ [(s, u)]) (s := ⟨o.obj, o.kind, []⟩) (u := .slice none 0 0) h6 l6 o HWO.out (by exact HF.out) (by simp))
          clear h6 l6
          go_wp2_with fail
          (with_reducible refine HP.out.mono ?_)
          rintro _ w7 ⟨rfl, u7, h7, l7⟩
          have HE := Lib.hid (show ObjI w w7 S (k + 1) _ (init ++ [(s, u)] ++ [(SegV.add ⟨o.obj, o.kind, []⟩ o, u7)]) Rs from ⟨h7.sub fun x hx => by simp [hx], by rw [take_snoc HO.out]; have := HG2.out.new (o := o) (HRI.out.2 HEQ.out); simpa [SegV.add] using this, .inr ⟨_, _, rfl, l7.sub fun x hx => by simp [hx]⟩⟩)
          clear h7 l7 m5 HP
          go_wp2_with fail
          go_roundw
          case measure => simp [intOf] <;> omega
          case rel => exact ⟨k + 1, _, by simp, by omega, HE⟩
    · obtain rfl : k = S.length := by omega
      have q1 : ¬ ((S.length : Int) < (S.length : Int)) := by omega
      have HE := Lib.hid (And.intro (HI.out.1.sub (R' := []) (by simp)) (show ObjOk L (ps.map Prod.fst) from by have := HI.out.2.1; rw [List.take_length] at this; exact this.ok HS.out))
      clear HI
      go_wp2_with fail
      go_returns
      exact ⟨_, rfl, ps, HE.out.1, HE.out.2⟩
end Cu
end Go.Proofs.Ytgedlfilhpbfaaa
