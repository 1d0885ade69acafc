/- Edits as parameters, and lists of them; the chapter's example holds. -/
import Derived.Test.YtpjnmokofdldmaaDoorHtO
namespace Go.Proofs.YtpjnmokofdldmaaDoor
set_option maxRecDepth 100000
open Go.ChangeShapes Go.WideShapes Go.ChangeAt Go.RowKit Go.PlainAid Go.Deep

attribute [local go_sem ↓ high] load_op store_o load_ed
theorem ed_read {H : Type} {enc : TypeId × Value → H} {w : World} {base : Nat} {sp : Nat → Bool} {held : Bool} {fuel : Nat} {cs : List Value} {x : DataW H × List MemPlace}
    (h : DataW.trod enc Tryd.prog w base sp held fuel 36 cs = some x) : ∃ (k : Int) (o : OpV), cs = (#[Value.int .i64 k, Value.int .i64 o.id, Value.int .i64 o.proc, Value.int .i64 o.obj, Value.int .i64 o.kind, Value.int .i64 o.meth, Value.int .i64 o.arg, Value.int .i64 o.sec, Value.bool o.done, Value.int .i64 o.res, Value.int .i64 o.inv, Value.int .i64 o.ret]).toList ∧ o.Wf := by
  obtain ⟨ys, n, _, _, hlen, hyl, hf⟩ := DataW.trod_struct Tryd.underlying36 h
  have hl : cs.length = 12 := hlen.trans (by kernel_rfl)
  have h0 : DataW.trod enc Tryd.prog w base sp held n 3 ((cs.drop 0).take (Tryd.prog.cellsOf 3)) = ys[0]? := hf 0 _ rfl
  have h1 : DataW.trod enc Tryd.prog w base sp held n 28 ((cs.drop 1).take (Tryd.prog.cellsOf 28)) = ys[1]? := hf 1 _ rfl
  have hyl2 : ys.length = 2 := hyl
  rw [show Tryd.prog.cellsOf 3 = 1 by kernel_rfl, List.getElem?_eq_getElem (by omega)] at h0
  rw [show Tryd.prog.cellsOf 28 = 11 by kernel_rfl, List.getElem?_eq_getElem (by omega)] at h1
  obtain ⟨k, e0, _⟩ := DataW.trod_int Tryd.underlying3 h0
  obtain ⟨o, e1, hw⟩ := op_read h1
  refine ⟨k, o, ?_, hw⟩
  rw [List.drop_zero] at e0
  have e : cs = cs.take 1 ++ (cs.drop 1).take 11 := by
    rw [List.take_of_length_le (l := cs.drop 1) (by rw [List.length_drop]; omega), List.take_append_drop]
  rw [e, e0, e1]
  rfl
theorem ed_open {H : Type} {enc : TypeId × Value → H} {w : World} {base b0 : Nat} {sp : Nat → Bool} {held : Bool} {r : Reach} {v : Value} {d : DataW H} {p : List MemPlace}
    (hv : Value.okWide Tryd.prog w r b0 36 v) (h : DataW.Trod enc Tryd.prog w base sp held 36 v d p) : ∃ (k : Int) (o : OpV), v = Value.agg #[Value.int .i64 k, Value.int .i64 o.id, Value.int .i64 o.proc, Value.int .i64 o.obj, Value.int .i64 o.kind, Value.int .i64 o.meth, Value.int .i64 o.arg, Value.int .i64 o.sec, Value.bool o.done, Value.int .i64 o.res, Value.int .i64 o.inv, Value.int .i64 o.ret] ∧ o.Wf := by
  obtain ⟨cs, rfl, hsz⟩ := okWide_struct Tryd.underlying36 hv
  obtain ⟨fuel, hf⟩ := h
  obtain ⟨k, o, hy, hw⟩ := ed_read hf
  refine ⟨k, o, ?_, hw⟩
  have : cs = #[Value.int .i64 k, Value.int .i64 o.id, Value.int .i64 o.proc, Value.int .i64 o.obj, Value.int .i64 o.kind, Value.int .i64 o.meth, Value.int .i64 o.arg, Value.int .i64 o.sec, Value.bool o.done, Value.int .i64 o.res, Value.int .i64 o.inv, Value.int .i64 o.ret] := by
    rw [← Array.toList_inj, ← hy]
    simp [Value.cells]
  rw [this]
/-- The edits that a slice reads as. -/
def EdsOf (w : World) (v : Value) (l : List (Int × OpV)) : Prop :=
  ((l = [] ∧ ∃ ao cap, v = .slice ao 0 cap) ∨ ∃ b p cap, v = .slice (some ⟨b, p, none⟩) l.length cap ∧ b < w.heap.size ∧ 0 < l.length ∧ ∀ (i : Nat) (e : Int × OpV), l[i]? = some e → ∀ (j : Nat) (u : Value), ((#[Value.int .i64 e.1, Value.int .i64 e.2.id, Value.int .i64 e.2.proc, Value.int .i64 e.2.obj, Value.int .i64 e.2.kind, Value.int .i64 e.2.meth, Value.int .i64 e.2.arg, Value.int .i64 e.2.sec, Value.bool e.2.done, Value.int .i64 e.2.res, Value.int .i64 e.2.inv, Value.int .i64 e.2.ret]).toList)[j]? = some u → w.cell? ⟨b, p + i * 12 + j, none⟩ = some u) ∧
  ∀ e ∈ l, e.2.Wf
theorem EdsOf.len {w : World} {v : Value} {l : List (Int × OpV)} (h : EdsOf w v l) : ∃ ao cap, v = .slice ao l.length cap := by
  rcases h.1 with ⟨rfl, ao, cap, rfl⟩ | ⟨b, p, cap, rfl, _⟩
  · exact ⟨ao, cap, rfl⟩
  · exact ⟨_, cap, rfl⟩
/-- An edit of a list, loaded, in whatever world behind. -/
theorem eds_load {w : World} {v : Value} {l : List (Int × OpV)} (h : EdsOf w v l) {m : Nat} {e : Int × OpV} (hm : l[m]? = some e) : ∃ b p cap, v = .slice (some ⟨b, p, none⟩) l.length cap ∧ ∀ W, Below w.heap.size w W → (loadS 36 (.pointer (some ⟨b, p + m * 12, none⟩))).run Tryd.prog W = .ok (Value.agg #[Value.int .i64 e.1, Value.int .i64 e.2.id, Value.int .i64 e.2.proc, Value.int .i64 e.2.obj, Value.int .i64 e.2.kind, Value.int .i64 e.2.meth, Value.int .i64 e.2.arg, Value.int .i64 e.2.sec, Value.bool e.2.done, Value.int .i64 e.2.res, Value.int .i64 e.2.inv, Value.int .i64 e.2.ret]) W := by
  rcases h.1 with ⟨rfl, _⟩ | ⟨b, p, cap, hv, hlt, _, hr⟩
  · simp at hm
  · exact ⟨b, p, cap, hv, fun W hb => loadMany_range (P := Tryd.prog) (t := 36) (#[Value.int .i64 e.1, Value.int .i64 e.2.id, Value.int .i64 e.2.proc, Value.int .i64 e.2.obj, Value.int .i64 e.2.kind, Value.int .i64 e.2.meth, Value.int .i64 e.2.arg, Value.int .i64 e.2.sec, Value.bool e.2.done, Value.int .i64 e.2.res, Value.int .i64 e.2.inv, Value.int .i64 e.2.ret]).toList _ (fun j u hj => (hb.cell (p := ⟨b, p + m * 12 + j, none⟩) hlt).trans (hr m e hm j u hj)) Tryd.underlying36 (by kernel_rfl) (by kernel_rfl)⟩
theorem eds_open {H : Type} {enc : TypeId × Value → H} {w : World} {base b0 : Nat} {sp : Nat → Bool} {held : Bool} {r : Reach} {v : Value} {d : DataW H} {p : List MemPlace}
    (hv : Value.okWide Tryd.prog w r b0 32 v) (h : DataW.Trod enc Tryd.prog w base sp held 32 v d p) : ∃ l : List (Int × OpV), EdsOf w v l := by
  obtain ⟨ao, len0, cap0, rfl⟩ := okWide_slice Tryd.underlying32 hv
  obtain ⟨fuel, hf⟩ := h
  rcases open_slice Tryd.underlying32 hf with ⟨h0, _⟩ | ⟨a, len, cap, m, n, Dt, Pl, hcs, hb, hl, hm, hmm, hx, hi⟩
  · have : Value.slice ao len0 cap0 = .slice none 0 0 := by simpa [Value.cells] using h0
    cases this
    exact ⟨[], .inl ⟨rfl, none, 0, rfl⟩, by simp⟩
  · have e : Value.slice ao len0 cap0 = .slice (some a) len cap := by simpa [Value.cells] using hcs
    cases e
    have hC : Tryd.prog.cellsOf 36 = 12 := by kernel_rfl
    have hlm : len0 ≤ m := by rw [hmm]; split <;> omega
    by_cases h0 : len0 = 0
    · subst h0
      exact ⟨[], .inl ⟨rfl, _, _, rfl⟩, by simp⟩
    · have each : ∀ i, ∃ y : Int × OpV, i < len0 → y.2.Wf ∧ ∀ (j : Nat) (u : Value), ((#[Value.int .i64 y.1, Value.int .i64 y.2.id, Value.int .i64 y.2.proc, Value.int .i64 y.2.obj, Value.int .i64 y.2.kind, Value.int .i64 y.2.meth, Value.int .i64 y.2.arg, Value.int .i64 y.2.sec, Value.bool y.2.done, Value.int .i64 y.2.res, Value.int .i64 y.2.inv, Value.int .i64 y.2.ret]).toList)[j]? = some u → w.cell? (a.add (i * 12 + j)) = some u := fun i => by
        by_cases c : i < len0
        · obtain ⟨cs', hc, ht⟩ := hi i (by omega)
          rw [hC] at hc
          obtain ⟨_, hcl, hat⟩ := World.cells?_some hc
          obtain ⟨k, y, hy, hw⟩ := ed_read ht
          refine ⟨(k, y), fun _ => ⟨hw, fun j u hj => ?_⟩⟩
          have hj11 : j < 12 := (List.getElem?_eq_some_iff.1 hj).1
          have := hat j hj11
          rw [hy] at this
          rw [← Go.Deep.add_add, this]
          exact hj
        · exact ⟨(0, zeroV), fun h => absurd h c⟩
      obtain ⟨f, hf'⟩ := Classical.axiomOfChoice each
      have h00 := (hf' 0 (by omega)).2 0 _ rfl
      obtain ⟨b, off, spot⟩ := a
      have hspot : spot = none := by simpa [Addr.add] using World.cell?_spot h00
      subst hspot
      refine ⟨(List.range len0).map f, .inr ⟨b, off, cap0, by simp, World.block_lt_of_cell? w _ h00, by simp; omega, fun i x hx' j u hj => ?_⟩, fun x hx' => ?_⟩
      · have hil : i < len0 := by have := (List.getElem?_eq_some_iff.1 hx').1; simpa using this
        have hxf : f i = x := by simpa [List.getElem?_map, List.getElem?_range hil] using hx'
        subst hxf
        have := (hf' i hil).2 j u hj
        rwa [Addr.add_mid, ← Nat.add_assoc] at this
      · obtain ⟨i, hil, rfl⟩ := List.mem_map.1 hx'
        exact (hf' i (by simpa using hil)).1
/-- An edit made of its kind and its operation. -/
theorem build_ed (k : Int) (o : OpV) (w : World) : (Instr.build 36 #[(0, .int .i64 k), (1, Value.agg #[Value.int .i64 o.id, Value.int .i64 o.proc, Value.int .i64 o.obj, Value.int .i64 o.kind, Value.int .i64 o.meth, Value.int .i64 o.arg, Value.int .i64 o.sec, Value.bool o.done, Value.int .i64 o.res, Value.int .i64 o.inv, Value.int .i64 o.ret])]).run Tryd.prog w = .ok (Value.agg #[Value.int .i64 k, Value.int .i64 o.id, Value.int .i64 o.proc, Value.int .i64 o.obj, Value.int .i64 o.kind, Value.int .i64 o.meth, Value.int .i64 o.arg, Value.int .i64 o.sec, Value.bool o.done, Value.int .i64 o.res, Value.int .i64 o.inv, Value.int .i64 o.ret]) w := by kernel_rfl

def exA : OpV := ⟨1, 0, 0, 6, 13, 0, 0, true, 0, 1, 5⟩
def exB : OpV := ⟨2, 0, 0, 6, 14, 0, 0, true, 0, 5, 9⟩
def exC : OpV := ⟨2, 0, 0, 6, 14, 0, 0, true, 0, 6, 9⟩
theorem ex_rise : RiseO [exA] := by unfold RiseO; simp
theorem ex_busy : appL [exA] 1 exB = Hs.bad 32 := by
  rw [app_add, addL_side (by decide +kernel) (Hs.get_no HL fun a ha => by rw [List.mem_singleton.1 ha]; decide +kernel) (by rw [side_busy (by decide +kernel) (by decide +kernel)]; decide), side_busy (by decide +kernel) (by decide +kernel)]
theorem ex_free : appL [exA] 1 exC = (Hs.inL HL [exA] exC, none, some exC, 0) := by
  rw [app_add]
  exact addL_yes (by decide +kernel) (Hs.get_no HL fun a ha => by rw [List.mem_singleton.1 ha]; decide +kernel) (side_none (by decide +kernel) (by decide +kernel)) (by decide)
theorem ex_len : (Hs.inL HL [exA] exC).length = 2 := by decide +kernel
theorem wfA : exA.Wf := by constructor <;> decide
theorem wfB : exB.Wf := by constructor <;> decide
theorem wfC : exC.Wf := by constructor <;> decide
/-- A list of one operation, made last. -/
theorem one_ops (w : World) (o : OpV) (ho : o.Wf) : OpsOf (w.alloc (.cells #[Value.int .i64 o.id, Value.int .i64 o.proc, Value.int .i64 o.obj, Value.int .i64 o.kind, Value.int .i64 o.meth, Value.int .i64 o.arg, Value.int .i64 o.sec, Value.bool o.done, Value.int .i64 o.res, Value.int .i64 o.inv, Value.int .i64 o.ret] 28)) (.slice (some ⟨w.heap.size, 0, none⟩) 1 1) [o] :=
  ⟨.inr ⟨w.heap.size, 0, 1, rfl, by simp, by simp, fun i x hi j u hj => by
    have hi0 : i = 0 := by have := (List.getElem?_eq_some_iff.1 hi).1; simpa using this
    subst hi0
    have hx : o = x := by simpa using hi
    subst hx
    rw [cells11 (OpAt.box w o), Nat.zero_mul, Nat.zero_add]
    simpa using hj⟩, fun x hx => by rw [List.mem_singleton.1 hx]; exact ho⟩
/-- Two new variables of a call's results. -/
theorem two_res (w : World) (x y : OpV) : ∃ W5 W6 W7 W8, w.alloc (.cells #[Value.int .i64 0, Value.int .i64 0, Value.int .i64 0, Value.int .i64 0, Value.int .i64 0, Value.int .i64 0, Value.int .i64 0, Value.bool false, Value.int .i64 0, Value.int .i64 0, Value.int .i64 0] 28) = W5 ∧ W5.heap.size = w.heap.size + 1 ∧ W5.alloc (.cells #[Value.int .i64 0, Value.int .i64 0, Value.int .i64 0, Value.int .i64 0, Value.int .i64 0, Value.int .i64 0, Value.int .i64 0, Value.bool false, Value.int .i64 0, Value.int .i64 0, Value.int .i64 0] 28) = W6 ∧
    (storeS 28 (.pointer (some ⟨w.heap.size, 0, none⟩)) (Value.agg #[Value.int .i64 x.id, Value.int .i64 x.proc, Value.int .i64 x.obj, Value.int .i64 x.kind, Value.int .i64 x.meth, Value.int .i64 x.arg, Value.int .i64 x.sec, Value.bool x.done, Value.int .i64 x.res, Value.int .i64 x.inv, Value.int .i64 x.ret])).run Tryd.prog W6 = .ok () W7 ∧ (storeS 28 (.pointer (some ⟨w.heap.size + 1, 0, none⟩)) (Value.agg #[Value.int .i64 y.id, Value.int .i64 y.proc, Value.int .i64 y.obj, Value.int .i64 y.kind, Value.int .i64 y.meth, Value.int .i64 y.arg, Value.int .i64 y.sec, Value.bool y.done, Value.int .i64 y.res, Value.int .i64 y.inv, Value.int .i64 y.ret])).run Tryd.prog W7 = .ok () W8 ∧ OpAt W8 w.heap.size x ∧ OpAt W8 (w.heap.size + 1) y ∧ Below w.heap.size w W8 := by
  have hb0 : Below w.heap.size w (w.alloc (.cells #[Value.int .i64 0, Value.int .i64 0, Value.int .i64 0, Value.int .i64 0, Value.int .i64 0, Value.int .i64 0, Value.int .i64 0, Value.bool false, Value.int .i64 0, Value.int .i64 0, Value.int .i64 0] 28)) := by go_grown
  have z0 : (w.alloc (.cells #[Value.int .i64 0, Value.int .i64 0, Value.int .i64 0, Value.int .i64 0, Value.int .i64 0, Value.int .i64 0, Value.int .i64 0, Value.bool false, Value.int .i64 0, Value.int .i64 0, Value.int .i64 0] 28)).heap.size = w.heap.size + 1 := World.size_alloc _ _
  have q0 : OpAt (w.alloc (.cells #[Value.int .i64 0, Value.int .i64 0, Value.int .i64 0, Value.int .i64 0, Value.int .i64 0, Value.int .i64 0, Value.int .i64 0, Value.bool false, Value.int .i64 0, Value.int .i64 0, Value.int .i64 0] 28)) w.heap.size zeroV := heap_alloc_new w _
  obtain ⟨W0, hW0⟩ : ∃ W, w.alloc (.cells #[Value.int .i64 0, Value.int .i64 0, Value.int .i64 0, Value.int .i64 0, Value.int .i64 0, Value.int .i64 0, Value.int .i64 0, Value.bool false, Value.int .i64 0, Value.int .i64 0, Value.int .i64 0] 28) = W := ⟨_, rfl⟩
  rw [hW0] at hb0 q0 z0
  have hb1 : Below W0.heap.size W0 (W0.alloc (.cells #[Value.int .i64 0, Value.int .i64 0, Value.int .i64 0, Value.int .i64 0, Value.int .i64 0, Value.int .i64 0, Value.int .i64 0, Value.bool false, Value.int .i64 0, Value.int .i64 0, Value.int .i64 0] 28)) := by go_grown
  have q1 : OpAt (W0.alloc (.cells #[Value.int .i64 0, Value.int .i64 0, Value.int .i64 0, Value.int .i64 0, Value.int .i64 0, Value.int .i64 0, Value.int .i64 0, Value.bool false, Value.int .i64 0, Value.int .i64 0, Value.int .i64 0] 28)) W0.heap.size zeroV := heap_alloc_new W0 _
  rw [z0] at q1
  obtain ⟨W7, W8, s7, s8, q7, q8, b8, _⟩ := put_two (q0.on hb1) q1 (by omega) (Nat.le_refl _) (by omega) (hb0.on hb1) (Nat.le_refl _) x y
  exact ⟨W0, _, W7, W8, hW0, z0, rfl, s7, s8, q7, q8, b8⟩
set_option maxHeartbeats 4000000 in
theorem awake_any (w : World) (hR : RulesAt w) : Calls Tryd.prog 7 #[] w fun e w' => e = .returned (.bool true) ∧ Below w.heap.size w w' := by
  have HRw := Lib.hid hR
  have hb1 : Below w.heap.size w (w.alloc (.cells #[Value.int .i64 exA.id, Value.int .i64 exA.proc, Value.int .i64 exA.obj, Value.int .i64 exA.kind, Value.int .i64 exA.meth, Value.int .i64 exA.arg, Value.int .i64 exA.sec, Value.bool exA.done, Value.int .i64 exA.res, Value.int .i64 exA.inv, Value.int .i64 exA.ret] 28)) := by go_grown
  have q1 := OpAt.box w exA
  have z1 : (w.alloc (.cells #[Value.int .i64 exA.id, Value.int .i64 exA.proc, Value.int .i64 exA.obj, Value.int .i64 exA.kind, Value.int .i64 exA.meth, Value.int .i64 exA.arg, Value.int .i64 exA.sec, Value.bool exA.done, Value.int .i64 exA.res, Value.int .i64 exA.inv, Value.int .i64 exA.ret] 28)).heap.size = w.heap.size + 1 := World.size_alloc _ _
  have s1 := store_op_new w (#[Value.int .i64 0, Value.int .i64 0, Value.int .i64 0, Value.int .i64 0, Value.int .i64 0, Value.int .i64 0, Value.int .i64 0, Value.bool false, Value.int .i64 0, Value.int .i64 0, Value.int .i64 0]) rfl exA
  obtain ⟨W1, hW1⟩ : ∃ W, w.alloc (.cells #[Value.int .i64 exA.id, Value.int .i64 exA.proc, Value.int .i64 exA.obj, Value.int .i64 exA.kind, Value.int .i64 exA.meth, Value.int .i64 exA.arg, Value.int .i64 exA.sec, Value.bool exA.done, Value.int .i64 exA.res, Value.int .i64 exA.inv, Value.int .i64 exA.ret] 28) = W := ⟨_, rfl⟩
  rw [hW1] at hb1 q1 z1 s1
  have hb2 : Below W1.heap.size W1 (W1.alloc (.cells #[Value.int .i64 exB.id, Value.int .i64 exB.proc, Value.int .i64 exB.obj, Value.int .i64 exB.kind, Value.int .i64 exB.meth, Value.int .i64 exB.arg, Value.int .i64 exB.sec, Value.bool exB.done, Value.int .i64 exB.res, Value.int .i64 exB.inv, Value.int .i64 exB.ret] 28)) := by go_grown
  have q2 := OpAt.box W1 exB
  have z2 : (W1.alloc (.cells #[Value.int .i64 exB.id, Value.int .i64 exB.proc, Value.int .i64 exB.obj, Value.int .i64 exB.kind, Value.int .i64 exB.meth, Value.int .i64 exB.arg, Value.int .i64 exB.sec, Value.bool exB.done, Value.int .i64 exB.res, Value.int .i64 exB.inv, Value.int .i64 exB.ret] 28)).heap.size = w.heap.size + 1 + 1 := by rw [World.size_alloc, z1]
  have s2 := store_op_new W1 (#[Value.int .i64 0, Value.int .i64 0, Value.int .i64 0, Value.int .i64 0, Value.int .i64 0, Value.int .i64 0, Value.int .i64 0, Value.bool false, Value.int .i64 0, Value.int .i64 0, Value.int .i64 0]) rfl exB
  obtain ⟨W2, hW2⟩ : ∃ W, W1.alloc (.cells #[Value.int .i64 exB.id, Value.int .i64 exB.proc, Value.int .i64 exB.obj, Value.int .i64 exB.kind, Value.int .i64 exB.meth, Value.int .i64 exB.arg, Value.int .i64 exB.sec, Value.bool exB.done, Value.int .i64 exB.res, Value.int .i64 exB.inv, Value.int .i64 exB.ret] 28) = W := ⟨_, rfl⟩
  rw [hW2] at hb2 q2 z2 s2
  rw [z1] at q2 s2
  have q1' := q1.on hb2
  have hb3 : Below W2.heap.size W2 (W2.alloc (.cells #[Value.int .i64 exA.id, Value.int .i64 exA.proc, Value.int .i64 exA.obj, Value.int .i64 exA.kind, Value.int .i64 exA.meth, Value.int .i64 exA.arg, Value.int .i64 exA.sec, Value.bool exA.done, Value.int .i64 exA.res, Value.int .i64 exA.inv, Value.int .i64 exA.ret] 28)) := by go_grown
  have hl3 := one_ops W2 exA wfA
  obtain ⟨W3, hW3⟩ : ∃ W, W2.alloc (.cells #[Value.int .i64 exA.id, Value.int .i64 exA.proc, Value.int .i64 exA.obj, Value.int .i64 exA.kind, Value.int .i64 exA.meth, Value.int .i64 exA.arg, Value.int .i64 exA.sec, Value.bool exA.done, Value.int .i64 exA.res, Value.int .i64 exA.inv, Value.int .i64 exA.ret] 28) = W := ⟨_, rfl⟩
  rw [hW3] at hb3 hl3
  rw [z2] at hl3
  have l1 := q1'.load
  have l2 := (q2.on hb3).load
  have hB3 := hb1.on (hb2.on hb3)
  have HB3 := Lib.hid hB3
  have HR3 := Lib.hid (hR.on hB3)
  have HL3 := Lib.hid hl3
  have HQ1 := Lib.hid (q1'.on hb3)
  have HQ2 := Lib.hid (q2.on hb3)
  have be := fun w => build_ed 1 exB w
  clear hR hb1 hb2 hb3 q1 q2 q1' hl3 hB3
  dsimp only [exA, exB] at hW1 hW2 hW3 l1 l2 be s1 s2
  go_enter Tryd.func7, Tryd.ntmps7
  go_wp2_with fail
  clear hW1 hW2 hW3 z1 z2 l1 l2 be s1 s2
  refine (apply_any (k := 1) (e := exB) HL3.out ex_rise wfB (by decide) HR3.out).mono ?_
  rintro _ w4 ⟨v4, rfl, _, hb4⟩
  rw [ex_busy]
  obtain ⟨W5, W6, W7, W8, e5, e6, e7, s7, s8, _, _, hb8⟩ := two_res w4 zeroV zeroV
  dsimp only [zeroV] at s7 s8
  dsimp only [Hs.bad, optV, Option.getD, zeroV]
  have hB8 := hb4.on hb8
  have q2' := HQ2.out.on hB8
  have f2 : W8.frozen? ⟨w.heap.size + 1, 9, none⟩ = false := frozen_of_row _ _ _ _ _ q2'
  have k9 := q2'.cell.2.2.2.2.2.2.2.2.2.1
  have q2c := OpAt.set (i := 9) (u := .int .i64 6) (o' := exC) q2' rfl
  have q1c : OpAt (W8.setCell ⟨w.heap.size + 1, 9, none⟩ (.int .i64 6)) w.heap.size exA := (heap_setCell_other _ _ _ _ (by simp)).trans (HQ1.out.on hB8)
  have hB9 : Below w.heap.size w (W8.setCell ⟨w.heap.size + 1, 9, none⟩ (.int .i64 6)) := (HB3.out.on hB8).setCell (Nat.le_succ _) _
  obtain ⟨W9, hW9⟩ : ∃ W, W8.setCell ⟨w.heap.size + 1, 9, none⟩ (.int .i64 6) = W := ⟨_, rfl⟩
  rw [hW9] at q2c q1c hB9
  have hb10 : Below W9.heap.size W9 (W9.alloc (.cells #[Value.int .i64 exA.id, Value.int .i64 exA.proc, Value.int .i64 exA.obj, Value.int .i64 exA.kind, Value.int .i64 exA.meth, Value.int .i64 exA.arg, Value.int .i64 exA.sec, Value.bool exA.done, Value.int .i64 exA.res, Value.int .i64 exA.inv, Value.int .i64 exA.ret] 28)) := by go_grown
  have hl10 := one_ops W9 exA wfA
  obtain ⟨W10, hW10⟩ : ∃ W, W9.alloc (.cells #[Value.int .i64 exA.id, Value.int .i64 exA.proc, Value.int .i64 exA.obj, Value.int .i64 exA.kind, Value.int .i64 exA.meth, Value.int .i64 exA.arg, Value.int .i64 exA.sec, Value.bool exA.done, Value.int .i64 exA.res, Value.int .i64 exA.inv, Value.int .i64 exA.ret] 28) = W := ⟨_, rfl⟩
  rw [hW10] at hb10 hl10
  have l1 := q1c.load
  have l2 := (q2c.on hb10).load
  have be := fun w => build_ed 1 exC w
  have HB10 := Lib.hid (hB9.on hb10)
  have HR10 := Lib.hid (HRw.out.on HB10.out)
  have HL10 := Lib.hid hl10
  clear hb4 hb8 hB8 q2' q2c q1c hB9 hb10 hl10
  dsimp only [exA, exC] at hW10 l1 l2 be
  go_wp2_with fail
  clear e5 e6 e7 s7 s8 f2 k9 hW9 hW10 l1 l2 be
  refine (apply_any (k := 1) (e := exC) HL10.out ex_rise wfC (by decide) HR10.out).mono ?_
  rintro _ w11 ⟨v11, rfl, hn11, hb11⟩
  rw [ex_free] at hn11 ⊢
  obtain ⟨ao, cap, hv⟩ := hn11.1.len
  rw [show (Hs.inL HL [exA] exC, (none : Option OpV), some exC, (0 : Int)).1.length = 2 from ex_len] at hv
  subst hv
  obtain ⟨Wa, Wb, Wc, Wd, e5, e6, e7, s7, s8, _, _, hbd⟩ := two_res w11 zeroV exC
  dsimp only [zeroV, exC] at s7 s8
  dsimp only [optV, Option.getD, zeroV, exC]
  have HBd := Lib.hid (HB10.out.on (hb11.on hbd))
  clear hn11 hb11 hbd
  go_wp2_with fail
  go_returns
  exact ⟨rfl, HBd.out⟩
end Go.Proofs.YtpjnmokofdldmaaDoor
