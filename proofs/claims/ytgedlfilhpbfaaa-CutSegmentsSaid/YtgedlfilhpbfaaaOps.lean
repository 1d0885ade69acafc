/- Lists of operations in memory, over layer 10's operations (OpL): as a parameter, and of the call's own. -/
import Derived.Test.YtgedlfilhpbfaaaOpL
import Derived.Deep.MidRow
import Derived.Deep.Slices
import Derived.Deep.Fields
import Derived.OwnWalk
namespace Go.Proofs.Ytgedlfilhpbfaaa
set_option maxRecDepth 100000
open Go.ChangeShapes Go.WideShapes Go.ChangeAt Go.RowKit Go.PlainAid Go.Deep

theorem load_cellsO {w : World} {b p : Nat} {o : OpV} (h : ∀ (j : Nat) (u : Value), (#[Value.int .i64 o.id, Value.int .i64 o.proc, Value.int .i64 o.obj, Value.int .i64 o.kind, Value.int .i64 o.meth, Value.int .i64 o.arg, Value.int .i64 o.sec, Value.bool o.done, Value.int .i64 o.res, Value.int .i64 o.inv, Value.int .i64 o.ret].toList)[j]? = some u → w.cell? ⟨b, p + j, none⟩ = some u) : (loadS 35 (.pointer (some ⟨b, p, none⟩))).run Try.prog w = .ok (Value.agg #[Value.int .i64 o.id, Value.int .i64 o.proc, Value.int .i64 o.obj, Value.int .i64 o.kind, Value.int .i64 o.meth, Value.int .i64 o.arg, Value.int .i64 o.sec, Value.bool o.done, Value.int .i64 o.res, Value.int .i64 o.inv, Value.int .i64 o.ret]) w :=
  loadMany_range (P := Try.prog) (t := 35) #[Value.int .i64 o.id, Value.int .i64 o.proc, Value.int .i64 o.obj, Value.int .i64 o.kind, Value.int .i64 o.meth, Value.int .i64 o.arg, Value.int .i64 o.sec, Value.bool o.done, Value.int .i64 o.res, Value.int .i64 o.inv, Value.int .i64 o.ret].toList _ h Try.underlying35 (by kernel_rfl) (by kernel_rfl)
/-- The operations that a slice reads as. -/
def OpsOf (w : World) (v : Value) (l : List OpV) : Prop :=
  ((l = [] ∧ ∃ ao cap, v = .slice ao 0 cap) ∨ ∃ b p cap, v = .slice (some ⟨b, p, none⟩) l.length cap ∧ b < w.heap.size ∧ 0 < l.length ∧ ∀ (i : Nat) (o : OpV), l[i]? = some o → ∀ (j : Nat) (u : Value), (#[Value.int .i64 o.id, Value.int .i64 o.proc, Value.int .i64 o.obj, Value.int .i64 o.kind, Value.int .i64 o.meth, Value.int .i64 o.arg, Value.int .i64 o.sec, Value.bool o.done, Value.int .i64 o.res, Value.int .i64 o.inv, Value.int .i64 o.ret].toList)[j]? = some u → w.cell? ⟨b, p + i * 11 + j, none⟩ = some u) ∧
  ∀ o ∈ l, o.Wf
theorem OpsOf.on {w w' : World} {v : Value} {l : List OpV} (h : OpsOf w v l) (hb : Below w.heap.size w w') : OpsOf w' v l := by
  refine ⟨?_, h.2⟩
  rcases h.1 with h | ⟨b, p, cap, hv, hlt, h0, hr⟩
  · exact .inl h
  · exact .inr ⟨b, p, cap, hv, Nat.lt_of_lt_of_le hlt hb.size, h0, fun i o hi j u hj => (hb.cell (p := ⟨b, p + i * 11 + j, none⟩) hlt).trans (hr i o hi j u hj)⟩
theorem OpsOf.len {w : World} {v : Value} {l : List OpV} (h : OpsOf w v l) : ∃ ao cap, v = .slice ao l.length cap := by
  rcases h.1 with ⟨rfl, ao, cap, rfl⟩ | ⟨b, p, cap, rfl, _⟩
  · exact ⟨ao, cap, rfl⟩
  · exact ⟨_, cap, rfl⟩
theorem OpsOf.at {w : World} {v : Value} {l : List OpV} (h : OpsOf w v l) {i : Nat} {o : OpV} (hi : l[i]? = some o) : ∃ b p cap, v = .slice (some ⟨b, p, none⟩) l.length cap ∧ b < w.heap.size ∧ o.Wf ∧ ∀ (j : Nat) (u : Value), (#[Value.int .i64 o.id, Value.int .i64 o.proc, Value.int .i64 o.obj, Value.int .i64 o.kind, Value.int .i64 o.meth, Value.int .i64 o.arg, Value.int .i64 o.sec, Value.bool o.done, Value.int .i64 o.res, Value.int .i64 o.inv, Value.int .i64 o.ret].toList)[j]? = some u → w.cell? ⟨b, p + i * 11 + j, none⟩ = some u := by
  rcases h.1 with ⟨rfl, _⟩ | ⟨b, p, cap, rfl, hlt, _, hr⟩
  · simp at hi
  · exact ⟨b, p, cap, rfl, hlt, h.2 o (List.mem_of_getElem? hi), hr i o hi⟩
def cellsO (o : OpV) : List Value := #[Value.int .i64 o.id, Value.int .i64 o.proc, Value.int .i64 o.obj, Value.int .i64 o.kind, Value.int .i64 o.meth, Value.int .i64 o.arg, Value.int .i64 o.sec, Value.bool o.done, Value.int .i64 o.res, Value.int .i64 o.inv, Value.int .i64 o.ret].toList
theorem cellsO_len (o : OpV) : (cellsO o).length = 11 := rfl
def flatO (l : List OpV) : List Value := l.flatMap cellsO
theorem flatO_len : ∀ l : List OpV, (flatO l).length = l.length * 11
  | [] => rfl
  | o :: r => by
    have := flatO_len r
    unfold flatO at this ⊢
    rw [List.flatMap_cons, List.length_append, cellsO_len, this, List.length_cons]
    omega
theorem flatO_at : ∀ (l : List OpV) (i : Nat) (o : OpV), l[i]? = some o → ∀ (j : Nat) (u : Value), (cellsO o)[j]? = some u → (flatO l)[i * 11 + j]? = some u
  | [], i, o, h, _, _, _ => by simp at h
  | x :: r, 0, o, h, j, u, hj => by
    have : x = o := by simpa using h
    subst this
    unfold flatO
    rw [List.flatMap_cons, Nat.zero_mul, Nat.zero_add, List.getElem?_append_left (List.getElem?_eq_some_iff.1 hj).1]
    exact hj
  | x :: r, i + 1, o, h, j, u, hj => by
    have := flatO_at r i o (by simpa using h) j u hj
    unfold flatO at this ⊢
    rw [List.flatMap_cons, List.getElem?_append_right (by rw [cellsO_len]; omega), cellsO_len, show (i + 1) * 11 + j - 11 = i * 11 + j by omega]
    exact this
theorem flatO_get : ∀ (l : List OpV) (k : Nat) (u : Value), (flatO l)[k]? = some u → ∃ (o : OpV) (i j : Nat), k = i * 11 + j ∧ l[i]? = some o ∧ (cellsO o)[j]? = some u
  | [], k, u, h => by simp [flatO] at h
  | x :: r, k, u, h => by
    unfold flatO at h
    rw [List.flatMap_cons] at h
    by_cases c : k < 11
    · rw [List.getElem?_append_left (by rw [cellsO_len]; exact c)] at h
      exact ⟨x, 0, k, by omega, rfl, h⟩
    · rw [List.getElem?_append_right (by rw [cellsO_len]; omega), cellsO_len] at h
      obtain ⟨o, i, j, e, ho, hj⟩ := flatO_get r (k - 11) u h
      exact ⟨o, i + 1, j, by omega, by simpa using ho, hj⟩
theorem flatO_one (l : List OpV) : ∀ u ∈ flatO l, u.oneCell' = true := fun u hu => by
  obtain ⟨o, _, ho⟩ := List.mem_flatMap.1 hu
  unfold cellsO at ho
  have := one11 o
  rw [Array.all_eq_true_iff_forall_mem] at this
  exact this u (by simpa using ho)
/-- An append to a list of operations, as one action. -/
def appOO (vs : Array Value) : Sem Value := Builtin.append_ #[22, 22] 22 vs
theorem app_opO (vs : Array Value) : Builtin.append_ #[22, 22] 22 vs = appOO vs := rfl
theorem info_op : (Try.prog.info? 35).map (fun i => (i.zero, i.size, i.bytes)) = some (some (Value.agg #[Value.int .i64 0, Value.int .i64 0, Value.int .i64 0, Value.int .i64 0, Value.int .i64 0, Value.int .i64 0, Value.int .i64 0, Value.bool false, Value.int .i64 0, Value.int .i64 0, Value.int .i64 0]), 11, 88) := by kernel_rfl
/-- A list of operations of the call's own. -/
def OpsOwn (n₀ : Nat) (W : World) (v : Value) (l : List OpV) : Prop := W.ownsRow n₀ 35 11 v l.length (flatO l)
theorem OpsOwn.reads {n₀ : Nat} {W : World} {v : Value} {l : List OpV} (h : OpsOwn n₀ W v l) (hw : ∀ o ∈ l, o.Wf) : OpsOf W v l := by
  refine ⟨?_, hw⟩
  obtain ⟨h1, h2⟩ := h
  rcases h2 with ⟨rfl, h0⟩ | ⟨g, cap, cur, rfl, hn, hg, hl, hc, hsz, ht⟩
  · exact .inl ⟨List.length_eq_zero_iff.1 (by simpa using h0), none, 0, rfl⟩
  · by_cases h0 : l.length = 0
    · exact .inl ⟨List.length_eq_zero_iff.1 h0, _, _, by rw [h0]⟩
    · refine .inr ⟨g, 0, cap, rfl, heap_inO hg, by omega, fun i o hi j u hj => ?_⟩
      rw [Nat.zero_add, cell_of_row _ _ _ _ _ _ hg]
      have := flatO_at l i o hi j u hj
      rw [← ht, List.getElem?_take] at this
      split at this
      · rw [← this, Array.getElem?_toList]
      · cases this
theorem OpsOwn.made (n₀ : Nat) (W : World) (hn : n₀ ≤ W.heap.size) : OpsOwn n₀ (W.alloc (.cells #[] 35)) (.slice (some ⟨W.heap.size, 0, none⟩) 0 0) [] :=
  ⟨rfl, .inr ⟨W.heap.size, 0, #[], rfl, hn, heap_alloc_new W _, Nat.le_refl _, Nat.zero_le _, rfl, rfl⟩⟩
/-- One list behind another. -/
theorem ops_app {n₀ : Nat} {W : World} {v u : Value} {a b : List OpV} (h : OpsOwn n₀ W v a) (hu : OpsOf W u b) (hn : n₀ ≤ W.heap.size) (hl : (a.length + b.length) * 88 ≤ 140737488355328) :
    ∃ v' W', (appOO #[v, u]).run Try.prog W = .ok v' W' ∧ OpsOwn n₀ W' v' (a ++ b) ∧ Below n₀ W W' := by
  obtain ⟨i0, hi, hz0, hz1, hz2⟩ := info_parts info_op
  rcases hu.1 with ⟨rfl, ao, cap, rfl⟩ | ⟨bk, p, cap, rfl, hlt, h0, hr⟩
  · rw [List.append_nil]
    refine ⟨v, W, ?_, h, Below.refl _ _⟩
    unfold appOO
    obtain ⟨ao', n', c', rfl, hle⟩ : ∃ ao n c, v = .slice ao n c ∧ n ≤ c := by
      rcases h.2 with ⟨rfl, _⟩ | ⟨g, cap, cur, rfl, _, _, hl, _⟩
      · exact ⟨_, _, _, rfl, Nat.le_refl _⟩
      · exact ⟨_, _, _, rfl, hl⟩
    cases ao with
    | none => cases ao' <;> simp [Builtin.append_, run_underlying Try.underlying22, sizeOf, typeInfo, hi, Builtin.lenOf, Builtin.firstCells, storeCells, hle]
    | some ad =>
      have hfc := run_firstCells_some (P := Try.prog) W i0.size 0 ad 0 cap [] (by simp) (fun j u hu => by simp at hu)
      cases ao' <;> simp [Builtin.append_, run_underlying Try.underlying22, sizeOf, typeInfo, hi, Builtin.lenOf, hfc, storeCells, hle]
  · obtain ⟨v', W', hrun, h1, h2, _⟩ := run_append_own (P := Try.prog) W n₀ 22 22 35 i0 _ 11 88 Try.underlying22 hi hz0 hz1 hz2 rfl (by decide) v a.length (flatO a) h ⟨bk, p, none⟩ b.length cap (flatO b) (flatO_len b) (fun k u hk => by
      obtain ⟨o, i, j, rfl, ho, hj⟩ := flatO_get b k u hk
      rw [Addr.add_lit, ← Nat.add_assoc]
      exact hr i o ho j u hj) (flatO_one b) (by unfold maxLen; omega) hl hn
    refine ⟨v', W', hrun, ?_, (Below.refl _ _).grown h2 hn (fun k e => (h.lt k e).1)⟩
    unfold OpsOwn
    rw [List.length_append, show flatO (a ++ b) = flatO a ++ flatO b by unfold flatO; rw [List.flatMap_append]]
    exact h1
/-- One operation more, whose block is known. -/
theorem ops_push {n₀ : Nat} {W : World} {v : Value} {a : List OpV} {o : OpV} {vb : Nat} (h : OpsOwn n₀ W v a) (hv : OpAt W vb o) (ho : o.Wf) (hn : n₀ ≤ W.heap.size) (hl : (a.length + 1) * 88 ≤ 140737488355328) :
    ∃ v' W', (appOO #[v, .slice (some ⟨vb, 0, none⟩) 1 1]).run Try.prog W = .ok v' W' ∧ OpsOwn n₀ W' v' (a ++ [o]) ∧ Below n₀ W W' := by
  refine ops_app h ⟨.inr ⟨vb, 0, 1, rfl, heap_inO hv, by simp, fun i x hi j u hj => ?_⟩, fun x hx => by rw [List.mem_singleton.1 hx]; exact ho⟩ hn hl
  have hi0 : i = 0 := by have := (List.getElem?_eq_some_iff.1 hi).1; simpa using this
  subst hi0
  have hx : o = x := by simpa using hi
  subst hx
  unfold OpAt at hv
  rw [cell_of_row _ _ _ _ _ _ hv, Nat.zero_mul, Nat.zero_add]
  simpa using hj
theorem ops_open {H : Type} {enc : TypeId × Value → H} {w : World} {base b0 : Nat} {sp : Nat → Bool} {held : Bool} {r : Reach} {v : Value} {d : DataW H} {p : List MemPlace}
    (hv : Value.okWide Try.prog w r b0 22 v) (h : DataW.Trod enc Try.prog w base sp held 22 v d p) : ∃ l : List OpV, OpsOf w v l ∧ (l = [] ∨ ∃ el rest, d = .slice el rest ∧ el.length = l.length) := by
  obtain ⟨ao, len0, cap0, rfl⟩ := okWide_slice Try.underlying22 hv
  obtain ⟨fuel, hf⟩ := h
  rcases open_slice Try.underlying22 hf with ⟨h0, _⟩ | ⟨a, len, cap, m, n, Dt, Pl, hcs, hb, hl, hm, hmm, hx, hi⟩
  · have : Value.slice ao len0 cap0 = .slice none 0 0 := by simpa [Value.cells] using h0
    cases this
    exact ⟨[], ⟨.inl ⟨rfl, none, 0, rfl⟩, by simp⟩, .inl rfl⟩
  · have e : Value.slice ao len0 cap0 = .slice (some a) len cap := by simpa [Value.cells] using hcs
    cases e
    have hC : Try.prog.cellsOf 35 = 11 := by kernel_rfl
    have hlm : len0 ≤ m := by rw [hmm]; split <;> omega
    by_cases h0 : len0 = 0
    · subst h0
      exact ⟨[], ⟨.inl ⟨rfl, _, _, rfl⟩, by simp⟩, .inl rfl⟩
    · have each : ∀ i, ∃ y : OpV, i < len0 → y.Wf ∧ ∀ (j : Nat) (u : Value), (#[Value.int .i64 y.id, Value.int .i64 y.proc, Value.int .i64 y.obj, Value.int .i64 y.kind, Value.int .i64 y.meth, Value.int .i64 y.arg, Value.int .i64 y.sec, Value.bool y.done, Value.int .i64 y.res, Value.int .i64 y.inv, Value.int .i64 y.ret].toList)[j]? = some u → w.cell? (a.add (i * 11 + j)) = some u := fun i => by
        by_cases c : i < len0
        · obtain ⟨cs', hc, ht⟩ := hi i (by omega)
          rw [hC] at hc
          obtain ⟨_, hcl, hat⟩ := World.cells?_some hc
          obtain ⟨y, hy, hw⟩ := op_read ht
          refine ⟨y, fun _ => ⟨hw, fun j u hj => ?_⟩⟩
          have hj11 : j < 11 := (List.getElem?_eq_some_iff.1 hj).1
          have := hat j hj11
          rw [hy] at this
          rw [← Go.Deep.add_add, this]
          exact hj
        · exact ⟨⟨0, 0, 0, 0, 0, 0, 0, false, 0, 0, 0⟩, fun h => absurd h c⟩
      obtain ⟨f, hf'⟩ := Classical.axiomOfChoice each
      have h00 := (hf' 0 (by omega)).2 0 _ rfl
      obtain ⟨b, off, spot⟩ := a
      have hspot : spot = none := by simpa [Addr.add] using World.cell?_spot h00
      subst hspot
      refine ⟨(List.range len0).map f, ⟨.inr ⟨b, off, cap0, by simp, World.block_lt_of_cell? w _ h00, by simp; omega, fun i x hx' j u hj => ?_⟩, fun x hx' => ?_⟩, .inr ⟨_, _, congrArg Prod.fst hx, by simp⟩⟩
      · have hil : i < len0 := by have := (List.getElem?_eq_some_iff.1 hx').1; simpa using this
        have hxf : f i = x := by simpa [List.getElem?_map, List.getElem?_range hil] using hx'
        subst hxf
        have := (hf' i hil).2 j u hj
        rwa [Addr.add_mid, ← Nat.add_assoc] at this
      · obtain ⟨i, hil, rfl⟩ := List.mem_map.1 hx'
        exact (hf' i (by simpa using hil)).1
end Go.Proofs.Ytgedlfilhpbfaaa
