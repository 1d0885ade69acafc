/- Lists of operations that the call itself makes: one list behind another. -/
import Derived.Test.YtkdaghflonppfaaMoH
namespace Go.Proofs.Ytkdaghflonppfaa
set_option maxRecDepth 100000
open Go.ChangeShapes Go.WideShapes Go.ChangeAt Go.RowKit Go.PlainAid Go.Deep

def cellsO (o : OpV) : List Value := #[Value.int .i64 o.id, Value.int .i64 o.proc, Value.int .i64 o.obj, Value.int .i64 o.kind, Value.int .i64 o.meth, Value.int .i64 o.arg, Value.int .i64 o.sec, Value.bool o.done, Value.int .i64 o.res, Value.int .i64 o.inv, Value.int .i64 o.ret].toList
theorem cellsO_len (o : OpV) : (cellsO o).length = 11 := rfl
def flatO (l : List OpV) : List Value := l.flatMap cellsO
theorem flatO_len : ∀ l : List OpV, (flatO l).length = l.length * 11
  | [] => rfl
  | o :: r => by
    have := flatO_len r
    unfold flatO at this ⊢
    rw [List.flatMap_cons, List.length_append, cellsO_len, this, List.length_cons]
    omega
theorem flatO_at : ∀ (l : List OpV) (i : Nat) (o : OpV), l[i]? = some o → ∀ (j : Nat) (u : Value), (cellsO o)[j]? = some u → (flatO l)[i * 11 + j]? = some u
  | [], i, o, h, _, _, _ => by simp at h
  | x :: r, 0, o, h, j, u, hj => by
    have : x = o := by simpa using h
    subst this
    unfold flatO
    rw [List.flatMap_cons, Nat.zero_mul, Nat.zero_add, List.getElem?_append_left (List.getElem?_eq_some_iff.1 hj).1]
    exact hj
  | x :: r, i + 1, o, h, j, u, hj => by
    have := flatO_at r i o (by simpa using h) j u hj
    unfold flatO at this ⊢
    rw [List.flatMap_cons, List.getElem?_append_right (by rw [cellsO_len]; omega), cellsO_len, show (i + 1) * 11 + j - 11 = i * 11 + j by omega]
    exact this
theorem flatO_get : ∀ (l : List OpV) (k : Nat) (u : Value), (flatO l)[k]? = some u → ∃ (o : OpV) (i j : Nat), k = i * 11 + j ∧ l[i]? = some o ∧ (cellsO o)[j]? = some u
  | [], k, u, h => by simp [flatO] at h
  | x :: r, k, u, h => by
    unfold flatO at h
    rw [List.flatMap_cons] at h
    by_cases c : k < 11
    · rw [List.getElem?_append_left (by rw [cellsO_len]; exact c)] at h
      exact ⟨x, 0, k, by omega, rfl, h⟩
    · rw [List.getElem?_append_right (by rw [cellsO_len]; omega), cellsO_len] at h
      obtain ⟨o, i, j, e, ho, hj⟩ := flatO_get r (k - 11) u h
      exact ⟨o, i + 1, j, by omega, by simpa using ho, hj⟩
theorem flatO_one (l : List OpV) : ∀ u ∈ flatO l, u.oneCell' = true := fun u hu => by
  obtain ⟨o, _, ho⟩ := List.mem_flatMap.1 hu
  unfold cellsO at ho
  have := one11 o
  rw [Array.all_eq_true_iff_forall_mem] at this
  exact this u (by simpa using ho)
/-- An append to a list of operations, as one action. -/
def appOO (vs : Array Value) : Sem Value := Builtin.append_ #[35, 35] 35 vs
theorem app_opO (vs : Array Value) : Builtin.append_ #[35, 35] 35 vs = appOO vs := rfl
theorem info_op : (Try.prog.info? 24).map (fun i => (i.zero, i.size, i.bytes)) = some (some (Value.agg #[Value.int .i64 0, Value.int .i64 0, Value.int .i64 0, Value.int .i64 0, Value.int .i64 0, Value.int .i64 0, Value.int .i64 0, Value.bool false, Value.int .i64 0, Value.int .i64 0, Value.int .i64 0]), 11, 88) := by kernel_rfl
/-- A list of operations of the call's own. -/
def OpsOwn (n₀ : Nat) (W : World) (v : Value) (l : List OpV) : Prop := W.ownsRow n₀ 24 11 v l.length (flatO l)
theorem OpsOwn.reads {n₀ : Nat} {W : World} {v : Value} {l : List OpV} (h : OpsOwn n₀ W v l) (hw : ∀ o ∈ l, o.Wf) : OpsOf W v l := by
  refine ⟨?_, hw⟩
  obtain ⟨h1, h2⟩ := h
  rcases h2 with ⟨rfl, h0⟩ | ⟨g, cap, cur, rfl, hn, hg, hl, hc, hsz, ht⟩
  · exact .inl ⟨List.length_eq_zero_iff.1 (by simpa using h0), none, 0, rfl⟩
  · by_cases h0 : l.length = 0
    · exact .inl ⟨List.length_eq_zero_iff.1 h0, _, _, by rw [h0]⟩
    · refine .inr ⟨g, 0, cap, rfl, heap_inO hg, by omega, fun i o hi j u hj => ?_⟩
      rw [Nat.zero_add, cell_of_row _ _ _ _ _ _ hg]
      have := flatO_at l i o hi j u hj
      rw [← ht, List.getElem?_take] at this
      split at this
      · rw [← this, Array.getElem?_toList]
      · cases this
theorem OpsOwn.made (n₀ : Nat) (W : World) (hn : n₀ ≤ W.heap.size) : OpsOwn n₀ (W.alloc (.cells #[] 24)) (.slice (some ⟨W.heap.size, 0, none⟩) 0 0) [] :=
  ⟨rfl, .inr ⟨W.heap.size, 0, #[], rfl, hn, heap_alloc_new W _, Nat.le_refl _, Nat.zero_le _, rfl, rfl⟩⟩
/-- One list behind another. -/
theorem ops_app {n₀ : Nat} {W : World} {v u : Value} {a b : List OpV} (h : OpsOwn n₀ W v a) (hu : OpsOf W u b) (hn : n₀ ≤ W.heap.size) (hl : (a.length + b.length) * 88 ≤ 140737488355328) :
    ∃ v' W', (appOO #[v, u]).run Try.prog W = .ok v' W' ∧ OpsOwn n₀ W' v' (a ++ b) ∧ Below n₀ W W' := by
  obtain ⟨i0, hi, hz0, hz1, hz2⟩ := info_parts info_op
  rcases hu.1 with ⟨rfl, ao, cap, rfl⟩ | ⟨bk, p, cap, rfl, hlt, h0, hr⟩
  · rw [List.append_nil]
    refine ⟨v, W, ?_, h, Below.refl _ _⟩
    unfold appOO
    obtain ⟨ao', n', c', rfl, hle⟩ : ∃ ao n c, v = .slice ao n c ∧ n ≤ c := by
      rcases h.2 with ⟨rfl, _⟩ | ⟨g, cap, cur, rfl, _, _, hl, _⟩
      · exact ⟨_, _, _, rfl, Nat.le_refl _⟩
      · exact ⟨_, _, _, rfl, hl⟩
    cases ao with
    | none => cases ao' <;> simp [Builtin.append_, run_underlying Try.underlying35, sizeOf, typeInfo, hi, Builtin.lenOf, Builtin.firstCells, storeCells, hle]
    | some ad =>
      have hfc := run_firstCells_some (P := Try.prog) W i0.size 0 ad 0 cap [] (by simp) (fun j u hu => by simp at hu)
      cases ao' <;> simp [Builtin.append_, run_underlying Try.underlying35, sizeOf, typeInfo, hi, Builtin.lenOf, hfc, storeCells, hle]
  · obtain ⟨v', W', hrun, h1, h2, _⟩ := run_append_own (P := Try.prog) W n₀ 35 35 24 i0 _ 11 88 Try.underlying35 hi hz0 hz1 hz2 rfl (by decide) v a.length (flatO a) h ⟨bk, p, none⟩ b.length cap (flatO b) (flatO_len b) (fun k u hk => by
      obtain ⟨o, i, j, rfl, ho, hj⟩ := flatO_get b k u hk
      rw [Addr.add_lit, ← Nat.add_assoc]
      exact hr i o ho j u hj) (flatO_one b) (by unfold maxLen; omega) hl hn
    refine ⟨v', W', hrun, ?_, (Below.refl _ _).grown h2 hn (fun k e => (h.lt k e).1)⟩
    unfold OpsOwn
    rw [List.length_append, show flatO (a ++ b) = flatO a ++ flatO b by unfold flatO; rw [List.flatMap_append]]
    exact h1
theorem runs_app : ∀ (a b : List OpV) (L : List Int), runsC (a ++ b) L = if (runsC a L).2 = true then runsC b (runsC a L).1 else ([], false)
  | [], b, L => by simp [runsC]
  | o :: r, b, L => by
    rw [List.cons_append, runsC, runsC]
    by_cases c : (stepC o L).2 = true
    · rw [if_pos c, if_pos c]
      exact runs_app r b _
    · rw [if_neg c, if_neg c]
      rfl
theorem runs_len : ∀ (a : List OpV) (L : List Int), (runsC a L).1.length ≤ L.length + a.length
  | [], L => by simp [runsC]
  | o :: r, L => by
    rw [runsC]
    split
    · have := runs_len r (stepC o L).1
      have := stepC_len o L
      rw [List.length_cons]
      omega
    · simp
end Go.Proofs.Ytkdaghflonppfaa
