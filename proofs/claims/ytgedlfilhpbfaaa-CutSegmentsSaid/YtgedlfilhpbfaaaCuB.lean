/- Rows of operations that are put in order: in memory. -/
import Derived.Test.YtgedlfilhpbfaaaCuA
import Derived.Test.YtgedlfilhpbfaaaHtH
namespace Go.Proofs.Ytgedlfilhpbfaaa
set_option maxRecDepth 100000
open Go.ChangeShapes Go.WideShapes Go.ChangeAt Go.RowKit Go.PlainAid Go.Deep
namespace Cu
/-- A block that holds these operations, and then anything. -/
structure InRow (W : World) (g cap : Nat) (L : List OpV) : Prop where
  row : ∃ cur : Array Value, W.heap[g]? = some (.cells cur 35 (0, 0)) ∧ cur.size = cap * 11 ∧ RowO cur L
  le : L.length ≤ cap
theorem InRow.lt {W : World} {g cap : Nat} {L : List OpV} (h : InRow W g cap L) : g < W.heap.size := by
  obtain ⟨⟨cur, hg, _⟩, _⟩ := h
  exact heap_inO hg
theorem InRow.load {W : World} {g cap : Nat} {L : List OpV} (h : InRow W g cap L) {i : Nat} {o : OpV} (hi : L[i]? = some o) : (loadS 35 (.pointer (some ⟨g, i * 11, none⟩))).run Try.prog W = .ok (Value.agg #[Value.int .i64 o.id, Value.int .i64 o.proc, Value.int .i64 o.obj, Value.int .i64 o.kind, Value.int .i64 o.meth, Value.int .i64 o.arg, Value.int .i64 o.sec, Value.bool o.done, Value.int .i64 o.res, Value.int .i64 o.inv, Value.int .i64 o.ret]) W := by
  obtain ⟨⟨cur, hg, hs, hr⟩, hl⟩ := h
  exact load_cellsO fun j u hj => by
    rw [cell_of_row _ _ _ _ _ _ hg]
    exact hr.get (flatO_at L i o hi j u hj)
theorem InRow.keep {W W' : World} {g cap : Nat} {L : List OpV} (h : InRow W g cap L) (hk : W'.heap[g]? = W.heap[g]?) : InRow W' g cap L := by
  obtain ⟨⟨cur, hg, hs, hr⟩, hl⟩ := h
  exact ⟨⟨cur, hk.trans hg, hs, hr⟩, hl⟩
theorem InRow.on {W W' : World} {g cap : Nat} {L : List OpV} (h : InRow W g cap L) (hb : Below W.heap.size W W') : InRow W' g cap L := h.keep (hb.block g h.lt)
theorem rowO_set {cur cs : Array Value} {L : List OpV} (h : RowO cur L) {i : Nat} (hi : i < L.length) (o : OpV) (h1 : ∀ j, j < (cellsO o).length → cs[i * 11 + j]? = (cellsO o)[j]?) (h2 : ∀ k, k < i * 11 ∨ i * 11 + (cellsO o).length ≤ k → cs[k]? = cur[k]?) : RowO cs (L.set i o) := by
  refine RowO.of fun k u hk => ?_
  obtain ⟨x, t, j, rfl, ht, hj⟩ := flatO_get _ k u hk
  have hj11 : j < 11 := by rw [← cellsO_len x]; exact (List.getElem?_eq_some_iff.1 hj).1
  by_cases c : t = i
  · subst c
    rw [List.getElem?_set_self hi] at ht
    cases ht
    rw [h1 j (by rw [cellsO_len]; exact hj11)]
    exact hj
  · rw [List.getElem?_set_ne (Ne.symm c)] at ht
    rw [h2 (t * 11 + j) (by rw [cellsO_len]; omega)]
    exact h.get (flatO_at L t x ht j u hj)
theorem InRow.store {W : World} {g cap : Nat} {L : List OpV} (h : InRow W g cap L) {i : Nat} (hi : i < L.length) (o : OpV) :
    ∃ W', (storeS 35 (.pointer (some ⟨g, i * 11, none⟩)) (Value.agg #[Value.int .i64 o.id, Value.int .i64 o.proc, Value.int .i64 o.obj, Value.int .i64 o.kind, Value.int .i64 o.meth, Value.int .i64 o.arg, Value.int .i64 o.sec, Value.bool o.done, Value.int .i64 o.res, Value.int .i64 o.inv, Value.int .i64 o.ret])).run Try.prog W = .ok () W' ∧ InRow W' g cap (L.set i o) ∧ Keeps (fun k => k = g) W W' ∧ W'.heap.size = W.heap.size := by
  obtain ⟨⟨cur, hg, hs, hr⟩, hl⟩ := h
  have hlen := cellsO_len o
  have hb : i * 11 + (cellsO o).length ≤ cur.size := by rw [hlen, hs]; omega
  obtain ⟨cs, b1, b2, b3, b4⟩ := heap_setCells_same g 35 (cellsO o) (i * 11) W cur hg hb
  refine ⟨W.setCells g (i * 11) (cellsO o), ?_, ⟨⟨cs, b1, by rw [b2, hs], rowO_set hr hi o b3 b4⟩, by rw [List.length_set]; exact hl⟩, Keeps.setCells (own := fun k => k = g) (Keeps.refl _ _) (.inl rfl) _ _, size_setCells _ _ _ _⟩
  have hsz : (Try.prog.info? 35).map (·.size) = some 11 := by kernel_rfl
  exact storeMany_range (P := Try.prog) (cellsO o) (fun j hj => ⟨by
    rw [cell_of_row _ _ _ _ _ _ hg, Array.getElem?_eq_getElem (by omega)]
    rfl, frozen_of_row _ _ _ _ _ hg⟩) (by rw [hsz]; rfl) (fun v hv => flatO_one [o] v (by unfold flatO; simpa using hv))
/-- Two change places. -/
theorem InRow.swap {W : World} {g cap : Nat} {L : List OpV} (h : InRow W g cap L) {i j : Nat} {x y : OpV} (hx : L[i]? = some x) (hy : L[j]? = some y) :
    ∃ W1 W2, (storeS 35 (.pointer (some ⟨g, i * 11, none⟩)) (Value.agg #[Value.int .i64 y.id, Value.int .i64 y.proc, Value.int .i64 y.obj, Value.int .i64 y.kind, Value.int .i64 y.meth, Value.int .i64 y.arg, Value.int .i64 y.sec, Value.bool y.done, Value.int .i64 y.res, Value.int .i64 y.inv, Value.int .i64 y.ret])).run Try.prog W = .ok () W1 ∧ (storeS 35 (.pointer (some ⟨g, j * 11, none⟩)) (Value.agg #[Value.int .i64 x.id, Value.int .i64 x.proc, Value.int .i64 x.obj, Value.int .i64 x.kind, Value.int .i64 x.meth, Value.int .i64 x.arg, Value.int .i64 x.sec, Value.bool x.done, Value.int .i64 x.res, Value.int .i64 x.inv, Value.int .i64 x.ret])).run Try.prog W1 = .ok () W2 ∧ InRow W2 g cap (swp L i j) ∧ Keeps (fun k => k = g) W W2 := by
  obtain ⟨hi, _⟩ := List.getElem?_eq_some_iff.1 hx
  obtain ⟨hj, _⟩ := List.getElem?_eq_some_iff.1 hy
  obtain ⟨W1, s1, r1, k1, z1⟩ := h.store hi y
  obtain ⟨W2, s2, r2, k2, z2⟩ := r1.store (i := j) (by rw [List.length_set]; exact hj) x
  exact ⟨W1, W2, s1, s2, by rw [← swp_is hx hy]; exact r2, k1.on k2⟩
end Cu
end Go.Proofs.Ytgedlfilhpbfaaa
