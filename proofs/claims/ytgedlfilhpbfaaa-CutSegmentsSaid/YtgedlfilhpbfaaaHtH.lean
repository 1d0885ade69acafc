/- Lists of operations of the call's own: cloned; one taken out (slices.Clone, slices.Delete). -/
import Derived.Test.YtgedlfilhpbfaaaHtB
import Derived.Lib.SliceRun
import Derived.Deep.RegionLaw
import Derived.Shelf.RegionOpenPlain
import Derived.Laws.CopyRow
namespace Go.Proofs.Ytgedlfilhpbfaaa
set_option maxRecDepth 100000
open Go.ChangeShapes Go.WideShapes Go.ChangeAt Go.RowKit Go.PlainAid Go.Deep Go.Shelf

theorem flatO_app (a b : List OpV) : flatO (a ++ b) = flatO a ++ flatO b := by unfold flatO; rw [List.flatMap_append]
theorem flatO_take (L : List OpV) (j : Nat) : flatO (L.take j) = (flatO L).take (j * 11) := by
  by_cases h : j ≤ L.length
  · have e : (flatO (L.take j)).length = j * 11 := by rw [flatO_len, List.length_take, Nat.min_eq_left h]
    have e2 : flatO L = flatO (L.take j) ++ flatO (L.drop j) := by rw [← flatO_app, List.take_append_drop]
    rw [e2, ← e, List.take_left]
  · rw [List.take_of_length_le (by omega), List.take_of_length_le]
    rw [flatO_len]
    omega
theorem flatO_drop (L : List OpV) (j : Nat) (h : j ≤ L.length) : flatO (L.drop j) = (flatO L).drop (j * 11) := by
  have e : (flatO (L.take j)).length = j * 11 := by rw [flatO_len, List.length_take, Nat.min_eq_left h]
  have e2 : flatO L = flatO (L.take j) ++ flatO (L.drop j) := by rw [← flatO_app, List.take_append_drop]
  rw [e2, ← e, List.drop_left]
/-- A row that holds operations, and then anything. -/
def RowO (cur : Array Value) (L : List OpV) : Prop := cur.toList.take (L.length * 11) = flatO L
theorem RowO.get {cur : Array Value} {L : List OpV} (h : RowO cur L) {k : Nat} {u : Value} (hk : (flatO L)[k]? = some u) : cur[k]? = some u := by
  have hl : k < L.length * 11 := by rw [← flatO_len]; exact (List.getElem?_eq_some_iff.1 hk).1
  rw [← h, List.getElem?_take_of_lt hl, Array.getElem?_toList] at hk
  exact hk
theorem RowO.of {cur : Array Value} {L : List OpV} (h : ∀ (k : Nat) (u : Value), (flatO L)[k]? = some u → cur[k]? = some u) : RowO cur L := by
  unfold RowO
  apply List.ext_getElem?
  intro k
  by_cases c : k < L.length * 11
  · have hk : (flatO L)[k]? = some ((flatO L)[k]'(by rw [flatO_len]; exact c)) := List.getElem?_eq_getElem (by rw [flatO_len]; exact c)
    rw [List.getElem?_take_of_lt c, Array.getElem?_toList, h k _ hk, hk]
  · rw [List.getElem?_eq_none (l := cur.toList.take (L.length * 11)) (Nat.le_trans (List.length_take_le _ _) (Nat.le_of_not_lt c)), List.getElem?_eq_none (l := flatO L) (by rw [flatO_len]; exact Nat.le_of_not_lt c)]
theorem RowO.reads {W : World} {g cap : Nat} {cur : Array Value} {L : List OpV} (hg : W.heap[g]? = some (.cells cur 35 (0, 0))) (h : RowO cur L) (hw : ∀ o ∈ L, o.Wf) : OpsOf W (.slice (some ⟨g, 0, none⟩) L.length cap) L := by
  refine ⟨?_, hw⟩
  by_cases h0 : L.length = 0
  · exact .inl ⟨List.length_eq_zero_iff.1 h0, _, _, by rw [h0]⟩
  · refine .inr ⟨g, 0, cap, rfl, heap_inO hg, by omega, fun i o hi j u hj => ?_⟩
    rw [Nat.zero_add, cell_of_row _ _ _ _ _ _ hg]
    exact h.get (flatO_at L i o hi j u hj)
/-- Read from a block of the call's own. -/
def OpsNew (n₀ : Nat) (w : World) (v : Value) (l : List OpV) : Prop := OpsOf w v l ∧ ∀ b p n c, v = .slice (some ⟨b, p, none⟩) n c → n₀ ≤ b
theorem OpsNew.keep {n₀ : Nat} {w w' : World} {v : Value} {l : List OpV} (h : OpsNew n₀ w v l) (hs : w.heap.size ≤ w'.heap.size) (hk : ∀ k, n₀ ≤ k → k < w.heap.size → w'.heap[k]? = w.heap[k]?) : OpsOf w' v l := by
  refine ⟨?_, h.1.2⟩
  rcases h.1.1 with c | ⟨b, p, cap, hv, hlt, h0, hr⟩
  · exact .inl c
  · exact .inr ⟨b, p, cap, hv, Nat.lt_of_lt_of_le hlt hs, h0, fun i o hi j u hj => (World.cell?_of_block (a := ⟨b, p + i * 11 + j, none⟩) (hk b (h.2 _ _ _ _ hv) hlt)).trans (hr i o hi j u hj)⟩
theorem RowO.news {n₀ : Nat} {W : World} {g cap : Nat} {cur : Array Value} {L : List OpV} (hn : n₀ ≤ g) (hg : W.heap[g]? = some (.cells cur 35 (0, 0))) (h : RowO cur L) (hw : ∀ o ∈ L, o.Wf) : OpsNew n₀ W (.slice (some ⟨g, 0, none⟩) L.length cap) L :=
  ⟨RowO.reads hg h hw, fun b p n c e => by cases e; exact hn⟩
theorem OpsOwn.news {n₀ : Nat} {W : World} {v : Value} {l : List OpV} (h : OpsOwn n₀ W v l) (hw : ∀ o ∈ l, o.Wf) : OpsNew n₀ W v l :=
  ⟨h.reads hw, fun b p n c e => by
    rcases h.2 with ⟨rfl, _⟩ | ⟨g, cap, cur, rfl, hn, _⟩
    · cases e
    · cases e; exact hn⟩
theorem OpsOwn.row {n₀ : Nat} {W : World} {v : Value} {L : List OpV} (h : OpsOwn n₀ W v L) (h0 : 0 < L.length) : ∃ g cap cur, v = .slice (some ⟨g, 0, none⟩) L.length cap ∧ n₀ ≤ g ∧ W.heap[g]? = some (.cells cur 35 (0, 0)) ∧ L.length ≤ cap ∧ cap ≤ 9223372036854775807 ∧ cur.size = cap * 11 ∧ RowO cur L := by
  obtain ⟨h1, h2⟩ := h
  rcases h2 with ⟨rfl, h0'⟩ | ⟨g, cap, cur, rfl, hn, hg, hl, hc, hsz, ht⟩
  · omega
  · exact ⟨g, cap, cur, rfl, hn, hg, hl, by exact_mod_cast hc, hsz, ht⟩
theorem OpsOwn.on {n₀ : Nat} {W W' : World} {v : Value} {L : List OpV} (h : OpsOwn n₀ W v L) (hb : Below W.heap.size W W') : OpsOwn n₀ W' v L := by
  obtain ⟨h1, h2⟩ := h
  refine ⟨h1, ?_⟩
  rcases h2 with h | ⟨g, cap, cur, rfl, hn, hg, hr⟩
  · exact .inl h
  · exact .inr ⟨g, cap, cur, rfl, hn, (hb.block g (heap_inO hg)).trans hg, hr⟩
theorem OpsOwn.base {n₀ n₁ : Nat} {W : World} {v : Value} {L : List OpV} (h : OpsOwn n₀ W v L) (hb : n₁ ≤ n₀) : OpsOwn n₁ W v L := by
  obtain ⟨h1, h2⟩ := h
  refine ⟨h1, ?_⟩
  rcases h2 with h | ⟨g, cap, cur, rfl, hn, hr⟩
  · exact .inl h
  · exact .inr ⟨g, cap, cur, rfl, Nat.le_trans hb hn, hr⟩
theorem OpsOwn.lt_block {n₀ : Nat} {W : World} {v : Value} {L : List OpV} (h : OpsOwn n₀ W v L) {g o n c : Nat} (e : v = .slice (some ⟨g, o, none⟩) n c) : g < W.heap.size := by
  rcases h.2 with ⟨rfl, _⟩ | ⟨g', cap, cur, rfl, _, hg, _⟩
  · cases e
  · cases e; exact heap_inO hg
theorem OpsOwn.block_ge {n₀ : Nat} {W : World} {v : Value} {L : List OpV} (h : OpsOwn n₀ W v L) {g o n c : Nat} (e : v = .slice (some ⟨g, o, none⟩) n c) : n₀ ≤ g := by
  rcases h.2 with ⟨rfl, _⟩ | ⟨g', cap, cur, rfl, hn, _⟩
  · cases e
  · cases e; exact hn
/-- Cells of one block are stored into. -/
theorem below_cells {B : Nat} {w W : World} (h : Below B w W) (hw : B ≤ w.heap.size) {g : Nat} (hg : B ≤ g) (o : Nat) (vs : List Value) : Below B w (W.setCells g o vs) :=
  h.trans (Keeps.below (Keeps.setCells (own := fun j => j = g) (Keeps.refl _ _) (.inl rfl) o vs) (fun i e => by rw [show i = g from e]; exact hg) (Nat.le_trans hw h.size))
attribute [local go_sem ↓ high] app_opO
set_option maxHeartbeats 1000000 in
theorem clone_any {v : Value} {L : List OpV} {w : World} (h : OpsOf w v L) (hl : L.length ≤ 1048576) :
    Calls Try.prog 27 #[v] w fun e w' => ∃ v', e = .returned v' ∧ OpsOwn w.heap.size w' v' L ∧ Below w.heap.size w w' := by
  have q22 : ∀ (w : World) (a : Option Addr) (n c n' c' : Nat), (binOp .eql 22 (.slice a n c) (.slice none n' c')).run Try.prog w = .ok (.bool a.isNone) w := fun w a n c n' c' => Lib.run_eql_slice_nil w _ _ a n c n' c' Try.underlying22
  obtain ⟨ao, ac, rfl⟩ := h.len
  cases ao with
  | none =>
    have HL0 : Hid (L = []) := by
      rcases h.1 with ⟨e, _⟩ | ⟨b, p, cap, e, _⟩
      · exact e
      · cases e
    clear h
    go_enter Try.func27, Try.ntmps27
    go_wp2
    go_returns
    exact ⟨_, rfl, by rw [HL0.out]; exact World.ownsRow_nil _ _ _ _, Below.refl _ _⟩
  | some a =>
    have hb0 : Below w.heap.size w (w.alloc (.cells #[] 35)) := by go_grown
    obtain ⟨v', W', hr, ho, hb⟩ := ops_app (OpsOwn.made w.heap.size w (Nat.le_refl _)) (h.on hb0) hb0.size (by simp; omega)
    have HO := Lib.hid ho
    have HB := Lib.hid (hb0.trans hb)
    clear ho hb hb0 h
    go_enter Try.func27, Try.ntmps27
    go_wp2
    go_returns
    exact ⟨_, rfl, HO.out, HB.out⟩
/-- clear of one element of some cells. -/
theorem run_clear_one {P : Program} (w : World) (t e ty : TypeId) (z : Value) (ht : P.underlying t = some (.slice e)) (hv : ∀ w, (zeroValue e).run P w = .ok z w) (zs : List Value) (hz : (Builtin.zeroCells z.cells 1).toList = zs) (h1 : ∀ u ∈ zs, u.oneCell' = true) (b o c : Nat)
    (hc : ∀ j, j < zs.length → (w.cell? ⟨b, o + j, none⟩).isSome = true) (hf : ∀ j, j < zs.length → w.frozen? ⟨b, o + j, none⟩ = false) :
    (Builtin.clear_ #[t] ty #[.slice (some ⟨b, o, none⟩) 1 c]).run P w = .ok (.tuple #[]) (w.setCells b o zs) := by
  have hst := run_storeCells_cells (P := P) b o zs 0 w (by simpa using hc) (by simpa using hf) h1
  simp only [Nat.add_zero] at hst
  simp [Builtin.clear_, run_underlying ht, hv, hz, hst]
theorem zero_op (w : World) : (zeroValue 35).run Try.prog w = .ok (Value.agg #[Value.int .i64 0, Value.int .i64 0, Value.int .i64 0, Value.int .i64 0, Value.int .i64 0, Value.int .i64 0, Value.int .i64 0, Value.bool false, Value.int .i64 0, Value.int .i64 0, Value.int .i64 0]) w := Try.zeroValue35 w
end Go.Proofs.Ytgedlfilhpbfaaa
