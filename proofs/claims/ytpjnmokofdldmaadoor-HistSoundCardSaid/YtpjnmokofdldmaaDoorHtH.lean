/- Lists of operations of the call's own: cloned; one taken out (slices.Clone, slices.Delete). -/
import Derived.Test.YtpjnmokofdldmaaDoorHtB
import Derived.Lib.SliceRun
import Derived.Deep.RegionLaw
import Derived.Shelf.RegionOpenPlain
import Derived.Laws.CopyRow
namespace Go.Proofs.YtpjnmokofdldmaaDoor
set_option maxRecDepth 100000
open Go.ChangeShapes Go.WideShapes Go.ChangeAt Go.RowKit Go.PlainAid Go.Deep Go.Shelf

theorem flatO_app (a b : List OpV) : flatO (a ++ b) = flatO a ++ flatO b := by unfold flatO; rw [List.flatMap_append]
theorem flatO_take (L : List OpV) (j : Nat) : flatO (L.take j) = (flatO L).take (j * 11) := by
  by_cases h : j ≤ L.length
  · have e : (flatO (L.take j)).length = j * 11 := by rw [flatO_len, List.length_take, Nat.min_eq_left h]
    have e2 : flatO L = flatO (L.take j) ++ flatO (L.drop j) := by rw [← flatO_app, List.take_append_drop]
    rw [e2, ← e, List.take_left]
  · rw [List.take_of_length_le (by omega), List.take_of_length_le]
    rw [flatO_len]
    omega
theorem flatO_drop (L : List OpV) (j : Nat) (h : j ≤ L.length) : flatO (L.drop j) = (flatO L).drop (j * 11) := by
  have e : (flatO (L.take j)).length = j * 11 := by rw [flatO_len, List.length_take, Nat.min_eq_left h]
  have e2 : flatO L = flatO (L.take j) ++ flatO (L.drop j) := by rw [← flatO_app, List.take_append_drop]
  rw [e2, ← e, List.drop_left]
/-- A row that holds operations, and then anything. -/
def RowO (cur : Array Value) (L : List OpV) : Prop := cur.toList.take (L.length * 11) = flatO L
theorem RowO.get {cur : Array Value} {L : List OpV} (h : RowO cur L) {k : Nat} {u : Value} (hk : (flatO L)[k]? = some u) : cur[k]? = some u := by
  have hl : k < L.length * 11 := by rw [← flatO_len]; exact (List.getElem?_eq_some_iff.1 hk).1
  rw [← h, List.getElem?_take_of_lt hl, Array.getElem?_toList] at hk
  exact hk
theorem RowO.of {cur : Array Value} {L : List OpV} (h : ∀ (k : Nat) (u : Value), (flatO L)[k]? = some u → cur[k]? = some u) : RowO cur L := by
  unfold RowO
  apply List.ext_getElem?
  intro k
  by_cases c : k < L.length * 11
  · have hk : (flatO L)[k]? = some ((flatO L)[k]'(by rw [flatO_len]; exact c)) := List.getElem?_eq_getElem (by rw [flatO_len]; exact c)
    rw [List.getElem?_take_of_lt c, Array.getElem?_toList, h k _ hk, hk]
  · rw [List.getElem?_eq_none (l := cur.toList.take (L.length * 11)) (Nat.le_trans (List.length_take_le _ _) (Nat.le_of_not_lt c)), List.getElem?_eq_none (l := flatO L) (by rw [flatO_len]; exact Nat.le_of_not_lt c)]
theorem RowO.reads {W : World} {g cap : Nat} {cur : Array Value} {L : List OpV} (hg : W.heap[g]? = some (.cells cur 28 (0, 0))) (h : RowO cur L) (hw : ∀ o ∈ L, o.Wf) : OpsOf W (.slice (some ⟨g, 0, none⟩) L.length cap) L := by
  refine ⟨?_, hw⟩
  by_cases h0 : L.length = 0
  · exact .inl ⟨List.length_eq_zero_iff.1 h0, _, _, by rw [h0]⟩
  · refine .inr ⟨g, 0, cap, rfl, heap_inO hg, by omega, fun i o hi j u hj => ?_⟩
    rw [Nat.zero_add, cell_of_row _ _ _ _ _ _ hg]
    exact h.get (flatO_at L i o hi j u hj)
/-- Read from a block of the call's own. -/
def OpsNew (n₀ : Nat) (w : World) (v : Value) (l : List OpV) : Prop := OpsOf w v l ∧ ∀ b p n c, v = .slice (some ⟨b, p, none⟩) n c → n₀ ≤ b
theorem OpsNew.keep {n₀ : Nat} {w w' : World} {v : Value} {l : List OpV} (h : OpsNew n₀ w v l) (hs : w.heap.size ≤ w'.heap.size) (hk : ∀ k, n₀ ≤ k → k < w.heap.size → w'.heap[k]? = w.heap[k]?) : OpsOf w' v l := by
  refine ⟨?_, h.1.2⟩
  rcases h.1.1 with c | ⟨b, p, cap, hv, hlt, h0, hr⟩
  · exact .inl c
  · exact .inr ⟨b, p, cap, hv, Nat.lt_of_lt_of_le hlt hs, h0, fun i o hi j u hj => (World.cell?_of_block (a := ⟨b, p + i * 11 + j, none⟩) (hk b (h.2 _ _ _ _ hv) hlt)).trans (hr i o hi j u hj)⟩
theorem RowO.news {n₀ : Nat} {W : World} {g cap : Nat} {cur : Array Value} {L : List OpV} (hn : n₀ ≤ g) (hg : W.heap[g]? = some (.cells cur 28 (0, 0))) (h : RowO cur L) (hw : ∀ o ∈ L, o.Wf) : OpsNew n₀ W (.slice (some ⟨g, 0, none⟩) L.length cap) L :=
  ⟨RowO.reads hg h hw, fun b p n c e => by cases e; exact hn⟩
theorem OpsOwn.news {n₀ : Nat} {W : World} {v : Value} {l : List OpV} (h : OpsOwn n₀ W v l) (hw : ∀ o ∈ l, o.Wf) : OpsNew n₀ W v l :=
  ⟨h.reads hw, fun b p n c e => by
    rcases h.2 with ⟨rfl, _⟩ | ⟨g, cap, cur, rfl, hn, _⟩
    · cases e
    · cases e; exact hn⟩
theorem OpsOwn.row {n₀ : Nat} {W : World} {v : Value} {L : List OpV} (h : OpsOwn n₀ W v L) (h0 : 0 < L.length) : ∃ g cap cur, v = .slice (some ⟨g, 0, none⟩) L.length cap ∧ n₀ ≤ g ∧ W.heap[g]? = some (.cells cur 28 (0, 0)) ∧ L.length ≤ cap ∧ cap ≤ 9223372036854775807 ∧ cur.size = cap * 11 ∧ RowO cur L := by
  obtain ⟨h1, h2⟩ := h
  rcases h2 with ⟨rfl, h0'⟩ | ⟨g, cap, cur, rfl, hn, hg, hl, hc, hsz, ht⟩
  · omega
  · exact ⟨g, cap, cur, rfl, hn, hg, hl, by exact_mod_cast hc, hsz, ht⟩
theorem OpsOwn.on {n₀ : Nat} {W W' : World} {v : Value} {L : List OpV} (h : OpsOwn n₀ W v L) (hb : Below W.heap.size W W') : OpsOwn n₀ W' v L := by
  obtain ⟨h1, h2⟩ := h
  refine ⟨h1, ?_⟩
  rcases h2 with h | ⟨g, cap, cur, rfl, hn, hg, hr⟩
  · exact .inl h
  · exact .inr ⟨g, cap, cur, rfl, hn, (hb.block g (heap_inO hg)).trans hg, hr⟩
theorem OpsOwn.base {n₀ n₁ : Nat} {W : World} {v : Value} {L : List OpV} (h : OpsOwn n₀ W v L) (hb : n₁ ≤ n₀) : OpsOwn n₁ W v L := by
  obtain ⟨h1, h2⟩ := h
  refine ⟨h1, ?_⟩
  rcases h2 with h | ⟨g, cap, cur, rfl, hn, hr⟩
  · exact .inl h
  · exact .inr ⟨g, cap, cur, rfl, Nat.le_trans hb hn, hr⟩
theorem OpsOwn.lt_block {n₀ : Nat} {W : World} {v : Value} {L : List OpV} (h : OpsOwn n₀ W v L) {g o n c : Nat} (e : v = .slice (some ⟨g, o, none⟩) n c) : g < W.heap.size := by
  rcases h.2 with ⟨rfl, _⟩ | ⟨g', cap, cur, rfl, _, hg, _⟩
  · cases e
  · cases e; exact heap_inO hg
theorem OpsOwn.block_ge {n₀ : Nat} {W : World} {v : Value} {L : List OpV} (h : OpsOwn n₀ W v L) {g o n c : Nat} (e : v = .slice (some ⟨g, o, none⟩) n c) : n₀ ≤ g := by
  rcases h.2 with ⟨rfl, _⟩ | ⟨g', cap, cur, rfl, hn, _⟩
  · cases e
  · cases e; exact hn
/-- Cells of one block are stored into. -/
theorem below_cells {B : Nat} {w W : World} (h : Below B w W) (hw : B ≤ w.heap.size) {g : Nat} (hg : B ≤ g) (o : Nat) (vs : List Value) : Below B w (W.setCells g o vs) :=
  h.trans (Keeps.below (Keeps.setCells (own := fun j => j = g) (Keeps.refl _ _) (.inl rfl) o vs) (fun i e => by rw [show i = g from e]; exact hg) (Nat.le_trans hw h.size))
attribute [local go_sem ↓ high] app_opO
set_option maxHeartbeats 1000000 in
theorem clone_any {v : Value} {L : List OpV} {w : World} (h : OpsOf w v L) (hl : L.length ≤ 1048576) :
    Calls Tryd.prog 40 #[v] w fun e w' => ∃ v', e = .returned v' ∧ OpsOwn w.heap.size w' v' L ∧ Below w.heap.size w w' := by
  have q22 : ∀ (w : World) (a : Option Addr) (n c n' c' : Nat), (binOp .eql 22 (.slice a n c) (.slice none n' c')).run Tryd.prog w = .ok (.bool a.isNone) w := fun w a n c n' c' => Lib.run_eql_slice_nil w _ _ a n c n' c' Tryd.underlying22
  obtain ⟨ao, ac, rfl⟩ := h.len
  cases ao with
  | none =>
    have HL0 : Hid (L = []) := by
      rcases h.1 with ⟨e, _⟩ | ⟨b, p, cap, e, _⟩
      · exact e
      · cases e
    clear h
    go_enter Tryd.func40, Tryd.ntmps40
    go_wp2
    go_returns
    exact ⟨_, rfl, by rw [HL0.out]; exact World.ownsRow_nil _ _ _ _, Below.refl _ _⟩
  | some a =>
    have hb0 : Below w.heap.size w (w.alloc (.cells #[] 28)) := by go_grown
    obtain ⟨v', W', hr, ho, hb⟩ := ops_app (OpsOwn.made w.heap.size w (Nat.le_refl _)) (h.on hb0) hb0.size (by simp; omega)
    have HO := Lib.hid ho
    have HB := Lib.hid (hb0.trans hb)
    clear ho hb hb0 h
    go_enter Tryd.func40, Tryd.ntmps40
    go_wp2
    go_returns
    exact ⟨_, rfl, HO.out, HB.out⟩
/-- clear of one element of some cells. -/
theorem run_clear_one {P : Program} (w : World) (t e ty : TypeId) (z : Value) (ht : P.underlying t = some (.slice e)) (hv : ∀ w, (zeroValue e).run P w = .ok z w) (zs : List Value) (hz : (Builtin.zeroCells z.cells 1).toList = zs) (h1 : ∀ u ∈ zs, u.oneCell' = true) (b o c : Nat)
    (hc : ∀ j, j < zs.length → (w.cell? ⟨b, o + j, none⟩).isSome = true) (hf : ∀ j, j < zs.length → w.frozen? ⟨b, o + j, none⟩ = false) :
    (Builtin.clear_ #[t] ty #[.slice (some ⟨b, o, none⟩) 1 c]).run P w = .ok (.tuple #[]) (w.setCells b o zs) := by
  have hst := run_storeCells_cells (P := P) b o zs 0 w (by simpa using hc) (by simpa using hf) h1
  simp only [Nat.add_zero] at hst
  simp [Builtin.clear_, run_underlying ht, hv, hz, hst]
theorem zero_op (w : World) : (zeroValue 28).run Tryd.prog w = .ok (Value.agg #[Value.int .i64 0, Value.int .i64 0, Value.int .i64 0, Value.int .i64 0, Value.int .i64 0, Value.int .i64 0, Value.int .i64 0, Value.bool false, Value.int .i64 0, Value.int .i64 0, Value.int .i64 0]) w := Tryd.zeroValue28 w
set_option maxHeartbeats 4000000 in
/-- slices.Delete of one operation. -/
theorem delete_any {n₀ : Nat} {w : World} {v : Value} {L : List OpV} (h : OpsOwn n₀ w v L) (hw : ∀ o ∈ L, o.Wf) (hn₀ : n₀ ≤ w.heap.size) (hl : L.length ≤ 1048576) (j : Nat) (hj : j < L.length) :
    Calls Tryd.prog 41 #[v, .int .i64 j, .int .i64 ((j : Int) + 1)] w fun e w' => ∃ v', e = .returned v' ∧ OpsNew n₀ w' v' (L.take j ++ L.drop (j + 1)) ∧ Below n₀ w w' := by
  obtain ⟨g, cap, cur, rfl, hng, hg, hlc, hcm, hsz, hrow⟩ := h.row (by omega)
  obtain ⟨i0, hi0, hz0, hzs, hzb⟩ := info_parts info_op
  obtain ⟨news, hnews⟩ : ∃ news, news = flatO (L.drop (j + 1)) := ⟨_, rfl⟩
  have hnl : news.length = (L.length - (j + 1)) * 11 := by rw [hnews, flatO_len, List.length_drop]
  have hg' : w.drew.heap[g]? = some (.cells cur 28 (0, 0)) := hg
  obtain ⟨A, hA, hsrc⟩ : ∃ A : Addr, (if cap = j + 1 then some (⟨g, 0, none⟩ : Addr) else some ⟨g, (j + 1) * 11, none⟩) = some A ∧ Hid (∀ t u, news[t]? = some u → w.drew.cell? (A.add t) = some u) := by
    by_cases c : cap = j + 1
    · refine ⟨⟨g, 0, none⟩, by simp [c], fun t u hu => ?_⟩
      have h0 : news.length = 0 := by rw [hnl]; omega
      rw [List.length_eq_zero_iff.1 h0] at hu
      simp at hu
    · refine ⟨⟨g, (j + 1) * 11, none⟩, by simp [c], fun t u hu => ?_⟩
      rw [Addr.add_lit, cell_of_row _ _ _ _ _ _ hg']
      rw [hnews, flatO_drop _ _ (by omega), List.getElem?_drop] at hu
      exact hrow.get hu
  have s1 : Hid (news.length = (L.length - (j + 1)) * 11) := hnl
  have s2 : Hid (∀ u ∈ news, u.oneCell' = true) := by rw [hnews]; exact flatO_one _
  have s3 : Hid (∀ t, t < news.length → (w.drew.cell? ⟨g, 0 + j * 11 + t, none⟩).isSome = true ∧ w.drew.frozen? ⟨g, 0 + j * 11 + t, none⟩ = false) := fun t ht => by
    refine ⟨?_, frozen_of_row _ _ _ _ _ hg'⟩
    rw [cell_of_row _ _ _ _ _ _ hg', Array.getElem?_eq_getElem (by omega)]
    rfl
  obtain ⟨W1, hW1⟩ : ∃ W1, W1 = w.drew.setCells g (0 + j * 11) news := ⟨_, rfl⟩
  obtain ⟨cs1, b1, b2, b3, b4⟩ := heap_setCells_same g 28 news (0 + j * 11) w.drew cur hg' (by rw [hnl]; omega)
  rw [← hW1] at b1
  obtain ⟨zs, hzs'⟩ : ∃ zs : List Value, (Builtin.zeroCells (Value.agg #[Value.int .i64 0, Value.int .i64 0, Value.int .i64 0, Value.int .i64 0, Value.int .i64 0, Value.int .i64 0, Value.int .i64 0, Value.bool false, Value.int .i64 0, Value.int .i64 0, Value.int .i64 0]).cells 1).toList = zs := ⟨_, rfl⟩
  have hz11 : zs.length = 11 := by rw [← hzs']; kernel_rfl
  have hz1 : ∀ u ∈ zs, u.oneCell' = true := by
    rw [← hzs']
    have : ((Builtin.zeroCells (Value.agg #[Value.int .i64 0, Value.int .i64 0, Value.int .i64 0, Value.int .i64 0, Value.int .i64 0, Value.int .i64 0, Value.int .i64 0, Value.bool false, Value.int .i64 0, Value.int .i64 0, Value.int .i64 0]).cells 1).toList.all fun u => u.oneCell') = true := by kernel_rfl
    exact fun u hu => List.all_eq_true.1 this u hu
  have hcl : ∀ ty c, (Builtin.clear_ #[22] ty #[.slice (some ⟨g, (j + (L.length - (j + 1))) * 11, none⟩) 1 c]).run Tryd.prog W1 = .ok (.tuple #[]) (W1.setCells g ((j + (L.length - (j + 1))) * 11) zs) :=
    fun ty c => run_clear_one W1 _ _ ty _ Tryd.underlying22 zero_op zs hzs' hz1 g _ c (fun t ht => by rw [cell_of_row _ _ _ _ _ _ b1, Array.getElem?_eq_getElem (by omega)]; rfl) (fun t _ => frozen_of_row _ _ _ _ _ b1)
  obtain ⟨cs2, d1, d2, d3, d4⟩ := heap_setCells_same g 28 zs ((j + (L.length - (j + 1))) * 11) W1 cs1 b1 (by omega)
  have hlen : (L.take j ++ L.drop (j + 1)).length = j + (L.length - (j + 1)) := by rw [List.length_append, List.length_take, List.length_drop]; omega
  have R2 : Hid (OpsNew n₀ (W1.setCells g ((j + (L.length - (j + 1))) * 11) zs) (.slice (some ⟨g, 0, none⟩) (j + (L.length - (j + 1))) cap) (L.take j ++ L.drop (j + 1))) := by
    have hr : RowO cs2 (L.take j ++ L.drop (j + 1)) := RowO.of fun k u hk => by
      have hkl : k < (j + (L.length - (j + 1))) * 11 := by rw [← hlen, ← flatO_len]; exact (List.getElem?_eq_some_iff.1 hk).1
      rw [d4 _ (.inl hkl)]
      rw [flatO_app] at hk
      have e : (flatO (L.take j)).length = j * 11 := by rw [flatO_len, List.length_take, Nat.min_eq_left (by omega)]
      by_cases c : k < j * 11
      · rw [List.getElem?_append_left (by omega)] at hk
        rw [b4 _ (.inl (by omega))]
        rw [flatO_take, List.getElem?_take_of_lt c] at hk
        exact hrow.get hk
      · rw [List.getElem?_append_right (by omega), e] at hk
        have := b3 (k - j * 11) (by rw [hnews]; exact (List.getElem?_eq_some_iff.1 hk).1)
        rw [show 0 + j * 11 + (k - j * 11) = k by omega] at this
        rw [this, hnews, hk]
    have := RowO.news (cap := cap) hng d1 hr (fun o ho => by
      rcases List.mem_append.1 ho with c | c
      · exact hw o (List.mem_of_mem_take c)
      · exact hw o (List.mem_of_mem_drop c))
    rw [hlen] at this
    exact this
  have HB : Hid (Below n₀ w (W1.setCells g ((j + (L.length - (j + 1))) * 11) zs)) := by
    refine below_cells ?_ hn₀ hng _ _
    rw [hW1]
    exact below_cells (⟨rfl, rfl, rfl, Nat.le_refl _, fun _ _ => rfl⟩ : Below n₀ w w.drew) hn₀ hng _ _
  have hW : Hid (W1 = w.drew.setCells g (0 + j * 11) news) := hW1
  have hic : j ≤ cap := by omega
  have hjc : j + 1 ≤ cap := by omega
  have hjl : (j : Int) + 1 ≤ (L.length : Int) := by omega
  have hne : ((j : Int) == (j : Int) + 1) = false := beq_eq_false_iff_ne.2 (by omega)
  have hsub : L.length - (j + (L.length - (j + 1))) = 1 := by omega
  have htn : ((j : Int) + 1).toNat = j + 1 := by omega
  have h01 : (0 : Int) ≤ (j : Int) + 1 := by omega
  have mixed : Tryd.prog.follows Departure.mixedOrders = true := by kernel_rfl
  clear hW1 hlen b1 b2 b3 b4 d1 d2 d3 d4 hg hg' hnews hnl hrow hsz hz11 hz1 hzs' h hw
  go_enter Tryd.func41, Tryd.ntmps41
  go_wp2_with fail
  go_region_law_o (refine step_append_room rfl (.tmp 22) (.tmp 25) 22 rfl 28 i0 11 Tryd.underlying22 hi0 hzs g 0 j cap (by simp [Act.eval, Act.put]) A (L.length - (j + 1)) (cap - (j + 1)) news (by simp [Act.eval, Act.put]) s1.out hsrc.out s2.out (by omega) s3.out ?_; rw [← hW.out])
  go_wp2
  go_returns
  exact ⟨_, rfl, R2.out, HB.out⟩
end Go.Proofs.YtpjnmokofdldmaaDoor
