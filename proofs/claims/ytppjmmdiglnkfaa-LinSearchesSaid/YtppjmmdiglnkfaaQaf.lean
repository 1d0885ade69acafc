/- Package hist: place, Get; the reference's Get. Lists of operations of the call's own: cloned; one taken out (slices.Clone, slices.Delete). Slices of numbers: a parameter, and those that the call itself makes. -/
import Derived.Test.YtppjmmdiglnkfaaQae
import Derived.Lib.SliceRun
import Derived.Deep.RegionLaw
import Derived.Shelf.RegionOpenPlain
import Derived.Laws.CopyRow
import Derived.Test.YtppjmmdiglnkfaaRows
import Derived.Test.YtppjmmdiglnkfaaQaa
import Derived.OpenShut
import Derived.SizedLaws
import Derived.OwnWalk
import Derived.Deep.Slices
import Derived.Deep.Fields
import Derived.Deep.MidRow
import Derived.ChangeSame
import Derived.Deep.AppendLies
namespace Go.Proofs.Ytppjmmdiglnkfaa
set_option maxRecDepth 100000
open Go.ChangeShapes Go.WideShapes Go.ChangeAt Go.RowKit Go.PlainAid Go.Deep

attribute [local go_sem ↓ high] load_op store_o
theorem below_drewN (w : World) (q : Nat) : Below w.heap.size w (w.drewN q) := ⟨rfl, rfl, rfl, Nat.le_refl _, fun _ _ => rfl⟩
theorem cmp_lt {a b : Int} : cmpZ a b < 0 ↔ a < b := by unfold cmpZ; split <;> (try split) <;> omega
theorem cmp_eq {a b : Int} : cmpZ a b = 0 ↔ a = b := by unfold cmpZ; split <;> (try split) <;> omega
theorem rise_le {l : List OpV} (hr : RiseO l) {s t : Nat} {a b : OpV} (h : s ≤ t) (ha : l[s]? = some a) (hb : l[t]? = some b) : a.id ≤ b.id := by
  rcases Nat.lt_or_ge s t with c | c
  · obtain ⟨h1, rfl⟩ := List.getElem?_eq_some_iff.1 ha
    obtain ⟨h2, rfl⟩ := List.getElem?_eq_some_iff.1 hb
    exact Int.le_of_lt (List.pairwise_iff_getElem.1 hr s t h1 h2 c)
  · obtain rfl : s = t := by omega
    rw [ha] at hb
    rw [Option.some.inj hb]
    exact Int.le_refl _
end Go.Proofs.Ytppjmmdiglnkfaa
namespace Go.Proofs.Ytppjmmdiglnkfaa
set_option maxRecDepth 100000
open Go.ChangeShapes Go.WideShapes Go.ChangeAt Go.RowKit Go.PlainAid Go.Deep Go.Shelf

theorem flatO_app (a b : List OpV) : flatO (a ++ b) = flatO a ++ flatO b := by unfold flatO; rw [List.flatMap_append]
theorem flatO_take (L : List OpV) (j : Nat) : flatO (L.take j) = (flatO L).take (j * 11) := by
  by_cases h : j ≤ L.length
  · have e : (flatO (L.take j)).length = j * 11 := by rw [flatO_len, List.length_take, Nat.min_eq_left h]
    have e2 : flatO L = flatO (L.take j) ++ flatO (L.drop j) := by rw [← flatO_app, List.take_append_drop]
    rw [e2, ← e, List.take_left]
  · rw [List.take_of_length_le (by omega), List.take_of_length_le]
    rw [flatO_len]
    omega
theorem flatO_drop (L : List OpV) (j : Nat) (h : j ≤ L.length) : flatO (L.drop j) = (flatO L).drop (j * 11) := by
  have e : (flatO (L.take j)).length = j * 11 := by rw [flatO_len, List.length_take, Nat.min_eq_left h]
  have e2 : flatO L = flatO (L.take j) ++ flatO (L.drop j) := by rw [← flatO_app, List.take_append_drop]
  rw [e2, ← e, List.drop_left]
/-- A row that holds operations, and then anything. -/
def RowO (cur : Array Value) (L : List OpV) : Prop := cur.toList.take (L.length * 11) = flatO L
theorem RowO.get {cur : Array Value} {L : List OpV} (h : RowO cur L) {k : Nat} {u : Value} (hk : (flatO L)[k]? = some u) : cur[k]? = some u := by
  have hl : k < L.length * 11 := by rw [← flatO_len]; exact (List.getElem?_eq_some_iff.1 hk).1
  rw [← h, List.getElem?_take_of_lt hl, Array.getElem?_toList] at hk
  exact hk
theorem RowO.of {cur : Array Value} {L : List OpV} (h : ∀ (k : Nat) (u : Value), (flatO L)[k]? = some u → cur[k]? = some u) : RowO cur L := by
  unfold RowO
  apply List.ext_getElem?
  intro k
  by_cases c : k < L.length * 11
  · have hk : (flatO L)[k]? = some ((flatO L)[k]'(by rw [flatO_len]; exact c)) := List.getElem?_eq_getElem (by rw [flatO_len]; exact c)
    rw [List.getElem?_take_of_lt c, Array.getElem?_toList, h k _ hk, hk]
  · rw [List.getElem?_eq_none (l := cur.toList.take (L.length * 11)) (Nat.le_trans (List.length_take_le _ _) (Nat.le_of_not_lt c)), List.getElem?_eq_none (l := flatO L) (by rw [flatO_len]; exact Nat.le_of_not_lt c)]
theorem RowO.reads {W : World} {g cap : Nat} {cur : Array Value} {L : List OpV} (hg : W.heap[g]? = some (.cells cur 43 (0, 0))) (h : RowO cur L) (hw : ∀ o ∈ L, o.Wf) : OpsOf W (.slice (some ⟨g, 0, none⟩) L.length cap) L := by
  refine ⟨?_, hw⟩
  by_cases h0 : L.length = 0
  · exact .inl ⟨List.length_eq_zero_iff.1 h0, _, _, by rw [h0]⟩
  · refine .inr ⟨g, 0, cap, rfl, heap_inO hg, by omega, fun i o hi j u hj => ?_⟩
    rw [Nat.zero_add, cell_of_row _ _ _ _ _ _ hg]
    exact h.get (flatO_at L i o hi j u hj)
/-- Read from a block of the call's own. -/
def OpsNew (n₀ : Nat) (w : World) (v : Value) (l : List OpV) : Prop := OpsOf w v l ∧ ∀ b p n c, v = .slice (some ⟨b, p, none⟩) n c → n₀ ≤ b
theorem OpsNew.keep {n₀ : Nat} {w w' : World} {v : Value} {l : List OpV} (h : OpsNew n₀ w v l) (hs : w.heap.size ≤ w'.heap.size) (hk : ∀ k, n₀ ≤ k → k < w.heap.size → w'.heap[k]? = w.heap[k]?) : OpsOf w' v l := by
  refine ⟨?_, h.1.2⟩
  rcases h.1.1 with c | ⟨b, p, cap, hv, hlt, h0, hr⟩
  · exact .inl c
  · exact .inr ⟨b, p, cap, hv, Nat.lt_of_lt_of_le hlt hs, h0, fun i o hi j u hj => (World.cell?_of_block (a := ⟨b, p + i * 11 + j, none⟩) (hk b (h.2 _ _ _ _ hv) hlt)).trans (hr i o hi j u hj)⟩
theorem RowO.news {n₀ : Nat} {W : World} {g cap : Nat} {cur : Array Value} {L : List OpV} (hn : n₀ ≤ g) (hg : W.heap[g]? = some (.cells cur 43 (0, 0))) (h : RowO cur L) (hw : ∀ o ∈ L, o.Wf) : OpsNew n₀ W (.slice (some ⟨g, 0, none⟩) L.length cap) L :=
  ⟨RowO.reads hg h hw, fun b p n c e => by cases e; exact hn⟩
theorem OpsOwn.news {n₀ : Nat} {W : World} {v : Value} {l : List OpV} (h : OpsOwn n₀ W v l) (hw : ∀ o ∈ l, o.Wf) : OpsNew n₀ W v l :=
  ⟨h.reads hw, fun b p n c e => by
    rcases h.2 with ⟨rfl, _⟩ | ⟨g, cap, cur, rfl, hn, _⟩
    · cases e
    · cases e; exact hn⟩
theorem OpsOwn.row {n₀ : Nat} {W : World} {v : Value} {L : List OpV} (h : OpsOwn n₀ W v L) (h0 : 0 < L.length) : ∃ g cap cur, v = .slice (some ⟨g, 0, none⟩) L.length cap ∧ n₀ ≤ g ∧ W.heap[g]? = some (.cells cur 43 (0, 0)) ∧ L.length ≤ cap ∧ cap ≤ 9223372036854775807 ∧ cur.size = cap * 11 ∧ RowO cur L := by
  obtain ⟨h1, h2⟩ := h
  rcases h2 with ⟨rfl, h0'⟩ | ⟨g, cap, cur, rfl, hn, hg, hl, hc, hsz, ht⟩
  · omega
  · exact ⟨g, cap, cur, rfl, hn, hg, hl, by exact_mod_cast hc, hsz, ht⟩
theorem OpsOwn.on {n₀ : Nat} {W W' : World} {v : Value} {L : List OpV} (h : OpsOwn n₀ W v L) (hb : Below W.heap.size W W') : OpsOwn n₀ W' v L := by
  obtain ⟨h1, h2⟩ := h
  refine ⟨h1, ?_⟩
  rcases h2 with h | ⟨g, cap, cur, rfl, hn, hg, hr⟩
  · exact .inl h
  · exact .inr ⟨g, cap, cur, rfl, hn, (hb.block g (heap_inO hg)).trans hg, hr⟩
theorem OpsOwn.base {n₀ n₁ : Nat} {W : World} {v : Value} {L : List OpV} (h : OpsOwn n₀ W v L) (hb : n₁ ≤ n₀) : OpsOwn n₁ W v L := by
  obtain ⟨h1, h2⟩ := h
  refine ⟨h1, ?_⟩
  rcases h2 with h | ⟨g, cap, cur, rfl, hn, hr⟩
  · exact .inl h
  · exact .inr ⟨g, cap, cur, rfl, Nat.le_trans hb hn, hr⟩
theorem OpsOwn.lt_block {n₀ : Nat} {W : World} {v : Value} {L : List OpV} (h : OpsOwn n₀ W v L) {g o n c : Nat} (e : v = .slice (some ⟨g, o, none⟩) n c) : g < W.heap.size := by
  rcases h.2 with ⟨rfl, _⟩ | ⟨g', cap, cur, rfl, _, hg, _⟩
  · cases e
  · cases e; exact heap_inO hg
theorem OpsOwn.block_ge {n₀ : Nat} {W : World} {v : Value} {L : List OpV} (h : OpsOwn n₀ W v L) {g o n c : Nat} (e : v = .slice (some ⟨g, o, none⟩) n c) : n₀ ≤ g := by
  rcases h.2 with ⟨rfl, _⟩ | ⟨g', cap, cur, rfl, hn, _⟩
  · cases e
  · cases e; exact hn
/-- Cells of one block are stored into. -/
theorem below_cells {B : Nat} {w W : World} (h : Below B w W) (hw : B ≤ w.heap.size) {g : Nat} (hg : B ≤ g) (o : Nat) (vs : List Value) : Below B w (W.setCells g o vs) :=
  h.trans (Keeps.below (Keeps.setCells (own := fun j => j = g) (Keeps.refl _ _) (.inl rfl) o vs) (fun i e => by rw [show i = g from e]; exact hg) (Nat.le_trans hw h.size))
attribute [local go_sem ↓ high] app_opO
set_option maxHeartbeats 1000000 in
theorem clone_any {v : Value} {L : List OpV} {w : World} (h : OpsOf w v L) (hl : L.length ≤ 1048576) :
    Calls Try.prog 83 #[v] w fun e w' => ∃ v', e = .returned v' ∧ OpsOwn w.heap.size w' v' L ∧ Below w.heap.size w w' := by
  have q22 : ∀ (w : World) (a : Option Addr) (n c n' c' : Nat), (binOp .eql 22 (.slice a n c) (.slice none n' c')).run Try.prog w = .ok (.bool a.isNone) w := fun w a n c n' c' => Lib.run_eql_slice_nil w _ _ a n c n' c' Try.underlying22
  obtain ⟨ao, ac, rfl⟩ := h.len
  cases ao with
  | none =>
    have HL0 : Hid (L = []) := by
      rcases h.1 with ⟨e, _⟩ | ⟨b, p, cap, e, _⟩
      · exact e
      · cases e
    clear h
    go_enter Try.func83, Try.ntmps83
    go_wp2
    go_returns
    exact ⟨_, rfl, by rw [HL0.out]; exact World.ownsRow_nil _ _ _ _, Below.refl _ _⟩
  | some a =>
    have hb0 : Below w.heap.size w (w.alloc (.cells #[] 43)) := by go_grown
    obtain ⟨v', W', hr, ho, hb⟩ := ops_app (OpsOwn.made w.heap.size w (Nat.le_refl _)) (h.on hb0) hb0.size (by simp; omega)
    have HO := Lib.hid ho
    have HB := Lib.hid (hb0.trans hb)
    clear ho hb hb0 h
    go_enter Try.func83, Try.ntmps83
    go_wp2
    go_returns
    exact ⟨_, rfl, HO.out, HB.out⟩
/-- clear of one element of some cells. -/
theorem run_clear_one {P : Program} (w : World) (t e ty : TypeId) (z : Value) (ht : P.underlying t = some (.slice e)) (hv : ∀ w, (zeroValue e).run P w = .ok z w) (zs : List Value) (hz : (Builtin.zeroCells z.cells 1).toList = zs) (h1 : ∀ u ∈ zs, u.oneCell' = true) (b o c : Nat)
    (hc : ∀ j, j < zs.length → (w.cell? ⟨b, o + j, none⟩).isSome = true) (hf : ∀ j, j < zs.length → w.frozen? ⟨b, o + j, none⟩ = false) :
    (Builtin.clear_ #[t] ty #[.slice (some ⟨b, o, none⟩) 1 c]).run P w = .ok (.tuple #[]) (w.setCells b o zs) := by
  have hst := run_storeCells_cells (P := P) b o zs 0 w (by simpa using hc) (by simpa using hf) h1
  simp only [Nat.add_zero] at hst
  simp [Builtin.clear_, run_underlying ht, hv, hz, hst]
theorem zero_op (w : World) : (zeroValue 43).run Try.prog w = .ok (Value.agg #[Value.int .i64 0, Value.int .i64 0, Value.int .i64 0, Value.int .i64 0, Value.int .i64 0, Value.int .i64 0, Value.int .i64 0, Value.bool false, Value.int .i64 0, Value.int .i64 0, Value.int .i64 0]) w := Try.zeroValue43 w
end Go.Proofs.Ytppjmmdiglnkfaa
namespace Go.Proofs.Ytppjmmdiglnkfaa
set_option maxRecDepth 100000
open Go.ChangeShapes Go.WideShapes Go.ChangeAt Go.RowKit Go.PlainAid Go.Deep

/-- The numbers that a slice reads as, in world w. -/
def IntsOf (w : World) (v : Value) (l : List Int) : Prop :=
  (l = [] ∧ ∃ ao cap, v = .slice ao 0 cap) ∨ ∃ b o cap, v = .slice (some ⟨b, o, none⟩) l.length cap ∧ b < w.heap.size ∧ 0 < l.length ∧ (l.length : Int) ≤ 9223372036854775807 ∧ ∀ (i : Nat) (x : Int), l[i]? = some x → (-9223372036854775808 ≤ x ∧ x ≤ 9223372036854775807) ∧ w.cell? ⟨b, o + i, none⟩ = some (.int .i64 x)
theorem IntsOf.on {w w' : World} {v : Value} {l : List Int} (h : IntsOf w v l) (hb : Below w.heap.size w w') : IntsOf w' v l := by
  rcases h with h | ⟨b, o, cap, hv, hlt, h0, hm, hr⟩
  · exact .inl h
  · exact .inr ⟨b, o, cap, hv, Nat.lt_of_lt_of_le hlt hb.size, h0, hm, fun i x hx => ⟨(hr i x hx).1, (hb.cell (p := ⟨b, o + i, none⟩) hlt).trans (hr i x hx).2⟩⟩
theorem ints_open {H : Type} {enc : TypeId × Value → H} {w : World} {base b0 : Nat} {sp : Nat → Bool} {held : Bool} {r : Reach} {v : Value} {d : DataW H} {p : List MemPlace}
    (hv : Value.okWide Try.prog w r b0 27 v) (h : DataW.Trod enc Try.prog w base sp held 27 v d p) : ∃ l : List Int, IntsOf w v l := by
  obtain ⟨ao, len0, cap0, rfl⟩ := okWide_slice Try.underlying27 hv
  obtain ⟨fuel, hf⟩ := h
  rcases open_slice Try.underlying27 hf with ⟨h0, _⟩ | ⟨a, len, cap, m, n, Dt, Pl, hcs, hb, hl, hm, hmm, _, hi⟩
  · refine ⟨[], .inl ⟨rfl, ao, cap0, ?_⟩⟩
    have : Value.slice ao len0 cap0 = .slice none 0 0 := by simpa [Value.cells] using h0
    cases this
    rfl
  · have e : Value.slice ao len0 cap0 = .slice (some a) len cap := by simpa [Value.cells] using hcs
    cases e
    have hC : Try.prog.cellsOf 3 = 1 := by kernel_rfl
    have hlm : len0 ≤ m := by rw [hmm]; split <;> omega
    by_cases h0 : len0 = 0
    · subst h0
      exact ⟨[], .inl ⟨rfl, _, _, rfl⟩⟩
    · have each : ∀ i, ∃ y : Int, i < len0 → (-9223372036854775808 ≤ y ∧ y ≤ 9223372036854775807) ∧ w.cell? (a.add i) = some (.int .i64 y) := fun i => by
        by_cases c : i < len0
        · obtain ⟨cs', hc, ht⟩ := hi i (by omega)
          rw [hC] at hc
          obtain ⟨_, hcl, hat⟩ := World.cells?_some hc
          obtain ⟨y, hy, _, hw⟩ := DataW.trod_int Try.underlying3 ht
          refine ⟨y, fun _ => ⟨bounds_i64 hw, ?_⟩⟩
          have := hat 0 (by omega)
          rw [hy, Go.Deep.add_add, Nat.mul_one, Nat.add_zero] at this
          exact this
        · exact ⟨0, fun h => absurd h c⟩
      obtain ⟨f, hf'⟩ := Classical.axiomOfChoice each
      have h00 := (hf' 0 (by omega)).2
      obtain ⟨b, off, spot⟩ := a
      have hspot : spot = none := by simpa [Addr.add] using World.cell?_spot h00
      subst hspot
      refine ⟨(List.range len0).map f, .inr ⟨b, off, cap0, by simp, World.block_lt_of_cell? w _ h00, by simp; omega, by simp; unfold maxLen at hm; omega, fun i x hx => ?_⟩⟩
      have hil : i < len0 := by have := (List.getElem?_eq_some_iff.1 hx).1; simpa using this
      have hxf : f i = x := by simpa [List.getElem?_map, List.getElem?_range hil] using hx
      subst hxf
      obtain ⟨hw, hc⟩ := hf' i hil
      exact ⟨hw, by rw [← hc, Addr.add_mid]⟩
theorem heap_inI {w : World} {k : Nat} {o : Obj} (h : w.heap[k]? = some o) : k < w.heap.size := (Array.getElem?_eq_some_iff.1 h).1
theorem ownsRow_onI {w w' : World} {base : Nat} {e : TypeId} {size : Nat} {v : Value} {n : Nat} {xs : List Value} (h : w.ownsRow base e size v n xs) (b : Below w.heap.size w w') : w'.ownsRow base e size v n xs := by
  obtain ⟨h1, h2⟩ := h
  refine ⟨h1, ?_⟩
  rcases h2 with h2 | ⟨g, cap, cur, hv, hb, hg, h3⟩
  · exact .inl h2
  · exact .inr ⟨g, cap, cur, hv, hb, (b.block g (heap_inI hg)).trans hg, h3⟩
theorem ownsRow_baseI {w : World} {base base' : Nat} {e : TypeId} {size : Nat} {v : Value} {n : Nat} {xs : List Value} (h : w.ownsRow base e size v n xs) (b : base' ≤ base) : w.ownsRow base' e size v n xs := by
  obtain ⟨h1, h2⟩ := h
  refine ⟨h1, ?_⟩
  rcases h2 with h2 | ⟨g, cap, cur, hv, hb, h3⟩
  · exact .inl h2
  · exact .inr ⟨g, cap, cur, hv, Nat.le_trans b hb, h3⟩
theorem info_intI : (Try.prog.info? 3).map (fun i => (i.zero, i.size, i.bytes)) = some (some (.int .i64 0), 1, 8) := by kernel_rfl
/-- An append to a slice of numbers, as one action. -/
def appII (vs : Array Value) : Sem Value := Builtin.append_ #[27, 27] 27 vs
theorem app_intI (vs : Array Value) : Builtin.append_ #[27, 27] 27 vs = appII vs := rfl
/-- A slice of the call's own with these numbers. -/
def IntsOwn (n₀ : Nat) (W : World) (v : Value) (L : List Int) : Prop := W.ownsRow n₀ 3 1 v L.length (L.map (Value.int .i64))
/-- One number more. -/
theorem row_pushI {n₀ : Nat} {W : World} {L : List Int} {v : Value} (hrow : IntsOwn n₀ W v L) (hn : n₀ ≤ W.heap.size) (hlen : L.length ≤ 1048576) (x : Int) (m : Nat) (hm : L.length = m) :
    ∃ g cap w2, (appII #[v, .slice (some ⟨W.heap.size, 0, none⟩) 1 1]).run Try.prog (W.alloc (.cells #[.int .i64 x] 3)) = .ok (.slice (some ⟨g, 0, none⟩) (m + 1) cap) w2 ∧
      IntsOwn n₀ w2 (.slice (some ⟨g, 0, none⟩) (m + 1) cap) (L ++ [x]) ∧ (W.alloc (.cells #[.int .i64 x] 3)).grownBy w2 v.ownBlock ∧ Below n₀ W w2 := by
  subst hm
  obtain ⟨i0, hi, hz0, hz1, hz2⟩ := info_parts info_intI
  have hq := heap_alloc_new W (.cells #[.int .i64 x] 3)
  have hba : Below W.heap.size W (W.alloc (.cells #[.int .i64 x] 3)) := by go_grown
  obtain ⟨g, cap, w2, hr, h2, h3, _, _⟩ := run_append_lies (P := Try.prog) (w := W.alloc (.cells #[.int .i64 x] 3)) 27 27 n₀ 3 i0 (.int .i64 0) 1 8 Try.underlying27 hi hz0 hz1 hz2 rfl (by decide) v L.length (L.map (Value.int .i64)) (ownsRow_onI hrow hba) ⟨W.heap.size, 0, none⟩ 1 1 [.int .i64 x] rfl
    (fun j u hu => by
      rcases j with _ | j
      · have : Value.int .i64 x = u := by simpa using hu
        rw [← this]
        show (W.alloc (.cells #[.int .i64 x] 3)).cell? ⟨W.heap.size, 0, none⟩ = _
        rw [cell_of_row _ _ _ _ _ _ hq]
        rfl
      · simp at hu) (fun u hu => by have : u = .int .i64 x := by simpa using hu
                                    rw [this]; rfl) (by decide) (by unfold maxLen; omega) (by omega) (by rw [World.size_alloc]; omega) _ rfl
  refine ⟨g, cap, w2, hr, ?_, h3, (hba.mono hn).grown h3 (by rw [World.size_alloc]; omega) (fun k e => (hrow.lt k e).1)⟩
  unfold IntsOwn
  rw [List.length_append, List.map_append]
  exact h2
/-- A slice of the call's own reads as its numbers. -/
theorem IntsOwn.reads {n₀ : Nat} {W : World} {v : Value} {L : List Int} (h : IntsOwn n₀ W v L) (hm : L.length ≤ 1048576) (hb : ∀ x ∈ L, -9223372036854775808 ≤ x ∧ x ≤ 9223372036854775807) : IntsOf W v L := by
  obtain ⟨h1, h2⟩ := h
  rcases h2 with ⟨rfl, h0⟩ | ⟨g, cap, cur, rfl, _, hg, hn, hc, hsz, ht⟩
  · refine .inl ⟨List.length_eq_zero_iff.1 (by simpa using h0), none, 0, rfl⟩
  · by_cases h0 : L.length = 0
    · exact .inl ⟨List.length_eq_zero_iff.1 h0, _, _, by rw [h0]⟩
    · refine .inr ⟨g, 0, cap, rfl, heap_inI hg, by omega, by omega, fun i x hx => ⟨hb x (List.mem_of_getElem? hx), ?_⟩⟩
      rw [Nat.zero_add, cell_of_row _ _ _ _ _ _ hg]
      have hi : i < L.length := (List.getElem?_eq_some_iff.1 hx).1
      have := congrArg (fun l => l[i]?) ht
      simp only [List.getElem?_map, hx, Option.map_some] at this
      rw [← this, Nat.mul_one, List.getElem?_take_of_lt hi, Array.getElem?_toList]
end Go.Proofs.Ytppjmmdiglnkfaa
