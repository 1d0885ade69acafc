/- Contracts of the reference: Drop. -/
import Derived.Test.YtomgiemnkbjebaaCacT
import Derived.Deep.RegionLaw
namespace Go.Proofs.Ytomgiemnkbjebaa
set_option maxRecDepth 100000
open Go.ChangeShapes Go.WideShapes Go.ChangeAt Go.RowKit Go.PlainAid

namespace KA
/-- Without a key. -/
def noK (k : Int) (L : List E) : List E := L.filter fun x => !decide (x.key = k)
theorem noK_take {k : Int} {L : List E} {j : Nat} {x : E} (hx : L[j]? = some x) : (x.key = k → noK k (L.take (j + 1)) = noK k (L.take j)) ∧ (x.key ≠ k → noK k (L.take (j + 1)) = noK k (L.take j) ++ [x]) := by
  unfold noK
  rw [List.take_add_one, hx, List.filter_append]
  constructor
  · intro h
    simp [h]
  · intro h
    simp [h]
theorem noK_len (k : Int) (L : List E) : (noK k L).length ≤ L.length := List.length_filter_le _ _
theorem items_set {n₀ p o : Nat} {w : World} {v u : Value} {L : List E} (h : Items n₀ w v L) (hp : p < n₀) : Items n₀ (w.setCell ⟨p, o, none⟩ u) v L := by
  obtain ⟨h1, h2⟩ := h
  refine ⟨h1, ?_⟩
  rcases h2 with h2 | ⟨g, cap, cur, hv, hb, hg, h3⟩
  · exact .inl h2
  · exact .inr ⟨g, cap, cur, hv, hb, by rw [← hg]; exact heap_setCell_other _ _ _ _ (show g ≠ p by omega), h3⟩
theorem store_c (p v : Value) : Instr.storeAt 29 p v = storeS 29 p v := rfl
def cacheC (most : Int) (u : Value) : Array Value := #[.int .i64 most, u]
/-- A box of a cache of the reference. -/
def BoxC (w : World) (q : Nat) (most : Int) (u : Value) : Prop := w.heap[q]? = some (.cells #[.int .i64 most, u] 29 (0, 0))
theorem BoxC.read {w : World} {q : Nat} {most : Int} {u : Value} (h : BoxC w q most u) : w.cell? ⟨q, 0, none⟩ = some (.int .i64 most) ∧ w.cell? ⟨q, 1, none⟩ = some u ∧ w.frozen? ⟨q, 1, none⟩ = false :=
  ⟨by rw [cell_of_row _ _ _ _ _ _ h]; rfl, by rw [cell_of_row _ _ _ _ _ _ h]; rfl, frozen_of_row _ _ _ _ _ h⟩
theorem BoxC.on {w w' : World} {q : Nat} {most : Int} {u : Value} (h : BoxC w q most u) {B : Nat} (b : Below B w w') (hq : q < B) : BoxC w' q most u := (b.block q hq).trans h
theorem BoxC.set {w : World} {q : Nat} {most : Int} {u : Value} (h : BoxC w q most u) (u' : Value) : BoxC (w.setCell ⟨q, 1, none⟩ u') q most u' := by
  unfold BoxC
  rw [heap_setCell_same w q 1 _ _ u' h]
  rfl
theorem BoxC.store {w : World} {q : Nat} {most : Int} {u : Value} (h : BoxC w q most u) (m' : Int) (u' : Value) (h1 : u'.oneCell' = true) :
    ∃ w', (storeS 29 (.pointer (some ⟨q, 0, none⟩)) (.agg #[.int .i64 m', u'])).run Try.prog w = .ok () w' ∧ BoxC w' q m' u' ∧ (∀ k, k ≠ q → w'.heap[k]? = w.heap[k]?) ∧ (∀ B w0, Below B w0 w → B ≤ q → Below B w0 w') ∧ w'.heap.size = w.heap.size := by
  have hsz : (Try.prog.info? 29).map (·.size) = some 2 := by kernel_rfl
  have hs := run_storeVar_row (P := Try.prog) w q 29 29 #[.int .i64 most, u] #[.int .i64 m', u'] h (by rw [hsz]; rfl) rfl (all_oneCell_toArray (fun v hv => by
    rcases List.mem_cons.1 hv with rfl | hv
    · rfl
    · rw [List.mem_singleton] at hv
      rw [hv]
      exact h1))
  refine ⟨w.setRow q #[.int .i64 m', u'], ?_, setRow_heap _ _ _ _ _ _ h, fun k hk => setRow_other _ _ _ _ hk, fun B w0 hb hq => below_row hb hq _, by simp⟩
  unfold storeS
  simp only [Instr.storeAt, Instr.sureAddr, Sem.run_bind, Sem.run_pure, Result.andThen_ok, hs]
theorem below_set {B q o : Nat} {w0 w : World} (h : Below B w0 w) (hq : B ≤ q) (u : Value) : Below B w0 (w.setCell ⟨q, o, none⟩ u) := h.setCell (p := ⟨q, o, none⟩) hq u
attribute [local go_sem ↓ high] store_i app_i build_i store_c
theorem items_on {n₀ : Nat} {w w' : World} {v : Value} {L : List E} (h : Items n₀ w v L) (hk : ∀ k, n₀ ≤ k → k < w.heap.size → w'.heap[k]? = w.heap[k]?) : Items n₀ w' v L := by
  obtain ⟨h1, h2⟩ := h
  refine ⟨h1, ?_⟩
  rcases h2 with h2 | ⟨g, cap, cur, hv, hb, hg, h3⟩
  · exact .inl h2
  · exact .inr ⟨g, cap, cur, hv, hb, (hk g hb (heap_in hg)).trans hg, h3⟩
theorem items_slice {n₀ : Nat} {w : World} {v : Value} {L : List E} (h : Items n₀ w v L) : ∃ ao n cap, v = .slice ao n cap := by
  rcases h.2 with ⟨rfl, _⟩ | ⟨g, cap, cur, rfl, _⟩
  · exact ⟨_, _, _, rfl⟩
  · exact ⟨_, _, _, rfl⟩
theorem items_one {n₀ : Nat} {w : World} {v : Value} {L : List E} (h : Items n₀ w v L) : v.oneCell' = true := by
  rcases h.2 with ⟨rfl, _⟩ | ⟨g, cap, cur, rfl, _⟩ <;> rfl
set_option maxHeartbeats 2000000 in
theorem rdrop_any {w : World} {v : Value} {L : List E} (h : Reads w v L) (most k : Int) (hl : L.length ≤ 4096) :
    Calls Try.prog 29 #[.agg #[.int .i64 most, v], .int .i64 k] w fun e w' => ∃ u, e = .returned (.agg #[.int .i64 most, u]) ∧ Items w.heap.size w' u (noK k L) ∧ Below w.heap.size w w' := by
  have HR := Lib.hid h
  obtain ⟨ao, cap, rfl, _⟩ := h
  have z1 : (w.alloc (.cells #[.int .i64 most, .slice ao L.length cap] 29)).heap.size = w.heap.size + 1 := by simp
  have q1 : BoxC (w.alloc (.cells #[.int .i64 most, .slice ao L.length cap] 29)) w.heap.size most (.slice ao L.length cap) := heap_alloc_new w _
  have hb1 : Below w.heap.size w (w.alloc (.cells #[.int .i64 most, .slice ao L.length cap] 29)) := by go_grown
  go_enter Try.func29, Try.ntmps29
  go_wp2_with fail
  generalize w.alloc (.cells #[.int .i64 most, .slice ao L.length cap] 29) = W1 at *
  have q2 : BoxC (W1.alloc (.cells #[.int .i64 0, .slice none 0 0] 29)) (w.heap.size + 1) 0 (.slice none 0 0) := by
    rw [← z1]
    exact heap_alloc_new W1 _
  have hb2 : Below W1.heap.size W1 (W1.alloc (.cells #[.int .i64 0, .slice none 0 0] 29)) := by go_grown
  have z2 : (W1.alloc (.cells #[.int .i64 0, .slice none 0 0] 29)).heap.size = w.heap.size + 2 := by simp [z1]
  generalize W1.alloc (.cells #[.int .i64 0, .slice none 0 0] 29) = W2 at *
  have HQ := Lib.hid (And.intro (q1.on hb2 (by omega)) q2)
  have HB2 := Lib.hid (hb1.on hb2)
  have HZ := Lib.hid z2
  clear q1 q2 hb1 hb2 z1 z2
  have hbi := build_item
  go_loopw [5, 6] (fun l i wr => ∃ j : Nat, j ≤ L.length ∧ i = .int .i64 j ∧ Items (w.heap.size + 2) wr l (noK k (L.take j)) ∧ Below (w.heap.size + 2) W2 wr) (fun _ i _ => L.length - (intOf i).toNat)
  case atStart => exact ⟨0, Nat.zero_le _, rfl, ⟨rfl, .inl ⟨rfl, rfl⟩⟩, Below.refl _ _⟩
  case round =>
    obtain ⟨j, hj, rfl, hI, hB⟩ := hrel
    have HI := Lib.hid hI
    have HB := Lib.hid hB
    have cu := (HQ.out.1.on hB (by omega)).read.2.1
    clear hI hB
    by_cases hlt : j < L.length
    · obtain ⟨x, hx⟩ : ∃ x, L[j]? = some x := ⟨_, List.getElem?_eq_getElem hlt⟩
      obtain ⟨_, _, hv, h2⟩ := HR.out
      cases hv
      rcases h2 with h2 | ⟨g, rfl, hg, h2⟩
      · rw [h2] at hx
        cases hx
      · obtain ⟨c0, c1, c2⟩ := h2 j x hx
        have hb3 := HB2.out.trans (HB.out.mono (by omega))
        replace c0 := (hb3.cell (p := ⟨g, j * 3, none⟩) hg).trans c0
        replace c1 := (hb3.cell (p := ⟨g, j * 3 + 1, none⟩) hg).trans c1
        replace c2 := (hb3.cell (p := ⟨g, j * 3 + 2, none⟩) hg).trans c2
        have HX := Lib.hid (noK_take (k := k) hx)
        obtain ⟨m, hm⟩ : ∃ m, (noK k (L.take j)).length = m := ⟨_, rfl⟩
        obtain ⟨g2, cap2, w2, ha, hI2, _, hB2⟩ := item_push HI.out (by rw [← HZ.out]; exact HB.out.size) (Nat.le_trans (noK_len _ _) (by rw [List.length_take]; omega)) x m hm
        have HI2 := Lib.hid hI2
        have HB3 := Lib.hid (HB.out.trans hB2)
        clear h2 hx hg hb3 hI2 hB2 hm
        by_cases hk : x.key = k
        · have hn : ¬ (x.key ≠ k) := fun h => h hk
          go_wp2_with fail
          go_roundw
          case rel => exact ⟨j + 1, by omega, by go_num, by rw [HX.out.1 hk]; exact HI.out, HB.out⟩
          case measure => simp [intOf]; omega
        · go_wp2_with fail
          go_roundw
          case rel => exact ⟨j + 1, by omega, by go_num, by rw [HX.out.2 hk]; exact HI2.out, HB3.out⟩
          case measure => simp [intOf]; omega
    · obtain rfl : j = L.length := by omega
      obtain ⟨bo, nn, cc, rfl⟩ := items_slice HI.out
      have cf := (HQ.out.1.on HB.out (by omega)).read.2.2
      obtain ⟨e0, e1, _⟩ := ((HQ.out.1.on HB.out (by omega)).set (.slice bo nn cc)).read
      have hr2 : BoxC (wr.setCell ⟨w.heap.size, 1, none⟩ (.slice bo nn cc)) (w.heap.size + 1) 0 (.slice none 0 0) := (heap_setCell_other _ _ _ _ (show w.heap.size + 1 ≠ w.heap.size by omega)).trans (HQ.out.2.on HB.out (by omega))
      obtain ⟨Wb, hst, hbx, hoth, hbel, _⟩ := hr2.store most (.slice bo nn cc) rfl
      obtain ⟨r0, r1, _⟩ := hbx.read
      have HO := Lib.hid hoth
      have HBL := Lib.hid (hbel _ _ (below_set (HB2.out.trans (HB.out.mono (Nat.le_add_right _ _))) (Nat.le_refl w.heap.size) (o := 1) (.slice bo nn cc)) (Nat.le_succ _))
      clear hoth hbel hr2 hbx
      go_wp2_with fail
      refine bodyPost_ret (v := .agg #[.int .i64 most, .slice bo nn cc]) (by simp [results, Try.results29, go_sem, r0, r1]) rfl ?_
      have hfin := HI.out
      rw [List.take_length] at hfin
      exact ⟨_, rfl, items_base (items_on (items_set (o := 1) (u := .slice bo nn cc) hfin (show w.heap.size < w.heap.size + 2 by omega)) fun k hk _ => HO.out k (by omega)) (by omega), HBL.out⟩
end KA
end Go.Proofs.Ytomgiemnkbjebaa
