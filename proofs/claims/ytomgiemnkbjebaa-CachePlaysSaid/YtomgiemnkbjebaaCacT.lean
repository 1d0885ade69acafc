/- Contracts of the reference: Find, Drop. -/
import Derived.Test.YtomgiemnkbjebaaCacO
import Derived.Test.YtomgiemnkbjebaaMem
namespace Go.Proofs.Ytomgiemnkbjebaa
set_option maxRecDepth 100000
open Go.ChangeShapes Go.WideShapes Go.ChangeAt Go.RowKit Go.PlainAid

namespace KA
/-- What the reference's Find tells. -/
def findE (k : Int) (L : List E) : E := (L[posK k L]?).getD ⟨0, ⟨#[]⟩, 0⟩
theorem findE_at {k : Int} {L : List E} {j : Nat} {x : E} (hx : L[j]? = some x) (hk : x.key = k) (hn : ∀ t y, t < j → L[t]? = some y → y.key ≠ k) : findE k L = x ∧ decide (posK k L < L.length) = true := by
  have e := posK_eq hx hk hn
  unfold findE
  rw [e, hx]
  exact ⟨rfl, decide_eq_true (List.getElem?_eq_some_iff.1 hx).1⟩
theorem findE_no {k : Int} {L : List E} (hn : ∀ (t : Nat) y, L[t]? = some y → y.key ≠ k) : findE k L = ⟨0, ⟨#[]⟩, 0⟩ ∧ decide (posK k L < L.length) = false := by
  have e := posK_no hn
  unfold findE
  rw [e, List.getElem?_eq_none (Nat.le_refl _)]
  exact ⟨rfl, decide_eq_false (Nat.lt_irrefl _)⟩
def itemV (x : E) : Value := .agg #[.int .i64 x.key, .string x.val, .int .i64 (x.pins : Int)]
def cacheV (most : Int) (v : Value) : Value := .agg #[.int .i64 most, v]
theorem store_i (p v : Value) : Instr.storeAt 51 p v = storeS 51 p v := rfl
theorem store_newI (w : World) (x : E) (c : Array Value) (hc : c.size = 3) : (storeS 51 (.pointer (some ⟨w.heap.size, 0, none⟩)) (.agg #[.int .i64 x.key, .string x.val, .int .i64 (x.pins : Int)])).run Try.prog (w.alloc (.cells c 51)) = .ok () (w.alloc (.cells #[.int .i64 x.key, .string x.val, .int .i64 (x.pins : Int)] 51)) := by
  have hsz : (Try.prog.info? 51).map (·.size) = some 3 := by kernel_rfl
  have h := run_storeVar_row (P := Try.prog) (w.alloc (.cells c 51)) w.heap.size 51 51 c #[.int .i64 x.key, .string x.val, .int .i64 (x.pins : Int)] (heap_alloc_new _ _) (by rw [hsz]; rfl) hc (all_oneCell_toArray (three.one x))
  rw [setRow_alloc] at h
  unfold storeS
  simp only [Instr.storeAt, Instr.sureAddr, Sem.run_bind, Sem.run_pure, Result.andThen_ok, h]
attribute [local go_sem ↓ high] store_i
set_option maxHeartbeats 1000000 in
theorem rfind_any {w : World} {v : Value} {L : List E} (h : Reads w v L) (most k : Int) (hl : L.length ≤ 4096) :
    Calls Try.prog 28 #[.agg #[.int .i64 most, v], .int .i64 k] w fun e w' => e = .returned (.tuple #[itemV (findE k L), .bool (decide (posK k L < L.length))]) ∧ Below w.heap.size w w' := by
  have HR := Lib.hid h
  obtain ⟨ao, cap, rfl, _⟩ := h
  have z1 : (w.alloc (.cells #[.int .i64 most, .slice ao L.length cap] 29)).heap.size = w.heap.size + 1 := by simp
  have q1 := heap_alloc_new w (.cells #[.int .i64 most, .slice ao L.length cap] 29)
  have hb1 : Below w.heap.size w (w.alloc (.cells #[.int .i64 most, .slice ao L.length cap] 29)) := by go_grown
  have hst := fun (x : E) => store_newI (w.alloc (.cells #[.int .i64 most, .slice ao L.length cap] 29)) x #[.int .i64 0, .string ⟨#[]⟩, .int .i64 0] rfl
  rw [z1] at hst
  go_enter Try.func28, Try.ntmps28
  go_wp2_with fail
  generalize w.alloc (.cells #[.int .i64 most, .slice ao L.length cap] 29) = W1 at *
  obtain ⟨W2, hW2⟩ : ∃ W2, W1.alloc (.cells #[.int .i64 0, .string ⟨#[]⟩, .int .i64 0] 51) = W2 := ⟨_, rfl⟩
  have hb2 : Below W1.heap.size W1 W2 := by rw [← hW2]; go_grown
  have q2 := (hb2.block w.heap.size (by rw [z1]; omega)).trans q1
  have cu : W2.cell? ⟨w.heap.size, 1, none⟩ = some (.slice ao L.length cap) := by rw [cell_of_row _ _ _ _ _ _ q2]; rfl
  have HB2 := Lib.hid (hb1.on hb2)
  have HS : Hid (∀ (x : E), ∃ W3, (storeS 51 (.pointer (some ⟨w.heap.size + 1, 0, none⟩)) (.agg #[.int .i64 x.key, .string x.val, .int .i64 (x.pins : Int)])).run Try.prog W2 = .ok () W3 ∧
      W3.cell? ⟨w.heap.size + 1, 0, none⟩ = some (.int .i64 x.key) ∧ W3.cell? ⟨w.heap.size + 1, 1, none⟩ = some (.string x.val) ∧ W3.cell? ⟨w.heap.size + 1, 2, none⟩ = some (.int .i64 (x.pins : Int)) ∧ Below w.heap.size w W3) := Lib.hid fun x => by
    have hq := heap_alloc_new W1 (.cells #[.int .i64 x.key, .string x.val, .int .i64 (x.pins : Int)] 51)
    rw [z1] at hq
    refine ⟨_, by rw [← hW2]; exact hst x, by rw [cell_of_row _ _ _ _ _ _ hq]; rfl, by rw [cell_of_row _ _ _ _ _ _ hq]; rfl, by rw [cell_of_row _ _ _ _ _ _ hq]; rfl, hb1.on (by go_grown)⟩
  rw [hW2]
  clear hst q1 q2 hb1 hb2 z1 hW2
  go_loopw [6] (fun i wr => ∃ j : Nat, j ≤ L.length ∧ i = .int .i64 j ∧ (∀ t x, t < j → L[t]? = some x → x.key ≠ k) ∧ wr = W2) (fun i _ => L.length - (intOf i).toNat)
  case atStart => exact ⟨0, Nat.zero_le _, rfl, fun _ _ h => absurd h (Nat.not_lt_zero _), rfl⟩
  case round =>
    obtain ⟨j, hj, rfl, hb, rfl⟩ := hrel
    have HN := Lib.hid hb
    clear hb
    by_cases hlt : j < L.length
    · obtain ⟨x, hx⟩ : ∃ x, L[j]? = some x := ⟨_, List.getElem?_eq_getElem hlt⟩
      obtain ⟨_, _, hv, h2⟩ := HR.out
      cases hv
      rcases h2 with h2 | ⟨g, rfl, hg, h2⟩
      · rw [h2] at hx
        cases hx
      · obtain ⟨c0, c1, c2⟩ := h2 j x hx
        replace c0 := (HB2.out.cell (p := ⟨g, j * 3, none⟩) hg).trans c0
        replace c1 := (HB2.out.cell (p := ⟨g, j * 3 + 1, none⟩) hg).trans c1
        replace c2 := (HB2.out.cell (p := ⟨g, j * 3 + 2, none⟩) hg).trans c2
        have HX := Lib.hid hx
        clear h2 hx hg
        by_cases hk : x.key = k
        · subst hk
          obtain ⟨W3, hst, r0, r1, r2, hb3⟩ := HS.out x
          have HF := Lib.hid (findE_at HX.out rfl HN.out)
          have HB3 := Lib.hid hb3
          clear hb3
          go_wp2_with fail
          refine bodyPost_ret (v := .tuple #[.agg #[.int .i64 x.key, .string x.val, .int .i64 (x.pins : Int)], .bool true]) (by simp [results, Try.results28, go_sem, r0, r1, r2]) rfl ?_
          refine ⟨?_, HB3.out⟩
          rw [HF.out.1, HF.out.2]
          rfl
        · go_wp2_with fail
          go_roundw
          case rel => exact ⟨j + 1, by omega, by go_num, fun t y ht hy => by
            by_cases e : t = j
            · subst e
              rw [HX.out] at hy
              cases hy
              exact hk
            · exact HN.out t y (by omega) hy, by first | rfl | trivial⟩
          case measure => simp [intOf]; omega
    · obtain rfl : j = L.length := by omega
      obtain ⟨W3, hst, r0, r1, r2, hb3⟩ := HS.out ⟨0, ⟨#[]⟩, 0⟩
      have HF := Lib.hid (findE_no fun t y hy => HN.out t y (List.getElem?_eq_some_iff.1 hy).1 hy)
      have HB3 := Lib.hid hb3
      replace hst : (storeS 51 (.pointer (some ⟨w.heap.size + 1, 0, none⟩)) (.agg #[.int .i64 0, .string ⟨#[]⟩, .int .i64 0])).run Try.prog _ = .ok () W3 := hst
      replace r2 : W3.cell? ⟨w.heap.size + 1, 2, none⟩ = some (.int .i64 0) := r2
      clear hb3
      go_wp2_with fail
      refine bodyPost_ret (v := .tuple #[.agg #[.int .i64 0, .string ⟨#[]⟩, .int .i64 0], .bool false]) (by simp [results, Try.results28, go_sem, r0, r1, r2]) rfl ?_
      refine ⟨?_, HB3.out⟩
      rw [HF.out.1, HF.out.2]
      rfl
end KA
end Go.Proofs.Ytomgiemnkbjebaa
