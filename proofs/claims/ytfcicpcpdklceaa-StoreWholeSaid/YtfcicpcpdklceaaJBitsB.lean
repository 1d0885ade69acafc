/- Contracts: lay, Fixed. -/
import Derived.Test.YtfcicpcpdklceaaRows
import Derived.Test.YtfcicpcpdklceaaAid
namespace Go.Proofs.Ytfcicpcpdklceaa
set_option maxRecDepth 100000
open Go.ChangeShapes Go.WideShapes Go.ChangeAt Go.RowKit Go.PlainAid

/-- The eight bytes of a number, the lowest first. -/
def l8 (n : Int) : List Int := [n % 256, n / 256 % 256, n / 65536 % 256, n / 16777216 % 256, n / 4294967296 % 256, n / 1099511627776 % 256, n / 281474976710656 % 256, n / 72057594037927936]
/-- The lowest k bytes of a number. -/
def fixS (n k : Int) : ByteArray := strOfNums ((l8 n).take (min (max k 0) 8).toNat)

set_option maxHeartbeats 400000 in
theorem lay_any (n : Int) (w : World) (h0 : 0 ≤ n) (h1 : n ≤ 18446744073709551615) :
    Calls Try.prog 90 #[.int .u64 n] w fun e w' => e = .returned (.agg #[.int .u8 (n % 256), .int .u8 (n / 256 % 256), .int .u8 (n / 65536 % 256), .int .u8 (n / 16777216 % 256), .int .u8 (n / 4294967296 % 256), .int .u8 (n / 1099511627776 % 256), .int .u8 (n / 281474976710656 % 256), .int .u8 (n / 72057594037927936)]) ∧ Below w.heap.size w w' := by
  go_enter Try.func90, Try.ntmps90
  go_wp2
  go_rounds 9
  go_returns
  exact ⟨rfl, by go_grown⟩

theorem l8_cells (n : Int) (k : Nat) (hk : k ≤ 8) : ∀ i, i < k → #[Value.int .u8 (n % 256), .int .u8 (n / 256 % 256), .int .u8 (n / 65536 % 256), .int .u8 (n / 16777216 % 256), .int .u8 (n / 4294967296 % 256), .int .u8 (n / 1099511627776 % 256), .int .u8 (n / 281474976710656 % 256), .int .u8 (n / 72057594037927936)][i]? = some (.int .u8 (((l8 n).take k).getD i 0)) := by
  intro i hi
  have e : ((l8 n).take k).getD i 0 = (l8 n).getD i 0 := by simp [hi]
  rw [e]
  have h8 : i < 8 := by omega
  match i, h8 with
  | 0, _ => rfl | 1, _ => rfl | 2, _ => rfl | 3, _ => rfl | 4, _ => rfl | 5, _ => rfl | 6, _ => rfl | 7, _ => rfl

theorem l8_length (n : Int) (k : Nat) (hk : k ≤ 8) : ((l8 n).take k).length = k := by rw [List.length_take]; show min k 8 = k; omega

set_option maxHeartbeats 400000 in
theorem fixed_any (n k : Int) (w : World) (h0 : 0 ≤ n) (h1 : n ≤ 18446744073709551615) (hk0 : -9223372036854775808 ≤ k) (hk1 : k ≤ 9223372036854775807) :
    Calls Try.prog 77 #[.int .u64 n, .int .i64 k] w fun e w' => e = .returned (.string (fixS n k)) ∧ Below w.heap.size w w' := by
  rcases Int.lt_or_le k 0 with c | c
  · have hf : Hid (fixS n k = strOfNums ((l8 n).take 0)) := by unfold fixS Hid; rw [show (min (max k 0) 8).toNat = 0 by omega]
    go_enter Try.func77, Try.ntmps77
    go_wp2_with (go_call (lay_any n w h0 h1) as e w' ⟨rfl, hb⟩)
    rw [conv_row 78 5 9 Try.underlying78 Try.underlying5 Try.underlying9 ((l8 n).take 0) _ _ _ _ _ _ _ (heap_alloc_new _ _) (l8_length n 0 (by omega)) (l8_cells n 0 (by omega))]
    go_wp2
    go_returns
    exact ⟨by rw [hf.out]; rfl, by have hs := hb.size; go_grown⟩
  · rcases Int.lt_or_le 8 k with d | d
    · have hf : Hid (fixS n k = strOfNums ((l8 n).take 8)) := by unfold fixS Hid; rw [show (min (max k 0) 8).toNat = 8 by omega]
      go_enter Try.func77, Try.ntmps77
      go_wp2_with (go_call (lay_any n w h0 h1) as e w' ⟨rfl, hb⟩)
      rw [conv_row 78 5 9 Try.underlying78 Try.underlying5 Try.underlying9 ((l8 n).take 8) _ _ _ _ _ _ _ (heap_alloc_new _ _) (l8_length n 8 (by omega)) (l8_cells n 8 (by omega))]
      go_wp2
      go_returns
      exact ⟨by rw [hf.out]; rfl, by have hs := hb.size; go_grown⟩
    · have hf : Hid (fixS n k = strOfNums ((l8 n).take k.toNat)) := by unfold fixS Hid; rw [show (min (max k 0) 8) = k by omega]
      have hs : k = 0 ∨ k = 1 ∨ k = 2 ∨ k = 3 ∨ k = 4 ∨ k = 5 ∨ k = 6 ∨ k = 7 ∨ k = 8 := by omega
      clear c d hk0 hk1
      rcases hs with rfl | rfl | rfl | rfl | rfl | rfl | rfl | rfl | rfl
      · go_enter Try.func77, Try.ntmps77
        go_wp2_with (go_call (lay_any n w h0 h1) as e w' ⟨rfl, hb⟩)
        rw [conv_row 78 5 9 Try.underlying78 Try.underlying5 Try.underlying9 ((l8 n).take 0) _ _ _ _ _ _ _ (heap_alloc_new _ _) (l8_length n 0 (by omega)) (l8_cells n 0 (by omega))]
        go_wp2
        go_returns
        exact ⟨by rw [hf.out]; rfl, by have hs := hb.size; go_grown⟩
      · go_enter Try.func77, Try.ntmps77
        go_wp2_with (go_call (lay_any n w h0 h1) as e w' ⟨rfl, hb⟩)
        rw [conv_row 78 5 9 Try.underlying78 Try.underlying5 Try.underlying9 ((l8 n).take 1) _ _ _ _ _ _ _ (heap_alloc_new _ _) (l8_length n 1 (by omega)) (l8_cells n 1 (by omega))]
        go_wp2
        go_returns
        exact ⟨by rw [hf.out]; rfl, by have hs := hb.size; go_grown⟩
      · go_enter Try.func77, Try.ntmps77
        go_wp2_with (go_call (lay_any n w h0 h1) as e w' ⟨rfl, hb⟩)
        rw [conv_row 78 5 9 Try.underlying78 Try.underlying5 Try.underlying9 ((l8 n).take 2) _ _ _ _ _ _ _ (heap_alloc_new _ _) (l8_length n 2 (by omega)) (l8_cells n 2 (by omega))]
        go_wp2
        go_returns
        exact ⟨by rw [hf.out]; rfl, by have hs := hb.size; go_grown⟩
      · go_enter Try.func77, Try.ntmps77
        go_wp2_with (go_call (lay_any n w h0 h1) as e w' ⟨rfl, hb⟩)
        rw [conv_row 78 5 9 Try.underlying78 Try.underlying5 Try.underlying9 ((l8 n).take 3) _ _ _ _ _ _ _ (heap_alloc_new _ _) (l8_length n 3 (by omega)) (l8_cells n 3 (by omega))]
        go_wp2
        go_returns
        exact ⟨by rw [hf.out]; rfl, by have hs := hb.size; go_grown⟩
      · go_enter Try.func77, Try.ntmps77
        go_wp2_with (go_call (lay_any n w h0 h1) as e w' ⟨rfl, hb⟩)
        rw [conv_row 78 5 9 Try.underlying78 Try.underlying5 Try.underlying9 ((l8 n).take 4) _ _ _ _ _ _ _ (heap_alloc_new _ _) (l8_length n 4 (by omega)) (l8_cells n 4 (by omega))]
        go_wp2
        go_returns
        exact ⟨by rw [hf.out]; rfl, by have hs := hb.size; go_grown⟩
      · go_enter Try.func77, Try.ntmps77
        go_wp2_with (go_call (lay_any n w h0 h1) as e w' ⟨rfl, hb⟩)
        rw [conv_row 78 5 9 Try.underlying78 Try.underlying5 Try.underlying9 ((l8 n).take 5) _ _ _ _ _ _ _ (heap_alloc_new _ _) (l8_length n 5 (by omega)) (l8_cells n 5 (by omega))]
        go_wp2
        go_returns
        exact ⟨by rw [hf.out]; rfl, by have hs := hb.size; go_grown⟩
      · go_enter Try.func77, Try.ntmps77
        go_wp2_with (go_call (lay_any n w h0 h1) as e w' ⟨rfl, hb⟩)
        rw [conv_row 78 5 9 Try.underlying78 Try.underlying5 Try.underlying9 ((l8 n).take 6) _ _ _ _ _ _ _ (heap_alloc_new _ _) (l8_length n 6 (by omega)) (l8_cells n 6 (by omega))]
        go_wp2
        go_returns
        exact ⟨by rw [hf.out]; rfl, by have hs := hb.size; go_grown⟩
      · go_enter Try.func77, Try.ntmps77
        go_wp2_with (go_call (lay_any n w h0 h1) as e w' ⟨rfl, hb⟩)
        rw [conv_row 78 5 9 Try.underlying78 Try.underlying5 Try.underlying9 ((l8 n).take 7) _ _ _ _ _ _ _ (heap_alloc_new _ _) (l8_length n 7 (by omega)) (l8_cells n 7 (by omega))]
        go_wp2
        go_returns
        exact ⟨by rw [hf.out]; rfl, by have hs := hb.size; go_grown⟩
      · go_enter Try.func77, Try.ntmps77
        go_wp2_with (go_call (lay_any n w h0 h1) as e w' ⟨rfl, hb⟩)
        rw [conv_row 78 5 9 Try.underlying78 Try.underlying5 Try.underlying9 ((l8 n).take 8) _ _ _ _ _ _ _ (heap_alloc_new _ _) (l8_length n 8 (by omega)) (l8_cells n 8 (by omega))]
        go_wp2
        go_returns
        exact ⟨by rw [hf.out]; rfl, by have hs := hb.size; go_grown⟩
end Go.Proofs.Ytfcicpcpdklceaa
