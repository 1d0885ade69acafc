/- Contracts: lay, Fixed. Contracts: Reverse of eight bytes, Ordered. Contracts: Unfixed, Unordered. Contracts: Sum, Not, and the reference's. -/
import Derived.Test.YtkdhlofcdcnjgaaGreatRows
import Derived.Test.YtkdhlofcdcnjgaaGreatGA
import Derived.Lib.ConvBytes
namespace Go.Proofs.YtkdhlofcdcnjgaaGreat
set_option maxRecDepth 100000
open Go.ChangeShapes Go.WideShapes Go.ChangeAt Go.RowKit Go.PlainAid

/-- The eight bytes of a number, the lowest first. -/
def l8 (n : Int) : List Int := [n % 256, n / 256 % 256, n / 65536 % 256, n / 16777216 % 256, n / 4294967296 % 256, n / 1099511627776 % 256, n / 281474976710656 % 256, n / 72057594037927936]
/-- The lowest k bytes of a number. -/
def fixS (n k : Int) : ByteArray := strOfNums ((l8 n).take (min (max k 0) 8).toNat)

set_option maxHeartbeats 400000 in
theorem lay_any (n : Int) (w : World) (h0 : 0 ≤ n) (h1 : n ≤ 18446744073709551615) :
    Calls Tryz.prog 141 #[.int .u64 n] w fun e w' => e = .returned (.agg #[.int .u8 (n % 256), .int .u8 (n / 256 % 256), .int .u8 (n / 65536 % 256), .int .u8 (n / 16777216 % 256), .int .u8 (n / 4294967296 % 256), .int .u8 (n / 1099511627776 % 256), .int .u8 (n / 281474976710656 % 256), .int .u8 (n / 72057594037927936)]) ∧ Below w.heap.size w w' := by
  go_enter Tryz.func141, Tryz.ntmps141
  go_wp2
  go_rounds 9
  go_returns
  exact ⟨rfl, by go_grown⟩

theorem l8_cells (n : Int) (k : Nat) (hk : k ≤ 8) : ∀ i, i < k → #[Value.int .u8 (n % 256), .int .u8 (n / 256 % 256), .int .u8 (n / 65536 % 256), .int .u8 (n / 16777216 % 256), .int .u8 (n / 4294967296 % 256), .int .u8 (n / 1099511627776 % 256), .int .u8 (n / 281474976710656 % 256), .int .u8 (n / 72057594037927936)][i]? = some (.int .u8 (((l8 n).take k).getD i 0)) := by
  intro i hi
  have e : ((l8 n).take k).getD i 0 = (l8 n).getD i 0 := by simp [hi]
  rw [e]
  have h8 : i < 8 := by omega
  match i, h8 with
  | 0, _ => rfl | 1, _ => rfl | 2, _ => rfl | 3, _ => rfl | 4, _ => rfl | 5, _ => rfl | 6, _ => rfl | 7, _ => rfl

theorem l8_length (n : Int) (k : Nat) (hk : k ≤ 8) : ((l8 n).take k).length = k := by rw [List.length_take]; show min k 8 = k; omega

set_option maxHeartbeats 400000 in
theorem fixed_any (n k : Int) (w : World) (h0 : 0 ≤ n) (h1 : n ≤ 18446744073709551615) (hk0 : -9223372036854775808 ≤ k) (hk1 : k ≤ 9223372036854775807) :
    Calls Tryz.prog 107 #[.int .u64 n, .int .i64 k] w fun e w' => e = .returned (.string (fixS n k)) ∧ Below w.heap.size w w' := by
  rcases Int.lt_or_le k 0 with c | c
  · have hf : Hid (fixS n k = strOfNums ((l8 n).take 0)) := by unfold fixS Hid; rw [show (min (max k 0) 8).toNat = 0 by omega]
    go_enter Tryz.func107, Tryz.ntmps107
    go_wp2_with (go_call (lay_any n w h0 h1) as e w' ⟨rfl, hb⟩)
    rw [conv_row 143 5 9 Tryz.underlying143 Tryz.underlying5 Tryz.underlying9 ((l8 n).take 0) _ _ _ _ _ _ _ (heap_alloc_new _ _) (l8_length n 0 (by omega)) (l8_cells n 0 (by omega))]
    go_wp2
    go_returns
    exact ⟨by rw [hf.out]; rfl, by have hs := hb.size; go_grown⟩
  · rcases Int.lt_or_le 8 k with d | d
    · have hf : Hid (fixS n k = strOfNums ((l8 n).take 8)) := by unfold fixS Hid; rw [show (min (max k 0) 8).toNat = 8 by omega]
      go_enter Tryz.func107, Tryz.ntmps107
      go_wp2_with (go_call (lay_any n w h0 h1) as e w' ⟨rfl, hb⟩)
      rw [conv_row 143 5 9 Tryz.underlying143 Tryz.underlying5 Tryz.underlying9 ((l8 n).take 8) _ _ _ _ _ _ _ (heap_alloc_new _ _) (l8_length n 8 (by omega)) (l8_cells n 8 (by omega))]
      go_wp2
      go_returns
      exact ⟨by rw [hf.out]; rfl, by have hs := hb.size; go_grown⟩
    · have hf : Hid (fixS n k = strOfNums ((l8 n).take k.toNat)) := by unfold fixS Hid; rw [show (min (max k 0) 8) = k by omega]
      have hs : k = 0 ∨ k = 1 ∨ k = 2 ∨ k = 3 ∨ k = 4 ∨ k = 5 ∨ k = 6 ∨ k = 7 ∨ k = 8 := by omega
      clear c d hk0 hk1
      rcases hs with rfl | rfl | rfl | rfl | rfl | rfl | rfl | rfl | rfl
      · go_enter Tryz.func107, Tryz.ntmps107
        go_wp2_with (go_call (lay_any n w h0 h1) as e w' ⟨rfl, hb⟩)
        rw [conv_row 143 5 9 Tryz.underlying143 Tryz.underlying5 Tryz.underlying9 ((l8 n).take 0) _ _ _ _ _ _ _ (heap_alloc_new _ _) (l8_length n 0 (by omega)) (l8_cells n 0 (by omega))]
        go_wp2
        go_returns
        exact ⟨by rw [hf.out]; rfl, by have hs := hb.size; go_grown⟩
      · go_enter Tryz.func107, Tryz.ntmps107
        go_wp2_with (go_call (lay_any n w h0 h1) as e w' ⟨rfl, hb⟩)
        rw [conv_row 143 5 9 Tryz.underlying143 Tryz.underlying5 Tryz.underlying9 ((l8 n).take 1) _ _ _ _ _ _ _ (heap_alloc_new _ _) (l8_length n 1 (by omega)) (l8_cells n 1 (by omega))]
        go_wp2
        go_returns
        exact ⟨by rw [hf.out]; rfl, by have hs := hb.size; go_grown⟩
      · go_enter Tryz.func107, Tryz.ntmps107
        go_wp2_with (go_call (lay_any n w h0 h1) as e w' ⟨rfl, hb⟩)
        rw [conv_row 143 5 9 Tryz.underlying143 Tryz.underlying5 Tryz.underlying9 ((l8 n).take 2) _ _ _ _ _ _ _ (heap_alloc_new _ _) (l8_length n 2 (by omega)) (l8_cells n 2 (by omega))]
        go_wp2
        go_returns
        exact ⟨by rw [hf.out]; rfl, by have hs := hb.size; go_grown⟩
      · go_enter Tryz.func107, Tryz.ntmps107
        go_wp2_with (go_call (lay_any n w h0 h1) as e w' ⟨rfl, hb⟩)
        rw [conv_row 143 5 9 Tryz.underlying143 Tryz.underlying5 Tryz.underlying9 ((l8 n).take 3) _ _ _ _ _ _ _ (heap_alloc_new _ _) (l8_length n 3 (by omega)) (l8_cells n 3 (by omega))]
        go_wp2
        go_returns
        exact ⟨by rw [hf.out]; rfl, by have hs := hb.size; go_grown⟩
      · go_enter Tryz.func107, Tryz.ntmps107
        go_wp2_with (go_call (lay_any n w h0 h1) as e w' ⟨rfl, hb⟩)
        rw [conv_row 143 5 9 Tryz.underlying143 Tryz.underlying5 Tryz.underlying9 ((l8 n).take 4) _ _ _ _ _ _ _ (heap_alloc_new _ _) (l8_length n 4 (by omega)) (l8_cells n 4 (by omega))]
        go_wp2
        go_returns
        exact ⟨by rw [hf.out]; rfl, by have hs := hb.size; go_grown⟩
      · go_enter Tryz.func107, Tryz.ntmps107
        go_wp2_with (go_call (lay_any n w h0 h1) as e w' ⟨rfl, hb⟩)
        rw [conv_row 143 5 9 Tryz.underlying143 Tryz.underlying5 Tryz.underlying9 ((l8 n).take 5) _ _ _ _ _ _ _ (heap_alloc_new _ _) (l8_length n 5 (by omega)) (l8_cells n 5 (by omega))]
        go_wp2
        go_returns
        exact ⟨by rw [hf.out]; rfl, by have hs := hb.size; go_grown⟩
      · go_enter Tryz.func107, Tryz.ntmps107
        go_wp2_with (go_call (lay_any n w h0 h1) as e w' ⟨rfl, hb⟩)
        rw [conv_row 143 5 9 Tryz.underlying143 Tryz.underlying5 Tryz.underlying9 ((l8 n).take 6) _ _ _ _ _ _ _ (heap_alloc_new _ _) (l8_length n 6 (by omega)) (l8_cells n 6 (by omega))]
        go_wp2
        go_returns
        exact ⟨by rw [hf.out]; rfl, by have hs := hb.size; go_grown⟩
      · go_enter Tryz.func107, Tryz.ntmps107
        go_wp2_with (go_call (lay_any n w h0 h1) as e w' ⟨rfl, hb⟩)
        rw [conv_row 143 5 9 Tryz.underlying143 Tryz.underlying5 Tryz.underlying9 ((l8 n).take 7) _ _ _ _ _ _ _ (heap_alloc_new _ _) (l8_length n 7 (by omega)) (l8_cells n 7 (by omega))]
        go_wp2
        go_returns
        exact ⟨by rw [hf.out]; rfl, by have hs := hb.size; go_grown⟩
      · go_enter Tryz.func107, Tryz.ntmps107
        go_wp2_with (go_call (lay_any n w h0 h1) as e w' ⟨rfl, hb⟩)
        rw [conv_row 143 5 9 Tryz.underlying143 Tryz.underlying5 Tryz.underlying9 ((l8 n).take 8) _ _ _ _ _ _ _ (heap_alloc_new _ _) (l8_length n 8 (by omega)) (l8_cells n 8 (by omega))]
        go_wp2
        go_returns
        exact ⟨by rw [hf.out]; rfl, by have hs := hb.size; go_grown⟩
end Go.Proofs.YtkdhlofcdcnjgaaGreat
namespace Go.Proofs.YtkdhlofcdcnjgaaGreat
set_option maxRecDepth 100000
open Go.ChangeShapes Go.WideShapes Go.ChangeAt Go.RowKit Go.PlainAid

/-- The eight bytes of a number with a sign, the highest first, so that they stand in the numbers' order. -/
def h8 (n : Int) : List Int := [n / 72057594037927936, n / 281474976710656 % 256, n / 1099511627776 % 256, n / 4294967296 % 256, n / 16777216 % 256, n / 65536 % 256, n / 256 % 256, n % 256]
def ordS (n : Int) : ByteArray := strOfNums (h8 (n + 9223372036854775808))
theorem h8_length (n : Int) : (h8 n).length = 8 := rfl

end Go.Proofs.YtkdhlofcdcnjgaaGreat
namespace Go.Proofs.YtkdhlofcdcnjgaaGreat
set_option maxRecDepth 100000
open Go.ChangeShapes Go.WideShapes Go.ChangeAt Go.RowKit Go.PlainAid

/-- The number of eight bytes, the lowest first. -/
def n8 (x0 x1 x2 x3 x4 x5 x6 x7 : Int) : Int := x0 + x1 * 256 + x2 * 65536 + x3 * 16777216 + x4 * 4294967296 + x5 * 1099511627776 + x6 * 281474976710656 + x7 * 72057594037927936
/-- The number of a text's first eight bytes, the lowest first. -/
def unfixZ (s : ByteArray) : Int := n8 (bt s 0) (bt s 1) (bt s 2) (bt s 3) (bt s 4) (bt s 5) (bt s 6) (bt s 7)

theorem info8 : (Tryz.prog.info? 5).map (·.size) = some 1 := by kernel_rfl

theorem or_n8 (x0 x1 x2 x3 x4 x5 x6 x7 : Int) (h0 : 0 ≤ x0 ∧ x0 ≤ 255) (h1 : 0 ≤ x1 ∧ x1 ≤ 255) (h2 : 0 ≤ x2 ∧ x2 ≤ 255) (h3 : 0 ≤ x3 ∧ x3 ≤ 255) (h4 : 0 ≤ x4 ∧ x4 ≤ 255) (h5 : 0 ≤ x5 ∧ x5 ≤ 255) (h6 : 0 ≤ x6 ∧ x6 ≤ 255) (h7 : 0 ≤ x7 ∧ x7 ≤ 255) :
    bits .or .u64 (bits .or .u64 (bits .or .u64 (bits .or .u64 (bits .or .u64 (bits .or .u64 (bits .or .u64 (bits .or .u64 0 x0) (x1 * 256)) (x2 * 65536)) (x3 * 16777216)) (x4 * 4294967296)) (x5 * 1099511627776)) (x6 * 281474976710656)) (x7 * 72057594037927936) = n8 x0 x1 x2 x3 x4 x5 x6 x7 := by
  rw [u64_or_add 0 x0 0 x0 1 (by omega) (by omega) (by omega) (by omega) (by omega) (by omega) (by omega)]
  rw [u64_or_add _ x1 8 (x1 * 256) 256 (by omega) (by omega) (by omega) (by omega) (by omega) (by omega) (by omega)]
  rw [u64_or_add _ x2 16 (x2 * 65536) 65536 (by omega) (by omega) (by omega) (by omega) (by omega) (by omega) (by omega)]
  rw [u64_or_add _ x3 24 (x3 * 16777216) 16777216 (by omega) (by omega) (by omega) (by omega) (by omega) (by omega) (by omega)]
  rw [u64_or_add _ x4 32 (x4 * 4294967296) 4294967296 (by omega) (by omega) (by omega) (by omega) (by omega) (by omega) (by omega)]
  rw [u64_or_add _ x5 40 (x5 * 1099511627776) 1099511627776 (by omega) (by omega) (by omega) (by omega) (by omega) (by omega) (by omega)]
  rw [u64_or_add _ x6 48 (x6 * 281474976710656) 281474976710656 (by omega) (by omega) (by omega) (by omega) (by omega) (by omega) (by omega)]
  rw [u64_or_add _ x7 56 (x7 * 72057594037927936) 72057594037927936 (by omega) (by omega) (by omega) (by omega) (by omega) (by omega) (by omega)]
  unfold n8; omega

theorem idx0 (x0 x1 x2 x3 x4 x5 x6 x7 : Int) : ∀ w, (Instr.index 183 (.agg #[.int .u8 x0, .int .u8 x1, .int .u8 x2, .int .u8 x3, .int .u8 x4, .int .u8 x5, .int .u8 x6, .int .u8 x7]) (.int .i64 0)).run Tryz.prog w = .ok (.int .u8 x0) w := fun _ => by kernel_rfl
theorem idx1 (x0 x1 x2 x3 x4 x5 x6 x7 : Int) : ∀ w, (Instr.index 183 (.agg #[.int .u8 x0, .int .u8 x1, .int .u8 x2, .int .u8 x3, .int .u8 x4, .int .u8 x5, .int .u8 x6, .int .u8 x7]) (.int .i64 1)).run Tryz.prog w = .ok (.int .u8 x1) w := fun _ => by kernel_rfl
theorem idx2 (x0 x1 x2 x3 x4 x5 x6 x7 : Int) : ∀ w, (Instr.index 183 (.agg #[.int .u8 x0, .int .u8 x1, .int .u8 x2, .int .u8 x3, .int .u8 x4, .int .u8 x5, .int .u8 x6, .int .u8 x7]) (.int .i64 2)).run Tryz.prog w = .ok (.int .u8 x2) w := fun _ => by kernel_rfl
theorem idx3 (x0 x1 x2 x3 x4 x5 x6 x7 : Int) : ∀ w, (Instr.index 183 (.agg #[.int .u8 x0, .int .u8 x1, .int .u8 x2, .int .u8 x3, .int .u8 x4, .int .u8 x5, .int .u8 x6, .int .u8 x7]) (.int .i64 3)).run Tryz.prog w = .ok (.int .u8 x3) w := fun _ => by kernel_rfl
theorem idx4 (x0 x1 x2 x3 x4 x5 x6 x7 : Int) : ∀ w, (Instr.index 183 (.agg #[.int .u8 x0, .int .u8 x1, .int .u8 x2, .int .u8 x3, .int .u8 x4, .int .u8 x5, .int .u8 x6, .int .u8 x7]) (.int .i64 4)).run Tryz.prog w = .ok (.int .u8 x4) w := fun _ => by kernel_rfl
theorem idx5 (x0 x1 x2 x3 x4 x5 x6 x7 : Int) : ∀ w, (Instr.index 183 (.agg #[.int .u8 x0, .int .u8 x1, .int .u8 x2, .int .u8 x3, .int .u8 x4, .int .u8 x5, .int .u8 x6, .int .u8 x7]) (.int .i64 5)).run Tryz.prog w = .ok (.int .u8 x5) w := fun _ => by kernel_rfl
theorem idx6 (x0 x1 x2 x3 x4 x5 x6 x7 : Int) : ∀ w, (Instr.index 183 (.agg #[.int .u8 x0, .int .u8 x1, .int .u8 x2, .int .u8 x3, .int .u8 x4, .int .u8 x5, .int .u8 x6, .int .u8 x7]) (.int .i64 6)).run Tryz.prog w = .ok (.int .u8 x6) w := fun _ => by kernel_rfl
theorem idx7 (x0 x1 x2 x3 x4 x5 x6 x7 : Int) : ∀ w, (Instr.index 183 (.agg #[.int .u8 x0, .int .u8 x1, .int .u8 x2, .int .u8 x3, .int .u8 x4, .int .u8 x5, .int .u8 x6, .int .u8 x7]) (.int .i64 7)).run Tryz.prog w = .ok (.int .u8 x7) w := fun _ => by kernel_rfl

set_option maxHeartbeats 1000000 in
theorem unfixed_any (s : ByteArray) (w : World) :
    Calls Tryz.prog 89 #[.string s] w fun e w' => e = .returned (.int .u64 (unfixZ s)) ∧ Below w.heap.size w w' := by
  have hcp := fun w => run_copy8 (P := Tryz.prog) w 143 9 3 5 183 s Tryz.underlying143 info8
  have HC := Lib.hid hcp
  clear hcp
  have hz := Lib.hid (show unfixZ s = n8 (bt s 0) (bt s 1) (bt s 2) (bt s 3) (bt s 4) (bt s 5) (bt s 6) (bt s 7) from rfl)
  have b0 := And.intro (bt_nonneg s 0) (bt_le s 0)
  have b1 := And.intro (bt_nonneg s 1) (bt_le s 1)
  have b2 := And.intro (bt_nonneg s 2) (bt_le s 2)
  have b3 := And.intro (bt_nonneg s 3) (bt_le s 3)
  have b4 := And.intro (bt_nonneg s 4) (bt_le s 4)
  have b5 := And.intro (bt_nonneg s 5) (bt_le s 5)
  have b6 := And.intro (bt_nonneg s 6) (bt_le s 6)
  have b7 := And.intro (bt_nonneg s 7) (bt_le s 7)
  go_enter Tryz.func89, Tryz.ntmps89
  go_wp2
  rw [HC.out]
  generalize bt s 0 = x0 at *
  generalize bt s 1 = x1 at *
  generalize bt s 2 = x2 at *
  generalize bt s 3 = x3 at *
  generalize bt s 4 = x4 at *
  generalize bt s 5 = x5 at *
  generalize bt s 6 = x6 at *
  generalize bt s 7 = x7 at *
  have i0 := idx0 x0 x1 x2 x3 x4 x5 x6 x7
  have i1 := idx1 x0 x1 x2 x3 x4 x5 x6 x7
  have i2 := idx2 x0 x1 x2 x3 x4 x5 x6 x7
  have i3 := idx3 x0 x1 x2 x3 x4 x5 x6 x7
  have i4 := idx4 x0 x1 x2 x3 x4 x5 x6 x7
  have i5 := idx5 x0 x1 x2 x3 x4 x5 x6 x7
  have i6 := idx6 x0 x1 x2 x3 x4 x5 x6 x7
  have i7 := idx7 x0 x1 x2 x3 x4 x5 x6 x7
  go_wp2
  go_rounds 9
  go_returns
  exact ⟨ret_i ((or_n8 _ _ _ _ _ _ _ _ b0 b1 b2 b3 b4 b5 b6 b7).trans hz.out.symm), by go_grown⟩

/-- The number that eight bytes were made of. -/
def unordZ (s : ByteArray) : Int := n8 (bt s 7) (bt s 6) (bt s 5) (bt s 4) (bt s 3) (bt s 2) (bt s 1) (bt s 0)
theorem unfix_str (x0 x1 x2 x3 x4 x5 x6 x7 : Int) (h0 : 0 ≤ x0 ∧ x0 ≤ 255) (h1 : 0 ≤ x1 ∧ x1 ≤ 255) (h2 : 0 ≤ x2 ∧ x2 ≤ 255) (h3 : 0 ≤ x3 ∧ x3 ≤ 255) (h4 : 0 ≤ x4 ∧ x4 ≤ 255) (h5 : 0 ≤ x5 ∧ x5 ≤ 255) (h6 : 0 ≤ x6 ∧ x6 ≤ 255) (h7 : 0 ≤ x7 ∧ x7 ≤ 255) : unfixZ (strOfNums [x0, x1, x2, x3, x4, x5, x6, x7]) = n8 x0 x1 x2 x3 x4 x5 x6 x7 := by
  unfold unfixZ
  rw [bt_strOfNums [x0, x1, x2, x3, x4, x5, x6, x7] 0 h0.1 h0.2, bt_strOfNums [x0, x1, x2, x3, x4, x5, x6, x7] 1 h1.1 h1.2, bt_strOfNums [x0, x1, x2, x3, x4, x5, x6, x7] 2 h2.1 h2.2, bt_strOfNums [x0, x1, x2, x3, x4, x5, x6, x7] 3 h3.1 h3.2, bt_strOfNums [x0, x1, x2, x3, x4, x5, x6, x7] 4 h4.1 h4.2, bt_strOfNums [x0, x1, x2, x3, x4, x5, x6, x7] 5 h5.1 h5.2, bt_strOfNums [x0, x1, x2, x3, x4, x5, x6, x7] 6 h6.1 h6.2, bt_strOfNums [x0, x1, x2, x3, x4, x5, x6, x7] 7 h7.1 h7.2]
  rfl
theorem unord_rev (s : ByteArray) : unfixZ (strOfNums [bt s 7, bt s 6, bt s 5, bt s 4, bt s 3, bt s 2, bt s 1, bt s 0]) = unordZ s := 
  unfix_str _ _ _ _ _ _ _ _ ⟨bt_nonneg s 7, bt_le s 7⟩ ⟨bt_nonneg s 6, bt_le s 6⟩ ⟨bt_nonneg s 5, bt_le s 5⟩ ⟨bt_nonneg s 4, bt_le s 4⟩ ⟨bt_nonneg s 3, bt_le s 3⟩ ⟨bt_nonneg s 2, bt_le s 2⟩ ⟨bt_nonneg s 1, bt_le s 1⟩ ⟨bt_nonneg s 0, bt_le s 0⟩
theorem n8_bounds (x0 x1 x2 x3 x4 x5 x6 x7 : Int) (h0 : 0 ≤ x0 ∧ x0 ≤ 255) (h1 : 0 ≤ x1 ∧ x1 ≤ 255) (h2 : 0 ≤ x2 ∧ x2 ≤ 255) (h3 : 0 ≤ x3 ∧ x3 ≤ 255) (h4 : 0 ≤ x4 ∧ x4 ≤ 255) (h5 : 0 ≤ x5 ∧ x5 ≤ 255) (h6 : 0 ≤ x6 ∧ x6 ≤ 255) (h7 : 0 ≤ x7 ∧ x7 ≤ 255) :
    0 ≤ n8 x0 x1 x2 x3 x4 x5 x6 x7 ∧ n8 x0 x1 x2 x3 x4 x5 x6 x7 ≤ 18446744073709551615 := by unfold n8; omega
theorem bt_b (s : ByteArray) (k : Nat) : 0 ≤ bt s k ∧ bt s k ≤ 255 := ⟨bt_nonneg s k, bt_le s k⟩
theorem unordZ_bounds (s : ByteArray) : 0 ≤ unordZ s ∧ unordZ s ≤ 18446744073709551615 := n8_bounds _ _ _ _ _ _ _ _ (bt_b s 7) (bt_b s 6) (bt_b s 5) (bt_b s 4) (bt_b s 3) (bt_b s 2) (bt_b s 1) (bt_b s 0)
theorem unfixZ_bounds (s : ByteArray) : 0 ≤ unfixZ s ∧ unfixZ s ≤ 18446744073709551615 := n8_bounds _ _ _ _ _ _ _ _ (bt_b s 0) (bt_b s 1) (bt_b s 2) (bt_b s 3) (bt_b s 4) (bt_b s 5) (bt_b s 6) (bt_b s 7)
def unordV (s : ByteArray) : Int := unordZ s - 9223372036854775808
theorem unord_flip (s : ByteArray) : wrap64 (bits .xor .u64 (unordZ s) 9223372036854775808) = unordV s := by
  have h := unordZ_bounds s
  rw [u64_flip _ h.1 (by omega)]
  unfold wrap64 unordV; omega

end Go.Proofs.YtkdhlofcdcnjgaaGreat
namespace Go.Proofs.YtkdhlofcdcnjgaaGreat
set_option maxRecDepth 100000
open Go.ChangeShapes Go.WideShapes Go.ChangeAt Go.RowKit Go.PlainAid

/-- The two halves of a text's sum, behind its first bytes. -/
def sA (s : ByteArray) : Nat → Int | 0 => 1 | k + 1 => (sA s k + bt s k) % 65521
def sB (s : ByteArray) : Nat → Int | 0 => 0 | k + 1 => (sB s k + sA s (k + 1)) % 65521
/-- The sum of a text. -/
def sumZ (s : ByteArray) : Int := 65536 * sB s s.size + sA s s.size
theorem sA_b (s : ByteArray) (k : Nat) : 0 ≤ sA s k ∧ sA s k ≤ 65520 := by
  cases k with
  | zero => simp [sA]
  | succ k => simp only [sA]; omega
theorem sB_b (s : ByteArray) (k : Nat) : 0 ≤ sB s k ∧ sB s k ≤ 65520 := by
  cases k with
  | zero => simp [sB]
  | succ k => simp only [sB]; omega

/-- A text with every bit turned. -/
def notS (s : ByteArray) : ByteArray := strOfNums ((List.range s.size).map fun j => 255 - bt s j)

theorem not_list (s : ByteArray) : (List.range s.size).map (fun j => if j < s.size then 255 - bt s j else bt s j) = (List.range s.size).map fun j => 255 - bt s j :=
  List.map_congr_left fun _ hj => if_pos (List.mem_range.1 hj)
theorem not_list0 (s : ByteArray) : (List.range s.size).map (fun j => if j < s.size then 255 - bt s j else 0) = (List.range s.size).map fun j => 255 - bt s j :=
  List.map_congr_left fun _ hj => if_pos (List.mem_range.1 hj)
set_option maxHeartbeats 400000 in
theorem not_any (s : ByteArray) (w : World) (hs : s.size ≤ maxLen) :
    Calls Tryz.prog 127 #[.string s] w fun e w' => e = .returned (.string (notS s)) ∧ Below w.heap.size w w' := by
  unfold maxLen at hs
  have HZ := Lib.hid (show notS s = strOfNums ((List.range s.size).map fun j => 255 - bt s j) from rfl)
  have HK := Lib.hid (fun w => Lib.run_convert_string_bytes (P := Tryz.prog) w 9 143 5 s Tryz.underlying9 Tryz.underlying143 Tryz.underlying5)
  go_enter Tryz.func127, Tryz.ntmps127
  go_wp2
  rw [HK.out]
  have hb1 := RowI.ofBytes w 5 s
  generalize Lib.bytesWorld w 5 s = w1 at *
  go_wp2
  go_loopw [10] (fun i wr => ∃ k : Nat, k ≤ s.size ∧ i = .int .i64 k ∧ RowI w s.size (fun j => if j < k then 255 - bt s j else bt s j) wr) (fun i _ => s.size - (intOf i).toNat)
  case atStart => exact ⟨0, Nat.zero_le _, rfl, hb1⟩
  case round =>
    obtain ⟨k, hk, rfl, hi⟩ := hrel
    clear hb1
    by_cases hlt : k < s.size
    · have hc := hi.cells k hlt
      rw [if_neg (Nat.lt_irrefl k)] at hc
      have hf := hi.thawed k hlt
      have hx := u8_not (bt s k) (bt_nonneg s k) (by have := bt_le s k; omega)
      go_wp2
      go_roundw
      case rel => exact ⟨k + 1, by omega, by go_num, by have hh := hi.set (g := fun j => if j < k + 1 then 255 - bt s j else bt s j) hlt (255 - bt s k) (if_pos (by omega)) (fun j _ hj => by by_cases c : j < k <;> simp [c] <;> omega); rw [← hx] at hh; exact hh⟩
      case measure => simp [intOf]; omega
    · obtain rfl : k = s.size := by omega
      have HCS := Lib.hid (row_str hi)
      go_wp2
      rw [run_convert_bytes_arg wr 143 5 Tryz.underlying143 Tryz.underlying5 _ 0 _ _ _ (len_range s.size _) HCS.out 9 Tryz.underlying9]
      go_wp2
      go_returns
      exact ⟨by rw [HZ.out, ← not_list]; rfl, hi.below⟩

theorem infoB : (Tryz.prog.info? 5).map (fun i => (i.zero, i.size, i.bytes)) = some (some (.int .u8 0), 1, 1) := by kernel_rfl

end Go.Proofs.YtkdhlofcdcnjgaaGreat
