/- Contracts: Unfixed, Unordered. -/
import Derived.Test.YtbfmadafiaofiaaBitsC
import Derived.Lib.ConvBytes
namespace Go.Proofs.Ytbfmadafiaofiaa
open Go.ChangeShapes Go.WideShapes Go.ChangeAt Go.RowKit Go.PlainAid

/-- The number of eight bytes, the lowest first. -/
def n8 (x0 x1 x2 x3 x4 x5 x6 x7 : Int) : Int := x0 + x1 * 256 + x2 * 65536 + x3 * 16777216 + x4 * 4294967296 + x5 * 1099511627776 + x6 * 281474976710656 + x7 * 72057594037927936
/-- The number of a text's first eight bytes, the lowest first. -/
def unfixZ (s : ByteArray) : Int := n8 (bt s 0) (bt s 1) (bt s 2) (bt s 3) (bt s 4) (bt s 5) (bt s 6) (bt s 7)

theorem info8 : (Try.prog.info? 5).map (·.size) = some 1 := by kernel_rfl

theorem or_n8 (x0 x1 x2 x3 x4 x5 x6 x7 : Int) (h0 : 0 ≤ x0 ∧ x0 ≤ 255) (h1 : 0 ≤ x1 ∧ x1 ≤ 255) (h2 : 0 ≤ x2 ∧ x2 ≤ 255) (h3 : 0 ≤ x3 ∧ x3 ≤ 255) (h4 : 0 ≤ x4 ∧ x4 ≤ 255) (h5 : 0 ≤ x5 ∧ x5 ≤ 255) (h6 : 0 ≤ x6 ∧ x6 ≤ 255) (h7 : 0 ≤ x7 ∧ x7 ≤ 255) :
    bits .or .u64 (bits .or .u64 (bits .or .u64 (bits .or .u64 (bits .or .u64 (bits .or .u64 (bits .or .u64 (bits .or .u64 0 x0) (x1 * 256)) (x2 * 65536)) (x3 * 16777216)) (x4 * 4294967296)) (x5 * 1099511627776)) (x6 * 281474976710656)) (x7 * 72057594037927936) = n8 x0 x1 x2 x3 x4 x5 x6 x7 := by
  rw [u64_or_add 0 x0 0 x0 1 (by omega) (by omega) (by omega) (by omega) (by omega) (by omega) (by omega)]
  rw [u64_or_add _ x1 8 (x1 * 256) 256 (by omega) (by omega) (by omega) (by omega) (by omega) (by omega) (by omega)]
  rw [u64_or_add _ x2 16 (x2 * 65536) 65536 (by omega) (by omega) (by omega) (by omega) (by omega) (by omega) (by omega)]
  rw [u64_or_add _ x3 24 (x3 * 16777216) 16777216 (by omega) (by omega) (by omega) (by omega) (by omega) (by omega) (by omega)]
  rw [u64_or_add _ x4 32 (x4 * 4294967296) 4294967296 (by omega) (by omega) (by omega) (by omega) (by omega) (by omega) (by omega)]
  rw [u64_or_add _ x5 40 (x5 * 1099511627776) 1099511627776 (by omega) (by omega) (by omega) (by omega) (by omega) (by omega) (by omega)]
  rw [u64_or_add _ x6 48 (x6 * 281474976710656) 281474976710656 (by omega) (by omega) (by omega) (by omega) (by omega) (by omega) (by omega)]
  rw [u64_or_add _ x7 56 (x7 * 72057594037927936) 72057594037927936 (by omega) (by omega) (by omega) (by omega) (by omega) (by omega) (by omega)]
  unfold n8; omega

theorem idx0 (x0 x1 x2 x3 x4 x5 x6 x7 : Int) : ∀ w, (Instr.index 45 (.agg #[.int .u8 x0, .int .u8 x1, .int .u8 x2, .int .u8 x3, .int .u8 x4, .int .u8 x5, .int .u8 x6, .int .u8 x7]) (.int .i64 0)).run Try.prog w = .ok (.int .u8 x0) w := fun _ => by kernel_rfl
theorem idx1 (x0 x1 x2 x3 x4 x5 x6 x7 : Int) : ∀ w, (Instr.index 45 (.agg #[.int .u8 x0, .int .u8 x1, .int .u8 x2, .int .u8 x3, .int .u8 x4, .int .u8 x5, .int .u8 x6, .int .u8 x7]) (.int .i64 1)).run Try.prog w = .ok (.int .u8 x1) w := fun _ => by kernel_rfl
theorem idx2 (x0 x1 x2 x3 x4 x5 x6 x7 : Int) : ∀ w, (Instr.index 45 (.agg #[.int .u8 x0, .int .u8 x1, .int .u8 x2, .int .u8 x3, .int .u8 x4, .int .u8 x5, .int .u8 x6, .int .u8 x7]) (.int .i64 2)).run Try.prog w = .ok (.int .u8 x2) w := fun _ => by kernel_rfl
theorem idx3 (x0 x1 x2 x3 x4 x5 x6 x7 : Int) : ∀ w, (Instr.index 45 (.agg #[.int .u8 x0, .int .u8 x1, .int .u8 x2, .int .u8 x3, .int .u8 x4, .int .u8 x5, .int .u8 x6, .int .u8 x7]) (.int .i64 3)).run Try.prog w = .ok (.int .u8 x3) w := fun _ => by kernel_rfl
theorem idx4 (x0 x1 x2 x3 x4 x5 x6 x7 : Int) : ∀ w, (Instr.index 45 (.agg #[.int .u8 x0, .int .u8 x1, .int .u8 x2, .int .u8 x3, .int .u8 x4, .int .u8 x5, .int .u8 x6, .int .u8 x7]) (.int .i64 4)).run Try.prog w = .ok (.int .u8 x4) w := fun _ => by kernel_rfl
theorem idx5 (x0 x1 x2 x3 x4 x5 x6 x7 : Int) : ∀ w, (Instr.index 45 (.agg #[.int .u8 x0, .int .u8 x1, .int .u8 x2, .int .u8 x3, .int .u8 x4, .int .u8 x5, .int .u8 x6, .int .u8 x7]) (.int .i64 5)).run Try.prog w = .ok (.int .u8 x5) w := fun _ => by kernel_rfl
theorem idx6 (x0 x1 x2 x3 x4 x5 x6 x7 : Int) : ∀ w, (Instr.index 45 (.agg #[.int .u8 x0, .int .u8 x1, .int .u8 x2, .int .u8 x3, .int .u8 x4, .int .u8 x5, .int .u8 x6, .int .u8 x7]) (.int .i64 6)).run Try.prog w = .ok (.int .u8 x6) w := fun _ => by kernel_rfl
theorem idx7 (x0 x1 x2 x3 x4 x5 x6 x7 : Int) : ∀ w, (Instr.index 45 (.agg #[.int .u8 x0, .int .u8 x1, .int .u8 x2, .int .u8 x3, .int .u8 x4, .int .u8 x5, .int .u8 x6, .int .u8 x7]) (.int .i64 7)).run Try.prog w = .ok (.int .u8 x7) w := fun _ => by kernel_rfl

set_option maxHeartbeats 1000000 in
theorem unfixed_any (s : ByteArray) (w : World) :
    Calls Try.prog 25 #[.string s] w fun e w' => e = .returned (.int .u64 (unfixZ s)) ∧ Below w.heap.size w w' := by
  have hcp := fun w => run_copy8 (P := Try.prog) w 44 9 3 5 45 s Try.underlying44 info8
  have HC := Lib.hid hcp
  clear hcp
  have hz := Lib.hid (show unfixZ s = n8 (bt s 0) (bt s 1) (bt s 2) (bt s 3) (bt s 4) (bt s 5) (bt s 6) (bt s 7) from rfl)
  have b0 := And.intro (bt_nonneg s 0) (bt_le s 0)
  have b1 := And.intro (bt_nonneg s 1) (bt_le s 1)
  have b2 := And.intro (bt_nonneg s 2) (bt_le s 2)
  have b3 := And.intro (bt_nonneg s 3) (bt_le s 3)
  have b4 := And.intro (bt_nonneg s 4) (bt_le s 4)
  have b5 := And.intro (bt_nonneg s 5) (bt_le s 5)
  have b6 := And.intro (bt_nonneg s 6) (bt_le s 6)
  have b7 := And.intro (bt_nonneg s 7) (bt_le s 7)
  go_enter Try.func25, Try.ntmps25
  go_wp2
  rw [HC.out]
  generalize bt s 0 = x0 at *
  generalize bt s 1 = x1 at *
  generalize bt s 2 = x2 at *
  generalize bt s 3 = x3 at *
  generalize bt s 4 = x4 at *
  generalize bt s 5 = x5 at *
  generalize bt s 6 = x6 at *
  generalize bt s 7 = x7 at *
  have i0 := idx0 x0 x1 x2 x3 x4 x5 x6 x7
  have i1 := idx1 x0 x1 x2 x3 x4 x5 x6 x7
  have i2 := idx2 x0 x1 x2 x3 x4 x5 x6 x7
  have i3 := idx3 x0 x1 x2 x3 x4 x5 x6 x7
  have i4 := idx4 x0 x1 x2 x3 x4 x5 x6 x7
  have i5 := idx5 x0 x1 x2 x3 x4 x5 x6 x7
  have i6 := idx6 x0 x1 x2 x3 x4 x5 x6 x7
  have i7 := idx7 x0 x1 x2 x3 x4 x5 x6 x7
  go_wp2
  go_rounds 9
  go_returns
  exact ⟨ret_i ((or_n8 _ _ _ _ _ _ _ _ b0 b1 b2 b3 b4 b5 b6 b7).trans hz.out.symm), by go_grown⟩

/-- The number that eight bytes were made of. -/
def unordZ (s : ByteArray) : Int := n8 (bt s 7) (bt s 6) (bt s 5) (bt s 4) (bt s 3) (bt s 2) (bt s 1) (bt s 0)
theorem unfix_str (x0 x1 x2 x3 x4 x5 x6 x7 : Int) (h0 : 0 ≤ x0 ∧ x0 ≤ 255) (h1 : 0 ≤ x1 ∧ x1 ≤ 255) (h2 : 0 ≤ x2 ∧ x2 ≤ 255) (h3 : 0 ≤ x3 ∧ x3 ≤ 255) (h4 : 0 ≤ x4 ∧ x4 ≤ 255) (h5 : 0 ≤ x5 ∧ x5 ≤ 255) (h6 : 0 ≤ x6 ∧ x6 ≤ 255) (h7 : 0 ≤ x7 ∧ x7 ≤ 255) : unfixZ (strOfNums [x0, x1, x2, x3, x4, x5, x6, x7]) = n8 x0 x1 x2 x3 x4 x5 x6 x7 := by
  unfold unfixZ
  rw [bt_strOfNums [x0, x1, x2, x3, x4, x5, x6, x7] 0 h0.1 h0.2, bt_strOfNums [x0, x1, x2, x3, x4, x5, x6, x7] 1 h1.1 h1.2, bt_strOfNums [x0, x1, x2, x3, x4, x5, x6, x7] 2 h2.1 h2.2, bt_strOfNums [x0, x1, x2, x3, x4, x5, x6, x7] 3 h3.1 h3.2, bt_strOfNums [x0, x1, x2, x3, x4, x5, x6, x7] 4 h4.1 h4.2, bt_strOfNums [x0, x1, x2, x3, x4, x5, x6, x7] 5 h5.1 h5.2, bt_strOfNums [x0, x1, x2, x3, x4, x5, x6, x7] 6 h6.1 h6.2, bt_strOfNums [x0, x1, x2, x3, x4, x5, x6, x7] 7 h7.1 h7.2]
  rfl
theorem unord_rev (s : ByteArray) : unfixZ (strOfNums [bt s 7, bt s 6, bt s 5, bt s 4, bt s 3, bt s 2, bt s 1, bt s 0]) = unordZ s := 
  unfix_str _ _ _ _ _ _ _ _ ⟨bt_nonneg s 7, bt_le s 7⟩ ⟨bt_nonneg s 6, bt_le s 6⟩ ⟨bt_nonneg s 5, bt_le s 5⟩ ⟨bt_nonneg s 4, bt_le s 4⟩ ⟨bt_nonneg s 3, bt_le s 3⟩ ⟨bt_nonneg s 2, bt_le s 2⟩ ⟨bt_nonneg s 1, bt_le s 1⟩ ⟨bt_nonneg s 0, bt_le s 0⟩
theorem n8_bounds (x0 x1 x2 x3 x4 x5 x6 x7 : Int) (h0 : 0 ≤ x0 ∧ x0 ≤ 255) (h1 : 0 ≤ x1 ∧ x1 ≤ 255) (h2 : 0 ≤ x2 ∧ x2 ≤ 255) (h3 : 0 ≤ x3 ∧ x3 ≤ 255) (h4 : 0 ≤ x4 ∧ x4 ≤ 255) (h5 : 0 ≤ x5 ∧ x5 ≤ 255) (h6 : 0 ≤ x6 ∧ x6 ≤ 255) (h7 : 0 ≤ x7 ∧ x7 ≤ 255) :
    0 ≤ n8 x0 x1 x2 x3 x4 x5 x6 x7 ∧ n8 x0 x1 x2 x3 x4 x5 x6 x7 ≤ 18446744073709551615 := by unfold n8; omega
theorem bt_b (s : ByteArray) (k : Nat) : 0 ≤ bt s k ∧ bt s k ≤ 255 := ⟨bt_nonneg s k, bt_le s k⟩
theorem unordZ_bounds (s : ByteArray) : 0 ≤ unordZ s ∧ unordZ s ≤ 18446744073709551615 := n8_bounds _ _ _ _ _ _ _ _ (bt_b s 7) (bt_b s 6) (bt_b s 5) (bt_b s 4) (bt_b s 3) (bt_b s 2) (bt_b s 1) (bt_b s 0)
theorem unfixZ_bounds (s : ByteArray) : 0 ≤ unfixZ s ∧ unfixZ s ≤ 18446744073709551615 := n8_bounds _ _ _ _ _ _ _ _ (bt_b s 0) (bt_b s 1) (bt_b s 2) (bt_b s 3) (bt_b s 4) (bt_b s 5) (bt_b s 6) (bt_b s 7)
def unordV (s : ByteArray) : Int := unordZ s - 9223372036854775808
theorem unord_flip (s : ByteArray) : wrap64 (bits .xor .u64 (unordZ s) 9223372036854775808) = unordV s := by
  have h := unordZ_bounds s
  rw [u64_flip _ h.1 (by omega)]
  unfold wrap64 unordV; omega

set_option maxHeartbeats 400000 in
theorem unordered_bad (s : ByteArray) (w : World) (h8 : s.size ≠ 8) :
    Calls Try.prog 20 #[.string s] w fun e w' => e = .returned (.tuple #[.int .i64 0, .int .i64 14]) ∧ Below w.heap.size w w' := by
  go_enter Try.func20, Try.ntmps20
  go_wp2
  go_returns
  exact ⟨rfl, by go_grown⟩

set_option maxHeartbeats 400000 in
theorem unordered_any (s : ByteArray) (w : World) (h8 : s.size = 8) :
    Calls Try.prog 20 #[.string s] w fun e w' => e = .returned (.tuple #[.int .i64 (unordV s), .int .i64 0]) ∧ Below w.heap.size w w' := by
  have HK := Lib.hid (fun w => Lib.run_convert_string_bytes (P := Try.prog) w 9 44 5 s Try.underlying9 Try.underlying44 Try.underlying5)
  have hun := Lib.hid (unord_rev s)
  go_enter Try.func20, Try.ntmps20
  go_wp2
  rw [HK.out, h8]
  obtain ⟨hb1, hz1, hc1, hf1⟩ := bytes_facts w 5 s
  have HC := Lib.hid hc1
  have HF := Lib.hid hf1
  have HZ := Lib.hid hz1
  clear hc1 hf1 hz1
  generalize Lib.bytesWorld w 5 s = w1 at *
  go_wp2_with fail
  refine (reverse8 (bt s 0) (bt s 1) (bt s 2) (bt s 3) (bt s 4) (bt s 5) (bt s 6) (bt s 7) w.heap.size _ w1 (HC.out _ (by omega)) (HC.out _ (by omega)) (HC.out _ (by omega)) (HC.out _ (by omega)) (HC.out _ (by omega)) (HC.out _ (by omega)) (HC.out _ (by omega)) (HC.out _ (by omega)) (HF.out _ (by omega)) (HF.out _ (by omega)) (HF.out _ (by omega)) (HF.out _ (by omega)) (HF.out _ (by omega)) (HF.out _ (by omega)) (HF.out _ (by omega)) (HF.out _ (by omega))).mono ?_
  rintro e w2 ⟨rfl, hb2, hz2, hc2⟩
  have HZ2 := Lib.hid hz2
  have HC2 := Lib.hid hc2
  clear hz2 hc2
  go_wp2_with fail
  rw [run_convert_bytes_arg w2 44 5 Try.underlying44 Try.underlying5 _ 0 8 _ [bt s 7, bt s 6, bt s 5, bt s 4, bt s 3, bt s 2, bt s 1, bt s 0] rfl HC2.out 9 Try.underlying9]
  go_wp2_with fail
  go_call (unfixed_any _ _) as e w3 ⟨rfl, hb3⟩
  rw [hun.out]
  go_wp2
  go_returns
  refine ⟨?_, ?_⟩
  · rw [← unord_flip s]; rfl
  · have a1 := HZ.out
    have a2 := HZ2.out
    exact (hb1.trans hb2).trans (hb3.mono (by omega))
end Go.Proofs.Ytbfmadafiaofiaa
