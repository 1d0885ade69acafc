/- Contracts of the reference: Fixed, Unfixed, Ordered, Unordered. -/
import Derived.Test.YtbfmadafiaofiaaBitsD
namespace Go.Proofs.Ytbfmadafiaofiaa
open Go.ChangeShapes Go.WideShapes Go.ChangeAt Go.RowKit Go.PlainAid

/-- n without its lowest k bytes. -/
def dv (n : Int) : Nat → Int | 0 => n | k + 1 => dv n k / 256
def dvL (n : Int) (k : Nat) : List Int := (List.range k).map fun i => dv n i % 256
theorem dvL_next (n : Int) (k : Nat) : dvL n (k + 1) = dvL n k ++ [dv n k % 256] := by simp [dvL, List.range_succ]
theorem dv_b (n : Int) (h0 : 0 ≤ n) (h1 : n ≤ 18446744073709551615) : ∀ k, 0 ≤ dv n k ∧ dv n k ≤ 18446744073709551615
  | 0 => ⟨h0, h1⟩
  | k + 1 => by have := dv_b n h0 h1 k; simp only [dv]; omega
theorem dvL_take (n : Int) (h0 : 0 ≤ n) (h1 : n ≤ 18446744073709551615) (k : Nat) (hk : k ≤ 8) : dvL n k = (l8 n).take k := by
  have e : dvL n 8 = l8 n := by
    have e2 : n / 256 / 256 = n / 65536 := by omega
    have e3 : n / 65536 / 256 = n / 16777216 := by omega
    have e4 : n / 16777216 / 256 = n / 4294967296 := by omega
    have e5 : n / 4294967296 / 256 = n / 1099511627776 := by omega
    have e6 : n / 1099511627776 / 256 = n / 281474976710656 := by omega
    have e7 : n / 281474976710656 / 256 = n / 72057594037927936 := by omega
    have e8 : n / 72057594037927936 % 256 = n / 72057594037927936 := by omega
    show [n % 256, n / 256 % 256, n / 256 / 256 % 256, n / 256 / 256 / 256 % 256, n / 256 / 256 / 256 / 256 % 256, n / 256 / 256 / 256 / 256 / 256 % 256, n / 256 / 256 / 256 / 256 / 256 / 256 % 256, n / 256 / 256 / 256 / 256 / 256 / 256 / 256 % 256] = l8 n
    rw [e2, e3, e4, e5, e6, e7, e8]
    rfl
  rw [← e]
  unfold dvL
  rw [← List.map_take, List.take_range]
  congr 2
  omega

theorem dvL_len (n : Int) (k : Nat) : (dvL n k).length = k := by simp [dvL]
set_option maxHeartbeats 1000000 in
theorem rordered_any (n : Int) (w : World) (h0 : -9223372036854775808 ≤ n) (h1 : n ≤ 9223372036854775807) :
    Calls Try.prog 19 #[.int .i64 n] w fun e w' => e = .returned (.string (ordS n)) ∧ Below w.heap.size w w' := by
  have hw : IntKind.u64.wrap (IntKind.u64.wrap n + 9223372036854775808) = n + 9223372036854775808 := by rw [IntKind.wrap_u64, IntKind.wrap_u64]; omega
  obtain ⟨u, hu⟩ : ∃ u, u = n + 9223372036854775808 := ⟨_, rfl⟩
  have ho := Lib.hid (show ordS n = strOfNums (h8 u) by rw [hu]; rfl)
  rw [← hu] at hw
  have u0 : 0 ≤ u := by omega
  have u1 : u ≤ 18446744073709551615 := by omega
  clear hu
  have hd := Lib.hid (dv_b u u0 u1)
  go_enter Try.func19, Try.ntmps19
  go_wp2
  go_loopw [3, 4, 5] (fun m o i wr => ∃ k : Nat, k ≤ 8 ∧ i = .int .i64 k ∧ m = .int .u64 (dv u k) ∧ o = .string (strOfNums (dvL u k).reverse) ∧ Below w.heap.size w wr) (fun _ _ i _ => 8 - (intOf i).toNat)
  case atStart => exact ⟨0, by omega, rfl, rfl, rfl, Below.refl _ _⟩
  case round =>
    obtain ⟨k, hk, rfl, rfl, rfl, hb⟩ := hrel
    have hd1 := hd.out k
    have hs := hb.size
    by_cases hlt : k < 8
    · have hq1 : (strOfNums (dvL u k).reverse).size ≤ 8 := by rw [strOfNums_size, List.length_reverse, dvL_len]; omega
      have hq2 : (strOfNums [dv u k % 256]).size ≤ 1 := by rw [strOfNums_size]; exact Nat.le_refl _
      go_wp2
      rw [conv_row 44 5 9 Try.underlying44 Try.underlying5 Try.underlying9 [dv u k % 256] _ _ 1 _ _ _ _ (heap_alloc_new _ _) rfl (one_get _)]
      go_wp2
      go_roundw
      case rel => exact ⟨k + 1, by omega, by go_num, rfl, by rw [dvL_next, List.reverse_append, List.reverse_singleton, ← str_app], by go_grown⟩
      case measure => simp [intOf]; omega
    · obtain rfl : k = 8 := by omega
      have hfin : Hid (ordS n = strOfNums (dvL u 8).reverse) := by
        unfold Hid
        rw [ho.out, dvL_take u u0 u1 8 (by omega)]
        rfl
      go_wp2
      go_returns
      exact ⟨by rw [hfin.out]; rfl, hb⟩

/-- 256^k as the text's own unit goes (0 behind the last byte). -/
def un : Nat → Int | 0 => 1 | k + 1 => un k * 256 % 18446744073709551616
/-- The number of a text's first k bytes. -/
def pz (s : ByteArray) : Nat → Int | 0 => 0 | k + 1 => pz s k + bt s k * un k
def qz (s : ByteArray) : Nat → Int | 0 => 0 | k + 1 => qz s k * 256 + bt s k
theorem un_v : un 0 = 1 ∧ un 1 = 256 ∧ un 2 = 65536 ∧ un 3 = 16777216 ∧ un 4 = 4294967296 ∧ un 5 = 1099511627776 ∧ un 6 = 281474976710656 ∧ un 7 = 72057594037927936 := by decide
theorem pz_b (s : ByteArray) (k : Nat) (hk : k < 8) : 0 ≤ un k ∧ un k ≤ 72057594037927936 ∧ 0 ≤ pz s k ∧ pz s k ≤ un k - 1 ∧ 0 ≤ bt s k * un k ∧ pz s k + bt s k * un k ≤ 18446744073709551615 := by
  obtain ⟨u0, u1, u2, u3, u4, u5, u6, u7⟩ := un_v
  have b0 := bt_b s 0
  have b1 := bt_b s 1
  have b2 := bt_b s 2
  have b3 := bt_b s 3
  have b4 := bt_b s 4
  have b5 := bt_b s 5
  have b6 := bt_b s 6
  have b7 := bt_b s 7
  match k, hk with
  | 0, _ => simp only [pz, u0]; omega
  | 1, _ => simp only [pz, u0, u1]; omega
  | 2, _ => simp only [pz, u0, u1, u2]; omega
  | 3, _ => simp only [pz, u0, u1, u2, u3]; omega
  | 4, _ => simp only [pz, u0, u1, u2, u3, u4]; omega
  | 5, _ => simp only [pz, u0, u1, u2, u3, u4, u5]; omega
  | 6, _ => simp only [pz, u0, u1, u2, u3, u4, u5, u6]; omega
  | 7, _ => simp only [pz, u0, u1, u2, u3, u4, u5, u6, u7]; omega
theorem pz_all (s : ByteArray) : pz s 8 = unfixZ s := by
  obtain ⟨u0, u1, u2, u3, u4, u5, u6, u7⟩ := un_v
  simp only [pz, u0, u1, u2, u3, u4, u5, u6, u7, unfixZ, n8]; omega
theorem pz_end (s : ByteArray) (k : Nat) (h : s.size ≤ k) : pz s (k + 1) = pz s k := by simp only [pz, bt_end s h]; omega
theorem pz_fin (s : ByteArray) (k : Nat) (h : s.size ≤ k) (h8 : k ≤ 8) : pz s k = unfixZ s := by
  rw [← pz_all]
  have : ∀ d, pz s (k + d) = pz s k := fun d => by
    induction d with
    | zero => rfl
    | succ d ih => rw [← Nat.add_assoc, pz_end s (k + d) (by omega), ih]
  have h2 := this (8 - k)
  rw [show k + (8 - k) = 8 by omega] at h2
  exact h2.symm
theorem qz_b (s : ByteArray) (k : Nat) (hk : k < 8) : 0 ≤ qz s k ∧ qz s k ≤ 72057594037927935 := by
  have b0 := bt_b s 0
  have b1 := bt_b s 1
  have b2 := bt_b s 2
  have b3 := bt_b s 3
  have b4 := bt_b s 4
  have b5 := bt_b s 5
  have b6 := bt_b s 6
  match k, hk with
  | 0, _ => simp only [qz]; omega
  | 1, _ => simp only [qz]; omega
  | 2, _ => simp only [qz]; omega
  | 3, _ => simp only [qz]; omega
  | 4, _ => simp only [qz]; omega
  | 5, _ => simp only [qz]; omega
  | 6, _ => simp only [qz]; omega
  | 7, _ => simp only [qz]; omega
theorem qz_all (s : ByteArray) : qz s 8 = unordZ s := by simp only [qz, unordZ, n8]; omega

set_option maxHeartbeats 400000 in
theorem runordered_bad (s : ByteArray) (w : World) (h8 : s.size ≠ 8) :
    Calls Try.prog 21 #[.string s] w fun e w' => e = .returned (.tuple #[.int .i64 0, .int .i64 14]) ∧ w = w' := by
  go_enter Try.func21, Try.ntmps21
  go_wp2
  go_returns
  exact ⟨rfl, rfl⟩
theorem unord_wrap (s : ByteArray) : wrap64 (IntKind.u64.wrap (unordZ s - 9223372036854775808)) = unordV s := by
  have h := unordZ_bounds s
  rw [IntKind.wrap_u64]
  unfold wrap64 unordV; omega
set_option maxHeartbeats 400000 in
theorem runordered_any (s : ByteArray) (w : World) (h8 : s.size = 8) :
    Calls Try.prog 21 #[.string s] w fun e w' => e = .returned (.tuple #[.int .i64 (unordV s), .int .i64 0]) ∧ w = w' := by
  have gb := get_bt s
  go_enter Try.func21, Try.ntmps21
  go_wp2
  go_loop [4, 5] (fun u i => ∃ k : Nat, k ≤ 8 ∧ i = .int .i64 k ∧ u = .int .u64 (qz s k)) (fun _ i => 8 - (intOf i).toNat)
  case atStart => exact ⟨0, Nat.zero_le _, rfl, rfl⟩
  case round =>
    obtain ⟨k, hk8, rfl, rfl⟩ := hrel
    have hc := bt_b s k
    by_cases hl8 : k < 8
    · have hq := qz_b s k hl8
      go_wp2
      go_round
      case rel => exact ⟨k + 1, by omega, by go_num, rfl⟩
      case measure => simp [intOf]; omega
    · obtain rfl : k = 8 := by omega
      have hf := Lib.hid (qz_all s)
      have hu := unord_wrap s
      go_wp2
      go_returns
      refine ⟨?_, rfl⟩
      rw [← hu, ← hf.out]
      rfl
end Go.Proofs.Ytbfmadafiaofiaa
