import Derived.Test.YtcjfnfdinhbdlaaGreatDoorGad
import Derived.Lib.ConvBytes
namespace Go.Proofs.YtcjfnfdinhbdlaaGreatDoor
set_option maxRecDepth 100000
open Go.ChangeShapes Go.WideShapes Go.ChangeAt Go.RowKit Go.PlainAid
def n8 (x0 x1 x2 x3 x4 x5 x6 x7 : Int) : Int := x0 + x1 * 256 + x2 * 65536 + x3 * 16777216 + x4 * 4294967296 + x5 * 1099511627776 + x6 * 281474976710656 + x7 * 72057594037927936
def unfixZ (s : ByteArray) : Int := n8 (bt s 0) (bt s 1) (bt s 2) (bt s 3) (bt s 4) (bt s 5) (bt s 6) (bt s 7)
theorem info8 : (Tryz.prog.info? 5).map (·.size) = some 1 := by kernel_rfl
theorem or_n8 (x0 x1 x2 x3 x4 x5 x6 x7 : Int) (h0 : 0 ≤ x0 ∧ x0 ≤ 255) (h1 : 0 ≤ x1 ∧ x1 ≤ 255) (h2 : 0 ≤ x2 ∧ x2 ≤ 255) (h3 : 0 ≤ x3 ∧ x3 ≤ 255) (h4 : 0 ≤ x4 ∧ x4 ≤ 255) (h5 : 0 ≤ x5 ∧ x5 ≤ 255) (h6 : 0 ≤ x6 ∧ x6 ≤ 255) (h7 : 0 ≤ x7 ∧ x7 ≤ 255) :
    bits .or .u64 (bits .or .u64 (bits .or .u64 (bits .or .u64 (bits .or .u64 (bits .or .u64 (bits .or .u64 (bits .or .u64 0 x0) (x1 * 256)) (x2 * 65536)) (x3 * 16777216)) (x4 * 4294967296)) (x5 * 1099511627776)) (x6 * 281474976710656)) (x7 * 72057594037927936) = n8 x0 x1 x2 x3 x4 x5 x6 x7 := by
  rw [u64_or_add 0 x0 0 x0 1 (by omega) (by omega) (by omega) (by omega) (by omega) (by omega) (by omega)]
  rw [u64_or_add _ x1 8 (x1 * 256) 256 (by omega) (by omega) (by omega) (by omega) (by omega) (by omega) (by omega)]
  rw [u64_or_add _ x2 16 (x2 * 65536) 65536 (by omega) (by omega) (by omega) (by omega) (by omega) (by omega) (by omega)]
  rw [u64_or_add _ x3 24 (x3 * 16777216) 16777216 (by omega) (by omega) (by omega) (by omega) (by omega) (by omega) (by omega)]
  rw [u64_or_add _ x4 32 (x4 * 4294967296) 4294967296 (by omega) (by omega) (by omega) (by omega) (by omega) (by omega) (by omega)]
  rw [u64_or_add _ x5 40 (x5 * 1099511627776) 1099511627776 (by omega) (by omega) (by omega) (by omega) (by omega) (by omega) (by omega)]
  rw [u64_or_add _ x6 48 (x6 * 281474976710656) 281474976710656 (by omega) (by omega) (by omega) (by omega) (by omega) (by omega) (by omega)]
  rw [u64_or_add _ x7 56 (x7 * 72057594037927936) 72057594037927936 (by omega) (by omega) (by omega) (by omega) (by omega) (by omega) (by omega)]
  unfold n8; omega
theorem idx0 (x0 x1 x2 x3 x4 x5 x6 x7 : Int) : ∀ w, (Instr.index 223 (.agg #[.int .u8 x0, .int .u8 x1, .int .u8 x2, .int .u8 x3, .int .u8 x4, .int .u8 x5, .int .u8 x6, .int .u8 x7]) (.int .i64 0)).run Tryz.prog w = .ok (.int .u8 x0) w := fun _ => by kernel_rfl
theorem idx1 (x0 x1 x2 x3 x4 x5 x6 x7 : Int) : ∀ w, (Instr.index 223 (.agg #[.int .u8 x0, .int .u8 x1, .int .u8 x2, .int .u8 x3, .int .u8 x4, .int .u8 x5, .int .u8 x6, .int .u8 x7]) (.int .i64 1)).run Tryz.prog w = .ok (.int .u8 x1) w := fun _ => by kernel_rfl
theorem idx2 (x0 x1 x2 x3 x4 x5 x6 x7 : Int) : ∀ w, (Instr.index 223 (.agg #[.int .u8 x0, .int .u8 x1, .int .u8 x2, .int .u8 x3, .int .u8 x4, .int .u8 x5, .int .u8 x6, .int .u8 x7]) (.int .i64 2)).run Tryz.prog w = .ok (.int .u8 x2) w := fun _ => by kernel_rfl
theorem idx3 (x0 x1 x2 x3 x4 x5 x6 x7 : Int) : ∀ w, (Instr.index 223 (.agg #[.int .u8 x0, .int .u8 x1, .int .u8 x2, .int .u8 x3, .int .u8 x4, .int .u8 x5, .int .u8 x6, .int .u8 x7]) (.int .i64 3)).run Tryz.prog w = .ok (.int .u8 x3) w := fun _ => by kernel_rfl
theorem idx4 (x0 x1 x2 x3 x4 x5 x6 x7 : Int) : ∀ w, (Instr.index 223 (.agg #[.int .u8 x0, .int .u8 x1, .int .u8 x2, .int .u8 x3, .int .u8 x4, .int .u8 x5, .int .u8 x6, .int .u8 x7]) (.int .i64 4)).run Tryz.prog w = .ok (.int .u8 x4) w := fun _ => by kernel_rfl
theorem idx5 (x0 x1 x2 x3 x4 x5 x6 x7 : Int) : ∀ w, (Instr.index 223 (.agg #[.int .u8 x0, .int .u8 x1, .int .u8 x2, .int .u8 x3, .int .u8 x4, .int .u8 x5, .int .u8 x6, .int .u8 x7]) (.int .i64 5)).run Tryz.prog w = .ok (.int .u8 x5) w := fun _ => by kernel_rfl
theorem idx6 (x0 x1 x2 x3 x4 x5 x6 x7 : Int) : ∀ w, (Instr.index 223 (.agg #[.int .u8 x0, .int .u8 x1, .int .u8 x2, .int .u8 x3, .int .u8 x4, .int .u8 x5, .int .u8 x6, .int .u8 x7]) (.int .i64 6)).run Tryz.prog w = .ok (.int .u8 x6) w := fun _ => by kernel_rfl
theorem idx7 (x0 x1 x2 x3 x4 x5 x6 x7 : Int) : ∀ w, (Instr.index 223 (.agg #[.int .u8 x0, .int .u8 x1, .int .u8 x2, .int .u8 x3, .int .u8 x4, .int .u8 x5, .int .u8 x6, .int .u8 x7]) (.int .i64 7)).run Tryz.prog w = .ok (.int .u8 x7) w := fun _ => by kernel_rfl
set_option maxHeartbeats 1000000 in
theorem unfixed_any (s : ByteArray) (w : World) :
    Calls Tryz.prog 108 #[.string s] w fun e w' => e = .returned (.int .u64 (unfixZ s)) ∧ Below w.heap.size w w' := by
  have hcp := fun w => run_copy8 (P := Tryz.prog) w 160 9 3 5 223 s Tryz.underlying160 info8
  have HC := Lib.hid hcp
  clear hcp
  have hz := Lib.hid (show unfixZ s = n8 (bt s 0) (bt s 1) (bt s 2) (bt s 3) (bt s 4) (bt s 5) (bt s 6) (bt s 7) from rfl)
  have b0 := And.intro (bt_nonneg s 0) (bt_le s 0)
  have b1 := And.intro (bt_nonneg s 1) (bt_le s 1)
  have b2 := And.intro (bt_nonneg s 2) (bt_le s 2)
  have b3 := And.intro (bt_nonneg s 3) (bt_le s 3)
  have b4 := And.intro (bt_nonneg s 4) (bt_le s 4)
  have b5 := And.intro (bt_nonneg s 5) (bt_le s 5)
  have b6 := And.intro (bt_nonneg s 6) (bt_le s 6)
  have b7 := And.intro (bt_nonneg s 7) (bt_le s 7)
  go_enter Tryz.func108, Tryz.ntmps108
  go_wp2
  rw [HC.out]
  generalize bt s 0 = x0 at *
  generalize bt s 1 = x1 at *
  generalize bt s 2 = x2 at *
  generalize bt s 3 = x3 at *
  generalize bt s 4 = x4 at *
  generalize bt s 5 = x5 at *
  generalize bt s 6 = x6 at *
  generalize bt s 7 = x7 at *
  have i0 := idx0 x0 x1 x2 x3 x4 x5 x6 x7
  have i1 := idx1 x0 x1 x2 x3 x4 x5 x6 x7
  have i2 := idx2 x0 x1 x2 x3 x4 x5 x6 x7
  have i3 := idx3 x0 x1 x2 x3 x4 x5 x6 x7
  have i4 := idx4 x0 x1 x2 x3 x4 x5 x6 x7
  have i5 := idx5 x0 x1 x2 x3 x4 x5 x6 x7
  have i6 := idx6 x0 x1 x2 x3 x4 x5 x6 x7
  have i7 := idx7 x0 x1 x2 x3 x4 x5 x6 x7
  go_wp2
  go_rounds 9
  go_returns
  exact ⟨ret_i ((or_n8 _ _ _ _ _ _ _ _ b0 b1 b2 b3 b4 b5 b6 b7).trans hz.out.symm), by go_grown⟩
def unordZ (s : ByteArray) : Int := n8 (bt s 7) (bt s 6) (bt s 5) (bt s 4) (bt s 3) (bt s 2) (bt s 1) (bt s 0)
theorem unfix_str (x0 x1 x2 x3 x4 x5 x6 x7 : Int) (h0 : 0 ≤ x0 ∧ x0 ≤ 255) (h1 : 0 ≤ x1 ∧ x1 ≤ 255) (h2 : 0 ≤ x2 ∧ x2 ≤ 255) (h3 : 0 ≤ x3 ∧ x3 ≤ 255) (h4 : 0 ≤ x4 ∧ x4 ≤ 255) (h5 : 0 ≤ x5 ∧ x5 ≤ 255) (h6 : 0 ≤ x6 ∧ x6 ≤ 255) (h7 : 0 ≤ x7 ∧ x7 ≤ 255) : unfixZ (strOfNums [x0, x1, x2, x3, x4, x5, x6, x7]) = n8 x0 x1 x2 x3 x4 x5 x6 x7 := by
  unfold unfixZ
  rw [bt_strOfNums [x0, x1, x2, x3, x4, x5, x6, x7] 0 h0.1 h0.2, bt_strOfNums [x0, x1, x2, x3, x4, x5, x6, x7] 1 h1.1 h1.2, bt_strOfNums [x0, x1, x2, x3, x4, x5, x6, x7] 2 h2.1 h2.2, bt_strOfNums [x0, x1, x2, x3, x4, x5, x6, x7] 3 h3.1 h3.2, bt_strOfNums [x0, x1, x2, x3, x4, x5, x6, x7] 4 h4.1 h4.2, bt_strOfNums [x0, x1, x2, x3, x4, x5, x6, x7] 5 h5.1 h5.2, bt_strOfNums [x0, x1, x2, x3, x4, x5, x6, x7] 6 h6.1 h6.2, bt_strOfNums [x0, x1, x2, x3, x4, x5, x6, x7] 7 h7.1 h7.2]
  rfl
theorem unord_rev (s : ByteArray) : unfixZ (strOfNums [bt s 7, bt s 6, bt s 5, bt s 4, bt s 3, bt s 2, bt s 1, bt s 0]) = unordZ s := 
  unfix_str _ _ _ _ _ _ _ _ ⟨bt_nonneg s 7, bt_le s 7⟩ ⟨bt_nonneg s 6, bt_le s 6⟩ ⟨bt_nonneg s 5, bt_le s 5⟩ ⟨bt_nonneg s 4, bt_le s 4⟩ ⟨bt_nonneg s 3, bt_le s 3⟩ ⟨bt_nonneg s 2, bt_le s 2⟩ ⟨bt_nonneg s 1, bt_le s 1⟩ ⟨bt_nonneg s 0, bt_le s 0⟩
theorem n8_bounds (x0 x1 x2 x3 x4 x5 x6 x7 : Int) (h0 : 0 ≤ x0 ∧ x0 ≤ 255) (h1 : 0 ≤ x1 ∧ x1 ≤ 255) (h2 : 0 ≤ x2 ∧ x2 ≤ 255) (h3 : 0 ≤ x3 ∧ x3 ≤ 255) (h4 : 0 ≤ x4 ∧ x4 ≤ 255) (h5 : 0 ≤ x5 ∧ x5 ≤ 255) (h6 : 0 ≤ x6 ∧ x6 ≤ 255) (h7 : 0 ≤ x7 ∧ x7 ≤ 255) :
    0 ≤ n8 x0 x1 x2 x3 x4 x5 x6 x7 ∧ n8 x0 x1 x2 x3 x4 x5 x6 x7 ≤ 18446744073709551615 := by unfold n8; omega
theorem bt_b (s : ByteArray) (k : Nat) : 0 ≤ bt s k ∧ bt s k ≤ 255 := ⟨bt_nonneg s k, bt_le s k⟩
theorem unordZ_bounds (s : ByteArray) : 0 ≤ unordZ s ∧ unordZ s ≤ 18446744073709551615 := n8_bounds _ _ _ _ _ _ _ _ (bt_b s 7) (bt_b s 6) (bt_b s 5) (bt_b s 4) (bt_b s 3) (bt_b s 2) (bt_b s 1) (bt_b s 0)
def unordV (s : ByteArray) : Int := unordZ s - 9223372036854775808
theorem unord_flip (s : ByteArray) : wrap64 (bits .xor .u64 (unordZ s) 9223372036854775808) = unordV s := by
  have h := unordZ_bounds s
  rw [u64_flip _ h.1 (by omega)]
  unfold wrap64 unordV; omega
end Go.Proofs.YtcjfnfdinhbdlaaGreatDoor
namespace Go.Proofs.YtcjfnfdinhbdlaaGreatDoor
set_option maxRecDepth 100000
open Go.ChangeShapes Go.WideShapes Go.ChangeAt Go.RowKit Go.PlainAid
set_option maxHeartbeats 1000000 in
theorem reverse8 (a0 a1 a2 a3 a4 a5 a6 a7 : Int) (b c : Nat) (w : World)
    (c0 : w.cell? ⟨b, 0, none⟩ = some (.int .u8 a0)) (c1 : w.cell? ⟨b, 1, none⟩ = some (.int .u8 a1)) (c2 : w.cell? ⟨b, 2, none⟩ = some (.int .u8 a2)) (c3 : w.cell? ⟨b, 3, none⟩ = some (.int .u8 a3))
    (c4 : w.cell? ⟨b, 4, none⟩ = some (.int .u8 a4)) (c5 : w.cell? ⟨b, 5, none⟩ = some (.int .u8 a5)) (c6 : w.cell? ⟨b, 6, none⟩ = some (.int .u8 a6)) (c7 : w.cell? ⟨b, 7, none⟩ = some (.int .u8 a7))
    (f0 : w.frozen? ⟨b, 0, none⟩ = false) (f1 : w.frozen? ⟨b, 1, none⟩ = false) (f2 : w.frozen? ⟨b, 2, none⟩ = false) (f3 : w.frozen? ⟨b, 3, none⟩ = false)
    (f4 : w.frozen? ⟨b, 4, none⟩ = false) (f5 : w.frozen? ⟨b, 5, none⟩ = false) (f6 : w.frozen? ⟨b, 6, none⟩ = false) (f7 : w.frozen? ⟨b, 7, none⟩ = false) :
    Calls Tryz.prog 159 #[.slice (some ⟨b, 0, none⟩) 8 c] w fun e w' => e = .returned (.tuple #[]) ∧ Below b w w' ∧ w'.heap.size = w.heap.size ∧ ∀ i, i < 8 → w'.cell? ⟨b, 0 + i, none⟩ = some (.int .u8 ([a7, a6, a5, a4, a3, a2, a1, a0].getD i 0)) := by
  go_enter Tryz.func159, Tryz.ntmps159
  go_wp2
  refine wp_loop_rounds 5 ?_
  rw [rounds_succ]
  go_wp2
  go_region
  all_goals (go_wp2; rw [rounds_succ]; go_wp2)
  all_goals (go_region)
  all_goals (go_wp2; rw [rounds_succ]; go_wp2)
  all_goals (go_region)
  all_goals (go_wp2; rw [rounds_succ]; go_wp2)
  all_goals (go_region)
  all_goals (go_wp2; rw [rounds_succ]; go_wp2)
  go_returns
  refine ⟨rfl, by go_grown, by simp [World.setCell], ?_⟩
  intro i hi
  match i, hi with
  | 0, _ => go_cell | 1, _ => go_cell | 2, _ => go_cell | 3, _ => go_cell | 4, _ => go_cell | 5, _ => go_cell | 6, _ => go_cell | 7, _ => go_cell
set_option maxHeartbeats 400000 in
theorem ordered_any (n : Int) (w : World) (h0 : -9223372036854775808 ≤ n) (h1 : n ≤ 9223372036854775807) :
    Calls Tryz.prog 98 #[.int .i64 n] w fun e w' => e = .returned (.string (ordS n)) ∧ Below w.heap.size w w' := by
  have hx := u64_flip (IntKind.u64.wrap n) (by rw [IntKind.wrap_u64]; omega) (by rw [IntKind.wrap_u64]; omega)
  rw [show (IntKind.u64.wrap n + 9223372036854775808) % 18446744073709551616 = n + 9223372036854775808 by rw [IntKind.wrap_u64]; omega] at hx
  obtain ⟨u, hu⟩ : ∃ u, u = n + 9223372036854775808 := ⟨_, rfl⟩
  have ho := Lib.hid (show ordS n = strOfNums (h8 u) by rw [hu]; rfl)
  rw [← hu] at hx
  have u0 : 0 ≤ u := by omega
  have u1 : u ≤ 18446744073709551615 := by omega
  clear hu
  go_enter Tryz.func98, Tryz.ntmps98
  go_wp2_with (go_call (lay_any u _ u0 u1) as e w' ⟨rfl, hb⟩)
  go_call (reverse8 (u % 256) (u / 256 % 256) (u / 65536 % 256) (u / 16777216 % 256) (u / 4294967296 % 256) (u / 1099511627776 % 256) (u / 281474976710656 % 256) (u / 72057594037927936))
  rintro e w2 ⟨rfl, hb2, hs2, hg2⟩
  have HG := Lib.hid hg2
  have HS := Lib.hid hs2
  clear hg2 hs2
  go_wp2
  rw [run_convert_bytes_arg w2 160 5 Tryz.underlying160 Tryz.underlying5 _ 0 8 8 (h8 u) (h8_length u) HG.out 9 Tryz.underlying9]
  go_wp2
  go_returns
  exact ⟨by rw [ho.out]; rfl, by have hs := hb.size; exact (hb.alloc hs _).trans (hb2.mono hs)⟩
set_option maxHeartbeats 400000 in
theorem unordered_any (s : ByteArray) (w : World) (h8 : s.size = 8) :
    Calls Tryz.prog 206 #[.string s] w fun e w' => e = .returned (.tuple #[.int .i64 (unordV s), .int .i64 0]) ∧ Below w.heap.size w w' := by
  have HK := Lib.hid (fun w => Lib.run_convert_string_bytes (P := Tryz.prog) w 9 160 5 s Tryz.underlying9 Tryz.underlying160 Tryz.underlying5)
  have hun := Lib.hid (unord_rev s)
  go_enter Tryz.func206, Tryz.ntmps206
  go_wp2
  rw [HK.out, h8]
  obtain ⟨hb1, hz1, hc1, hf1⟩ := bytes_facts w 5 s
  have HC := Lib.hid hc1
  have HF := Lib.hid hf1
  have HZ := Lib.hid hz1
  clear hc1 hf1 hz1
  generalize Lib.bytesWorld w 5 s = w1 at *
  go_wp2_with fail
  refine (reverse8 (bt s 0) (bt s 1) (bt s 2) (bt s 3) (bt s 4) (bt s 5) (bt s 6) (bt s 7) w.heap.size _ w1 (HC.out _ (by omega)) (HC.out _ (by omega)) (HC.out _ (by omega)) (HC.out _ (by omega)) (HC.out _ (by omega)) (HC.out _ (by omega)) (HC.out _ (by omega)) (HC.out _ (by omega)) (HF.out _ (by omega)) (HF.out _ (by omega)) (HF.out _ (by omega)) (HF.out _ (by omega)) (HF.out _ (by omega)) (HF.out _ (by omega)) (HF.out _ (by omega)) (HF.out _ (by omega))).mono ?_
  rintro e w2 ⟨rfl, hb2, hz2, hc2⟩
  have HZ2 := Lib.hid hz2
  have HC2 := Lib.hid hc2
  clear hz2 hc2
  go_wp2_with fail
  rw [run_convert_bytes_arg w2 160 5 Tryz.underlying160 Tryz.underlying5 _ 0 8 _ [bt s 7, bt s 6, bt s 5, bt s 4, bt s 3, bt s 2, bt s 1, bt s 0] rfl HC2.out 9 Tryz.underlying9]
  go_wp2_with fail
  go_call (unfixed_any _ _) as e w3 ⟨rfl, hb3⟩
  rw [hun.out]
  go_wp2
  go_returns
  refine ⟨?_, ?_⟩
  · rw [← unord_flip s]; rfl
  · have a1 := HZ.out
    have a2 := HZ2.out
    exact (hb1.trans hb2).trans (hb3.mono (by omega))
end Go.Proofs.YtcjfnfdinhbdlaaGreatDoor
