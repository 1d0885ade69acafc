/- Contracts of package bitmap: With. -/
import Derived.Test.YtkdcfacpapmgoaaMapB
import Derived.StillTailTactics
import Derived.Lib.ConvBytes
namespace Go.Proofs.Ytkdcfacpapmgoaa
set_option maxRecDepth 100000
open Go.ChangeShapes Go.WideShapes Go.ChangeAt Go.RowKit Go.PlainAid

/-- A set with the bit k of the byte j so. -/
def withB (s : ByteArray) (j k : Nat) (b : Bool) : ByteArray := strOfNums ((List.range s.size).map fun m => if m = j then setB (bt s m) k b else bt s m)
/-- A set with a number, or without it. -/
def withS (s : ByteArray) (i : Int) (b : Bool) : ByteArray := if roomB s i then withB s (i / 8).toNat (i % 8).toNat b else s
theorem with_no {s : ByteArray} {i : Int} (b : Bool) (h : roomB s i = false) : withS s i b = s := by unfold withS; rw [h]; rfl
theorem with_in {s : ByteArray} {i : Int} {j k : Nat} (b : Bool) (hj : j < s.size) (hq : i / 8 = j) (hr : i % 8 = k) : withS s i b = withB s j k b := by
  unfold withS
  rw [room_in (by omega) (by omega), hq, hr]
  rfl
theorem RowI.drew {w wr : World} {n : Nat} {f : Nat → Int} (h : RowI w n f wr) : RowI w n f wr.drew := ⟨h.below.drew, h.size, h.cells, h.thawed⟩

set_option maxHeartbeats 400000 in
theorem clone_any (s : ByteArray) (w : World) (hs : s.size ≤ 140737488351232) :
    Calls Try.prog 22 #[.string s] w fun e w' => e = .returned (.string s) ∧ Below w.heap.size w w' := by
  go_enter Try.func22, Try.ntmps22
  go_wp2_with fail
  refine (sh_stringslite_Clone s _ (by omega)).mono ?_
  rintro e w1 ⟨rfl, hb⟩
  go_wp2
  go_returns
  exact ⟨rfl, hb⟩
set_option maxHeartbeats 1000000 in
theorem with_any (s : ByteArray) (i : Int) (x : Bool) (w : World) (hs : s.size ≤ 140737488351232) (b : -9223372036854775808 ≤ i) (c : i ≤ 9223372036854775807) :
    Calls Try.prog 8 #[.string s, .int .i64 i, .bool x] w fun e w' => e = .returned (.tuple #[.string (withS s i x), .bool (roomB s i)]) ∧ Below w.heap.size w w' := by
  rcases ways s i with h | ⟨h, h2⟩ | ⟨j, k, hj, hk, h, hq, hr⟩
  · have hx := room_neg (s := s) h
    have HR := Lib.hid (with_no x hx)
    have HC := Lib.hid fun w => Calls.mono (room_is hx w hs b c) fun _ _ ⟨p, q⟩ => And.intro p q.symm
    have HX := Lib.hid hx
    clear hx
    go_enter Try.func8, Try.ntmps8
    go_wp2_with fail
    refine (HC.out _).mono ?_
    rintro e _ ⟨rfl, rfl⟩
    go_wp2_with fail
    refine (clone_any s _ hs).mono ?_
    rintro e w1 ⟨rfl, hb⟩
    go_wp2
    go_returns
    exact ⟨by rw [HR.out, HX.out]; rfl, hb⟩
  · have hx := room_far (s := s) h2
    have HR := Lib.hid (with_no x hx)
    have HC := Lib.hid fun w => Calls.mono (room_is hx w hs b c) fun _ _ ⟨p, q⟩ => And.intro p q.symm
    have HX := Lib.hid hx
    clear hx
    go_enter Try.func8, Try.ntmps8
    go_wp2_with fail
    refine (HC.out _).mono ?_
    rintro e _ ⟨rfl, rfl⟩
    go_wp2_with fail
    refine (clone_any s _ hs).mono ?_
    rintro e w1 ⟨rfl, hb⟩
    go_wp2
    go_returns
    exact ⟨by rw [HR.out, HX.out]; rfl, hb⟩
  · have hx := room_in (s := s) h (show i / 8 < s.size by omega)
    have HR := Lib.hid (with_in x hj hq hr)
    have HC := Lib.hid fun w => Calls.mono (room_is hx w hs b c) fun _ _ ⟨p, q⟩ => And.intro p q.symm
    have HX := Lib.hid hx
    clear hx
    have HB := Lib.hid fun w => Same.turn (bit_any i k w hk h c hr)
    have HZ := Lib.hid (show withB s j k x = strOfNums ((List.range s.size).map fun m => if m = j then setB (bt s m) k x else bt s m) from rfl)
    have HK := Lib.hid (fun w => Lib.run_convert_string_bytes (P := Try.prog) w 9 39 5 s Try.underlying9 Try.underlying39 Try.underlying5)
    have hc := And.intro (bt_nonneg s j) (bt_le s j)
    have hp := p2_b ⟨k, hk⟩
    simp only at hp
    obtain ⟨z, hz⟩ := byte_fin hc.1 hc.2
    have HO : Hid (bits .or .u8 (bt s j) (p2 k) = setB (bt s j) k true) := Lib.hid (by rw [hz]; exact or_all z ⟨k, hk⟩)
    have HN : Hid (bits .andNot .u8 (bt s j) (p2 k) = setB (bt s j) k false) := Lib.hid (by rw [hz]; exact not_all z ⟨k, hk⟩)
    clear hz
    have hdv : IntKind.i64.wrap (i.tdiv 8) = (j : Int) := by rw [Int.tdiv_eq_ediv_of_nonneg h, hq]; exact IntWalk.i64_in _ (by omega)
    have hj0 : (0 : Int) ≤ (j : Int) := by omega
    have hj1 : (j : Int) < (s.size : Int) := by omega
    cases x
    · go_enter Try.func8, Try.ntmps8
      go_wp2_with fail
      refine (HC.out _).mono ?_
      rintro e _ ⟨rfl, rfl⟩
      go_wp2_with fail
      rw [HK.out]
      have hb1 := RowI.ofBytes w 5 s
      generalize Lib.bytesWorld w 5 s = w1 at *
      have hcell := hb1.cells j hj
      have hfro := hb1.thawed j hj
      go_wp2_with fail
      refine wp_region_still_tail 9 (by kernel_rfl) (by kernel_rfl) ?_
      simp only [List.take_succ_cons, List.take_zero, List.drop_succ_cons, List.drop_zero]
      repeat still_step
      refine wpStill_step (fun K hK => ?_)
      go_simp
      refine ⟨.int .u8 (p2 k), HB.out _, hK _ ?_⟩
      clear hK K
      repeat still_step
      refine wpStill_nil ?_
      rw [HN.out]
      change wpList _ _ _ _ _ w1.drew
      have hb2 := (hb1.set (g := fun m => if m = j then setB (bt s m) k false else bt s m) hj (setB (bt s j) k false) (if_pos rfl) (fun m _ hm => if_neg hm)).drew
      have HCS := Lib.hid (row_str hb2)
      have HB2 := Lib.hid hb2.below
      clear hb1 hb2
      go_wp2_with fail
      rw [run_convert_bytes_arg (w1.setCell ⟨w.heap.size, j, none⟩ (.int .u8 (setB (bt s j) k false))).drew 39 5 Try.underlying39 Try.underlying5 _ 0 _ _ _ (len_range s.size _) HCS.out 9 Try.underlying9]
      go_wp2
      go_returns
      exact ⟨by rw [HR.out, HX.out, HZ.out]; rfl, HB2.out⟩
    · go_enter Try.func8, Try.ntmps8
      go_wp2_with fail
      refine (HC.out _).mono ?_
      rintro e _ ⟨rfl, rfl⟩
      go_wp2_with fail
      rw [HK.out]
      have hb1 := RowI.ofBytes w 5 s
      generalize Lib.bytesWorld w 5 s = w1 at *
      have hcell := hb1.cells j hj
      have hfro := hb1.thawed j hj
      go_wp2_with fail
      refine wp_region_still_tail 9 (by kernel_rfl) (by kernel_rfl) ?_
      simp only [List.take_succ_cons, List.take_zero, List.drop_succ_cons, List.drop_zero]
      repeat still_step
      refine wpStill_step (fun K hK => ?_)
      go_simp
      refine ⟨.int .u8 (p2 k), HB.out _, hK _ ?_⟩
      clear hK K
      repeat still_step
      refine wpStill_nil ?_
      rw [HO.out]
      change wpList _ _ _ _ _ w1.drew
      have hb2 := (hb1.set (g := fun m => if m = j then setB (bt s m) k true else bt s m) hj (setB (bt s j) k true) (if_pos rfl) (fun m _ hm => if_neg hm)).drew
      have HCS := Lib.hid (row_str hb2)
      have HB2 := Lib.hid hb2.below
      clear hb1 hb2
      go_wp2_with fail
      rw [run_convert_bytes_arg (w1.setCell ⟨w.heap.size, j, none⟩ (.int .u8 (setB (bt s j) k true))).drew 39 5 Try.underlying39 Try.underlying5 _ 0 _ _ _ (len_range s.size _) HCS.out 9 Try.underlying9]
      go_wp2
      go_returns
      exact ⟨by rw [HR.out, HX.out, HZ.out]; rfl, HB2.out⟩
end Go.Proofs.Ytkdcfacpapmgoaa
