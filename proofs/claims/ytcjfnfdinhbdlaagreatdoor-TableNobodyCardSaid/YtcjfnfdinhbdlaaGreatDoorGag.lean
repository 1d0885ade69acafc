import Derived.Test.YtcjfnfdinhbdlaaGreatDoorRows
import Derived.Test.YtcjfnfdinhbdlaaGreatDoorGaa
import Derived.Test.YtcjfnfdinhbdlaaGreatDoorGac
import Derived.Deep.RegionWith
import Derived.BigQuiet
import Derived.Deep.QuietTactic
import Derived.IntWalk
import Derived.StillTactics
import Derived.StillTailTactics
import Derived.Lib.ConvBytes
namespace Go.Proofs.YtcjfnfdinhbdlaaGreatDoor
set_option maxRecDepth 100000
open Go.ChangeShapes Go.WideShapes Go.ChangeAt Go.RowKit Go.PlainAid
def hv (c : Int) : Nat → Int | 0 => c | k + 1 => hv c k / 2
def bitBM (c : Int) (k : Nat) : Bool := hv c k % 2 == 1
def p2 : Nat → Int | 0 => 1 | k + 1 => 2 * p2 k
def setB (c : Int) (k : Nat) (b : Bool) : Int := if bitBM c k = b then c else if b then c + p2 k else c - p2 k
theorem p2_b : ∀ k : Fin 8, 1 ≤ p2 k.val ∧ p2 k.val ≤ 128 := by decide +kernel
theorem and_all : ∀ z : Fin 256, ∀ k : Fin 8, bits .and .u8 (z.val : Int) (p2 k.val) = if bitBM z.val k.val then p2 k.val else 0 := by decide +kernel
theorem or_all : ∀ z : Fin 256, ∀ k : Fin 8, bits .or .u8 (z.val : Int) (p2 k.val) = setB z.val k.val true := by decide +kernel
theorem not_all : ∀ z : Fin 256, ∀ k : Fin 8, bits .andNot .u8 (z.val : Int) (p2 k.val) = setB z.val k.val false := by decide +kernel
theorem set_all : ∀ z : Fin 256, ∀ k : Fin 8, ∀ b : Bool, 0 ≤ setB z.val k.val b ∧ setB z.val k.val b ≤ 255 := by decide +kernel
theorem set_bit : ∀ z : Fin 256, ∀ k j : Fin 8, ∀ b : Bool, bitBM (setB z.val k.val b) j.val = if j = k then b else bitBM z.val j.val := by decide +kernel
theorem byte_fin {c : Int} (h0 : 0 ≤ c) (h1 : c ≤ 255) : ∃ z : Fin 256, c = z.val := ⟨⟨c.toNat, by omega⟩, by simp only; omega⟩
def roomB (s : ByteArray) (i : Int) : Bool := decide (0 ≤ i) && decide (i / 8 < s.size)
def hasB (s : ByteArray) (i : Int) : Bool := roomB s i && bitBM (bt s (i / 8).toNat) (i % 8).toNat
theorem room_neg {s : ByteArray} {i : Int} (h : i < 0) : roomB s i = false := by unfold roomB; rw [decide_eq_false (by omega), Bool.false_and]
theorem room_far {s : ByteArray} {i : Int} (h : s.size ≤ i / 8) : roomB s i = false := by unfold roomB; rw [decide_eq_false (p := i / 8 < s.size) (by omega), Bool.and_false]
theorem room_in {s : ByteArray} {i : Int} (h : 0 ≤ i) (h2 : i / 8 < s.size) : roomB s i = true := by unfold roomB; rw [decide_eq_true h, decide_eq_true h2]; rfl
theorem has_no {s : ByteArray} {i : Int} (h : roomB s i = false) : hasB s i = false := by unfold hasB; rw [h, Bool.false_and]
theorem has_in {s : ByteArray} {i : Int} {j k : Nat} (hj : j < s.size) (hq : i / 8 = j) (hr : i % 8 = k) : hasB s i = bitBM (bt s j) k := by
  unfold hasB
  rw [room_in (by omega) (by omega), hq, hr]
  rfl
theorem ways (s : ByteArray) (i : Int) : i < 0 ∨ (0 ≤ i ∧ s.size ≤ i / 8) ∨ ∃ j k : Nat, j < s.size ∧ k < 8 ∧ 0 ≤ i ∧ i / 8 = j ∧ i % 8 = k := by
  by_cases h : i < 0
  · exact .inl h
  · by_cases h2 : s.size ≤ i / 8
    · exact .inr (.inl ⟨by omega, h2⟩)
    · exact .inr (.inr ⟨(i / 8).toNat, (i % 8).toNat, by omega, by omega, by omega, by omega, by omega⟩)
theorem room_any (s : ByteArray) (i : Int) (w : World) (_hs : s.size ≤ 140737488351232) (b : -9223372036854775808 ≤ i) (c : i ≤ 9223372036854775807) :
    Calls Tryz.prog 145 #[.string s, .int .i64 i] w fun e w' => e = .returned (.bool (roomB s i)) ∧ w = w' := by
  rcases ways s i with h | ⟨h, h2⟩ | ⟨j, k, hj, hk, h, hq, hr⟩
  · have HR := Lib.hid (room_neg (s := s) h)
    go_enter Tryz.func145, Tryz.ntmps145
    go_wp2
    go_returns
    exact ⟨by rw [HR.out]; rfl, rfl⟩
  · have HR := Lib.hid (room_far (s := s) h2)
    have hd : decide (i / 8 < (s.size : Int)) = false := decide_eq_false (by omega)
    go_enter Tryz.func145, Tryz.ntmps145
    go_wp2
    go_returns
    exact ⟨by rw [HR.out]; rfl, rfl⟩
  · have HR := Lib.hid (room_in (s := s) h (by omega))
    have h2 : i / 8 < s.size := by omega
    clear hq hr
    go_enter Tryz.func145, Tryz.ntmps145
    go_wp2
    go_returns
    exact ⟨by rw [HR.out]; rfl, rfl⟩
theorem bit_any (i : Int) (k : Nat) (w : World) (hk : k < 8) (h : 0 ≤ i) (c : i ≤ 9223372036854775807) (hr : i % 8 = k) :
    Calls Tryz.prog 146 #[.int .i64 i] w fun e w' => e = .returned (.int .u8 (p2 k)) ∧ w = w' := by
  rcases k with _ | _ | _ | _ | _ | _ | _ | _ | k
  iterate 8
    · first
        | have hr2 : i % 8 = 0 := by omega
        | have hr2 : i % 8 = 1 := by omega
        | have hr2 : i % 8 = 2 := by omega
        | have hr2 : i % 8 = 3 := by omega
        | have hr2 : i % 8 = 4 := by omega
        | have hr2 : i % 8 = 5 := by omega
        | have hr2 : i % 8 = 6 := by omega
        | have hr2 : i % 8 = 7 := by omega
      clear hr
      go_enter Tryz.func146, Tryz.ntmps146
      go_wp2
      go_returns
      exact ⟨rfl, rfl⟩
  omega
end Go.Proofs.YtcjfnfdinhbdlaaGreatDoor
namespace Go.Proofs.YtcjfnfdinhbdlaaGreatDoor
set_option maxRecDepth 100000
open Go.ChangeShapes Go.WideShapes Go.ChangeAt Go.RowKit Go.PlainAid
theorem Same.turn {P : Program} {f : FuncId} {args : Array Value} {w : World} {v : Value} (h : Calls P f args w fun e w' => e = .returned v ∧ w = w') : Calls P f args w fun e w' => e = .returned v ∧ w' = w :=
  h.mono fun _ _ ⟨a, b⟩ => ⟨a, b.symm⟩
theorem room_is {s : ByteArray} {i : Int} {r : Bool} (hr : roomB s i = r) (w : World) (hs : s.size ≤ 140737488351232) (b : -9223372036854775808 ≤ i) (c : i ≤ 9223372036854775807) :
    Calls Tryz.prog 145 #[.string s, .int .i64 i] w fun e w' => e = .returned (.bool r) ∧ w' = w :=
  hr ▸ Same.turn (room_any s i w hs b c)
def Drawn (w w' : World) : Prop := ∃ n, w' = w.drewN n
set_option maxHeartbeats 400000 in
theorem has_any (s : ByteArray) (i : Int) (w : World) (hs : s.size ≤ 140737488351232) (b : -9223372036854775808 ≤ i) (c : i ≤ 9223372036854775807) :
    Calls Tryz.prog 214 #[.string s, .int .i64 i] w fun e w' => e = .returned (.bool (hasB s i)) ∧ Drawn w w' := by
  have gb := get_bt s
  rcases ways s i with h | ⟨h, h2⟩ | ⟨j, k, hj, hk, h, hq, hr⟩
  · have HR := Lib.hid (has_no (room_neg (s := s) h))
    have HC := Lib.hid fun w => room_is (room_neg (s := s) h) w hs b c
    go_enter Tryz.func214, Tryz.ntmps214
    go_wp2_with fail
    go_quiet (with_reducible exact Calls.quiet_of_same (HC.out _))
    go_wp2
    go_returns
    exact ⟨by rw [HR.out]; rfl, nq, rfl⟩
  · have HR := Lib.hid (has_no (room_far (s := s) h2))
    have HC := Lib.hid fun w => room_is (room_far (s := s) h2) w hs b c
    go_enter Tryz.func214, Tryz.ntmps214
    go_wp2_with fail
    go_quiet (with_reducible exact Calls.quiet_of_same (HC.out _))
    go_wp2
    go_returns
    exact ⟨by rw [HR.out]; rfl, nq, rfl⟩
  · have HR := Lib.hid (has_in (s := s) hj hq hr)
    have HB := Lib.hid fun w => Same.turn (bit_any i k w hk h c hr)
    have HC := Lib.hid fun w => room_is (room_in (s := s) h (show i / 8 < s.size by omega)) w hs b c
    have hc := And.intro (bt_nonneg s j) (bt_le s j)
    have ha : bits .and .u8 (bt s j) (p2 k) = if bitBM (bt s j) k then p2 k else 0 := by
      obtain ⟨z, hz⟩ := byte_fin hc.1 hc.2
      rw [hz]
      exact and_all z ⟨k, hk⟩
    have hp := p2_b ⟨k, hk⟩
    simp only at hp
    have HE : Hid ((bitBM (bt s j) k) = !(bits .and .u8 (bt s j) (p2 k) == 0)) := by
      refine Lib.hid ?_
      rw [ha]
      cases bitBM (bt s j) k
      · rfl
      · simp; omega
    clear ha
    go_enter Tryz.func214, Tryz.ntmps214
    go_wp2_with fail
    go_quiet (first | with_reducible exact Calls.quiet_of_same (HC.out _) | with_reducible exact Calls.quiet_of_same (HB.out _))
    go_wp2
    go_returns
    exact ⟨by rw [HR.out, HE.out]; rfl, nq, rfl⟩
end Go.Proofs.YtcjfnfdinhbdlaaGreatDoor
namespace Go.Proofs.YtcjfnfdinhbdlaaGreatDoor
set_option maxRecDepth 100000
open Go.ChangeShapes Go.WideShapes Go.ChangeAt Go.RowKit Go.PlainAid
def withB (s : ByteArray) (j k : Nat) (b : Bool) : ByteArray := strOfNums ((List.range s.size).map fun m => if m = j then setB (bt s m) k b else bt s m)
def withS (s : ByteArray) (i : Int) (b : Bool) : ByteArray := if roomB s i then withB s (i / 8).toNat (i % 8).toNat b else s
theorem with_no {s : ByteArray} {i : Int} (b : Bool) (h : roomB s i = false) : withS s i b = s := by unfold withS; rw [h]; rfl
theorem with_in {s : ByteArray} {i : Int} {j k : Nat} (b : Bool) (hj : j < s.size) (hq : i / 8 = j) (hr : i % 8 = k) : withS s i b = withB s j k b := by
  unfold withS
  rw [room_in (by omega) (by omega), hq, hr]
  rfl
theorem RowI.drew {w wr : World} {n : Nat} {f : Nat → Int} (h : RowI w n f wr) : RowI w n f wr.drew := ⟨h.below.drew, h.size, h.cells, h.thawed⟩
set_option maxHeartbeats 400000 in
theorem clone_any (s : ByteArray) (w : World) (hs : s.size ≤ 140737488351232) :
    Calls Tryz.prog 128 #[.string s] w fun e w' => e = .returned (.string s) ∧ Below w.heap.size w w' := by
  go_enter Tryz.func128, Tryz.ntmps128
  go_wp2_with fail
  refine (sh_stringslite_Clone s _ (by omega)).mono ?_
  rintro e w1 ⟨rfl, hb⟩
  go_wp2
  go_returns
  exact ⟨rfl, hb⟩
set_option maxHeartbeats 1000000 in
theorem with_any (s : ByteArray) (i : Int) (x : Bool) (w : World) (hs : s.size ≤ 140737488351232) (b : -9223372036854775808 ≤ i) (c : i ≤ 9223372036854775807) :
    Calls Tryz.prog 89 #[.string s, .int .i64 i, .bool x] w fun e w' => e = .returned (.tuple #[.string (withS s i x), .bool (roomB s i)]) ∧ Below w.heap.size w w' := by
  rcases ways s i with h | ⟨h, h2⟩ | ⟨j, k, hj, hk, h, hq, hr⟩
  · have hx := room_neg (s := s) h
    have HR := Lib.hid (with_no x hx)
    have HC := Lib.hid fun w => Calls.mono (room_is hx w hs b c) fun _ _ ⟨p, q⟩ => And.intro p q.symm
    have HX := Lib.hid hx
    clear hx
    go_enter Tryz.func89, Tryz.ntmps89
    go_wp2_with fail
    refine (HC.out _).mono ?_
    rintro e _ ⟨rfl, rfl⟩
    go_wp2_with fail
    refine (clone_any s _ hs).mono ?_
    rintro e w1 ⟨rfl, hb⟩
    go_wp2
    go_returns
    exact ⟨by rw [HR.out, HX.out]; rfl, hb⟩
  · have hx := room_far (s := s) h2
    have HR := Lib.hid (with_no x hx)
    have HC := Lib.hid fun w => Calls.mono (room_is hx w hs b c) fun _ _ ⟨p, q⟩ => And.intro p q.symm
    have HX := Lib.hid hx
    clear hx
    go_enter Tryz.func89, Tryz.ntmps89
    go_wp2_with fail
    refine (HC.out _).mono ?_
    rintro e _ ⟨rfl, rfl⟩
    go_wp2_with fail
    refine (clone_any s _ hs).mono ?_
    rintro e w1 ⟨rfl, hb⟩
    go_wp2
    go_returns
    exact ⟨by rw [HR.out, HX.out]; rfl, hb⟩
  · have hx := room_in (s := s) h (show i / 8 < s.size by omega)
    have HR := Lib.hid (with_in x hj hq hr)
    have HC := Lib.hid fun w => Calls.mono (room_is hx w hs b c) fun _ _ ⟨p, q⟩ => And.intro p q.symm
    have HX := Lib.hid hx
    clear hx
    have HB := Lib.hid fun w => Same.turn (bit_any i k w hk h c hr)
    have HZ := Lib.hid (show withB s j k x = strOfNums ((List.range s.size).map fun m => if m = j then setB (bt s m) k x else bt s m) from rfl)
    have HK := Lib.hid (fun w => Lib.run_convert_string_bytes (P := Tryz.prog) w 9 160 5 s Tryz.underlying9 Tryz.underlying160 Tryz.underlying5)
    have hc := And.intro (bt_nonneg s j) (bt_le s j)
    have hp := p2_b ⟨k, hk⟩
    simp only at hp
    obtain ⟨z, hz⟩ := byte_fin hc.1 hc.2
    have HO : Hid (bits .or .u8 (bt s j) (p2 k) = setB (bt s j) k true) := Lib.hid (by rw [hz]; exact or_all z ⟨k, hk⟩)
    have HN : Hid (bits .andNot .u8 (bt s j) (p2 k) = setB (bt s j) k false) := Lib.hid (by rw [hz]; exact not_all z ⟨k, hk⟩)
    clear hz
    have hdv : IntKind.i64.wrap (i.tdiv 8) = (j : Int) := by rw [Int.tdiv_eq_ediv_of_nonneg h, hq]; exact IntWalk.i64_in _ (by omega)
    have hj0 : (0 : Int) ≤ (j : Int) := by omega
    have hj1 : (j : Int) < (s.size : Int) := by omega
    cases x
    · go_enter Tryz.func89, Tryz.ntmps89
      go_wp2_with fail
      refine (HC.out _).mono ?_
      rintro e _ ⟨rfl, rfl⟩
      go_wp2_with fail
      rw [HK.out]
      have hb1 := RowI.ofBytes w 5 s
      generalize Lib.bytesWorld w 5 s = w1 at *
      have hcell := hb1.cells j hj
      have hfro := hb1.thawed j hj
      go_wp2_with fail
      refine wp_region_still_tail 9 (by kernel_rfl) (by kernel_rfl) ?_
      simp only [List.take_succ_cons, List.take_zero, List.drop_succ_cons, List.drop_zero]
      repeat still_step
      refine wpStill_step (fun K hK => ?_)
      go_simp
      refine ⟨.int .u8 (p2 k), HB.out _, hK _ ?_⟩
      clear hK K
      repeat still_step
      refine wpStill_nil ?_
      rw [HN.out]
      change wpList _ _ _ _ _ w1.drew
      have hb2 := (hb1.set (g := fun m => if m = j then setB (bt s m) k false else bt s m) hj (setB (bt s j) k false) (if_pos rfl) (fun m _ hm => if_neg hm)).drew
      have HCS := Lib.hid (row_str hb2)
      have HB2 := Lib.hid hb2.below
      clear hb1 hb2
      go_wp2_with fail
      rw [run_convert_bytes_arg (w1.setCell ⟨w.heap.size, j, none⟩ (.int .u8 (setB (bt s j) k false))).drew 160 5 Tryz.underlying160 Tryz.underlying5 _ 0 _ _ _ (len_range s.size _) HCS.out 9 Tryz.underlying9]
      go_wp2
      go_returns
      exact ⟨by rw [HR.out, HX.out, HZ.out]; rfl, HB2.out⟩
    · go_enter Tryz.func89, Tryz.ntmps89
      go_wp2_with fail
      refine (HC.out _).mono ?_
      rintro e _ ⟨rfl, rfl⟩
      go_wp2_with fail
      rw [HK.out]
      have hb1 := RowI.ofBytes w 5 s
      generalize Lib.bytesWorld w 5 s = w1 at *
      have hcell := hb1.cells j hj
      have hfro := hb1.thawed j hj
      go_wp2_with fail
      refine wp_region_still_tail 9 (by kernel_rfl) (by kernel_rfl) ?_
      simp only [List.take_succ_cons, List.take_zero, List.drop_succ_cons, List.drop_zero]
      repeat still_step
      refine wpStill_step (fun K hK => ?_)
      go_simp
      refine ⟨.int .u8 (p2 k), HB.out _, hK _ ?_⟩
      clear hK K
      repeat still_step
      refine wpStill_nil ?_
      rw [HO.out]
      change wpList _ _ _ _ _ w1.drew
      have hb2 := (hb1.set (g := fun m => if m = j then setB (bt s m) k true else bt s m) hj (setB (bt s j) k true) (if_pos rfl) (fun m _ hm => if_neg hm)).drew
      have HCS := Lib.hid (row_str hb2)
      have HB2 := Lib.hid hb2.below
      clear hb1 hb2
      go_wp2_with fail
      rw [run_convert_bytes_arg (w1.setCell ⟨w.heap.size, j, none⟩ (.int .u8 (setB (bt s j) k true))).drew 160 5 Tryz.underlying160 Tryz.underlying5 _ 0 _ _ _ (len_range s.size _) HCS.out 9 Tryz.underlying9]
      go_wp2
      go_returns
      exact ⟨by rw [HR.out, HX.out, HZ.out]; rfl, HB2.out⟩
end Go.Proofs.YtcjfnfdinhbdlaaGreatDoor
namespace Go.Proofs.YtcjfnfdinhbdlaaGreatDoor
set_option maxRecDepth 100000
open Go.ChangeShapes Go.WideShapes Go.ChangeAt Go.RowKit Go.PlainAid
theorem withB_size (s : ByteArray) (j k : Nat) (x : Bool) : (withB s j k x).size = s.size := by
  unfold withB
  rw [strOfNums_size]
  simp
theorem set_b {s : ByteArray} {j k : Nat} (hk : k < 8) (x : Bool) : 0 ≤ setB (bt s j) k x ∧ setB (bt s j) k x ≤ 255 := by
  obtain ⟨z, hz⟩ := byte_fin (bt_nonneg s j) (bt_le s j)
  rw [hz]
  exact set_all z ⟨k, hk⟩ x
theorem withB_bt (s : ByteArray) (j k : Nat) (x : Bool) (hk : k < 8) (m : Nat) (hm : m < s.size) : bt (withB s j k x) m = if m = j then setB (bt s j) k x else bt s m := by
  have e : ((List.range s.size).map fun m => if m = j then setB (bt s m) k x else bt s m).getD m 0 = if m = j then setB (bt s j) k x else bt s m := by
    rw [List.getD_eq_getElem?_getD, List.getElem?_map, List.getElem?_range hm]
    by_cases h : m = j
    · subst h; simp
    · simp [h]
  have hb : 0 ≤ (if m = j then setB (bt s j) k x else bt s m) ∧ (if m = j then setB (bt s j) k x else bt s m) ≤ 255 := by
    split
    · exact set_b hk x
    · exact ⟨bt_nonneg s m, bt_le s m⟩
  unfold withB
  rw [bt_strOfNums _ m (by rw [e]; exact hb.1) (by rw [e]; exact hb.2), e]
theorem with_size (s : ByteArray) (i : Int) (x : Bool) : (withS s i x).size = s.size := by
  unfold withS
  split
  · exact withB_size _ _ _ _
  · rfl
theorem has_with (s : ByteArray) (i l : Int) (x : Bool) (hi : roomB s i = true) : hasB (withS s i x) l = if l = i then x else hasB s l := by
  rcases ways s i with h | ⟨h, h2⟩ | ⟨j, k, hj, hk, h, hq, hr⟩
  · rw [room_neg h] at hi; cases hi
  · rw [room_far h2] at hi; cases hi
  rw [with_in x hj hq hr]
  rcases ways s l with h' | ⟨h', h2'⟩ | ⟨j', k', hj', hk', h', hq', hr'⟩
  · rw [has_no (room_neg h'), has_no (room_neg h'), if_neg (by omega)]
  · rw [has_no (room_far (by rw [withB_size]; exact h2')), has_no (room_far h2'), if_neg (by omega)]
  · rw [has_in (by rw [withB_size]; exact hj') hq' hr', has_in hj' hq' hr', withB_bt s j k x hk j' hj']
    obtain ⟨z, hz⟩ := byte_fin (bt_nonneg s j) (bt_le s j)
    have hs := set_bit z ⟨k, hk⟩ ⟨k', hk'⟩ x
    by_cases e : j' = j
    · subst e
      rw [if_pos rfl, hz]
      simp only at hs
      rw [hs]
      by_cases e2 : k' = k
      · subst e2
        rw [if_pos rfl, if_pos (by omega)]
      · rw [if_neg (by simpa using e2), if_neg (by omega)]
    · rw [if_neg e, if_neg (by omega)]
end Go.Proofs.YtcjfnfdinhbdlaaGreatDoor
namespace Go.Proofs.YtcjfnfdinhbdlaaGreatDoor
set_option maxRecDepth 100000
open Go.ChangeShapes Go.WideShapes Go.ChangeAt Go.RowKit Go.PlainAid
def zeroS (m : Nat) : ByteArray := strOfNums (List.replicate m 0)
def emptyZ (n : Int) : Nat := if n < 1 then 0 else ((n - 1) / 8 + 1).toNat
theorem zero_size (m : Nat) : (zeroS m).size = m := by unfold zeroS; rw [strOfNums_size]; simp
theorem rep_zero : ∀ c, (Lib.repeatL (⟨#[0]⟩ : ByteArray).data.toList c) = List.replicate c 0
  | 0 => rfl
  | c + 1 => by
    rw [Lib.repeatL, rep_zero c]
    rfl
theorem rep_eq (c : Nat) : (⟨(Lib.repeatL (⟨#[0]⟩ : ByteArray).data.toList c).toArray⟩ : ByteArray) = zeroS c := by
  rw [rep_zero]
  apply ByteArray.ext
  apply Array.ext'
  unfold zeroS
  rw [strOfNums_data]
  simp
theorem hv_zero : ∀ k, hv 0 k = 0
  | 0 => rfl
  | k + 1 => by rw [hv, hv_zero k]; rfl
set_option maxHeartbeats 400000 in
theorem empty_any (n : Int) (w : World) (b : -9223372036854775808 ≤ n) (c : n ≤ 100000) :
    Calls Tryz.prog 88 #[.int .i64 n] w fun e w' => e = .returned (.string (zeroS (emptyZ n))) ∧ Below w.heap.size w w' := by
  by_cases h : n < 1
  · have HZ := Lib.hid (show zeroS (emptyZ n) = ⟨#[]⟩ by unfold emptyZ; rw [if_pos h]; rfl)
    go_enter Tryz.func88, Tryz.ntmps88
    go_wp2
    go_returns
    exact ⟨by rw [HZ.out]; rfl, Below.refl _ _⟩
  · obtain ⟨m, hm⟩ : ∃ m : Nat, (n - 1) / 8 + 1 = m := ⟨((n - 1) / 8 + 1).toNat, by omega⟩
    have hm2 : m ≤ 20000 := by omega
    have HZ := Lib.hid (show zeroS (emptyZ n) = ⟨(Lib.repeatL (⟨#[0]⟩ : ByteArray).data.toList m).toArray⟩ by rw [rep_eq]; unfold emptyZ; rw [if_neg h, hm]; rfl)
    have HC := Lib.hid fun w => sh_strings_Repeat ⟨#[0]⟩ m w (by omega) (by show 1 * m ≤ _; omega)
    go_enter Tryz.func88, Tryz.ntmps88
    go_wp2_with fail
    refine (HC.out _).mono ?_
    rintro e w1 ⟨rfl, hb⟩
    go_wp2
    go_returns
    exact ⟨by rw [HZ.out]; rfl, hb⟩
def cnt (s : ByteArray) : Nat → Nat | 0 => 0 | k + 1 => cnt s k + Lib.onesCount (bt s k).toNat
theorem ones_le (s : ByteArray) (k : Nat) : Lib.onesCount (bt s k).toNat ≤ 8 := by
  obtain ⟨z, hz⟩ := byte_fin (bt_nonneg s k) (bt_le s k)
  rw [hz]
  exact Lib.onesCount_le8 z
theorem cnt_le (s : ByteArray) : ∀ k, cnt s k ≤ 8 * k
  | 0 => Nat.le_refl _
  | k + 1 => by
    have := cnt_le s k
    have := ones_le s k
    simp only [cnt]
    omega
end Go.Proofs.YtcjfnfdinhbdlaaGreatDoor
namespace Go.Proofs.YtcjfnfdinhbdlaaGreatDoor
set_option maxRecDepth 100000
open Go.ChangeShapes Go.WideShapes Go.ChangeAt Go.RowKit Go.PlainAid
theorem Drawn.below {B : Nat} {w w' : World} (h : Drawn w w') : Below B w w' := by
  obtain ⟨n, rfl⟩ := h
  exact ⟨rfl, rfl, rfl, Nat.le_refl _, fun _ _ => rfl⟩
def LowP (s : ByteArray) (f t : Int) (l : Int) : Prop := f ≤ l ∧ 0 ≤ l ∧ l < t ∧ l / 8 < s.size ∧ hasB s l = false
def Least (s : ByteArray) (f t : Int) (v : Int) : Prop := LowP s f t v ∧ ∀ l, l < v → ¬ LowP s f t l
open Classical in
/-- The least one. -/
noncomputable def lowZ (s : ByteArray) (f t : Int) : Int := if h : ∃ v, Least s f t v then Classical.choose h else 0
open Classical in
/-- Is there one? -/
noncomputable def lowB (s : ByteArray) (f t : Int) : Bool := if ∃ v, Least s f t v then true else false
theorem low_yes {s : ByteArray} {f t v : Int} (h : LowP s f t v) (h2 : ∀ l, l < v → ¬ LowP s f t l) : lowZ s f t = v ∧ lowB s f t = true := by
  have he : ∃ v, Least s f t v := ⟨v, h, h2⟩
  unfold lowZ lowB
  rw [dif_pos he, if_pos he]
  have hc := Classical.choose_spec he
  refine ⟨?_, rfl⟩
  rcases Int.lt_trichotomy (Classical.choose he) v with hx | hx | hx
  · exact absurd hc.1 (h2 _ hx)
  · exact hx
  · exact absurd h (hc.2 _ hx)
theorem low_no {s : ByteArray} {f t : Int} (h : ∀ l, ¬ LowP s f t l) : lowZ s f t = 0 ∧ lowB s f t = false := by
  have he : ¬ ∃ v, Least s f t v := fun ⟨v, hv, _⟩ => h v hv
  unfold lowZ lowB
  rw [dif_neg he, if_neg he]
  exact ⟨rfl, rfl⟩
set_option maxHeartbeats 1000000 in
theorem lowest_any (s : ByteArray) (f t : Int) (w : World) (hs : s.size ≤ 140737488351232) (b : -9223372036854775808 ≤ f) (c : f ≤ 9223372036854775807) (_b2 : -9223372036854775808 ≤ t) (_c2 : t ≤ 9223372036854775807) :
    Calls Tryz.prog 171 #[.string s, .int .i64 f, .int .i64 t] w fun e w' => e = .returned (.tuple #[.int .i64 (lowZ s f t), .bool (lowB s f t)]) ∧ Below w.heap.size w w' := by
  obtain ⟨E, hE, hE1, hE2⟩ : ∃ E : Int, min t ((s.size : Int) * 8) = E ∧ E ≤ t ∧ E ≤ (s.size : Int) * 8 := ⟨_, rfl, Int.min_le_left _ _, Int.min_le_right _ _⟩
  obtain ⟨S, hS⟩ : ∃ S : Int, max f 0 = S := ⟨_, rfl⟩
  go_enter Tryz.func171, Tryz.ntmps171
  go_wp2
  have HE := Lib.hid (show ∀ l : Int, 0 ≤ l → (l < E ↔ (l < t ∧ l / 8 < s.size)) from fun l hl => by rw [← hE]; omega)
  have HS := Lib.hid (show f ≤ S ∧ 0 ≤ S ∧ (S = f ∨ S = 0) by rw [← hS]; omega)
  have HN := Lib.hid (show (∀ l, ¬ LowP s f t l) → lowZ s f t = 0 ∧ lowB s f t = false from low_no)
  have HY := Lib.hid (show ∀ v, LowP s f t v → (∀ l, l < v → ¬ LowP s f t l) → lowZ s f t = v ∧ lowB s f t = true from fun v => low_yes)
  clear hE hS
  go_loopw [9] (fun x wx => ∃ i : Int, S ≤ i ∧ x = .int .i64 i ∧ (∀ l, l < i → ¬ LowP s f t l) ∧ Below w.heap.size w wx) (fun x _ => (E - intOf x).toNat)
  case atStart =>
    refine ⟨S, Int.le_refl _, rfl, fun l hl h => ?_, Below.refl _ _⟩
    have h1 := h.1
    have h2 := h.2.1
    have := HS.out
    omega
  case round =>
    obtain ⟨i, hi, rfl, hno, hbx⟩ := hrel
    have HNO := Lib.hid hno
    clear hno
    have h0 : 0 ≤ i := by have := HS.out; omega
    by_cases hlt : i < E
    · have HA := Lib.hid fun w => has_any s i w hs (by omega) (by omega)
      go_wp2_with fail
      refine (HA.out _).mono ?_
      rintro e w1 ⟨rfl, hd⟩
      cases hh : hasB s i
      · go_wp2
        go_returns
        have hy := HY.out i ⟨by have := HS.out; omega, h0, ((HE.out i h0).1 hlt).1, ((HE.out i h0).1 hlt).2, hh⟩ HNO.out
        exact ⟨by rw [hy.1, hy.2]; rfl, hbx.on hd.below⟩
      · go_wp2
        go_roundw
        case rel =>
          refine ⟨i + 1, by omega, rfl, fun l hl h => ?_, hbx.on hd.below⟩
          by_cases e : l = i
          · subst e
            have := h.2.2.2.2
            rw [hh] at this
            cases this
          · exact HNO.out l (by omega) h
        case measure => simp [intOf]; omega
    · go_wp2
      go_returns
      have hn := HN.out fun l h => by
        by_cases e : l < i
        · exact HNO.out l e h
        · have := (HE.out l h.2.1).2 ⟨h.2.2.1, h.2.2.2.1⟩
          omega
      exact ⟨by rw [hn.1, hn.2]; rfl, hbx⟩
end Go.Proofs.YtcjfnfdinhbdlaaGreatDoor
