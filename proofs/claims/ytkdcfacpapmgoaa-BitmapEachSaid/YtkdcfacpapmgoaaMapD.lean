/- Contracts of the reference of bitmap: With; plain facts of sets. -/
import Derived.Test.YtkdcfacpapmgoaaMapC
namespace Go.Proofs.Ytkdcfacpapmgoaa
set_option maxRecDepth 100000
open Go.ChangeShapes Go.WideShapes Go.ChangeAt Go.RowKit Go.PlainAid

theorem u8_bt (s : ByteArray) (m : Nat) (h : m < s.data.toList.length) : UInt8.ofNat (bt s m).toNat = s.data.toList[m] := by
  rw [bt_list]
  apply UInt8.toNat_inj.1
  rw [List.getD_eq_getElem?_getD, List.getElem?_eq_getElem h]
  simp
theorem withB_cut (s : ByteArray) (j k : Nat) (x : Bool) (hj : j < s.size) : s.extract 0 j ++ strOfNums [setB (bt s j) k x] ++ s.extract (j + 1) s.size = withB s j k x := by
  have hl : s.data.toList.length = s.size := by simp
  apply ByteArray.ext
  apply Array.ext'
  unfold withB
  simp only [ByteArray.data_append, Array.toList_append, Lib.extract_data, strOfNums_data, List.map_cons, List.map_nil]
  apply List.ext_getElem?
  intro m
  have e1 : (List.take (j - 0) (List.drop 0 s.data.toList)).length = j := by simp; omega
  have e2 : List.take (s.size - (j + 1)) (List.drop (j + 1) s.data.toList) = List.drop (j + 1) s.data.toList := List.take_of_length_le (by simp)
  rw [List.getElem?_map, List.getElem?_map]
  rcases Nat.lt_trichotomy m j with h | h | h
  · rw [List.append_assoc, List.getElem?_append_left (by omega), List.getElem?_range (by omega), List.getElem?_take_of_lt (by omega)]
    simp only [Option.map_some, if_neg (Nat.ne_of_lt h), List.drop_zero]
    rw [u8_bt s m (by omega), List.getElem?_eq_getElem (by omega)]
  · subst h
    rw [List.append_assoc, List.getElem?_append_right (by omega), e1, List.getElem?_range (by omega)]
    simp
  · rw [List.getElem?_append_right (by rw [List.length_append, e1, List.length_singleton]; omega), List.length_append, e1, List.length_singleton, e2, List.getElem?_drop, show j + 1 + (m - (j + 1)) = m by omega]
    by_cases hm : m < s.size
    · rw [List.getElem?_range hm]
      simp only [Option.map_some, if_neg (Nat.ne_of_gt h)]
      rw [u8_bt s m (by omega), List.getElem?_eq_getElem (by omega)]
    · rw [List.getElem?_eq_none (by omega), List.getElem?_eq_none (by simp; omega)]
      rfl
theorem withB_size (s : ByteArray) (j k : Nat) (x : Bool) : (withB s j k x).size = s.size := by
  unfold withB
  rw [strOfNums_size]
  simp
theorem set_b {s : ByteArray} {j k : Nat} (hk : k < 8) (x : Bool) : 0 ≤ setB (bt s j) k x ∧ setB (bt s j) k x ≤ 255 := by
  obtain ⟨z, hz⟩ := byte_fin (bt_nonneg s j) (bt_le s j)
  rw [hz]
  exact set_all z ⟨k, hk⟩ x
theorem withB_bt (s : ByteArray) (j k : Nat) (x : Bool) (hk : k < 8) (m : Nat) (hm : m < s.size) : bt (withB s j k x) m = if m = j then setB (bt s j) k x else bt s m := by
  have e : ((List.range s.size).map fun m => if m = j then setB (bt s m) k x else bt s m).getD m 0 = if m = j then setB (bt s j) k x else bt s m := by
    rw [List.getD_eq_getElem?_getD, List.getElem?_map, List.getElem?_range hm]
    by_cases h : m = j
    · subst h; simp
    · simp [h]
  have hb : 0 ≤ (if m = j then setB (bt s j) k x else bt s m) ∧ (if m = j then setB (bt s j) k x else bt s m) ≤ 255 := by
    split
    · exact set_b hk x
    · exact ⟨bt_nonneg s m, bt_le s m⟩
  unfold withB
  rw [bt_strOfNums _ m (by rw [e]; exact hb.1) (by rw [e]; exact hb.2), e]
theorem room_with (s : ByteArray) (i l : Int) (x : Bool) : roomB (withS s i x) l = roomB s l := by
  unfold withS
  split
  · unfold roomB; rw [withB_size]
  · rfl
theorem with_size (s : ByteArray) (i : Int) (x : Bool) : (withS s i x).size = s.size := by
  unfold withS
  split
  · exact withB_size _ _ _ _
  · rfl
/-- A set with a number or without it, asked. -/
theorem has_with (s : ByteArray) (i l : Int) (x : Bool) (hi : roomB s i = true) : hasB (withS s i x) l = if l = i then x else hasB s l := by
  rcases ways s i with h | ⟨h, h2⟩ | ⟨j, k, hj, hk, h, hq, hr⟩
  · rw [room_neg h] at hi; cases hi
  · rw [room_far h2] at hi; cases hi
  rw [with_in x hj hq hr]
  rcases ways s l with h' | ⟨h', h2'⟩ | ⟨j', k', hj', hk', h', hq', hr'⟩
  · rw [has_no (room_neg h'), has_no (room_neg h'), if_neg (by omega)]
  · rw [has_no (room_far (by rw [withB_size]; exact h2')), has_no (room_far h2'), if_neg (by omega)]
  · rw [has_in (by rw [withB_size]; exact hj') hq' hr', has_in hj' hq' hr', withB_bt s j k x hk j' hj']
    obtain ⟨z, hz⟩ := byte_fin (bt_nonneg s j) (bt_le s j)
    have hs := set_bit z ⟨k, hk⟩ ⟨k', hk'⟩ x
    by_cases e : j' = j
    · subst e
      rw [if_pos rfl, hz]
      simp only at hs
      rw [hs]
      by_cases e2 : k' = k
      · subst e2
        rw [if_pos rfl, if_pos (by omega)]
      · rw [if_neg (by simpa using e2), if_neg (by omega)]
    · rw [if_neg e, if_neg (by omega)]
theorem list_bt {a b : ByteArray} (hz : a.size = b.size) (h : ∀ m, m < a.size → bt a m = bt b m) : a = b := by
  have la : a.data.toList.length = a.size := by simp
  have lb : b.data.toList.length = b.size := by simp
  apply ByteArray.ext
  apply Array.ext'
  apply List.ext_getElem
  · omega
  · intro m h1 h2
    rw [← u8_bt a m h1, ← u8_bt b m h2, h m (by omega)]
/-- Taken back, a set is what it was. -/
theorem with_back (s : ByteArray) (i : Int) (x : Bool) (hi : roomB s i = true) : withS (withS s i x) i (hasB s i) = s := by
  rcases ways s i with h | ⟨h, h2⟩ | ⟨j, k, hj, hk, h, hq, hr⟩
  · rw [room_neg h] at hi; cases hi
  · rw [room_far h2] at hi; cases hi
  rw [with_in x hj hq hr, has_in hj hq hr, with_in _ (by rw [withB_size]; exact hj) hq hr]
  refine list_bt (by rw [withB_size, withB_size]) fun m hm => ?_
  rw [withB_size, withB_size] at hm
  rw [withB_bt _ j k _ hk m (by rw [withB_size]; exact hm)]
  by_cases e : m = j
  · subst e
    rw [if_pos rfl, withB_bt s m k x hk m hm, if_pos rfl]
    obtain ⟨z, hz⟩ := byte_fin (bt_nonneg s m) (bt_le s m)
    rw [hz]
    exact set_back z ⟨k, hk⟩ x
  · rw [if_neg e, withB_bt s j k x hk m hm, if_neg e]
theorem rhas_is {s : ByteArray} {i : Int} {r : Bool} (hr : hasB s i = r) (w : World) (hs : s.size ≤ 140737488351232) (b : -9223372036854775808 ≤ i) (c : i ≤ 9223372036854775807) :
    Calls Try.prog 11 #[.string s, .int .i64 i] w fun e w' => e = .returned (.bool r) ∧ w = w' :=
  hr ▸ rhas_any s i w hs b c
set_option maxHeartbeats 2000000 in
theorem rwith_any (s : ByteArray) (i : Int) (x : Bool) (w : World) (hs : s.size ≤ 140737488351232) (b : -9223372036854775808 ≤ i) (c : i ≤ 9223372036854775807) :
    Calls Try.prog 9 #[.string s, .int .i64 i, .bool x] w fun e w' => e = .returned (.tuple #[.string (withS s i x), .bool (roomB s i)]) ∧ Below w.heap.size w w' := by
  rcases ways s i with h | ⟨h, h2⟩ | ⟨j, k, hj, hk, h, hq, hr⟩
  · have hx := room_neg (s := s) h
    have HR := Lib.hid (with_no x hx)
    have HX := Lib.hid hx
    clear hx
    go_enter Try.func9, Try.ntmps9
    go_wp2
    go_returns
    exact ⟨by rw [HR.out, HX.out]; rfl, Below.refl _ _⟩
  · have hx := room_far (s := s) h2
    have HR := Lib.hid (with_no x hx)
    have HX := Lib.hid hx
    clear hx
    go_enter Try.func9, Try.ntmps9
    go_wp2
    go_returns
    exact ⟨by rw [HR.out, HX.out]; rfl, Below.refl _ _⟩
  · have HX := Lib.hid (room_in (s := s) h (show i / 8 < s.size by omega))
    have HR := Lib.hid (with_in x hj hq hr)
    have HW := Lib.hid (withB_cut s j k x hj)
    have HB := Lib.hid (has_in hj hq hr)
    have hb := set_b (s := s) (j := j) hk x
    have gb := get_bt s
    have hc := And.intro (bt_nonneg s j) (bt_le s j)
    go_enter Try.func9, Try.ntmps9
    go_wp2
    go_loop [8, 9] (fun u n => ∃ m : Nat, m ≤ k ∧ n = .int .i64 m ∧ u = .int .u8 (p2 m)) (fun _ n => k - (intOf n).toNat)
    case atStart => exact ⟨0, Nat.zero_le _, rfl, rfl⟩
    case round =>
      obtain ⟨m, hm, rfl, rfl⟩ := hrel
      have hp := p2_b ⟨m, by omega⟩
      simp only at hp
      by_cases hlt : m < k
      · have HP := Lib.hid (show p2 (m + 1) = 2 * p2 m from rfl)
        have hp2 := p2_b ⟨m + 1, by omega⟩
        simp only [p2] at hp2
        go_wp2
        go_round
        case rel => exact ⟨m + 1, by omega, by go_num, by rw [HP.out, Int.mul_comm]⟩
        case measure => simp [intOf]; omega
      · obtain rfl : m = k := by omega
        have HS := Lib.hid (show setB (bt s j) m x = if bitB (bt s j) m = x then bt s j else if x then bt s j + p2 m else bt s j - p2 m from rfl)
        have HC := fun w b => run_conv_one (P := Try.prog) 39 5 9 Try.underlying39 Try.underlying5 Try.underlying9 w b 1
        have HO := fun w b x => convOne_some Try.prog 39 9 w b 1 x
        have z1 : (s.extract 0 j).size ≤ 140737488351232 := by rw [ByteArray.size_extract]; omega
        have z3 : (s.extract (j + 1) s.size).size ≤ 140737488351232 := by rw [ByteArray.size_extract]; omega
        have hdv : IntKind.i64.wrap (i.tdiv 8) = (j : Int) := by rw [Int.tdiv_eq_ediv_of_nonneg h, hq]; exact IntWalk.i64_in _ (by omega)
        have k1 : j ≤ s.size := by omega
        have k2 : j + 1 ≤ s.size := by omega
        have k3 : IntKind.i64.wrap ((j : Int) + 1) = (j : Int) + 1 := IntWalk.i64_in _ (by omega)
        have k4 : ((j : Int) + 1).toNat = j + 1 := by omega
        cases x <;> cases hB : bitB (bt s j) m
        · have HE := Lib.hid (show setB (bt s j) m false = bt s j by rw [HS.out, hB]; rfl)
          have z2 : (strOfNums [bt s j]).size ≤ 1 := by rw [strOfNums_size]; exact Nat.le_refl _
          have z4 : (s.extract 0 j ++ strOfNums [bt s j]).size ≤ 140737488351233 := by rw [ByteArray.size_append]; omega
          rw [HE.out] at hb
          have HH := Lib.hid fun w => rhas_is (HB.out.trans hB) w hs b c
          clear hB
          go_wp2_with fail
          refine (HH.out _).mono ?_
          rintro e _ ⟨rfl, rfl⟩
          go_wp2_with fail
          refine (HH.out _).mono ?_
          rintro e _ ⟨rfl, rfl⟩
          go_wp2_with fail
          go_region
          go_wp2
          go_returns
          exact ⟨by rw [HR.out, HX.out, ← HW.out, HE.out]; rfl, ((Below.refl _ _).alloc (Nat.le_refl _) _).drew⟩
        · have HE := Lib.hid (show setB (bt s j) m false = bt s j - p2 m by rw [HS.out, hB]; rfl)
          have z2 : (strOfNums [bt s j - p2 m]).size ≤ 1 := by rw [strOfNums_size]; exact Nat.le_refl _
          have z4 : (s.extract 0 j ++ strOfNums [bt s j - p2 m]).size ≤ 140737488351233 := by rw [ByteArray.size_append]; omega
          rw [HE.out] at hb
          have HH := Lib.hid fun w => rhas_is (HB.out.trans hB) w hs b c
          clear hB
          go_wp2_with fail
          refine (HH.out _).mono ?_
          rintro e _ ⟨rfl, rfl⟩
          go_wp2_with fail
          go_region
          go_wp2
          go_returns
          exact ⟨by rw [HR.out, HX.out, ← HW.out, HE.out]; rfl, ((Below.refl _ _).alloc (Nat.le_refl _) _).drew⟩
        · have HE := Lib.hid (show setB (bt s j) m true = bt s j + p2 m by rw [HS.out, hB]; rfl)
          have z2 : (strOfNums [bt s j + p2 m]).size ≤ 1 := by rw [strOfNums_size]; exact Nat.le_refl _
          have z4 : (s.extract 0 j ++ strOfNums [bt s j + p2 m]).size ≤ 140737488351233 := by rw [ByteArray.size_append]; omega
          rw [HE.out] at hb
          have HH := Lib.hid fun w => rhas_is (HB.out.trans hB) w hs b c
          clear hB
          go_wp2_with fail
          refine (HH.out _).mono ?_
          rintro e _ ⟨rfl, rfl⟩
          go_wp2_with fail
          refine (HH.out _).mono ?_
          rintro e _ ⟨rfl, rfl⟩
          go_wp2_with fail
          go_region
          go_wp2
          go_returns
          exact ⟨by rw [HR.out, HX.out, ← HW.out, HE.out]; rfl, ((Below.refl _ _).alloc (Nat.le_refl _) _).drew⟩
        · have HE := Lib.hid (show setB (bt s j) m true = bt s j by rw [HS.out, hB]; rfl)
          have z2 : (strOfNums [bt s j]).size ≤ 1 := by rw [strOfNums_size]; exact Nat.le_refl _
          have z4 : (s.extract 0 j ++ strOfNums [bt s j]).size ≤ 140737488351233 := by rw [ByteArray.size_append]; omega
          rw [HE.out] at hb
          have HH := Lib.hid fun w => rhas_is (HB.out.trans hB) w hs b c
          clear hB
          go_wp2_with fail
          refine (HH.out _).mono ?_
          rintro e _ ⟨rfl, rfl⟩
          go_wp2_with fail
          refine (HH.out _).mono ?_
          rintro e _ ⟨rfl, rfl⟩
          go_wp2_with fail
          go_region
          go_wp2
          go_returns
          exact ⟨by rw [HR.out, HX.out, ← HW.out, HE.out]; rfl, ((Below.refl _ _).alloc (Nat.le_refl _) _).drew⟩
end Go.Proofs.Ytkdcfacpapmgoaa
