/- Contracts of package bitmap, and of its reference: Empty, Count. -/
import Derived.Test.YtkdcfacpapmgoaaMapD
namespace Go.Proofs.Ytkdcfacpapmgoaa
set_option maxRecDepth 100000
open Go.ChangeShapes Go.WideShapes Go.ChangeAt Go.RowKit Go.PlainAid

/-- So many bytes 0. -/
def zeroS (m : Nat) : ByteArray := strOfNums (List.replicate m 0)
/-- The bytes that so many numbers need. -/
def emptyZ (n : Int) : Nat := if n < 1 then 0 else ((n - 1) / 8 + 1).toNat
theorem zero_size (m : Nat) : (zeroS m).size = m := by unfold zeroS; rw [strOfNums_size]; simp
theorem zero_bt (m k : Nat) : bt (zeroS m) k = 0 := by
  by_cases h : k < m
  · have e : (List.replicate m (0 : Int)).getD k 0 = 0 := by simp [List.getD_eq_getElem?_getD, h]
    unfold zeroS
    rw [bt_strOfNums _ k (by rw [e]; omega) (by rw [e]; omega), e]
  · exact bt_end _ (by rw [zero_size]; omega)
theorem rep_zero : ∀ c, (Lib.repeatL (⟨#[0]⟩ : ByteArray).data.toList c) = List.replicate c 0
  | 0 => rfl
  | c + 1 => by
    rw [Lib.repeatL, rep_zero c]
    rfl
theorem rep_eq (c : Nat) : (⟨(Lib.repeatL (⟨#[0]⟩ : ByteArray).data.toList c).toArray⟩ : ByteArray) = zeroS c := by
  rw [rep_zero]
  apply ByteArray.ext
  apply Array.ext'
  unfold zeroS
  rw [strOfNums_data]
  simp
theorem hv_zero : ∀ k, hv 0 k = 0
  | 0 => rfl
  | k + 1 => by rw [hv, hv_zero k]; rfl
theorem has_zero (m : Nat) (i : Int) : hasB (zeroS m) i = false := by
  unfold hasB
  rw [zero_bt]
  unfold bitB
  rw [hv_zero]
  exact Bool.and_false _

set_option maxHeartbeats 400000 in
theorem empty_any (n : Int) (w : World) (b : -9223372036854775808 ≤ n) (c : n ≤ 100000) :
    Calls Try.prog 13 #[.int .i64 n] w fun e w' => e = .returned (.string (zeroS (emptyZ n))) ∧ Below w.heap.size w w' := by
  by_cases h : n < 1
  · have HZ := Lib.hid (show zeroS (emptyZ n) = ⟨#[]⟩ by unfold emptyZ; rw [if_pos h]; rfl)
    go_enter Try.func13, Try.ntmps13
    go_wp2
    go_returns
    exact ⟨by rw [HZ.out]; rfl, Below.refl _ _⟩
  · obtain ⟨m, hm⟩ : ∃ m : Nat, (n - 1) / 8 + 1 = m := ⟨((n - 1) / 8 + 1).toNat, by omega⟩
    have hm2 : m ≤ 20000 := by omega
    have HZ := Lib.hid (show zeroS (emptyZ n) = ⟨(Lib.repeatL (⟨#[0]⟩ : ByteArray).data.toList m).toArray⟩ by rw [rep_eq]; unfold emptyZ; rw [if_neg h, hm]; rfl)
    have HC := Lib.hid fun w => sh_strings_Repeat ⟨#[0]⟩ m w (by omega) (by show 1 * m ≤ _; omega)
    go_enter Try.func13, Try.ntmps13
    go_wp2_with fail
    refine (HC.out _).mono ?_
    rintro e w1 ⟨rfl, hb⟩
    go_wp2
    go_returns
    exact ⟨by rw [HZ.out]; rfl, hb⟩
theorem zero_range (m : Nat) : zeroS m = strOfNums ((List.range m).map fun _ => 0) := by
  unfold zeroS
  congr 1
  apply List.ext_getElem <;> simp
theorem infoB : (Try.prog.info? 5).map (fun i => (i.zero, i.size, i.bytes)) = some (some (.int .u8 0), 1, 1) := by kernel_rfl
set_option maxHeartbeats 1000000 in
theorem rempty_any (n : Int) (w : World) (b : -9223372036854775808 ≤ n) (c : n ≤ 100000) :
    Calls Try.prog 14 #[.int .i64 n] w fun e w' => e = .returned (.string (zeroS (emptyZ n))) ∧ Below w.heap.size w w' := by
  obtain ⟨m, hm⟩ : ∃ m, emptyZ n = m := ⟨_, rfl⟩
  have HZ := Lib.hid (show zeroS (emptyZ n) = strOfNums ((List.range m).map fun _ => 0) by rw [hm]; exact zero_range m)
  have hm2 : m ≤ 20000 := by rw [← hm]; unfold emptyZ; split <;> omega
  obtain ⟨Q, hQ⟩ : ∃ Q, wrap64 (n.tdiv 8) = Q := ⟨_, rfl⟩
  obtain ⟨R, hR⟩ : ∃ R, n.tmod 8 = R := ⟨_, rfl⟩
  have HQ : Hid (∀ j : Nat, j < m ↔ ((j : Int) < Q ∨ ((j : Int) = Q ∧ 0 < R))) := by
    refine Lib.hid fun j => ?_
    rw [← hm, ← hQ, ← hR]
    unfold emptyZ
    by_cases h : n < 1
    · have e : n.tdiv 8 = -((-n) / 8) := by
        have := Int.neg_tdiv (a := -n) (b := 8)
        rw [Int.neg_neg] at this
        rw [this, Int.tdiv_eq_ediv_of_nonneg (by omega)]
      have e2 : n.tmod 8 = -((-n) % 8) := by
        have := Int.neg_tmod (-n) 8
        rw [Int.neg_neg] at this
        rw [this, Int.tmod_eq_emod_of_nonneg (by omega)]
      rw [e, e2, show wrap64 (-(-n / 8)) = -(-n / 8) by unfold wrap64; omega, if_pos h]
      omega
    · rw [Int.tdiv_eq_ediv_of_nonneg (by omega), Int.tmod_eq_emod_of_nonneg (by omega), show wrap64 (n / 8) = n / 8 by unfold wrap64; omega, if_neg h]
      omega
  have hQ2 : Q ≤ 20001 := Int.not_lt.1 fun h => by
    have := (HQ.out 20001).2 (.inl (by omega))
    omega
  clear hm b c
  obtain ⟨w1, hrun, hb1⟩ := make_bytes 39 5 Try.underlying39 infoB w m (by omega)
  have HCS := Lib.hid (row_str hb1)
  have HB1 := Lib.hid hb1.below
  have HR := Lib.hid hrun
  clear hb1 hrun
  go_enter Try.func14, Try.ntmps14
  go_wp2
  go_loop [3] (fun k => ∃ j : Nat, j ≤ m ∧ k = .int .i64 j) (fun k => m - (intOf k).toNat)
  case atStart => exact ⟨0, Nat.zero_le _, rfl⟩
  case round =>
    obtain ⟨j, hj, rfl⟩ := hrel
    have hk := HQ.out j
    by_cases q1 : (j : Int) < Q
    · have hlt : j < m := hk.2 (.inl q1)
      clear hk
      go_wp2
      go_round
      case rel => exact ⟨j + 1, by omega, by go_num⟩
      case measure => simp [intOf]; omega
    · by_cases q2 : (j : Int) = Q
      · subst q2
        by_cases q3 : 0 < R
        · have hlt : j < m := hk.2 (.inr ⟨rfl, q3⟩)
          clear hk
          go_wp2
          go_round
          case rel => exact ⟨j + 1, by omega, by go_num⟩
          case measure => simp [intOf]; omega
        · have hlt : ¬ j < m := fun h => by
            rcases hk.1 h with h | h
            · exact q1 h
            · exact q3 h.2
          clear hk
          obtain rfl : m = j := by omega
          have hr := HR.out
          go_wp2
          rw [run_convert_bytes_arg w1 39 5 Try.underlying39 Try.underlying5 _ 0 _ _ _ (len_range m _) HCS.out 9 Try.underlying9]
          go_wp2
          go_returns
          exact ⟨by rw [HZ.out]; rfl, HB1.out⟩
      · have hlt : ¬ j < m := fun h => by
          rcases hk.1 h with h | h
          · exact q1 h
          · exact q2 h.1
        have q2' : ((j : Int) == Q) = false := beq_eq_false_iff_ne.2 q2
        clear hk
        obtain rfl : m = j := by omega
        have hr := HR.out
        go_wp2
        rw [run_convert_bytes_arg w1 39 5 Try.underlying39 Try.underlying5 _ 0 _ _ _ (len_range m _) HCS.out 9 Try.underlying9]
        go_wp2
        go_returns
        exact ⟨by rw [HZ.out]; rfl, HB1.out⟩
/-- The numbers in the first bytes of a set. -/
def cnt (s : ByteArray) : Nat → Nat | 0 => 0 | k + 1 => cnt s k + Lib.onesCount (bt s k).toNat
theorem ones_le (s : ByteArray) (k : Nat) : Lib.onesCount (bt s k).toNat ≤ 8 := by
  obtain ⟨z, hz⟩ := byte_fin (bt_nonneg s k) (bt_le s k)
  rw [hz]
  exact Lib.onesCount_le8 z
theorem cnt_le (s : ByteArray) : ∀ k, cnt s k ≤ 8 * k
  | 0 => Nat.le_refl _
  | k + 1 => by
    have := cnt_le s k
    have := ones_le s k
    simp only [cnt]
    omega
theorem cnt_zero (m : Nat) : ∀ k, cnt (zeroS m) k = 0
  | 0 => rfl
  | k + 1 => by
    rw [cnt, cnt_zero m k, zero_bt]
    rfl
set_option maxHeartbeats 400000 in
theorem count_any (s : ByteArray) (w : World) (hs : s.size ≤ 140737488351232) :
    Calls Try.prog 15 #[.string s] w fun e w' => e = .returned (.int .i64 (cnt s s.size)) ∧ w = w' := by
  have gb := get_bt s
  go_enter Try.func15, Try.ntmps15
  go_wp2
  go_loop [3, 7] (fun n i => ∃ k : Nat, k ≤ s.size ∧ i = .int .i64 k ∧ n = .int .i64 (cnt s k)) (fun _ i => s.size - (intOf i).toNat)
  case atStart => exact ⟨0, Nat.zero_le _, rfl, rfl⟩
  case round =>
    obtain ⟨k, hk, rfl, rfl⟩ := hrel
    have hb := cnt_le s k
    by_cases hlt : k < s.size
    · have HV := Lib.hid (show cnt s (k + 1) = cnt s k + Lib.onesCount (bt s k).toNat from rfl)
      have ho := ones_le s k
      have HC := Lib.hid fun w => Calls.mono (sh_bits_OnesCount8 (bt s k) w (bt_nonneg s k) (bt_le s k)) fun _ _ ⟨p, q⟩ => And.intro p q.symm
      have hc := And.intro (bt_nonneg s k) (bt_le s k)
      go_wp2_with fail
      refine (HC.out _).mono ?_
      rintro e _ ⟨rfl, rfl⟩
      go_wp2
      go_round
      case rel => exact ⟨k + 1, by omega, by go_num, by rw [HV.out]; go_num⟩
      case measure => simp [intOf]; omega
    · obtain rfl : k = s.size := by omega
      go_wp2
      go_returns
      exact ⟨rfl, rfl⟩
end Go.Proofs.Ytkdcfacpapmgoaa
