/- Contracts of the small functions of package bits and of its reference: Fold, Unfold. -/
import Derived.Test.YtkdaghflonppfaaRows
import Derived.Test.YtkdaghflonppfaaAid
namespace Go.Proofs.Ytkdaghflonppfaa
open Go.ChangeShapes Go.WideShapes Go.ChangeAt Go.RowKit Go.PlainAid

/-- Near numbers of either sign as small ones without a sign. -/
def foldZ (n : Int) : Int := if n < 0 then -2 * n - 1 else 2 * n
/-- What foldZ was made of. -/
def unfoldZ (u : Int) : Int := if u % 2 = 0 then u / 2 else -1 - u / 2
theorem foldZ_neg {n : Int} (h : n < 0) : foldZ n = -2 * n - 1 := if_pos h
theorem foldZ_pos {n : Int} (h : 0 ≤ n) : foldZ n = 2 * n := if_neg (by omega)
theorem unfoldZ_even {u : Int} (h : u % 2 = 0) : unfoldZ u = u / 2 := if_pos h
theorem unfoldZ_odd {u : Int} (h : u % 2 = 1) : unfoldZ u = -1 - u / 2 := if_neg (by omega)
set_option maxHeartbeats 400000 in
theorem fold_any (n : Int) (w : World) (h1 : -9223372036854775808 ≤ n) (h2 : n ≤ 9223372036854775807) :
    Calls Try.prog 36 #[.int .i64 n] w fun e w' => e = .returned (.int .u64 (foldZ n)) ∧ w = w' := by
  rcases Int.lt_or_le n 0 with c | c
  · have hf := Lib.hid (foldZ_neg c)
    go_enter Try.func36, Try.ntmps36
    go_wp2
    go_returns
    refine ⟨ret_i ?_, rfl⟩
    rw [hf.out, u64_not _ (by rw [IntKind.wrap_u64]; omega) (by rw [IntKind.wrap_u64]; omega)]
    simp only [IntKind.wrap_u64]; omega
  · have hf := Lib.hid (foldZ_pos c)
    go_enter Try.func36, Try.ntmps36
    go_wp2
    go_returns
    exact ⟨ret_i (by rw [hf.out]; omega), rfl⟩
set_option maxHeartbeats 400000 in
theorem rfold_any (n : Int) (w : World) (h1 : -9223372036854775808 ≤ n) (h2 : n ≤ 9223372036854775807) :
    Calls Try.prog 39 #[.int .i64 n] w fun e w' => e = .returned (.int .u64 (foldZ n)) ∧ w = w' := by
  rcases Int.lt_or_le n 0 with c | c
  · have hf := Lib.hid (foldZ_neg c)
    go_enter Try.func39, Try.ntmps39
    go_wp2
    go_returns
    exact ⟨ret_i (by rw [hf.out]; omega), rfl⟩
  · have hf := Lib.hid (foldZ_pos c)
    go_enter Try.func39, Try.ntmps39
    go_wp2
    go_returns
    exact ⟨ret_i (by rw [hf.out]), rfl⟩
set_option maxHeartbeats 400000 in
theorem unfold_any (u : Int) (w : World) (h0 : 0 ≤ u) (h1 : u ≤ 18446744073709551615) :
    Calls Try.prog 31 #[.int .u64 u] w fun e w' => e = .returned (.int .i64 (unfoldZ u)) ∧ w = w' := by
  have hl := u64_low u h0 h1
  rcases Int.emod_two_eq u with c | c
  · have hf := Lib.hid (unfoldZ_even c)
    rw [c] at hl
    clear c
    go_enter Try.func31, Try.ntmps31
    go_wp2
    go_returns
    exact ⟨ret_i (by rw [hf.out]), rfl⟩
  · have hf := Lib.hid (unfoldZ_odd c)
    rw [c] at hl
    clear c
    go_enter Try.func31, Try.ntmps31
    go_wp2
    go_returns
    obtain ⟨a, ha⟩ := Int.eq_ofNat_of_zero_le (show 0 ≤ u / 2 by omega)
    exact ⟨ret_i (by rw [hf.out, ha, i64_not a (by omega)]), rfl⟩
set_option maxHeartbeats 400000 in
theorem runfold_any (u : Int) (w : World) (h0 : 0 ≤ u) (h1 : u ≤ 18446744073709551615) :
    Calls Try.prog 33 #[.int .u64 u] w fun e w' => e = .returned (.int .i64 (unfoldZ u)) ∧ w = w' := by
  rcases Int.emod_two_eq u with c | c
  · have hf := Lib.hid (unfoldZ_even c)
    go_enter Try.func33, Try.ntmps33
    go_wp2
    go_returns
    exact ⟨ret_i (by rw [hf.out]), rfl⟩
  · have hf := Lib.hid (unfoldZ_odd c)
    go_enter Try.func33, Try.ntmps33
    go_wp2
    go_returns
    exact ⟨ret_i (by rw [hf.out]), rfl⟩
end Go.Proofs.Ytkdaghflonppfaa
