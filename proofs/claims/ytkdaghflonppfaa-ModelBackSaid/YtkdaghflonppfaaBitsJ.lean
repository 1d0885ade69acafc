/- Contract: the reference's Unvar. -/
import Derived.Test.YtkdaghflonppfaaBitsI
import Derived.Deep.RegionWith
namespace Go.Proofs.Ytkdaghflonppfaa
open Go.ChangeShapes Go.WideShapes Go.ChangeAt Go.RowKit Go.PlainAid

/-- 128^k in 64 bits. -/
def uu (k : Nat) : Int := 128 ^ k % 18446744073709551616
theorem nv_step (s : ByteArray) (k : Nat) : IntKind.u64.wrap (nv s k + IntKind.u64.wrap (bt s k % 128 * uu k)) = nv s (k + 1) := by
  unfold nv uu
  simp only [IntKind.wrap_u64, pv]
  rw [Int.emod_add_emod, Int.add_emod_emod, Int.add_emod, Int.mul_emod, Int.emod_emod_of_dvd _ (Int.dvd_refl _), ← Int.mul_emod, ← Int.add_emod]
theorem uu_step (k : Nat) : IntKind.u64.wrap (uu k * 128) = uu (k + 1) := by
  unfold uu
  rw [IntKind.wrap_u64, Int.pow_succ]
  generalize (128 : Int) ^ k = x
  omega

theorem uvOk_nv (s : ByteArray) (k : Nat) (hk : k ≤ 9) (ho : uvOk s k = true) : nv s (k + 1) = pv s (k + 1) := by
  have hp := pv_b s k
  have hb := bt_nonneg s k
  have hpk := p128_le hk
  have h9 := pow9
  have hp1 := pv_b s (k + 1)
  have hpv : pv s (k + 1) = pv s k + bt s k % 128 * 128 ^ k := rfl
  unfold nv
  by_cases e9 : k = 9
  · subst e9
    have h1 : bt s 9 ≤ 1 := by
      by_cases h : 1 < bt s 9
      · simp [uvOk, h] at ho
      · omega
    have : bt s 9 % 128 * 128 ^ 9 ≤ 1 * 128 ^ 9 := Int.mul_le_mul_of_nonneg_right (by omega) (by omega)
    omega
  · have h8 := p128_le (show k ≤ 8 by omega)
    have e8 : (128 : Int) ^ 8 = 72057594037927936 := by decide
    have : bt s k % 128 * 128 ^ k ≤ 127 * 128 ^ k := Int.mul_le_mul_of_nonneg_right (by omega) (by omega)
    omega

set_option maxHeartbeats 1000000 in
theorem runvar_any (s : ByteArray) (hs : s.size ≤ maxLen) (w : World) :
    Calls Try.prog 32 #[.string s] w fun e w' => e = .returned (.tuple #[.int .u64 (unvarP s).1, .int .i64 (unvarP s).2]) ∧ Below w.heap.size w w' := by
  unfold maxLen at hs
  have gb := get_bt s
  go_enter Try.func32, Try.ntmps32
  go_wp2
  go_loop [4, 5, 6] (fun n u i => ∃ k : Nat, k ≤ s.size ∧ k ≤ 10 ∧ i = .int .i64 k ∧ n = .int .u64 (nv s k) ∧ u = .int .u64 (uu k) ∧ Hid (uv s (10 - k) k = unvarP s) ∧ Hid (∀ j, j < k → 128 ≤ bt s j)) (fun _ _ i => 10 - (intOf i).toNat)
  case atStart => exact ⟨0, by omega, by omega, rfl, rfl, rfl, rfl, fun j hj => by omega⟩
  case round =>
    obtain ⟨k, hk, hk10, rfl, rfl, rfl, HU, HM⟩ := hrel
    have hc := And.intro (bt_nonneg s k) (bt_le s k)
    by_cases hlt : k < s.size
    · by_cases hl10 : k < 10
      · have w1 := nv_step s k
        have w2 := uu_step k
        by_cases c : bt s k < 128
        · have hq := eq_var s k (by omega) hlt HM.out c
          have hn := nv_b s (k + 1)
          cases ho : uvOk s k with
          | true =>
            rw [ho] at hq
            have HB := Lib.hid (uv_ok s (9 - k) k hlt c ho)
            have ho1 := ho
            clear ho
            have k2 : k + 1 ≤ s.size := by omega
            have k3 : IntKind.i64.wrap ((k : Int) + 1) = (k : Int) + 1 := IntWalk.i64_in _ (by omega)
            have k4 : ((k : Int) + 1).toNat = k + 1 := by omega
            have HR := Lib.hid (rvar_any (nv s (k + 1)) hn.1 hn.2)
            have HN := Lib.hid (uvOk_nv s k (by omega) ho1)
            clear ho1
            go_wp2_with fail
            go_region_with (go_at_call 38; (with_reducible refine (HR.out _).mono ?_); rintro e w5 ⟨rfl, hb⟩)
            all_goals
              go_wp2
              go_returns
              exact ⟨ret_uv (by rw [← HU.out, show 10 - k = 9 - k + 1 by omega, HB.out]; exact Prod.ext HN.out rfl), ((Below.refl _ _).drew).trans hb⟩
          | false =>
            rw [ho] at hq
            have HB := Lib.hid (uv_bad s (9 - k) k hlt c ho)
            clear ho
            have k2 : k + 1 ≤ s.size := by omega
            have k3 : IntKind.i64.wrap ((k : Int) + 1) = (k : Int) + 1 := IntWalk.i64_in _ (by omega)
            have k4 : ((k : Int) + 1).toNat = k + 1 := by omega
            have HR := Lib.hid (rvar_any (nv s (k + 1)) hn.1 hn.2)
            go_wp2_with fail
            go_region_with (go_at_call 38; (with_reducible refine (HR.out _).mono ?_); rintro e w5 ⟨rfl, hb⟩)
            all_goals
              go_wp2
              go_returns
              exact ⟨ret_uv (by rw [← HU.out, show 10 - k = 9 - k + 1 by omega, HB.out]), ((Below.refl _ _).drew).trans hb⟩
        · have HB := Lib.hid (uv_go s (9 - k) k hlt c)
          go_wp2
          go_round
          case rel => exact ⟨k + 1, by omega, by omega, by go_num, rfl, rfl, by show uv s (10 - (k + 1)) (k + 1) = _; rw [← HU.out, show 10 - k = 9 - k + 1 by omega, HB.out]; congr 1; omega, fun j hj => by
            by_cases e : j = k
            · subst e; omega
            · exact HM.out j (by omega)⟩
          case measure => simp [intOf]; omega
      · have e := Nat.le_antisymm hk10 (Nat.le_of_not_lt hl10)
        have HE := Lib.hid (show uv s (10 - k) k = (0, 0) by subst e; rfl)
        go_wp2
        go_returns
        exact ⟨ret_uv (by rw [← HU.out, HE.out]), Below.refl _ _⟩
    · have HE := Lib.hid (uv_end s (10 - k) k hlt)
      go_wp2
      go_returns
      exact ⟨ret_uv (by rw [← HU.out, HE.out]), Below.refl _ _⟩
end Go.Proofs.Ytkdaghflonppfaa
