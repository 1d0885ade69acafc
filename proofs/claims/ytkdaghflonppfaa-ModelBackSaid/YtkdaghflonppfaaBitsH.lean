/- Contracts: Unvar and the reference's Unvar. -/
import Derived.Test.YtkdaghflonppfaaBitsG
import Derived.Deep.QuietTactic
import Derived.BigQuiet
namespace Go.Proofs.Ytkdaghflonppfaa
open Go.ChangeShapes Go.WideShapes Go.ChangeAt Go.RowKit Go.PlainAid

/-- The number of a text's first k groups of seven bits. -/
def pv (s : ByteArray) : Nat → Int | 0 => 0 | k + 1 => pv s k + bt s k % 128 * 128 ^ k
/-- Is the group at k, the first one below 128, a last one as Var writes it? -/
def uvOk (s : ByteArray) (k : Nat) : Bool := !(k == 9 && decide (1 < bt s k)) && !(decide (0 < k) && bt s k == 0)
/-- What a text begins with: a number in groups, and how many; looked for from group k on. -/
def uv (s : ByteArray) : Nat → Nat → Int × Int
  | 0, _ => (0, 0)
  | f + 1, k => if k < s.size then (if bt s k < 128 then (if uvOk s k then (pv s (k + 1), ((k + 1 : Nat) : Int)) else (0, 0)) else uv s f (k + 1)) else (0, 0)
def unvarP (s : ByteArray) : Int × Int := uv s 10 0

theorem p128 (k : Nat) : (2 : Int) ^ (7 * k) = 128 ^ k := by rw [Int.pow_mul]; rfl
theorem p128_pos (k : Nat) : (1 : Int) ≤ 128 ^ k := by
  induction k with
  | zero => simp
  | succ k ih => rw [Int.pow_succ]; omega
theorem pv_b (s : ByteArray) : ∀ k, 0 ≤ pv s k ∧ pv s k < 128 ^ k
  | 0 => by simp [pv]
  | k + 1 => by
    have ih := pv_b s k
    have hp := p128_pos k
    have hb : 0 ≤ bt s k % 128 ∧ bt s k % 128 ≤ 127 := by have := bt_nonneg s k; omega
    have h1 : bt s k % 128 * 128 ^ k ≤ 127 * 128 ^ k := Int.mul_le_mul_of_nonneg_right hb.2 (by omega)
    have h2 : 0 ≤ bt s k % 128 * 128 ^ k := Int.mul_nonneg hb.1 (by omega)
    simp only [pv]
    rw [Int.pow_succ]
    omega
theorem p128_le {j k : Nat} (h : j ≤ k) : (128 : Int) ^ j ≤ 128 ^ k := by
  obtain ⟨d, rfl⟩ := Nat.exists_eq_add_of_le h
  rw [Int.pow_add]
  have a := p128_pos j
  have b := p128_pos d
  have := Int.mul_le_mul_of_nonneg_left b (show (0 : Int) ≤ 128 ^ j by omega)
  omega
theorem or_pv (s : ByteArray) (k : Nat) (h : k ≤ 8 ∨ (k = 9 ∧ bt s k ≤ 1)) : bits .or .u64 (pv s k) (IntKind.u64.wrap (bt s k % 128 * 2 ^ (7 * k))) = pv s (k + 1) := by
  have b := pv_b s k
  have hn := bt_nonneg s k
  have hX : 0 ≤ bt s k % 128 * 128 ^ k ∧ bt s k % 128 * 128 ^ k < 18446744073709551616 ∧ (128 : Int) ^ k ≤ 18446744073709551616 := by
    have hp := p128_pos k
    rcases h with h | ⟨rfl, h⟩
    · have q := p128_le h
      have q8 : (128 : Int) ^ 8 = 72057594037927936 := by decide
      have h1 : bt s k % 128 * 128 ^ k ≤ 127 * 128 ^ k := Int.mul_le_mul_of_nonneg_right (by omega) (by omega)
      exact ⟨Int.mul_nonneg (by omega) (by omega), by omega, by omega⟩
    · have q9 : (128 : Int) ^ 9 = 9223372036854775808 := by decide
      rw [q9]
      omega
  rw [p128, IntKind.wrap_u64, Int.emod_eq_of_lt hX.1 hX.2.1]
  rw [u64_or_add (pv s k) (bt s k % 128) (7 * k) _ (128 ^ k) (by rw [p128]) (by rw [p128]) b.1 b.2 (by omega) hX.2.1 hX.2.2]
  rfl
theorem uv_go (s : ByteArray) (f k : Nat) (h : k < s.size) (c : ¬ bt s k < 128) : uv s (f + 1) k = uv s f (k + 1) := by rw [uv, if_pos h, if_neg c]
theorem uv_ok (s : ByteArray) (f k : Nat) (h : k < s.size) (c : bt s k < 128) (o : uvOk s k = true) : uv s (f + 1) k = (pv s (k + 1), ((k + 1 : Nat) : Int)) := by rw [uv, if_pos h, if_pos c, if_pos o]
theorem uv_bad (s : ByteArray) (f k : Nat) (h : k < s.size) (c : bt s k < 128) (o : uvOk s k = false) : uv s (f + 1) k = (0, 0) := by rw [uv, if_pos h, if_pos c, if_neg (by rw [o]; simp)]
theorem uv_end (s : ByteArray) (f k : Nat) (h : ¬ k < s.size) : uv s f k = (0, 0) := by cases f with | zero => rfl | succ f => rw [uv, if_neg h]
theorem ret_uv {s : ByteArray} {a b : Int} (h : (a, b) = unvarP s) : Ending.returned (.tuple #[.int .u64 a, .int .i64 b]) = .returned (.tuple #[.int .u64 (unvarP s).1, .int .i64 (unvarP s).2]) := by rw [← h]

set_option maxHeartbeats 1000000 in
theorem unvar_any (s : ByteArray) (hs : s.size ≤ maxLen) (w : World) :
    Calls Try.prog 30 #[.string s] w fun e w' => e = .returned (.tuple #[.int .u64 (unvarP s).1, .int .i64 (unvarP s).2]) ∧ w = w' := by
  unfold maxLen at hs
  have gb := get_bt s
  rcases Nat.lt_or_ge 10 s.size with c10 | c10
  all_goals
    go_enter Try.func30, Try.ntmps30
    go_wp2
    go_loop [4, 10] (fun n i => ∃ k : Nat, k ≤ s.size ∧ k ≤ 10 ∧ i = .int .i64 k ∧ n = .int .u64 (pv s k) ∧ Hid (uv s (10 - k) k = unvarP s)) (fun _ i => 10 - (intOf i).toNat)
    case atStart => exact ⟨0, by omega, by omega, rfl, rfl, rfl⟩
    case round =>
      obtain ⟨k, hk, hk10, rfl, rfl, HU⟩ := hrel
      have hc := And.intro (bt_nonneg s k) (bt_le s k)
      by_cases hlt : k < s.size ∧ k < 10
      · obtain ⟨hlt, hl10⟩ := hlt
        have hq := u8_andNot_128 (bt s k) (by omega) (by omega)
        by_cases hl : k < 9
        · have HP := Lib.hid (or_pv s k (Or.inl (by omega)))
          by_cases c : bt s k < 128
          · by_cases hz : bt s k = 0 ∧ 0 < k
            · have HB := Lib.hid (uv_bad s (9 - k) k hlt c (by simp [uvOk, hz]))
              obtain ⟨hz1, hz2⟩ := hz
              go_wp2
              go_returns
              exact ⟨ret_uv (by rw [← HU.out, ← HB.out]; congr 1; omega), rfl⟩
            · have HB := Lib.hid (uv_ok s (9 - k) k hlt c (by
                have h9 : (k == 9) = false := by simp; omega
                by_cases hz1 : bt s k = 0
                · have hz2 : ¬ 0 < k := fun h => hz ⟨hz1, h⟩
                  simp [uvOk, h9, hz2]
                · simp [uvOk, h9, hz1]))
              by_cases hz1 : bt s k = 0
              · obtain rfl : k = 0 := by
                  have hz2 : ¬ 0 < k := fun h => hz ⟨hz1, h⟩
                  omega
                clear hz
                have HP0 := Lib.hid (show bits .or .u64 (pv s 0) (IntKind.u64.wrap 0) = pv s 1 by
                  have h := HP.out
                  rw [hz1] at h
                  exact h)
                go_wp2
                go_returns
                exact ⟨ret_uv (by rw [← HU.out, show 10 - 0 = 9 - 0 + 1 by omega, HB.out]; exact Prod.ext HP0.out rfl), rfl⟩
              · clear hz
                go_wp2
                go_returns
                exact ⟨ret_uv (by rw [← HU.out, show 10 - k = 9 - k + 1 by omega, HB.out]; exact Prod.ext HP.out rfl), rfl⟩
          · have HB := Lib.hid (uv_go s (9 - k) k hlt c)
            go_wp2
            go_round
            case rel => exact ⟨k + 1, by omega, by omega, by go_num, by rw [HP.out], by show uv s (10 - (k + 1)) (k + 1) = _; rw [← HU.out, show 10 - k = 9 - k + 1 by omega, HB.out]; congr 1; omega⟩
            case measure => simp [intOf]; omega
        · obtain rfl : k = 9 := by omega
          by_cases c : 1 < bt s 9
          · have HB := Lib.hid (show uv s 1 9 = (0, 0) by
              by_cases c2 : bt s 9 < 128
              · exact uv_bad s 0 9 hlt c2 (by simp [uvOk, c])
              · rw [uv_go s 0 9 hlt c2]; rfl)
            go_wp2
            go_returns
            exact ⟨ret_uv (by rw [← HU.out, ← HB.out]), rfl⟩
          · have HP := Lib.hid (or_pv s 9 (Or.inr ⟨rfl, by omega⟩))
            by_cases hz1 : bt s 9 = 0
            · have HB := Lib.hid (uv_bad s 0 9 hlt (by omega) (by simp [uvOk, hz1]))
              go_wp2
              go_returns
              exact ⟨ret_uv (by rw [← HU.out, ← HB.out]), rfl⟩
            · have HB := Lib.hid (uv_ok s 0 9 hlt (by omega) (by simp [uvOk, hz1, c]))
              have HP9 := Lib.hid (show bits .or .u64 (pv s 9) (bt s 9 % 128 * 9223372036854775808) = pv s 10 by
                have h := HP.out
                rw [show (2 : Int) ^ (7 * 9) = 9223372036854775808 by decide, IntWalk.u64_in _ (by omega)] at h
                exact h)
              go_wp2
              go_returns
              exact ⟨ret_uv (by rw [← HU.out, show 10 - 9 = 0 + 1 by omega, HB.out]; exact Prod.ext HP9.out rfl), rfl⟩
      · have HE := Lib.hid (show uv s (10 - k) k = (0, 0) by
          by_cases h : k < s.size
          · obtain rfl : k = 10 := by omega
            rfl
          · exact uv_end s _ k h)
        by_cases h10 : k = s.size
        · first
            | (exfalso; omega)
            | (subst h10
               clear hlt
               go_wp2
               go_returns
               exact ⟨ret_uv (by rw [← HU.out, HE.out]), rfl⟩)
        · first
            | (exfalso; omega)
            | (rcases Nat.lt_or_ge k 10 with h | h
               · exfalso; omega
               · have e := Nat.le_antisymm hk10 h
                 subst e
                 clear hlt h10
                 go_wp2
                 go_returns
                 exact ⟨ret_uv (by rw [← HU.out, HE.out]), rfl⟩)
end Go.Proofs.Ytkdaghflonppfaa
