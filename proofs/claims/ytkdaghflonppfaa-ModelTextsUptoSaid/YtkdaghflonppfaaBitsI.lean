/- Plain: the text that Var writes of the number that a text's groups make is that text, or it is not. -/
import Derived.Test.YtkdaghflonppfaaBitsH
namespace Go.Proofs.Ytkdaghflonppfaa
open Go.ChangeShapes Go.WideShapes Go.ChangeAt Go.RowKit Go.PlainAid

/-- The number that groups make. -/
def dec : List Int → Int | [] => 0 | x :: r => x % 128 + 128 * dec r
theorem dec_nonneg : ∀ l, 0 ≤ dec l
  | [] => Int.le_refl _
  | x :: r => by have := dec_nonneg r; simp only [dec]; omega
theorem dec_varL : ∀ (k n : Nat), n < 128 ^ (k + 1) → dec (varL n) = n
  | 0, n, h => by rw [varL_lt (by omega)]; simp only [dec]; omega
  | k + 1, n, h => by
    by_cases c : n < 128
    · rw [varL_lt c]; simp only [dec]; omega
    · rw [varL_ge (by omega)]
      simp only [dec]
      rw [dec_varL k (n / 128) (by rw [Nat.pow_succ] at h; omega)]
      omega
theorem dec_snoc (x : Int) : ∀ l : List Int, dec (l ++ [x]) = dec l + x % 128 * 128 ^ l.length
  | [] => by simp [dec]
  | y :: r => by
    simp only [List.cons_append, dec, dec_snoc x r, List.length_cons, Int.pow_succ]
    rw [Int.mul_add, ← Int.mul_assoc, Int.mul_comm 128 (x % 128), Int.mul_assoc, Int.mul_comm 128 (128 ^ r.length)]
    omega
/-- The first k bytes of a text, as numbers. -/
def firsts (s : ByteArray) (k : Nat) : List Int := (List.range k).map (bt s)
theorem firsts_next (s : ByteArray) (k : Nat) : firsts s (k + 1) = firsts s k ++ [bt s k] := by simp [firsts, List.range_succ]
theorem firsts_len (s : ByteArray) (k : Nat) : (firsts s k).length = k := by simp [firsts]
theorem dec_firsts (s : ByteArray) : ∀ k, dec (firsts s k) = pv s k
  | 0 => rfl
  | k + 1 => by rw [firsts_next, dec_snoc, dec_firsts s k, firsts_len]; rfl
/-- Groups as Var writes them: all but the last one bear the mark, the last one is not 0 unless it is alone. -/
def Good : List Int → Prop | [] => False | [x] => 0 ≤ x ∧ x < 128 | x :: y :: r => 128 ≤ x ∧ x < 256 ∧ Good (y :: r) ∧ 1 ≤ dec (y :: r)
theorem varL_dec : ∀ l : List Int, Good l → varL (dec l).toNat = l
  | [], h => h.elim
  | [x], h => by
    obtain ⟨h0, h1⟩ := h
    have e : (dec [x]).toNat = x.toNat := by simp only [dec]; omega
    rw [e, varL_lt (by omega), show ((x.toNat : Nat) : Int) = x by omega]
  | x :: y :: r, h => by
    obtain ⟨h0, h1, h2, h3⟩ := h
    have ih := varL_dec (y :: r) h2
    have e1 : dec (x :: y :: r) = x % 128 + 128 * dec (y :: r) := rfl
    rw [e1, varL_ge (by omega), show ((x % 128 + 128 * dec (y :: r)).toNat) / 128 = (dec (y :: r)).toNat by omega, ih, show (((x % 128 + 128 * dec (y :: r)).toNat % 128 + 128 : Nat) : Int) = x by omega]
theorem good_firsts (s : ByteArray) : ∀ (k j : Nat), (∀ i, i < k → 128 ≤ bt s (j + i)) → bt s (j + k) < 128 → (k = 0 ∨ 1 ≤ bt s (j + k)) → Good ((List.range (k + 1)).map fun i => bt s (j + i))
  | 0, j, _, h, _ => by
    show 0 ≤ bt s (j + 0) ∧ bt s (j + 0) < 128
    exact ⟨bt_nonneg _ _, h⟩
  | k + 1, j, hm, h, hz => by
    have hz1 : 1 ≤ bt s (j + (k + 1)) := by rcases hz with hz | hz <;> first | omega | exact hz
    have ih := good_firsts s k (j + 1) (fun i hi => by have := hm (i + 1) (by omega); rw [show j + 1 + i = j + (i + 1) by omega]; exact this) (by rw [show j + 1 + k = j + (k + 1) by omega]; exact h) (Or.inr (by rw [show j + 1 + k = j + (k + 1) by omega]; exact hz1))
    have e : (List.range (k + 1 + 1)).map (fun i => bt s (j + i)) = bt s j :: (List.range (k + 1)).map (fun i => bt s (j + 1 + i)) := by
      rw [List.range_succ_eq_map, List.map_cons, List.map_map]
      congr 1
      apply List.map_congr_left
      intro i _
      show bt s (j + (i + 1)) = _
      rw [show j + 1 + i = j + (i + 1) by omega]
    rw [e]
    have hpos : 1 ≤ dec ((List.range (k + 1)).map (fun i => bt s (j + 1 + i))) := by
      rw [List.range_succ, List.map_append, List.map_cons, List.map_nil, dec_snoc]
      have a := dec_nonneg ((List.range k).map (fun i => bt s (j + 1 + i)))
      have b := p128_pos ((List.range k).map (fun i => bt s (j + 1 + i))).length
      rw [show j + 1 + k = j + (k + 1) by omega] at *
      have c : 1 ≤ bt s (j + (k + 1)) % 128 := by omega
      have d := Int.mul_le_mul_of_nonneg_right c (show (0 : Int) ≤ 128 ^ ((List.range k).map (fun i => bt s (j + 1 + i))).length by omega)
      omega
    have h0 := hm 0 (by omega)
    have hl := bt_le s (j + 0)
    rw [Nat.add_zero] at h0 hl
    generalize hL : (List.range (k + 1)).map (fun i => bt s (j + 1 + i)) = L at *
    cases L with
    | nil => exact ih.elim
    | cons y r => exact ⟨h0, by omega, ih, hpos⟩
theorem varL_bytes : ∀ (k n : Nat), n < 128 ^ (k + 1) → ∀ x ∈ varL n, 0 ≤ x ∧ x < 256
  | 0, n, h => by
    rw [varL_lt (by omega)]
    intro x hx
    rw [List.mem_singleton] at hx
    subst hx
    omega
  | k + 1, n, h => by
    by_cases c : n < 128
    · rw [varL_lt c]
      intro x hx
      rw [List.mem_singleton] at hx
      subst hx
      omega
    · rw [varL_ge (by omega)]
      intro x hx
      rcases List.mem_cons.1 hx with rfl | hx
      · omega
      · exact varL_bytes k (n / 128) (by rw [Nat.pow_succ] at h; omega) x hx
theorem map_inj : ∀ (a b : List Int), (∀ x ∈ a, 0 ≤ x ∧ x < 256) → (∀ x ∈ b, 0 ≤ x ∧ x < 256) → (a.map fun n => UInt8.ofNat n.toNat) = (b.map fun n => UInt8.ofNat n.toNat) → a = b
  | [], [], _, _, _ => rfl
  | x :: a, y :: b, ha, hb, h => by
    simp only [List.map_cons, List.cons.injEq] at h
    have hx := ha x (by simp)
    have hy := hb y (by simp)
    have e := congrArg UInt8.toNat h.1
    rw [UInt8.toNat_ofNat', UInt8.toNat_ofNat'] at e
    rw [show x = y by omega, map_inj a b (fun z hz => ha z (by simp [hz])) (fun z hz => hb z (by simp [hz])) h.2]
  | [], _ :: _, _, _, h => by simp at h
  | _ :: _, [], _, _, h => by simp at h
theorem firsts_str (s : ByteArray) (k : Nat) (hk : k ≤ s.size) : (s.extract 0 k).toList = (firsts s k).map fun n => UInt8.ofNat n.toNat := by
  rw [ByteArray.toList_eq, Lib.extract_data]
  have hl : s.data.toList.length = s.size := by simp
  apply List.ext_getElem?
  intro i
  simp only [firsts, List.getElem?_map]
  by_cases c : i < k
  · rw [List.getElem?_range c]
    simp only [List.drop_zero, Option.map_some]
    rw [List.getElem?_take_of_lt (by omega), List.getElem?_eq_getElem (by omega), bt_list, List.getD_eq_getElem?_getD, List.getElem?_eq_getElem (by omega)]
    simp
  · rw [List.getElem?_eq_none (by simp; omega), List.getElem?_eq_none (by simp; omega)]
    rfl
/-- n of a text's first k groups, in 64 bits. -/
def nv (s : ByteArray) (k : Nat) : Int := pv s k % 18446744073709551616
theorem nv_b (s : ByteArray) (k : Nat) : 0 ≤ nv s k ∧ nv s k ≤ 18446744073709551615 := by unfold nv; omega
theorem pow9 : (128 : Int) ^ 9 = 9223372036854775808 := by decide
theorem eq_var (s : ByteArray) (k : Nat) (hk : k ≤ 9) (hs : k < s.size) (hm : ∀ j, j < k → 128 ≤ bt s j) (hc : bt s k < 128) : ((varS (nv s (k + 1))).toList == (s.extract 0 (k + 1)).toList) = uvOk s k := by
  have hn := nv_b s (k + 1)
  have hb := bt_nonneg s k
  have hp := pv_b s k
  have hpk := p128_le hk
  have h9 := pow9
  have hN : (nv s (k + 1)).toNat < 128 ^ (9 + 1) := by
    have e : (128 : Nat) ^ (9 + 1) = 1180591620717411303424 := by decide
    omega
  have hd := dec_varL 9 _ hN
  have hF := dec_firsts s (k + 1)
  have hpv : pv s (k + 1) = pv s k + bt s k % 128 * 128 ^ k := rfl
  have hstr : (varS (nv s (k + 1))).toList = (varL (nv s (k + 1)).toNat).map fun n => UInt8.ofNat n.toNat := by
    rw [ByteArray.toList_eq]; exact strOfNums_data _
  have iff1 : (varS (nv s (k + 1))).toList = (s.extract 0 (k + 1)).toList ↔ varL (nv s (k + 1)).toNat = firsts s (k + 1) := by
    rw [hstr, firsts_str s (k + 1) (by omega)]
    constructor
    · intro h
      refine map_inj _ _ (varL_bytes 9 _ hN) (fun x hx => ?_) h
      obtain ⟨i, _, rfl⟩ := List.mem_map.1 hx
      have a := bt_nonneg s i
      have b := bt_le s i
      omega
    · intro h; rw [h]
  by_cases bad1 : k = 9 ∧ 1 < bt s k
  · obtain ⟨rfl, h1⟩ := bad1
    have ho : uvOk s 9 = false := by simp [uvOk, h1]
    rw [ho]
    apply beq_eq_false_iff_ne.2
    intro h
    have e := congrArg dec (iff1.1 h)
    rw [hd, hF] at e
    have : 2 * (128 : Int) ^ 9 ≤ bt s 9 % 128 * 128 ^ 9 := Int.mul_le_mul_of_nonneg_right (by omega) (by omega)
    omega
  · have hsmall : pv s (k + 1) ≤ 18446744073709551615 := by
      by_cases e9 : k = 9
      · subst e9
        have : bt s 9 % 128 * 128 ^ 9 ≤ 1 * 128 ^ 9 := Int.mul_le_mul_of_nonneg_right (by omega) (by omega)
        omega
      · have h8 := p128_le (show k ≤ 8 by omega)
        have e8 : (128 : Int) ^ 8 = 72057594037927936 := by decide
        have : bt s k % 128 * 128 ^ k ≤ 127 * 128 ^ k := Int.mul_le_mul_of_nonneg_right (by omega) (by omega)
        omega
    have hp1 := pv_b s (k + 1)
    have hnv : nv s (k + 1) = pv s (k + 1) := by unfold nv; omega
    by_cases bad2 : 0 < k ∧ bt s k = 0
    · obtain ⟨h1, h2⟩ := bad2
      have ho : uvOk s k = false := by simp [uvOk, h1, h2]
      rw [ho]
      apply beq_eq_false_iff_ne.2
      intro h
      have e := congrArg List.length (iff1.1 h)
      rw [firsts_len] at e
      obtain ⟨j, rfl⟩ : ∃ j, k = j + 1 := ⟨k - 1, by omega⟩
      have hlen := varL_len j (nv s (j + 1 + 1)).toNat (by
        have : ((128 ^ (j + 1) : Nat) : Int) = (128 : Int) ^ (j + 1) := by simp
        rw [hnv, hpv, h2]
        omega)
      omega
    · have ho : uvOk s k = true := by
        by_cases e0 : bt s k = 0
        · have : ¬ 0 < k := fun h => bad2 ⟨h, e0⟩
          have e9 : (k == 9) = false := by simp; omega
          simp [uvOk, e9, this]
        · by_cases e9 : k = 9
          · have : ¬ 1 < bt s k := fun h => bad1 ⟨e9, h⟩
            simp [uvOk, e0, this]
          · have e9' : (k == 9) = false := by simp [e9]
            simp [uvOk, e0, e9']
      rw [ho]
      apply beq_iff_eq.2
      apply iff1.2
      rw [hnv, ← hF]
      apply varL_dec
      have g := good_firsts s k 0 (fun i hi => by rw [Nat.zero_add]; exact hm i hi) (by rw [Nat.zero_add]; exact hc) (by
        rw [Nat.zero_add]
        by_cases e : k = 0
        · exact Or.inl e
        · right
          have : bt s k ≠ 0 := fun h => bad2 ⟨by omega, h⟩
          omega)
      have e : (fun i => bt s (0 + i)) = bt s := by funext i; rw [Nat.zero_add]
      rw [e] at g
      exact g
end Go.Proofs.Ytkdaghflonppfaa
