/- Plain facts of numbers in groups of seven bits: what is written is read, whatever stands behind it, and what is read is how it is written; numbers folded, and unfolded. -/
import Derived.Test.YtkdaghflonppfaaBitsI
import Derived.Test.YtkdaghflonppfaaBitsA
namespace Go.Proofs.Ytkdaghflonppfaa
set_option maxRecDepth 100000
open Go.ChangeShapes Go.WideShapes Go.ChangeAt Go.RowKit Go.PlainAid

theorem varL_shape : ∀ (k n : Nat), n < 128 ^ (k + 1) → (∀ i, i + 1 < (varL n).length → 128 ≤ (varL n).getD i 0) ∧ (varL n).getD ((varL n).length - 1) 0 < 128
  | 0, n, h => by
    rw [varL_lt (by omega)]
    refine ⟨fun i hi => ?_, ?_⟩
    · simp at hi
    · show (n : Int) < 128
      omega
  | k + 1, n, h => by
    by_cases c : n < 128
    · rw [varL_lt c]
      refine ⟨fun i hi => ?_, ?_⟩
      · simp at hi
      · show (n : Int) < 128
        omega
    · have ih := varL_shape k (n / 128) (by rw [Nat.pow_succ] at h; omega)
      have hp := varL_pos (n / 128)
      rw [varL_ge (by omega)]
      generalize varL (n / 128) = L at *
      refine ⟨fun i hi => ?_, ?_⟩
      · cases i with
        | zero => simp; omega
        | succ i =>
          have := ih.1 i (by simpa using hi)
          simpa using this
      · cases L with
        | nil => simp at hp
        | cons y r => simpa using ih.2
theorem bt_front (xs : List Int) (t : ByteArray) (i : Nat) (hi : i < xs.length) (hx : ∀ x ∈ xs, 0 ≤ x ∧ x < 256) : bt (strOfNums xs ++ t) i = xs.getD i 0 := by
  have hm := hx xs[i] (List.getElem_mem hi)
  rw [bt_list]
  have e : (strOfNums xs ++ t).data.toList = (xs.map fun n => UInt8.ofNat n.toNat) ++ t.data.toList := by
    rw [ByteArray.data_append, Array.toList_append, strOfNums_data]
  rw [e]
  simp only [List.getD_eq_getElem?_getD]
  rw [List.getElem?_append_left (by simpa using hi), List.getElem?_map, List.getElem?_eq_getElem hi]
  simp only [Option.map_some, Option.getD_some]
  rw [UInt8.toNat_ofNat']
  omega
theorem uv_reach (s : ByteArray) (k : Nat) (hk : k < s.size) (hc : bt s k < 128) (ho : uvOk s k = true) : ∀ (f j : Nat), (∀ i, j ≤ i → i < k → 128 ≤ bt s i) → j ≤ k → k < j + f → uv s f j = (pv s (k + 1), ((k + 1 : Nat) : Int))
  | 0, j, _, _, h => by omega
  | f + 1, j, hm, hj, hf => by
    by_cases e : j = k
    · subst e
      exact uv_ok s f j hk hc ho
    · rw [uv_go s f j (by omega) (by have := hm j (Nat.le_refl _) (by omega); omega)]
      exact uv_reach s k hk hc ho f (j + 1) (fun i h1 h2 => hm i (by omega) h2) (by omega) (by omega)
theorem back_var (n : Int) (t : ByteArray) (h0 : 0 ≤ n) (h1 : n ≤ 18446744073709551615) : unvarP (varS n ++ t) = (n, ((varS n).size : Int)) := by
  have hN : n.toNat < 128 ^ (9 + 1) := by
    have e : (128 : Nat) ^ (9 + 1) = 1180591620717411303424 := by decide
    omega
  have hsh := varL_shape 9 _ hN
  have hby := varL_bytes 9 _ hN
  have hd := dec_varL 9 _ hN
  have hten := varL_ten n.toNat (by omega)
  have hpos := varL_pos n.toNat
  have hsz : (varS n).size = (varL n.toNat).length := by unfold varS; rw [strOfNums_size]
  have hbt : ∀ i, i < (varL n.toNat).length → bt (varS n ++ t) i = (varL n.toNat).getD i 0 := fun i hi => bt_front _ t i hi hby
  have hsize : (varS n ++ t).size = (varS n).size + t.size := ByteArray.size_append
  have hfirst : firsts (varS n ++ t) (varL n.toNat).length = varL n.toNat := by
    apply List.ext_getElem?
    intro i
    by_cases c : i < (varL n.toNat).length
    · simp only [firsts, List.getElem?_map]
      rw [List.getElem?_range c]
      simp only [Option.map_some]
      rw [hbt i c, List.getD_eq_getElem?_getD, List.getElem?_eq_getElem c]
      rfl
    · rw [List.getElem?_eq_none (by rw [firsts_len]; omega), List.getElem?_eq_none (by omega)]
  obtain ⟨k, hk⟩ : ∃ k, (varL n.toNat).length = k + 1 := ⟨(varL n.toNat).length - 1, by omega⟩
  rw [hk] at hsh hbt hfirst hten
  have hpv : pv (varS n ++ t) (k + 1) = n := by
    rw [← dec_firsts, hfirst, hd]; omega
  have hnv : nv (varS n ++ t) (k + 1) = n := by unfold nv; rw [hpv]; omega
  have hm : ∀ j, j < k → 128 ≤ bt (varS n ++ t) j := fun j hj => by rw [hbt j (by omega)]; exact hsh.1 j (by omega)
  have hc : bt (varS n ++ t) k < 128 := by rw [hbt k (by omega)]; exact hsh.2
  have hks : k < (varS n ++ t).size := by omega
  have ho : uvOk (varS n ++ t) k = true := by
    rw [← eq_var _ k (by omega) hks hm hc, hnv]
    apply beq_iff_eq.2
    rw [firsts_str _ (k + 1) (by omega), hfirst, ByteArray.toList_eq]
    exact strOfNums_data _
  unfold unvarP
  rw [uv_reach _ k hks hc ho 10 0 (fun i _ h => hm i h) (by omega) (by omega), hpv, hsz, hk]
theorem foldZ_b (n : Int) (h1 : -9223372036854775808 ≤ n) (h2 : n ≤ 9223372036854775807) : 0 ≤ foldZ n ∧ foldZ n ≤ 18446744073709551615 := by unfold foldZ; split <;> omega
theorem unfoldZ_b (u : Int) (h1 : 0 ≤ u) (h2 : u ≤ 18446744073709551615) : -9223372036854775808 ≤ unfoldZ u ∧ unfoldZ u ≤ 9223372036854775807 := by unfold unfoldZ; split <;> omega
theorem unfold_fold (n : Int) : unfoldZ (foldZ n) = n := by unfold unfoldZ foldZ; split <;> split <;> omega
theorem fold_unfold (u : Int) (h : 0 ≤ u) : foldZ (unfoldZ u) = u := by unfold unfoldZ foldZ; split <;> split <;> omega
/-- What is read at a text's beginning is how it is written. -/
theorem uv_forth (s : ByteArray) : ∀ (f j : Nat), j + f = 10 → (∀ i, i < j → 128 ≤ bt s i) → ∀ {n k : Int}, uv s f j = (n, k) → k ≠ 0 →
    ∃ m : Nat, k = ((m + 1 : Nat) : Int) ∧ m ≤ 9 ∧ m < s.size ∧ n = nv s (m + 1) ∧ (varS (nv s (m + 1))).toList = (s.extract 0 (m + 1)).toList
  | 0, j, _, _, n, k, h, hk => by
    simp only [uv, Prod.mk.injEq] at h
    exact absurd h.2.symm hk
  | f + 1, j, hj, hm, n, k, h, hk => by
    by_cases hs : j < s.size
    · by_cases hc : bt s j < 128
      · cases ho : uvOk s j with
        | true =>
          rw [uv_ok s f j hs hc ho, Prod.mk.injEq] at h
          have e := eq_var s j (by omega) hs hm hc
          rw [ho] at e
          have hp := pv_b s j
          have hpk := p128_le (show j ≤ 9 by omega)
          have h9 := pow9
          have hb := bt_nonneg s j
          have hpv : pv s (j + 1) = pv s j + bt s j % 128 * 128 ^ j := rfl
          refine ⟨j, h.2.symm, by omega, hs, ?_, beq_iff_eq.1 e⟩
          rw [← h.1]
          unfold nv
          by_cases e9 : j = 9
          · subst e9
            have h1 : bt s 9 ≤ 1 := by
              by_cases h : 1 < bt s 9
              · simp [uvOk, h] at ho
              · omega
            have : bt s 9 % 128 * 128 ^ 9 ≤ 1 * 128 ^ 9 := Int.mul_le_mul_of_nonneg_right (by omega) (by omega)
            have hp1 := pv_b s (9 + 1)
            omega
          · have h8 := p128_le (show j ≤ 8 by omega)
            have e8 : (128 : Int) ^ 8 = 72057594037927936 := by decide
            have : bt s j % 128 * 128 ^ j ≤ 127 * 128 ^ j := Int.mul_le_mul_of_nonneg_right (by omega) (by omega)
            have hp1 := pv_b s (j + 1)
            omega
        | false =>
          rw [uv_bad s f j hs hc ho, Prod.mk.injEq] at h
          exact absurd h.2.symm hk
      · rw [uv_go s f j hs hc] at h
        exact uv_forth s f (j + 1) (by omega) (fun i hi => by
          by_cases e : i = j
          · subst e; omega
          · exact hm i (by omega)) h hk
    · rw [uv_end s (f + 1) j hs, Prod.mk.injEq] at h
      exact absurd h.2.symm hk
theorem text_of_list {a b : ByteArray} (h : a.toList = b.toList) : a = b := by
  rw [ByteArray.toList_eq, ByteArray.toList_eq] at h
  exact ByteArray.ext (Array.toList_inj.1 h)
/-- A text that begins with a number: the number's text, and what stands behind it. -/
theorem unvar_forth {s : ByteArray} {n k : Int} (h : unvarP s = (n, k)) (hk : k ≠ 0) :
    (0 ≤ n ∧ n ≤ 18446744073709551615) ∧ (0 < k ∧ k ≤ 10 ∧ k ≤ s.size) ∧ (varS n).size = k.toNat ∧ varS n ++ s.extract k.toNat s.size = s := by
  obtain ⟨m, rfl, hm, hs, rfl, he⟩ := uv_forth s 10 0 rfl (fun i hi => absurd hi (Nat.not_lt_zero _)) h hk
  have e := text_of_list he
  refine ⟨nv_b s (m + 1), ⟨by omega, by omega, by omega⟩, ?_, ?_⟩
  · rw [e, ByteArray.size_extract]; omega
  · rw [e, show ((m + 1 : Nat) : Int).toNat = m + 1 from rfl]
    apply ByteArray.ext
    rw [ByteArray.data_append, ByteArray.data_extract, ByteArray.data_extract]
    have : s.size = s.data.size := rfl
    rw [this, Array.extract_append_extract]
    simp
    exact .inr (Nat.le_max_right _ _)
theorem unvar_none {s : ByteArray} (h : s.size = 0) : unvarP s = (0, 0) := uv_end s 10 0 (by omega)
end Go.Proofs.Ytkdaghflonppfaa
