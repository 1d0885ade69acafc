/- Texts of numbers in order, there and back; keys in the order of their numbers. -/
import Derived.Test.YtbfmadafiaofiaaKyB
namespace Go.Proofs.Ytbfmadafiaofiaa
set_option maxRecDepth 100000
open Go.ChangeShapes Go.WideShapes Go.ChangeAt Go.RowKit Go.PlainAid

/-- A text as a number, its first byte the highest. -/
def bvU : List UInt8 → Nat | [] => 0 | x :: r => x.toNat * 256 ^ r.length + bvU r
theorem bvU_lt : ∀ l : List UInt8, bvU l < 256 ^ l.length
  | [] => by simp [bvU]
  | x :: r => by
    have h := bvU_lt r
    have hx := x.toNat_lt
    simp only [bvU, List.length_cons, Nat.pow_succ]
    have : x.toNat * 256 ^ r.length ≤ 255 * 256 ^ r.length := Nat.mul_le_mul_right _ (by omega)
    omega
theorem step_lt (a b M p q : Nat) (hp : p < M) (h : a < b) : a * M + p < b * M + q := by
  have : (a + 1) * M ≤ b * M := Nat.mul_le_mul_right _ h
  rw [Nat.add_mul] at this
  omega
theorem less_bvU : ∀ xs ys : List UInt8, xs.length = ys.length → Op.bytesLess xs ys = decide (bvU xs < bvU ys)
  | [], [], _ => rfl
  | x :: xs, y :: ys, h => by
    have hl : xs.length = ys.length := by simpa using h
    have ih := less_bvU xs ys hl
    have b1 := bvU_lt xs
    have b2 := bvU_lt ys
    rw [Op.bytesLess, ih]
    simp only [bvU, hl] at b1 ⊢
    rcases Nat.lt_trichotomy x.toNat y.toNat with c | c | c
    · have e : decide (x < y) = true := by simpa [UInt8.lt_iff_toNat_lt] using c
      rw [e, Bool.true_or]
      exact (decide_eq_true (step_lt _ _ _ _ _ b1 c)).symm
    · have e : x = y := UInt8.toNat_inj.1 c
      subst e
      have e1 : decide (x < x) = false := by simp
      rw [e1, Bool.false_or, beq_self_eq_true, Bool.true_and]
      congr 1
      exact propext ⟨fun h => by omega, fun h => by omega⟩
    · have e1 : decide (x < y) = false := by simp [UInt8.lt_iff_toNat_lt]; omega
      have e2 : (x == y) = false := by
        apply beq_eq_false_iff_ne.2
        intro e
        subst e
        omega
      rw [e1, e2]
      have := step_lt _ _ _ (bvU ys) (bvU xs) b2 c
      exact (decide_eq_false (by omega)).symm
theorem toN (x : Int) (h0 : 0 ≤ x) (h1 : x < 256) : (UInt8.ofNat x.toNat).toNat = x.toNat := by rw [UInt8.toNat_ofNat']; omega
theorem val8 (x0 x1 x2 x3 x4 x5 x6 x7 : Int) (h0 : 0 ≤ x0 ∧ x0 < 256) (h1 : 0 ≤ x1 ∧ x1 < 256) (h2 : 0 ≤ x2 ∧ x2 < 256) (h3 : 0 ≤ x3 ∧ x3 < 256) (h4 : 0 ≤ x4 ∧ x4 < 256) (h5 : 0 ≤ x5 ∧ x5 < 256) (h6 : 0 ≤ x6 ∧ x6 < 256) (h7 : 0 ≤ x7 ∧ x7 < 256) :
    (bvU ([x0, x1, x2, x3, x4, x5, x6, x7].map fun n => UInt8.ofNat n.toNat) : Int) = x0 * 72057594037927936 + x1 * 281474976710656 + x2 * 1099511627776 + x3 * 4294967296 + x4 * 16777216 + x5 * 65536 + x6 * 256 + x7 := by
  simp only [List.map_cons, List.map_nil, bvU, List.length_cons, List.length_nil, toN x0 h0.1 h0.2, toN x1 h1.1 h1.2, toN x2 h2.1 h2.2, toN x3 h3.1 h3.2, toN x4 h4.1 h4.2, toN x5 h5.1 h5.2, toN x6 h6.1 h6.2, toN x7 h7.1 h7.2, Nat.reduceAdd, Nat.reducePow]
  omega
theorem ord_list (n : Int) : (ordS n).toList = (h8 (n + 9223372036854775808)).map fun n => UInt8.ofNat n.toNat := by
  rw [ByteArray.toList_eq]; exact strOfNums_data _
theorem ord_len (n : Int) : (ordS n).toList.length = 8 := by rw [ord_list, List.length_map, h8_length]
theorem ord_val (n : Int) (h0 : -9223372036854775808 ≤ n) (h1 : n ≤ 9223372036854775807) : (bvU (ordS n).toList : Int) = n + 9223372036854775808 := by
  rw [ord_list]
  obtain ⟨u, hu⟩ : ∃ u, u = n + 9223372036854775808 := ⟨_, rfl⟩
  rw [← hu]
  unfold h8
  rw [val8 _ _ _ _ _ _ _ _ (by omega) (by omega) (by omega) (by omega) (by omega) (by omega) (by omega) (by omega)]
  omega
theorem ord_less (a b : Int) (h0 : -9223372036854775808 ≤ a) (h1 : a ≤ 9223372036854775807) (h2 : -9223372036854775808 ≤ b) (h3 : b ≤ 9223372036854775807) : Op.bytesLess (ordS a).toList (ordS b).toList = decide (a < b) := by
  have e1 := ord_val a h0 h1
  have e2 := ord_val b h2 h3
  have l1 := ord_len a
  have l2 := ord_len b
  rw [less_bvU _ _ (by rw [l1, l2])]
  congr 1
  exact propext ⟨fun h => by omega, fun h => by omega⟩
theorem ord_eq (a b : Int) (h0 : -9223372036854775808 ≤ a) (h1 : a ≤ 9223372036854775807) (h2 : -9223372036854775808 ≤ b) (h3 : b ≤ 9223372036854775807) : ((ordS a).toList == (ordS b).toList) = (a == b) := by
  by_cases c : a = b
  · subst c
    simp
  · have e1 := ord_val a h0 h1
    have e2 := ord_val b h2 h3
    rw [beq_eq_false_iff_ne.2 c]
    apply beq_eq_false_iff_ne.2
    intro h
    rw [h] at e1
    omega
theorem back_ord (m : Int) (h0 : -9223372036854775808 ≤ m) (h1 : m ≤ 9223372036854775807) : unordV (ordS m) = m ∧ (ordS m).size = 8 := by
  obtain ⟨u, hu⟩ : ∃ u, u = m + 9223372036854775808 := ⟨_, rfl⟩
  have e : ordS m = strOfNums (h8 u) := by rw [hu]; rfl
  refine ⟨?_, by rw [e, strOfNums_size, h8_length]⟩
  unfold unordV unordZ
  have b : ∀ k, k < 8 → bt (ordS m) k = (h8 u).getD k 0 := fun k hk => by
    rw [e]
    have hx : ∀ x ∈ h8 u, 0 ≤ x ∧ x ≤ 255 := by
      intro x hx
      simp only [h8, List.mem_cons, List.not_mem_nil, or_false] at hx
      omega
    have hl : k < (h8 u).length := by rw [h8_length]; exact hk
    have hm := hx (h8 u)[k] (List.getElem_mem hl)
    have eg : (h8 u).getD k 0 = (h8 u)[k] := by rw [List.getD_eq_getElem?_getD, List.getElem?_eq_getElem hl]; rfl
    exact bt_strOfNums _ k (by rw [eg]; exact hm.1) (by rw [eg]; exact hm.2)
  rw [b 0 (by omega), b 1 (by omega), b 2 (by omega), b 3 (by omega), b 4 (by omega), b 5 (by omega), b 6 (by omega), b 7 (by omega)]
  simp only [h8, n8, List.getD_cons_zero, List.getD_cons_succ]
  omega
theorem txt_ext {a b : ByteArray} (hs : a.size = b.size) (h : ∀ k, k < a.size → bt a k = bt b k) : a = b := by
  apply ByteArray.ext
  apply Array.ext (by simpa using hs)
  intro i h1 h2
  have := h i (by simpa using h1)
  rw [bt_list, bt_list] at this
  simp only [List.getD_eq_getElem?_getD] at this
  rw [List.getElem?_eq_getElem (by simpa using h1), List.getElem?_eq_getElem (by simpa using h2)] at this
  simp only [Option.getD_some, Array.getElem_toList] at this
  exact UInt8.toNat_inj.1 (by omega)
theorem unord_ord (s : ByteArray) (h8 : s.size = 8) : ordS (unordV s) = s := by
  have hx := unordZ_bounds s
  have hb := fun k => bt_b s k
  have e : Go.Proofs.Ytbfmadafiaofiaa.h8 (unordV s + 9223372036854775808) = [bt s 0, bt s 1, bt s 2, bt s 3, bt s 4, bt s 5, bt s 6, bt s 7] := by
    rw [show unordV s + 9223372036854775808 = unordZ s by unfold unordV; omega]
    have h0 := hb 0
    have h1 := hb 1
    have h2 := hb 2
    have h3 := hb 3
    have h4 := hb 4
    have h5 := hb 5
    have h6 := hb 6
    have h7 := hb 7
    unfold Go.Proofs.Ytbfmadafiaofiaa.h8 unordZ n8
    simp only [List.cons.injEq, and_true]
    refine ⟨?_, ?_, ?_, ?_, ?_, ?_, ?_, ?_⟩ <;> omega
  unfold ordS
  rw [e]
  refine txt_ext (by rw [strOfNums_size, h8]; rfl) fun k hk => ?_
  rw [strOfNums_size] at hk
  have hk8 : k < 8 := hk
  have hg : [bt s 0, bt s 1, bt s 2, bt s 3, bt s 4, bt s 5, bt s 6, bt s 7].getD k 0 = bt s k := by
    match k, hk8 with
    | 0, _ => rfl
    | 1, _ => rfl
    | 2, _ => rfl
    | 3, _ => rfl
    | 4, _ => rfl
    | 5, _ => rfl
    | 6, _ => rfl
    | 7, _ => rfl
  rw [bt_strOfNums _ k (by rw [hg]; exact (hb k).1) (by rw [hg]; exact (hb k).2), hg]
theorem unordV_bounds (s : ByteArray) : -9223372036854775808 ≤ unordV s ∧ unordV s ≤ 9223372036854775807 := by
  have := unordZ_bounds s
  unfold unordV
  omega
/-- Of numbers that may be. -/
def InI (l : List Int) : Prop := ∀ x ∈ l, -9223372036854775808 ≤ x ∧ x ≤ 9223372036854775807
theorem IntsOf.inI {w : World} {v : Value} {l : List Int} (h : IntsOf w v l) : InI l := by
  rcases h with ⟨rfl, _⟩ | ⟨b, o, cap, rfl, hlt, h0, hm, hr⟩
  · intro x hx
    cases hx
  · intro x hx
    obtain ⟨i, hi⟩ := List.getElem?_of_mem hx
    exact (hr i x hi).1
theorem bytesLess_same : ∀ (p q r t : List UInt8), p.length = q.length → Op.bytesLess (p ++ r) (q ++ t) = if p = q then Op.bytesLess r t else Op.bytesLess p q
  | [], [], r, t, _ => by simp
  | x :: p, y :: q, r, t, h => by
    have ih := bytesLess_same p q r t (by simpa using h)
    rw [List.cons_append, List.cons_append, Op.bytesLess, ih]
    by_cases hx : x = y
    · subst hx
      by_cases hp : p = q
      · subst hp
        simp
      · rw [if_neg hp, if_neg (by simpa using hp), Op.bytesLess]
    · have hne : ¬ (x :: p = y :: q) := fun e => hx (List.cons.inj e).1
      have hb : (x == y) = false := beq_eq_false_iff_ne.2 hx
      rw [if_neg hne, Op.bytesLess, hb]
      rfl
theorem empty_list : (⟨#[]⟩ : ByteArray).toList = [] := by rw [ByteArray.toList_eq]
theorem key_less : ∀ a b : List Int, InI a → InI b → Op.bytesLess (keyS a).toList (keyS b).toList = befB a b
  | [], [], _, _ => by rw [keyS_nil, empty_list]; rfl
  | [], y :: b, _, _ => by
    rw [keyS_nil, keyS_cons, empty_list]
    have h : (ordS y ++ keyS b).toList ≠ [] := by
      intro e
      have := congrArg List.length e
      rw [ByteArray.toList_eq, ByteArray.data_append, Array.toList_append, List.length_append] at this
      have e2 : (ordS y).data.toList.length = 8 := by have := ord_len y; rwa [ByteArray.toList_eq] at this
      rw [e2] at this
      simp at this
    obtain ⟨z, r, hz⟩ := List.exists_cons_of_ne_nil h
    rw [hz]
    rfl
  | x :: a, [], _, _ => by
    rw [keyS_nil, empty_list]
    cases h : (keyS (x :: a)).toList <;> rfl
  | x :: a, y :: b, ha, hb => by
    have hx := ha x (by simp)
    have hy := hb y (by simp)
    rw [keyS_cons, keyS_cons]
    have e1 : (ordS x ++ keyS a).toList = (ordS x).toList ++ (keyS a).toList := by simp only [ByteArray.toList_eq, ByteArray.data_append, Array.toList_append]
    have e2 : (ordS y ++ keyS b).toList = (ordS y).toList ++ (keyS b).toList := by simp only [ByteArray.toList_eq, ByteArray.data_append, Array.toList_append]
    rw [e1, e2, bytesLess_same _ _ _ _ (by rw [ord_len, ord_len]), key_less a b (fun u h => ha u (by simp [h])) (fun u h => hb u (by simp [h])), befB]
    have he := ord_eq x y hx.1 hx.2 hy.1 hy.2
    by_cases c : x = y
    · subst c
      rw [if_pos rfl, if_pos rfl]
    · rw [if_neg c, if_neg (fun e => by rw [e, beq_self_eq_true, eq_comm, beq_iff_eq] at he; exact c he), ord_less x y hx.1 hx.2 hy.1 hy.2]
theorem bytesLess_irr : ∀ l : List UInt8, Op.bytesLess l l = false
  | [] => rfl
  | x :: l => by rw [Op.bytesLess, bytesLess_irr l]; simp
theorem key_inj (a b : List Int) (ha : InI a) (hb : InI b) (h : keyS a = keyS b) : a = b := by
  have h1 := key_less a b ha hb
  have h2 := key_less b a hb ha
  rw [h, bytesLess_irr] at h1
  rw [h, bytesLess_irr] at h2
  have := sameB_eq a b
  rw [sameB, ← h1, ← h2] at this
  simpa using this.symm
theorem key_eq (a b : List Int) (ha : InI a) (hb : InI b) : ((keyS a).toList == (keyS b).toList) = (a == b) := by
  by_cases c : a = b
  · subst c
    simp
  · rw [beq_eq_false_iff_ne.2 c]
    apply beq_eq_false_iff_ne.2
    intro h
    rw [ByteArray.toList_eq, ByteArray.toList_eq] at h
    exact c (key_inj a b ha hb (ByteArray.ext (Array.ext' h)))
/-- What Split answers: how many numbers, and each. -/
def splitOk (s : ByteArray) : Bool := decide (s.size ≤ 32) && decide (s.size % 8 = 0)
def numAt (s : ByteArray) (k : Nat) : Int := unordV (s.extract (8 * k) (8 * k + 8))
def splitL (s : ByteArray) : List Int := if splitOk s = true then (List.range (s.size / 8)).map (numAt s) else []
theorem splitL_no {s : ByteArray} (h : splitOk s = false) : splitL s = [] := by unfold splitL; rw [h]; rfl
theorem splitL_ok {s : ByteArray} (h : splitOk s = true) : splitL s = (List.range (s.size / 8)).map (numAt s) := by unfold splitL; rw [h]; rfl
theorem splitL_len (s : ByteArray) : (splitL s).length ≤ 4 := by
  cases h : splitOk s
  · rw [splitL_no h]; simp
  · rw [splitL_ok h, List.length_map, List.length_range]
    have : s.size ≤ 32 := by simp [splitOk] at h; exact h.1
    omega
theorem splitL_in (s : ByteArray) : InI (splitL s) := by
  intro x hx
  unfold splitL at hx
  split at hx
  · obtain ⟨k, _, rfl⟩ := List.mem_map.1 hx
    exact unordV_bounds _
  · cases hx
theorem key_rows (s : ByteArray) (h8 : s.size % 8 = 0) : ∀ k, 8 * k ≤ s.size → keyS ((List.range k).map (numAt s)) = s.extract 0 (8 * k)
  | 0, _ => by
    apply ByteArray.ext
    simp [keyS, keyL, strOfNums]
  | k + 1, h => by
    rw [List.range_succ, List.map_append, List.map_singleton, keyS_snoc, key_rows s h8 k (by omega), numAt, unord_ord _ (by rw [ByteArray.size_extract]; omega)]
    apply ByteArray.ext
    simp only [ByteArray.data_append, ByteArray.data_extract]
    rw [Array.extract_append_extract]
    congr 1
    omega
theorem key_split (s : ByteArray) (h : splitOk s = true) : keyS (splitL s) = s := by
  have h2 : s.size ≤ 32 ∧ s.size % 8 = 0 := by simpa [splitOk] using h
  rw [splitL_ok h, key_rows s h2.2 _ (by omega), show 8 * (s.size / 8) = s.size by omega]
  apply ByteArray.ext
  simp
theorem split_key (l : List Int) (hl : l.length ≤ 4) (hi : InI l) : splitOk (keyS l) = true ∧ splitL (keyS l) = l := by
  have h1 : splitOk (keyS l) = true := by
    unfold splitOk
    rw [keyS_size]
    simp
    omega
  exact ⟨h1, key_inj _ _ (splitL_in _) hi (key_split _ h1)⟩
end Go.Proofs.Ytbfmadafiaofiaa
