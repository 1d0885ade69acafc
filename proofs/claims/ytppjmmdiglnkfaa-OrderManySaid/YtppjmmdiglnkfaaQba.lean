/- Rows that are put in order, plain: what a stable sort by insertion and by merging in place does with a list. -/
import Derived.PlainAid
namespace Go.Proofs.Ytppjmmdiglnkfaa
namespace Cu
section
variable {α : Type}
/-- An order. -/
structure Ord3 (lt : α → α → Bool) : Prop where
  tr : ∀ x y z, lt x y = false → lt y z = false → lt x z = false
  as : ∀ x y, lt x y = true → lt y x = false
def swp (L : List α) (i j : Nat) : List α := if h : i < L.length ∧ j < L.length then (L.set i L[j]).set j L[i] else L
theorem swp_perm (L : List α) (i j : Nat) : (swp L i j).Perm L := by
  unfold swp
  split
  · rename_i h
    have hp := Array.swap_perm (xs := L.toArray) (i := i) (j := j) (by simpa using h.1) (by simpa using h.2)
    have := hp.toList
    simpa [Array.swap] using this
  · exact List.Perm.refl _
theorem swp_len (L : List α) (i j : Nat) : (swp L i j).length = L.length := (swp_perm L i j).length_eq
theorem swp_is {L : List α} {i j : Nat} {x y : α} (hx : L[i]? = some x) (hy : L[j]? = some y) : (L.set i y).set j x = swp L i j := by
  obtain ⟨h1, rfl⟩ := List.getElem?_eq_some_iff.1 hx
  obtain ⟨h2, rfl⟩ := List.getElem?_eq_some_iff.1 hy
  unfold swp
  rw [dif_pos ⟨h1, h2⟩]
theorem swp_get {L : List α} {i j : Nat} (hi : i < L.length) (hj : j < L.length) (k : Nat) : (swp L i j)[k]? = if k = j then L[i]? else if k = i then L[j]? else L[k]? := by
  unfold swp
  rw [dif_pos ⟨hi, hj⟩]
  by_cases h1 : k = j
  · subst h1
    rw [if_pos rfl, List.getElem?_set_self (by simpa using hj), List.getElem?_eq_getElem hi]
  · rw [if_neg h1, List.getElem?_set_ne (by omega)]
    by_cases h2 : k = i
    · subst h2
      rw [if_pos rfl, List.getElem?_set_self hi, List.getElem?_eq_getElem hj]
    · rw [if_neg h2, List.getElem?_set_ne (by omega)]
/-- Changed between a and b only, by what stood there. -/
structure Mv (L L' : List α) (a b : Nat) : Prop where
  perm : L'.Perm L
  out : ∀ k, k < a ∨ b ≤ k → L'[k]? = L[k]?
  orig : ∀ k, a ≤ k → k < b → ∃ j, a ≤ j ∧ j < b ∧ L'[k]? = L[j]?
theorem Mv.refl (L : List α) (a b : Nat) : Mv L L a b := ⟨List.Perm.refl _, fun _ _ => rfl, fun k h1 h2 => ⟨k, h1, h2, rfl⟩⟩
theorem Mv.len {L L' : List α} {a b : Nat} (h : Mv L L' a b) : L'.length = L.length := h.perm.length_eq
theorem Mv.trans {L L' L2 : List α} {a b : Nat} (h : Mv L L' a b) (k : Mv L' L2 a b) : Mv L L2 a b :=
  ⟨k.perm.trans h.perm, fun i hi => (k.out i hi).trans (h.out i hi), fun i h1 h2 => by
    obtain ⟨j, h3, h4, e⟩ := k.orig i h1 h2
    obtain ⟨t, h5, h6, e2⟩ := h.orig j h3 h4
    exact ⟨t, h5, h6, e.trans e2⟩⟩
theorem Mv.wide {L L' : List α} {a b a' b' : Nat} (h : Mv L L' a b) (ha : a' ≤ a) (hb : b ≤ b') : Mv L L' a' b' :=
  ⟨h.perm, fun k hk => h.out k (by omega), fun k h1 h2 => by
    by_cases c : a ≤ k ∧ k < b
    · obtain ⟨j, h3, h4, e⟩ := h.orig k c.1 c.2
      exact ⟨j, by omega, by omega, e⟩
    · exact ⟨k, h1, h2, h.out k (by omega)⟩⟩
theorem Mv.swp {L : List α} {a b i j : Nat} (h1 : a ≤ i) (h2 : i < b) (h3 : a ≤ j) (h4 : j < b) (hb : b ≤ L.length) : Mv L (swp L i j) a b := by
  refine ⟨swp_perm _ _ _, fun k hk => ?_, fun k hk hk2 => ?_⟩
  · rw [swp_get (by omega) (by omega), if_neg (by omega), if_neg (by omega)]
  · rw [swp_get (by omega) (by omega)]
    by_cases c : k = j
    · exact ⟨i, h1, h2, by rw [if_pos c]⟩
    · by_cases d : k = i
      · exact ⟨j, h3, h4, by rw [if_neg c, if_pos d]⟩
      · exact ⟨k, hk, hk2, by rw [if_neg c, if_neg d]⟩
/-- In order between a and b. -/
def Sr (lt : α → α → Bool) (L : List α) (a b : Nat) : Prop := ∀ (i j : Nat) (x y : α), a ≤ i → i < j → j < b → L[i]? = some x → L[j]? = some y → lt y x = false
theorem Sr.out {lt : α → α → Bool} {L L' : List α} {a b : Nat} (h : Sr lt L a b) (hs : ∀ k, a ≤ k → k < b → L'[k]? = L[k]?) : Sr lt L' a b := fun i j x y h1 h2 h3 hx hy =>
  h i j x y h1 h2 h3 ((hs i h1 (by omega)).symm.trans hx) ((hs j (by omega) h3).symm.trans hy)
theorem Sr.less {lt : α → α → Bool} {L : List α} {a b a' b' : Nat} (h : Sr lt L a b) (h1 : a ≤ a') (h2 : b' ≤ b) : Sr lt L a' b' := fun i j x y p1 p2 p3 => h i j x y (by omega) p2 (by omega)
theorem Sr.one {lt : α → α → Bool} (L : List α) (a b : Nat) (h : b ≤ a + 1) : Sr lt L a b := fun i j _ _ p1 p2 p3 => by omega
/-- Insertion, with the one that is on its way at j. -/
structure Ins (lt : α → α → Bool) (L0 L : List α) (a i j : Nat) : Prop where
  mv : Mv L0 L a (i + 1)
  rest : ∀ (p q : Nat) (x y : α), a ≤ p → p < q → q ≤ i → p ≠ j → q ≠ j → L[p]? = some x → L[q]? = some y → lt y x = false
  past : ∀ (q : Nat) (x y : α), j < q → q ≤ i → L[j]? = some x → L[q]? = some y → lt y x = false
theorem Ins.start {lt : α → α → Bool} {L : List α} {a i : Nat} (h : Sr lt L a i) : Ins lt L L a i i :=
  ⟨Mv.refl _ _ _, fun p q x y h1 h2 h3 _ h5 => h p q x y h1 h2 (by omega), fun q x y h1 h2 => by omega⟩
theorem Ins.step {lt : α → α → Bool} {L0 L : List α} {a i j : Nat} (ho : Ord3 lt) (h : Ins lt L0 L a i j) (hj : a < j) (hji : j ≤ i) (hi : i < L.length) {x y : α} (hx : L[j]? = some x) (hy : L[j - 1]? = some y) (hl : lt x y = true) : Ins lt L0 (swp L j (j - 1)) a i (j - 1) := by
  have hg : ∀ k, (swp L j (j - 1))[k]? = if k = j - 1 then L[j]? else if k = j then L[j - 1]? else L[k]? := swp_get (by omega) (by omega)
  refine ⟨h.mv.trans (Mv.swp (by omega) (by omega) (by omega) (by omega) (by omega)), fun p q u v h1 h2 h3 h4 h5 hu hv => ?_, fun q u v h1 h2 hu hv => ?_⟩
  · rw [hg, if_neg h4] at hu
    rw [hg, if_neg h5] at hv
    by_cases c : p = j
    · rw [if_pos c] at hu
      rw [if_neg (by omega)] at hv
      exact h.rest (j - 1) q u v (by omega) (by omega) h3 (by omega) (by omega) hu hv
    · rw [if_neg c] at hu
      by_cases d : q = j
      · rw [if_pos d] at hv
        exact h.rest p (j - 1) u v h1 (by omega) (by omega) c (by omega) hu hv
      · rw [if_neg d] at hv
        exact h.rest p q u v h1 h2 h3 c d hu hv
  · rw [hg, if_pos rfl] at hu
    rw [hg, if_neg (by omega)] at hv
    by_cases d : q = j
    · rw [if_pos d] at hv
      rw [hx] at hu
      rw [hy] at hv
      cases hu
      cases hv
      exact ho.as _ _ hl
    · rw [if_neg d] at hv
      exact h.past q u v (by omega) h2 hu hv
theorem Ins.done {lt : α → α → Bool} {L0 L : List α} {a i j : Nat} (ho : Ord3 lt) (h : Ins lt L0 L a i j) (hj : a ≤ j) (hji : j ≤ i) (hc : j = a ∨ ∃ x y, L[j]? = some x ∧ L[j - 1]? = some y ∧ lt x y = false) : Mv L0 L a (i + 1) ∧ Sr lt L a (i + 1) := by
  refine ⟨h.mv, fun p q u v h1 h2 h3 hu hv => ?_⟩
  by_cases c : p = j
  · subst c
    exact h.past q u v h2 (by omega) hu hv
  · by_cases d : q = j
    · subst d
      rcases hc with hc | ⟨x, y, hx, hy, hl⟩
      · omega
      · rw [hx] at hv
        cases hv
        by_cases e : p = q - 1
        · subst e
          rw [hy] at hu
          cases hu
          exact hl
        · exact ho.tr _ _ _ hl (h.rest p (q - 1) u y h1 (by omega) (by omega) c (by omega) hu hy)
    · exact h.rest p q u v h1 h2 (by omega) c d hu hv
/-- Two rows of n, from a and from b, have changed places. -/
def Sw (X Y : List α) (a b n : Nat) : Prop := Y.length = X.length ∧ ∀ k, Y[k]? = if a ≤ k ∧ k < a + n then X[k - a + b]? else if b ≤ k ∧ k < b + n then X[k - b + a]? else X[k]?
theorem Sw.nil (X : List α) (a b : Nat) : Sw X X a b 0 := ⟨rfl, fun k => by rw [if_neg (by omega), if_neg (by omega)]⟩
theorem Sw.step {X Y : List α} {a b n : Nat} (h : Sw X Y a b n) (hd : a + n < b) (hb : b + n < X.length) : Sw X (swp Y (a + n) (b + n)) a b (n + 1) := by
  obtain ⟨hl, h⟩ := h
  refine ⟨by rw [swp_len, hl], fun k => ?_⟩
  rw [swp_get (by omega) (by omega), h, h, h]
  by_cases c1 : k = b + n
  · subst c1
    rw [if_pos rfl, if_neg (by omega), if_neg (by omega), if_neg (by omega), if_pos (by omega)]
    congr 1; omega
  · rw [if_neg c1]
    by_cases c2 : k = a + n
    · subst c2
      rw [if_pos rfl, if_neg (by omega), if_neg (by omega), if_pos (by omega)]
      congr 1; omega
    · rw [if_neg c2]
      by_cases c3 : a ≤ k ∧ k < a + n
      · rw [if_pos c3, if_pos (by omega)]
      · rw [if_neg c3, if_neg (by omega : ¬ (a ≤ k ∧ k < a + (n + 1)))]
        by_cases c4 : b ≤ k ∧ k < b + n
        · rw [if_pos c4, if_pos (by omega)]
        · rw [if_neg c4, if_neg (by omega)]
theorem Sw.mv {X Y : List α} {a b n lo hi : Nat} (h : Sw X Y a b n) (hp : Y.Perm X) (h1 : lo ≤ a) (h2 : a + n ≤ b) (h3 : b + n ≤ hi) : Mv X Y lo hi := by
  refine ⟨hp, fun k hk => ?_, fun k hk hk2 => ?_⟩
  · rw [h.2, if_neg (by omega), if_neg (by omega)]
  · rw [h.2]
    by_cases c : a ≤ k ∧ k < a + n
    · exact ⟨k - a + b, by omega, by omega, by rw [if_pos c]⟩
    · by_cases d : b ≤ k ∧ k < b + n
      · exact ⟨k - b + a, by omega, by omega, by rw [if_neg c, if_pos d]⟩
      · exact ⟨k, hk, hk2, by rw [if_neg c, if_neg d]⟩
/-- What stands at k, if the rows from a and from m, up to b, have changed places. -/
def rot (X : List α) (a m b k : Nat) : Option α := if k < a ∨ b ≤ k then X[k]? else if k < a + (b - m) then X[k + (m - a)]? else X[k - (b - m)]?
theorem rot_left {X Y : List α} {m i j : Nat} (hj : 0 < j) (hij : j < i) (hm : i ≤ m) (h : Sw X Y (m - i) m j) (k : Nat) : rot Y (m - (i - j)) m (m + j) k = rot X (m - i) m (m + j) k := by
  unfold rot
  rw [h.2, h.2, h.2]
  by_cases c1 : k < m - i ∨ m + j ≤ k
  · rw [if_pos (by omega), if_pos c1, if_neg (by omega), if_neg (by omega)]
  · rw [if_neg c1]
    by_cases c2 : k < m - i + j
    · rw [if_pos (by omega), if_pos (by omega), if_pos (by omega)]
      congr 1; omega
    · rw [if_neg (by omega : ¬ (k < m - (i - j) ∨ m + j ≤ k)), if_neg (by omega : ¬ k < m - i + (m + j - m))]
      by_cases c3 : k < m - (i - j) + (m + j - m)
      · rw [if_pos c3]
        by_cases c4 : k + (m - (m - (i - j))) < m
        · rw [if_neg (by omega), if_neg (by omega)]
          omega
        · rw [if_neg (by omega), if_pos (by omega)]
          congr 1; omega
      · rw [if_neg c3, if_neg (by omega), if_neg (by omega)]
theorem rot_right {X Y : List α} {m i j : Nat} (hi : 0 < i) (hij : i < j) (hm : i ≤ m) (h : Sw X Y (m - i) (m + j - i) i) (k : Nat) : rot Y (m - i) m (m + (j - i)) k = rot X (m - i) m (m + j) k := by
  unfold rot
  rw [h.2, h.2, h.2]
  by_cases c1 : k < m - i ∨ m + j ≤ k
  · rw [if_pos (by omega), if_pos c1, if_neg (by omega), if_neg (by omega)]
  · rw [if_neg c1]
    by_cases c2 : m + (j - i) ≤ k
    · rw [if_pos (by omega), if_neg (by omega), if_pos (by omega), if_neg (by omega)]
      congr 1; omega
    · rw [if_neg (by omega : ¬ (k < m - i ∨ m + (j - i) ≤ k)), if_pos (by omega : k < m - i + (m + j - m))]
      by_cases c3 : k < m - i + (m + (j - i) - m)
      · rw [if_pos c3, if_neg (by omega), if_neg (by omega)]
      · rw [if_neg c3, if_pos (by omega)]
        congr 1; omega
theorem rot_last {X Y : List α} {m i : Nat} (hm : i ≤ m) (h : Sw X Y (m - i) m i) (k : Nat) : Y[k]? = rot X (m - i) m (m + i) k := by
  unfold rot
  rw [h.2]
  by_cases c1 : k < m - i ∨ m + i ≤ k
  · rw [if_pos c1, if_neg (by omega), if_neg (by omega)]
  · rw [if_neg c1]
    by_cases c2 : k < m
    · rw [if_pos (by omega), if_pos (by omega)]
      congr 1; omega
    · rw [if_neg (by omega), if_pos (by omega), if_neg (by omega)]
      congr 1; omega
def Rot (X Y : List α) (a m b : Nat) : Prop := Mv X Y a b ∧ ∀ k, Y[k]? = rot X a m b k
theorem Rot.low {X Y : List α} {a m b : Nat} (h : Rot X Y a m b) (hm : a ≤ m) (hb : m ≤ b) {k : Nat} (h1 : a ≤ k) (h2 : k < a + (b - m)) : Y[k]? = X[k + (m - a)]? := by
  rw [h.2]; unfold rot; rw [if_neg (by omega), if_pos h2]
theorem Rot.high {X Y : List α} {a m b : Nat} (h : Rot X Y a m b) (_hm : a ≤ m) (_hb : m ≤ b) {k : Nat} (h1 : a + (b - m) ≤ k) (h2 : k < b) : Y[k]? = X[k - (b - m)]? := by
  rw [h.2]; unfold rot; rw [if_neg (by omega), if_neg (by omega)]
theorem Rot.id {X : List α} {a m b : Nat} (h : a = m ∨ m = b) : Rot X X a m b := by
  refine ⟨Mv.refl _ _ _, fun k => ?_⟩
  unfold rot
  by_cases c1 : k < a ∨ b ≤ k
  · rw [if_pos c1]
  · rw [if_neg c1]
    rcases h with rfl | rfl
    · rw [if_pos (by omega)]; congr 1; omega
    · rw [if_neg (by omega)]; congr 1; omega
/-- One more to the right. -/
theorem Rot.right {X Y : List α} {a k : Nat} (h : Rot X Y a (a + 1) (k + 1)) (hk : a ≤ k) (hl : k + 1 < X.length) : Rot X (swp Y k (k + 1)) a (a + 1) (k + 2) := by
  have hY := h.1.len
  refine ⟨(h.1.wide (Nat.le_refl _) (by omega)).trans (Mv.swp hk (by omega) (by omega) (by omega) (by omega)), fun t => ?_⟩
  rw [swp_get (by omega) (by omega), h.2, h.2, h.2]
  unfold rot
  by_cases c1 : t = k + 1
  · subst c1
    rw [if_pos rfl, if_neg (by omega), if_neg (by omega), if_neg (by omega), if_neg (by omega)]
    congr 1; omega
  · rw [if_neg c1]
    by_cases c2 : t = k
    · subst c2
      rw [if_pos rfl, if_pos (by omega), if_neg (by omega), if_pos (by omega)]
      congr 1; omega
    · rw [if_neg c2]
      by_cases c3 : t < a ∨ k + 1 ≤ t
      · rw [if_pos c3, if_pos (by omega)]
      · rw [if_neg c3, if_pos (by omega), if_neg (by omega), if_pos (by omega)]
/-- One more to the left. -/
theorem Rot.left {X Y : List α} {k m : Nat} (h : Rot X Y k m (m + 1)) (h0 : 0 < k) (hk : k ≤ m) (hl : m < X.length) : Rot X (swp Y k (k - 1)) (k - 1) m (m + 1) := by
  have hY := h.1.len
  refine ⟨(h.1.wide (by omega) (Nat.le_refl _)).trans (Mv.swp (by omega) (by omega) (by omega) (by omega) (by omega)), fun t => ?_⟩
  rw [swp_get (by omega) (by omega), h.2, h.2, h.2]
  unfold rot
  by_cases c1 : t = k - 1
  · subst c1
    rw [if_pos rfl, if_neg (by omega), if_pos (by omega), if_neg (by omega), if_pos (by omega)]
    congr 1; omega
  · rw [if_neg c1]
    by_cases c2 : t = k
    · subst c2
      rw [if_pos rfl, if_pos (by omega), if_neg (by omega), if_neg (by omega)]
      congr 1; omega
    · rw [if_neg c2]
      by_cases c3 : t < k ∨ m + 1 ≤ t
      · rw [if_pos c3, if_pos (by omega)]
      · rw [if_neg c3, if_neg (by omega), if_neg (by omega), if_neg (by omega)]
/-- One put among many, to the right. -/
theorem merge_first {lt : α → α → Bool} {X Y : List α} {a i b : Nat} (ho : Ord3 lt) (hs : Sr lt X (a + 1) b) (h : Rot X Y a (a + 1) i) (hi : a + 1 ≤ i) (hib : i ≤ b) (_hbl : b ≤ X.length)
    (h1 : i = a + 1 ∨ ∃ x y, X[i - 1]? = some x ∧ X[a]? = some y ∧ lt x y = true) (h2 : i = b ∨ ∃ x y, X[i]? = some x ∧ X[a]? = some y ∧ lt x y = false) : Mv X Y a b ∧ Sr lt Y a b := by
  refine ⟨h.1.wide (Nat.le_refl _) hib, fun p q u v p1 p2 p3 hu hv => ?_⟩
  have lo : ∀ t, a ≤ t → t < i - 1 → Y[t]? = X[t + 1]? := fun t t1 t2 => by rw [h.low (by omega) (by omega) t1 (by omega)]; congr 1; omega
  have mid : Y[i - 1]? = X[a]? := by rw [h.high (by omega) (by omega) (by omega) (by omega)]; congr 1; omega
  have hi' : ∀ t, i ≤ t → Y[t]? = X[t]? := fun t t1 => h.1.out t (.inr t1)
  have less : ∀ t x y, a + 1 ≤ t → t < i → X[t]? = some x → X[a]? = some y → lt x y = true := fun t x y t1 t2 hx hy => by
    rcases h1 with h1 | ⟨x', y', hx', hy', hl⟩
    · omega
    · rw [hy] at hy'
      cases hy'
      by_cases e : t = i - 1
      · subst e
        rw [hx] at hx'
        cases hx'
        exact hl
      · cases hc : lt x y with
        | true => rfl
        | false => rw [ho.tr _ _ _ (hs t (i - 1) x x' t1 (by omega) (by omega) hx hx') hc] at hl; cases hl
  have more : ∀ t x y, i ≤ t → t < b → X[t]? = some x → X[a]? = some y → lt x y = false := fun t x y t1 t2 hx hy => by
    rcases h2 with h2 | ⟨x', y', hx', hy', hl⟩
    · omega
    · rw [hy] at hy'
      cases hy'
      by_cases e : t = i
      · subst e
        rw [hx] at hx'
        cases hx'
        exact hl
      · exact ho.tr _ _ _ (hs i t x' x (by omega) (by omega) t2 hx' hx) hl
  by_cases c1 : q < i - 1
  · rw [lo p p1 (by omega)] at hu
    rw [lo q (by omega) c1] at hv
    exact hs (p + 1) (q + 1) u v (by omega) (by omega) (by omega) hu hv
  · by_cases c2 : q = i - 1
    · subst c2
      rw [lo p p1 (by omega)] at hu
      rw [mid] at hv
      exact ho.as _ _ (less (p + 1) u v (by omega) (by omega) hu hv)
    · rw [hi' q (by omega)] at hv
      by_cases c3 : p < i - 1
      · rw [lo p p1 c3] at hu
        exact hs (p + 1) q u v (by omega) (by omega) p3 hu hv
      · by_cases c4 : p = i - 1
        · subst c4
          rw [mid] at hu
          exact more q v u (by omega) p3 hv hu
        · rw [hi' p (by omega)] at hu
          exact hs p q u v (by omega) p2 p3 hu hv
/-- One put among many, to the left. -/
theorem merge_last {lt : α → α → Bool} {X Y : List α} {a i m : Nat} (ho : Ord3 lt) (hs : Sr lt X a m) (h : Rot X Y i m (m + 1)) (hi : a ≤ i) (him : i ≤ m) (_hml : m < X.length)
    (h1 : i = a ∨ ∃ x y, X[m]? = some x ∧ X[i - 1]? = some y ∧ lt x y = false) (h2 : i = m ∨ ∃ x y, X[m]? = some x ∧ X[i]? = some y ∧ lt x y = true) : Mv X Y a (m + 1) ∧ Sr lt Y a (m + 1) := by
  refine ⟨h.1.wide hi (Nat.le_refl _), fun p q u v p1 p2 p3 hu hv => ?_⟩
  have lo : ∀ t, t < i → Y[t]? = X[t]? := fun t t1 => h.1.out t (.inl t1)
  have mid : Y[i]? = X[m]? := by rw [h.low him (by omega) (Nat.le_refl _) (by omega)]; congr 1; omega
  have hi' : ∀ t, i < t → t ≤ m → Y[t]? = X[t - 1]? := fun t t1 t2 => by rw [h.high him (by omega) (by omega) (by omega)]; congr 1; omega
  have less : ∀ t x y, a ≤ t → t < i → X[m]? = some x → X[t]? = some y → lt x y = false := fun t x y t1 t2 hx hy => by
    rcases h1 with h1 | ⟨x', y', hx', hy', hl⟩
    · omega
    · rw [hx] at hx'
      cases hx'
      by_cases e : t = i - 1
      · subst e
        rw [hy] at hy'
        cases hy'
        exact hl
      · exact ho.tr _ _ _ hl (hs t (i - 1) y y' t1 (by omega) (by omega) hy hy')
  have more : ∀ t x y, i ≤ t → t < m → X[m]? = some x → X[t]? = some y → lt x y = true := fun t x y t1 t2 hx hy => by
    rcases h2 with h2 | ⟨x', y', hx', hy', hl⟩
    · omega
    · rw [hx] at hx'
      cases hx'
      by_cases e : t = i
      · subst e
        rw [hy] at hy'
        cases hy'
        exact hl
      · cases hc : lt x y with
        | true => rfl
        | false => rw [ho.tr _ _ _ hc (hs i t y' y (by omega) (by omega) t2 hy' hy)] at hl; cases hl
  by_cases c1 : q < i
  · rw [lo p (by omega)] at hu
    rw [lo q c1] at hv
    exact hs p q u v p1 p2 (by omega) hu hv
  · by_cases c2 : q = i
    · subst c2
      rw [lo p p2] at hu
      rw [mid] at hv
      exact less p v u p1 p2 hv hu
    · rw [hi' q (by omega) (by omega)] at hv
      by_cases c3 : p < i
      · rw [lo p c3] at hu
        exact hs p (q - 1) u v p1 (by omega) (by omega) hu hv
      · by_cases c4 : p = i
        · subst c4
          rw [mid] at hu
          exact ho.as _ _ (more (q - 1) u v (by omega) (by omega) hu hv)
        · rw [hi' p (by omega) (by omega)] at hu
          exact hs (p - 1) (q - 1) u v (by omega) (by omega) (by omega) hu hv
/-- Two rows whose middles have changed places. -/
structure Cross (lt : α → α → Bool) (X Y : List α) (a s mid e b : Nat) : Prop where
  mv : Mv X Y a b
  one : Sr lt Y a s
  two : Sr lt Y s mid
  three : Sr lt Y mid e
  four : Sr lt Y e b
  cross : ∀ (p q : Nat) (x y : α), a ≤ p → p < mid → mid ≤ q → q < b → Y[p]? = some x → Y[q]? = some y → lt y x = false
theorem cross_rot {lt : α → α → Bool} {X Y : List α} {a s m e b mid : Nat} (ho : Ord3 lt) (hl : Sr lt X a m) (hr : Sr lt X m b) (h : Rot X Y s m e) (h1 : a ≤ s) (h2 : s ≤ m) (h3 : m ≤ e) (h4 : e ≤ b) (_hb : b ≤ X.length) (hm : s + e = mid + m)
    (c1 : s = a ∨ e = b ∨ ∃ x y, X[e]? = some x ∧ X[s - 1]? = some y ∧ lt x y = false) (c2 : s = m ∨ e = m ∨ ∃ x y, X[e - 1]? = some x ∧ X[s]? = some y ∧ lt x y = true) : Cross lt X Y a s mid e b := by
  have g1 : ∀ t, t < s → Y[t]? = X[t]? := fun t ht => h.1.out t (.inl ht)
  have g2 : ∀ t, s ≤ t → t < mid → Y[t]? = X[t + (m - s)]? := fun t t1 t2 => h.low h2 h3 t1 (by omega)
  have g3 : ∀ t, mid ≤ t → t < e → Y[t]? = X[t - (e - m)]? := fun t t1 t2 => h.high h2 h3 (by omega) t2
  have g4 : ∀ t, e ≤ t → Y[t]? = X[t]? := fun t ht => h.1.out t (.inr ht)
  refine ⟨h.1.wide h1 h4, ?_, ?_, ?_, ?_, ?_⟩
  · exact fun i j x y p1 p2 p3 hx hy => hl i j x y p1 p2 (by omega) ((g1 i (by omega)).symm.trans hx) ((g1 j p3).symm.trans hy)
  · exact fun i j x y p1 p2 p3 hx hy => hr (i + (m - s)) (j + (m - s)) x y (by omega) (by omega) (by omega) ((g2 i p1 (by omega)).symm.trans hx) ((g2 j (by omega) p3).symm.trans hy)
  · exact fun i j x y p1 p2 p3 hx hy => hl (i - (e - m)) (j - (e - m)) x y (by omega) (by omega) (by omega) ((g3 i p1 (by omega)).symm.trans hx) ((g3 j (by omega) p3).symm.trans hy)
  · exact fun i j x y p1 p2 p3 hx hy => hr i j x y (by omega) p2 p3 ((g4 i p1).symm.trans hx) ((g4 j (by omega)).symm.trans hy)
  · -- what comes from the second row's head is not above what comes from the first one's tail
    have low : ∀ t u x y, a ≤ t → t < s → e ≤ u → u < b → X[t]? = some x → X[u]? = some y → lt y x = false := fun t u x y t1 t2 u1 u2 hx hy => by
      rcases c1 with c | c | ⟨x', y', hx', hy', hc⟩
      · omega
      · omega
      · have k1 : lt x' x = false := by
          by_cases d : t = s - 1
          · subst d; rw [hx] at hy'; cases hy'; exact hc
          · exact ho.tr _ _ _ hc (hl t (s - 1) x y' t1 (by omega) (by omega) hx hy')
        by_cases d : u = e
        · subst d; rw [hy] at hx'; cases hx'; exact k1
        · exact ho.tr _ _ _ (hr e u x' y (by omega) (by omega) u2 hx' hy) k1
    have high : ∀ t u x y, m ≤ t → t < e → s ≤ u → u < m → X[t]? = some x → X[u]? = some y → lt y x = false := fun t u x y t1 t2 u1 u2 hx hy => by
      rcases c2 with c | c | ⟨x', y', hx', hy', hc⟩
      · omega
      · omega
      · have hc := ho.as _ _ hc
        have k1 : lt y' x = false := by
          by_cases d : t = e - 1
          · subst d; rw [hx] at hx'; cases hx'; exact hc
          · exact ho.tr _ _ _ hc (hr t (e - 1) x x' t1 (by omega) (by omega) hx hx')
        by_cases d : u = s
        · subst d; rw [hy] at hy'; cases hy'; exact k1
        · exact ho.tr _ _ _ (hl s u y' y (by omega) (by omega) u2 hy' hy) k1
    intro p q x y p1 p2 p3 p4 hx hy
    by_cases d1 : p < s
    · rw [g1 p d1] at hx
      by_cases d2 : q < e
      · rw [g3 q p3 d2] at hy
        exact hl p (q - (e - m)) x y p1 (by omega) (by omega) hx hy
      · rw [g4 q (by omega)] at hy
        exact low p q x y p1 d1 (by omega) p4 hx hy
    · rw [g2 p (by omega) p2] at hx
      by_cases d2 : q < e
      · rw [g3 q p3 d2] at hy
        exact high (p + (m - s)) (q - (e - m)) x y (by omega) (by omega) (by omega) (by omega) hx hy
      · rw [g4 q (by omega)] at hy
        exact hr (p + (m - s)) q x y (by omega) (by omega) p4 hx hy
/-- Both parts put in order. -/
theorem Cross.done {lt : α → α → Bool} {X Y Z1 Z : List α} {a s mid e b : Nat} (h : Cross lt X Y a s mid e b) (ha : a ≤ mid) (hb : mid ≤ b) (h1 : Mv Y Z1 a mid) (s1 : Sr lt Z1 a mid) (h2 : Mv Z1 Z mid b) (s2 : Sr lt Z mid b) : Mv X Z a b ∧ Sr lt Z a b := by
  refine ⟨h.mv.trans ((h1.wide (Nat.le_refl _) hb).trans (h2.wide ha (Nat.le_refl _))), fun p q x y p1 p2 p3 hx hy => ?_⟩
  by_cases c1 : q < mid
  · rw [h2.out p (.inl (by omega))] at hx
    rw [h2.out q (.inl c1)] at hy
    exact s1 p q x y p1 p2 c1 hx hy
  · by_cases c2 : mid ≤ p
    · exact s2 p q x y c2 p2 p3 hx hy
    · rw [h2.out p (.inl (by omega))] at hx
      obtain ⟨p', i1, i2, e1⟩ := h1.orig p p1 (by omega)
      obtain ⟨q', i3, i4, e2⟩ := h2.orig q (by omega) p3
      rw [e1] at hx
      rw [e2, h1.out q' (.inr i3)] at hy
      exact h.cross p' q' x y i1 i2 i3 i4 hx hy
/-- In order within each block of w, between a and n. -/
def Blk (lt : α → α → Bool) (L : List α) (w a n : Nat) : Prop := ∀ (i j : Nat) (x y : α), a ≤ i → i < j → j < n → i / w = j / w → L[i]? = some x → L[j]? = some y → lt y x = false
theorem Blk.put {lt : α → α → Bool} {L L' : List α} {w q n : Nat} (h0 : 0 < w) (h : Blk lt L w 0 (q * w)) (hm : Mv L L' (q * w) n) (hs : Sr lt L' (q * w) n) (_hn : n ≤ (q + 1) * w) : Blk lt L' w 0 n := by
  intro i j x y p1 p2 p3 p4 hx hy
  by_cases c : j < q * w
  · rw [hm.out i (.inl (by omega))] at hx
    rw [hm.out j (.inl c)] at hy
    exact h i j x y p1 p2 c p4 hx hy
  · have hj : q ≤ j / w := (Nat.le_div_iff_mul_le h0).2 (by omega)
    have hi : q * w ≤ i := by
      have := (Nat.le_div_iff_mul_le h0).1 (show q ≤ i / w by omega)
      exact this
    exact hs i j x y hi p2 p3 hx hy
theorem Blk.rest {lt : α → α → Bool} {L L' : List α} {w a b n : Nat} (h : Blk lt L w a n) (hm : Mv L L' a b) (hab : a ≤ b) : Blk lt L' w b n := fun i j x y p1 p2 p3 p4 hx hy =>
  h i j x y (by omega) p2 p3 p4 ((hm.out i (.inr p1)).symm.trans hx) ((hm.out j (.inr (by omega))).symm.trans hy)
/-- A block of w. -/
theorem Blk.sr {lt : α → α → Bool} {L : List α} {w a n q e : Nat} (_h0 : 0 < w) (h : Blk lt L w a n) (ha : a ≤ q * w) (he : e ≤ n) (h2 : e ≤ (q + 1) * w) : Sr lt L (q * w) e := fun i j x y p1 p2 p3 hx hy => by
  refine h i j x y (by omega) p2 (by omega) ?_ hx hy
  have e1 : i / w = q := Nat.div_eq_of_lt_le (by omega) (by omega)
  have e2 : j / w = q := Nat.div_eq_of_lt_le (by omega) (by omega)
  rw [e1, e2]
theorem Blk.nil {lt : α → α → Bool} (L : List α) (w a n : Nat) (h : n ≤ a) : Blk lt L w a n := fun i j _ _ p1 p2 p3 => by omega
theorem sr_pair {lt : α → α → Bool} {L : List α} {n : Nat} (h : Sr lt L 0 n) (hn : L.length ≤ n) : L.Pairwise fun x y => lt y x = false := by
  rw [List.pairwise_iff_getElem]
  intro i j hi hj hij
  exact h i j _ _ (Nat.zero_le _) hij (by omega) (List.getElem?_eq_getElem hi) (List.getElem?_eq_getElem hj)
/-- In order, there is one list alone, if those that are alike in the order are alike. -/
theorem sorted_one {lt : α → α → Bool} {L L' : List α} (hp : L'.Perm L) (h1 : L'.Pairwise fun x y => lt y x = false) (h2 : L.Pairwise fun x y => lt y x = false) (he : ∀ x y, x ∈ L → y ∈ L → lt x y = false → lt y x = false → x = y) : L' = L :=
  List.Perm.eq_of_pairwise (fun a b ha hb h3 h4 => he a b (hp.mem_iff.1 ha) hb h4 h3) h1 h2 hp
end
end Cu
end Go.Proofs.Ytppjmmdiglnkfaa
