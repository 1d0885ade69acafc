/- Plain: a tree's pages: pairs, their order, their bytes, what a page must keep. Plain: a tree that is in order gives records by rising keys, each of which its way leads to. Package btree: pages in memory; where a key is. Package btree: what a page tells of its pairs: find, toward, size, weight. Package btree: whether a page may be where it is. Package btree: a page's pairs, read. Package btree: a page's number; is there a tree. -/
import Derived.Test.YtkdhlofcdcnjgaaGreatGA
import Derived.Sort.Walk0
import Derived.Lib.Bytealg
import Derived.Test.YtkdhlofcdcnjgaaGreatRows
import Derived.Sort.OwnSortedInts
import Derived.IntWalk
import Derived.Deep.QuietTactic
import Derived.BigQuiet
import Derived.Deep.RegionWith
import Derived.Laws.Cover1
import Derived.Laws.MakeOwn
import Derived.Deep.DeepAppendRoom
import Derived.Deep.AppendLies
import Derived.Deep.RegionLaw
import Derived.Laws.Pointers
import Derived.Lib.ConvBytes
namespace Go.Proofs.YtkdhlofcdcnjgaaGreat
set_option maxRecDepth 100000
open Go.ChangeShapes Go.WideShapes Go.ChangeAt Go.RowKit Go.PlainAid

/-- A text below another. -/
def lessB (a b : ByteArray) : Bool := Op.bytesLess a.toList b.toList
theorem text_eq {a b : ByteArray} (h : a.toList = b.toList) : a = b := by
  rw [ByteArray.toList_eq, ByteArray.toList_eq] at h
  exact ByteArray.ext (Array.ext' h)
theorem lessB_iff {a b : ByteArray} : lessB a b = true ↔ a.toList < b.toList := by
  unfold lessB
  rw [bytesLess_eq]
  exact decide_eq_true_iff
theorem lessB_irrefl (a : ByteArray) : lessB a a = false := by
  rw [Bool.eq_false_iff]
  intro h
  exact absurd (lessB_iff.1 h) (List.lt_irrefl _)
theorem lessB_trans {a b c : ByteArray} (h : lessB a b = true) (k : lessB b c = true) : lessB a c = true := lessB_iff.2 (List.lt_trans (lessB_iff.1 h) (lessB_iff.1 k))
theorem lessB_asymm {a b : ByteArray} (h : lessB a b = true) : lessB b a = false := by
  rw [Bool.eq_false_iff]
  intro k
  have := lessB_trans h k
  rw [lessB_irrefl] at this
  cases this
theorem lessB_total {a b : ByteArray} (h : lessB a b = false) (k : lessB b a = false) : a = b := by
  have h1 : ¬ a.toList < b.toList := fun c => by rw [lessB_iff.2 c] at h; cases h
  have h2 : ¬ b.toList < a.toList := fun c => by rw [lessB_iff.2 c] at k; cases k
  exact text_eq (List.le_antisymm (List.not_lt.1 h2) (List.not_lt.1 h1))
theorem lessB_le_trans {a b c : ByteArray} (h : lessB b a = false) (k : lessB b c = true) : lessB a c = true := by
  cases e : lessB a b with
  | true => exact lessB_trans e k
  | false => rw [lessB_total e h]; exact k
theorem lessB_lt_le {a b c : ByteArray} (h : lessB a b = true) (k : lessB c b = false) : lessB a c = true := by
  cases e : lessB b c with
  | true => exact lessB_trans h e
  | false => rw [← lessB_total e k]; exact h
theorem lessB_empty (a : ByteArray) : lessB a ⟨#[]⟩ = false := by
  rw [Bool.eq_false_iff]
  intro h
  have := lessB_iff.1 h
  rw [ByteArray.toList_eq, ByteArray.toList_eq] at this
  exact absurd this (List.not_lt_nil _)
theorem size_zero {a : ByteArray} (h : a.size = 0) : a = ⟨#[]⟩ := by
  apply ByteArray.ext
  apply Array.eq_empty_of_size_eq_zero
  exact h
/-- What strings.Compare says. -/
theorem cmp_lt : ∀ (a b : List UInt8), Lib.compareBytes a b < 0 ↔ a < b
  | [], [] => by simp [Lib.compareBytes]
  | [], _ :: _ => by simp [Lib.compareBytes]
  | _ :: _, [] => by simp [Lib.compareBytes]
  | x :: a, y :: b => by
    have ih := cmp_lt a b
    unfold Lib.compareBytes
    rw [List.cons_lt_cons_iff]
    by_cases h : x < y
    · simp [h]
    · by_cases k : y < x
      · have : ¬ x = y := fun e => by subst e; exact h k
        simp [h, k, this]
      · have : x = y := UInt8.le_antisymm (UInt8.not_lt.1 k) (UInt8.not_lt.1 h)
        subst this
        simp [h, ih]
theorem cmp_zero : ∀ (a b : List UInt8), Lib.compareBytes a b = 0 ↔ a = b
  | [], [] => by simp [Lib.compareBytes]
  | [], _ :: _ => by simp [Lib.compareBytes]
  | _ :: _, [] => by simp [Lib.compareBytes]
  | x :: a, y :: b => by
    have ih := cmp_zero a b
    unfold Lib.compareBytes
    by_cases h : x < y
    · have : ¬ x = y := fun e => by subst e; exact UInt8.lt_irrefl _ h
      simp [h, this]
    · by_cases k : y < x
      · have : ¬ x = y := fun e => by subst e; exact h k
        simp [h, k, this]
      · have : x = y := UInt8.le_antisymm (UInt8.not_lt.1 k) (UInt8.not_lt.1 h)
        subst this
        simp [h, ih]
def cmpB (a b : ByteArray) : Int := Lib.compareBytes a.data.toList b.data.toList
theorem cmpB_lt (a b : ByteArray) : decide (cmpB a b < 0) = lessB a b := by
  unfold cmpB lessB
  rw [bytesLess_eq, ByteArray.toList_eq, ByteArray.toList_eq]
  exact decide_eq_decide.2 (cmp_lt _ _)
theorem cmpB_zero (a b : ByteArray) : cmpB a b = 0 ↔ a = b := by
  unfold cmpB
  rw [cmp_zero]
  exact ⟨fun h => ByteArray.ext (Array.ext' h), fun h => by rw [h]⟩

/-- A pair of a page. -/
structure Pr where
  key : ByteArray
  val : ByteArray
/-- Pairs by rising keys. -/
def Srt (L : List Pr) : Prop := ∀ (i j : Nat) (p q : Pr), i < j → L[i]? = some p → L[j]? = some q → lessB p.key q.key = true
/-- Where a key is, or would be. -/
def posP (k : ByteArray) (L : List Pr) : Nat := L.findIdx fun p => !lessB p.key k
theorem posP_le (k : ByteArray) (L : List Pr) : posP k L ≤ L.length := List.findIdx_le_length
theorem posP_below {k : ByteArray} {L : List Pr} {i : Nat} {p : Pr} (hi : i < posP k L) (hp : L[i]? = some p) : lessB p.key k = true := by
  have h2 := List.not_of_lt_findIdx hi
  obtain ⟨hl, rfl⟩ := List.getElem?_eq_some_iff.1 hp
  simpa using h2
theorem posP_at {k : ByteArray} {L : List Pr} {p : Pr} (hp : L[posP k L]? = some p) : lessB p.key k = false := by
  obtain ⟨hl, rfl⟩ := List.getElem?_eq_some_iff.1 hp
  have h2 := List.findIdx_getElem (w := hl)
  unfold posP
  simpa using h2
theorem posP_above {k : ByteArray} {L : List Pr} (hs : Srt L) {i : Nat} {p : Pr} (hi : posP k L ≤ i) (hp : L[i]? = some p) : lessB p.key k = false := by
  rcases Nat.lt_or_eq_of_le hi with h | h
  · have hl := (List.getElem?_eq_some_iff.1 hp).1
    obtain ⟨q, hq⟩ : ∃ q, L[posP k L]? = some q := ⟨_, List.getElem?_eq_getElem (by omega)⟩
    have h1 := posP_at hq
    have h2 := hs _ _ _ _ h hq hp
    rw [Bool.eq_false_iff]
    intro h3
    rw [lessB_trans h2 h3] at h1
    cases h1
  · subst h
    exact posP_at hp
theorem posP_eq {k : ByteArray} {L : List Pr} {i : Nat} (hi : i ≤ L.length) (h1 : ∀ j p, j < i → L[j]? = some p → lessB p.key k = true) (h2 : ∀ p, L[i]? = some p → lessB p.key k = false) : posP k L = i := by
  rcases Nat.lt_trichotomy (posP k L) i with c | c | c
  · obtain ⟨q, hq⟩ : ∃ q, L[posP k L]? = some q := ⟨_, List.getElem?_eq_getElem (by omega)⟩
    have := posP_at hq
    rw [h1 _ _ c hq] at this
    cases this
  · exact c
  · have := posP_le k L
    obtain ⟨q, hq⟩ : ∃ q, L[i]? = some q := ⟨_, List.getElem?_eq_getElem (by omega)⟩
    have h3 := posP_below c hq
    rw [h2 _ hq] at h3
    cases h3
/-- Is the key there? -/
def hitP (k : ByteArray) (L : List Pr) : Bool := match L[posP k L]? with
  | some p => decide (cmpB p.key k = 0)
  | none => false
theorem hitP_some {k : ByteArray} {L : List Pr} (h : hitP k L = true) : ∃ p, L[posP k L]? = some p ∧ p.key = k := by
  unfold hitP at h
  split at h
  · next p hp => exact ⟨p, hp, (cmpB_zero _ _).1 (of_decide_eq_true h)⟩
  · cases h
theorem hitP_of {k : ByteArray} {L : List Pr} (hs : Srt L) {i : Nat} {p : Pr} (hp : L[i]? = some p) (hk : p.key = k) : posP k L = i ∧ hitP k L = true := by
  have hi := (List.getElem?_eq_some_iff.1 hp).1
  have e : posP k L = i := posP_eq (by omega) (fun j q hj hq => by rw [← hk]; exact hs _ _ _ _ hj hq hp) (fun q hq => by rw [hp] at hq; cases hq; rw [hk]; exact lessB_irrefl _)
  refine ⟨e, ?_⟩
  unfold hitP
  rw [e, hp]
  exact decide_eq_true ((cmpB_zero _ _).2 hk)
/-- Which of the pages below has a key, if any has. -/
def towP (k : ByteArray) (L : List Pr) : Nat := if hitP k L = false ∧ 0 < posP k L then posP k L - 1 else posP k L

/-- The bytes that a pair is taken to need. -/
def szP (level : Int) (p : Pr) : Nat := if 1 < level then 36 else 2 + p.key.size + p.val.size
def wtP (level : Int) (L : List Pr) : Nat := (L.map (szP level)).sum
theorem wtP_nil (level : Int) : wtP level [] = 0 := rfl
theorem wtP_take {level : Int} {L : List Pr} {i : Nat} {p : Pr} (h : L[i]? = some p) : wtP level (L.take (i + 1)) = wtP level (L.take i) + szP level p := by
  unfold wtP
  rw [List.take_add_one, h]
  simp
theorem wtP_all (level : Int) (L : List Pr) : wtP level (L.take L.length) = wtP level L := by rw [List.take_length]
/-- What a key at a place must keep. -/
def okAt (low high : ByteArray) (L : List Pr) (i : Nat) : Bool := match L[i]? with
  | none => true
  | some p => decide (p.key.size ≤ 32) && !lessB p.key low && (decide (high.size = 0) || lessB p.key high) && (decide (i = 0) || match L[i - 1]? with | some q => lessB q.key p.key | none => true)
def risB (low high : ByteArray) (L : List Pr) : Bool := (List.range L.length).all (okAt low high L)
def recB (L : List Pr) : Bool := L.all (fun p => decide (p.key.size ≠ 0) && decide (p.val.size ≤ 80)) && decide (0 < L.length)
def lnkB (low : ByteArray) (L : List Pr) : Bool := L.all (fun p => decide (p.val.size = 2)) && decide (1 < L.length) && (match L[0]? with | some p => decide (p.key = low) | none => false)
/-- May a page be where it is? -/
def lawB (level : Int) (low high : ByteArray) (L : List Pr) : Bool := decide (1 ≤ level) && decide (wtP level L ≤ 254) && risB low high L && (if level = 1 then recB L else lnkB low L)
theorem risB_no {low high : ByteArray} {L : List Pr} {i : Nat} (hi : i < L.length) (h : okAt low high L i = false) : risB low high L = false := by
  rw [Bool.eq_false_iff]
  intro k
  have := List.all_eq_true.1 k i (List.mem_range.2 hi)
  rw [h] at this
  cases this
theorem risB_yes {low high : ByteArray} {L : List Pr} (h : ∀ i, i < L.length → okAt low high L i = true) : risB low high L = true := List.all_eq_true.2 fun i hi => h i (List.mem_range.1 hi)
theorem risB_at {low high : ByteArray} {L : List Pr} (h : risB low high L = true) {i : Nat} (hi : i < L.length) : okAt low high L i = true := List.all_eq_true.1 h i (List.mem_range.2 hi)
structure KeyOk (low high : ByteArray) (p : Pr) : Prop where
  small : p.key.size ≤ 32
  low : lessB p.key low = false
  high : high.size = 0 ∨ lessB p.key high = true
theorem okAt_parts {low high : ByteArray} {L : List Pr} {i : Nat} {p : Pr} (hp : L[i]? = some p) : okAt low high L i = true ↔ KeyOk low high p ∧ (i = 0 ∨ ∃ q, L[i - 1]? = some q ∧ lessB q.key p.key = true) := by
  unfold okAt
  rw [hp]
  have hl := (List.getElem?_eq_some_iff.1 hp).1
  obtain ⟨q, hq⟩ : ∃ q, L[i - 1]? = some q := ⟨_, List.getElem?_eq_getElem (by omega)⟩
  simp only [hq, Bool.and_eq_true, Bool.or_eq_true, decide_eq_true_eq, Bool.not_eq_true', Option.some.injEq, exists_eq_left']
  exact ⟨fun ⟨⟨⟨a, b⟩, c⟩, d⟩ => ⟨⟨a, b, c⟩, d⟩, fun ⟨⟨a, b, c⟩, d⟩ => ⟨⟨⟨a, b⟩, c⟩, d⟩⟩
theorem risB_key {low high : ByteArray} {L : List Pr} (h : risB low high L = true) {i : Nat} {p : Pr} (hp : L[i]? = some p) : KeyOk low high p := ((okAt_parts hp).1 (risB_at h (List.getElem?_eq_some_iff.1 hp).1)).1
theorem risB_srt {low high : ByteArray} {L : List Pr} (h : risB low high L = true) : Srt L := by
  intro i j p q hij hp hq
  induction j generalizing q with
  | zero => omega
  | succ j ih =>
    have hj := (List.getElem?_eq_some_iff.1 hq).1
    obtain ⟨r, hr⟩ : ∃ r, L[j]? = some r := ⟨_, List.getElem?_eq_getElem (by omega)⟩
    have h1 : lessB r.key q.key = true := by
      rcases ((okAt_parts hq).1 (risB_at h hj)).2 with e | ⟨r', hr', hl⟩
      · omega
      · rw [Nat.add_sub_cancel, hr] at hr'
        cases hr'
        exact hl
    rcases Nat.lt_or_eq_of_le (Nat.le_of_lt_succ hij) with c | c
    · exact lessB_trans (ih r c hr) h1
    · subst c
      rw [hp] at hr
      cases hr
      exact h1
structure Lawful (level : Int) (low high : ByteArray) (L : List Pr) : Prop where
  pos : 1 ≤ level
  weight : wtP level L ≤ 254
  rise : risB low high L = true
  recs : level = 1 → recB L = true
  links : level ≠ 1 → lnkB low L = true
theorem lawB_iff {level : Int} {low high : ByteArray} {L : List Pr} : lawB level low high L = true ↔ Lawful level low high L := by
  unfold lawB
  simp only [Bool.and_eq_true, decide_eq_true_eq]
  constructor
  · rintro ⟨⟨⟨a, b⟩, c⟩, d⟩
    refine ⟨a, b, c, fun e => ?_, fun e => ?_⟩
    · rwa [if_pos e] at d
    · rwa [if_neg e] at d
  · rintro ⟨a, b, c, d, e⟩
    refine ⟨⟨⟨a, b⟩, c⟩, ?_⟩
    by_cases h : level = 1
    · rw [if_pos h]; exact d h
    · rw [if_neg h]; exact e h
theorem recB_iff {L : List Pr} : recB L = true ↔ (∀ p ∈ L, p.key.size ≠ 0 ∧ p.val.size ≤ 80) ∧ 0 < L.length := by
  unfold recB
  simp only [Bool.and_eq_true, List.all_eq_true, decide_eq_true_eq]
theorem lnkB_iff {low : ByteArray} {L : List Pr} : lnkB low L = true ↔ (∀ p ∈ L, p.val.size = 2) ∧ 1 < L.length ∧ ∃ p, L[0]? = some p ∧ p.key = low := by
  unfold lnkB
  simp only [Bool.and_eq_true, List.all_eq_true, decide_eq_true_eq]
  cases h : L[0]? with
  | none => simp
  | some p => simp [and_assoc]

/-- So many pairs, out of bytes. -/
def unpL : Nat → ByteArray → Option (List Pr)
  | 0, _ => some []
  | k + 1, d => if d.size < 2 then none else if (d.size : Int) < 2 + bt d 0 + bt d 1 then none else
    (unpL k (d.extract (2 + bt d 0 + bt d 1).toNat d.size)).map (⟨d.extract 2 (2 + bt d 0).toNat, d.extract (2 + bt d 0).toNat (2 + bt d 0 + bt d 1).toNat⟩ :: ·)
/-- The pairs of a page. -/
def unpP (s : ByteArray) : Option (List Pr) := unpL (bt s 1).toNat (s.extract 2 s.size)
theorem unpL_len : ∀ (k : Nat) (d : ByteArray) (L : List Pr), unpL k d = some L → L.length = k
  | 0, d, L, h => by
    have : some [] = some L := h
    cases this
    rfl
  | k + 1, d, L, h => by
    unfold unpL at h
    split at h
    · cases h
    · split at h
      · cases h
      · cases h2 : unpL k (d.extract (2 + bt d 0 + bt d 1).toNat d.size) with
        | none => rw [h2] at h; cases h
        | some M =>
          rw [h2] at h
          have h : some (_ :: M) = some L := h
          cases h
          rw [List.length_cons, unpL_len k _ M h2]
theorem unpP_len {s : ByteArray} {L : List Pr} (h : unpP s = some L) : L.length ≤ 255 ∧ (L.length : Int) = bt s 1 := by
  have := unpL_len _ _ _ h
  have h1 := bt_nonneg s 1
  have h2 := bt_le s 1
  omega
/-- A page's number. -/
def numP (s : ByteArray) : Int := bt s 0 + bt s 1 * 256
theorem numP_b (s : ByteArray) : 0 ≤ numP s ∧ numP s ≤ 65535 := by
  have h1 := bt_nonneg s 0
  have h2 := bt_le s 0
  have h3 := bt_nonneg s 1
  have h4 := bt_le s 1
  unfold numP
  omega

/-- A page of a tree, as it is asked for or read. -/
structure NdD where
  at_ : Int
  level : Int
  low : ByteArray
  high : ByteArray
  L : List Pr
/-- What is read, where a page is asked for: its level and pairs. -/
def rdP (V : Int → ByteArray) (out : Int → Bool) (x : NdD) : Option (Int × List Pr) :=
  if out x.at_ = false then none else match unpP (V x.at_) with
  | none => none
  | some L => if x.level ≠ 0 ∧ x.level ≠ bt (V x.at_) 0 then none else if lawB (bt (V x.at_) 0) x.low x.high L = false then none else some (bt (V x.at_) 0, L)
/-- What a read answers: the page, and whether there is none. -/
def rdN (V : Int → ByteArray) (out : Int → Bool) (x : NdD) : NdD × Bool := match rdP V out x with
  | none => (x, true)
  | some (l, L) => ({ x with level := l, L := L }, false)
theorem rdP_some {V : Int → ByteArray} {out : Int → Bool} {x : NdD} {l : Int} {L : List Pr} (h : rdP V out x = some (l, L)) : out x.at_ = true ∧ unpP (V x.at_) = some L ∧ l = bt (V x.at_) 0 ∧ (x.level = 0 ∨ x.level = l) ∧ Lawful l x.low x.high L := by
  unfold rdP at h
  split at h
  · cases h
  · next ho =>
    split at h
    · cases h
    · next M hM =>
      split at h
      · cases h
      · next hl =>
        split at h
        · cases h
        · next hw =>
          have h : some (bt (V x.at_) 0, M) = some (l, L) := h
          cases h
          refine ⟨by simpa using ho, hM, rfl, ?_, lawB_iff.1 (by simpa using hw)⟩
          by_cases e : x.level = 0
          · exact .inl e
          · exact .inr (Decidable.byContradiction fun e2 => hl ⟨e, e2⟩)
/-- What one of a page's pairs leads to, as it is asked for. -/
def kidN (x : NdD) (i : Nat) : NdD := match x.L[i]? with
  | none => x
  | some p => ⟨numP p.val, x.level - 1, p.key, (match x.L[i + 1]? with | some q => q.key | none => x.high), []⟩
/-- A page, and those below it, as they are gone through from a key on; with each whether it can't be read. -/
def visP (V : Int → ByteArray) (out : Int → Bool) (from_ : ByteArray) : Nat → NdD × Bool → List (NdD × Bool)
  | 0, x => [x]
  | k + 1, x => x :: if x.2 = true ∨ x.1.level = 1 then [] else (List.range' (towP from_ x.1.L) (x.1.L.length - towP from_ x.1.L)).flatMap fun i => visP V out from_ k (rdN V out (kidN x.1 i))
/-- The pages below those from a place on, as they are gone through, so many. -/
def visK (V : Int → ByteArray) (out : Int → Bool) (from_ : ByteArray) (k : Nat) (x : NdD) (t m : Nat) : List (NdD × Bool) := (List.range' t m).flatMap fun i => visP V out from_ k (rdN V out (kidN x i))
theorem visK_zero (V : Int → ByteArray) (out : Int → Bool) (from_ : ByteArray) (k : Nat) (x : NdD) (t : Nat) : visK V out from_ k x t 0 = [] := rfl
theorem visK_succ (V : Int → ByteArray) (out : Int → Bool) (from_ : ByteArray) (k : Nat) (x : NdD) (t m : Nat) : visK V out from_ k x t (m + 1) = visK V out from_ k x t m ++ visP V out from_ k (rdN V out (kidN x (t + m))) := by
  unfold visK
  rw [List.range'_concat, List.flatMap_append]
  simp
theorem visP_leaf {V : Int → ByteArray} {out : Int → Bool} {from_ : ByteArray} {k : Nat} {x : NdD × Bool} (h : x.2 = true ∨ x.1.level = 1) : visP V out from_ (k + 1) x = [x] := by
  conv => lhs; unfold visP
  rw [if_pos h]
theorem visP_bad {V : Int → ByteArray} {out : Int → Bool} {from_ : ByteArray} {k : Nat} {x : NdD} : visP V out from_ k (x, true) = [(x, true)] := by
  cases k with
  | zero => rfl
  | succ k => exact visP_leaf (.inl rfl)
theorem visP_node {V : Int → ByteArray} {out : Int → Bool} {from_ : ByteArray} {k : Nat} {x : NdD} (h : x.level ≠ 1) : visP V out from_ (k + 1) (x, false) = (x, false) :: visK V out from_ k x (towP from_ x.L) (x.L.length - towP from_ x.L) := by
  conv => lhs; unfold visP
  rw [if_neg (by simp [h])]
  rfl
theorem towP_le (k : ByteArray) (L : List Pr) : towP k L ≤ L.length := by
  have := posP_le k L
  unfold towP
  split <;> omega
end Go.Proofs.YtkdhlofcdcnjgaaGreat
namespace Go.Proofs.YtkdhlofcdcnjgaaGreat
set_option maxRecDepth 100000
open Go.ChangeShapes Go.WideShapes Go.ChangeAt Go.RowKit Go.PlainAid

/-- The records of the pages that were gone through. -/
def recsP : List (NdD × Bool) → List Pr
  | [] => []
  | x :: l => (if x.1.level = 1 then x.1.L else []) ++ recsP l
theorem recsP_append (l m : List (NdD × Bool)) : recsP (l ++ m) = recsP l ++ recsP m := by
  induction l with
  | nil => rfl
  | cons x l ih => simp [recsP, ih]
/-- The page with records that the way to a key leads to. -/
def leafP (V : Int → ByteArray) (out : Int → Bool) (key : ByteArray) : Nat → NdD → Option NdD
  | 0, _ => none
  | k + 1, x => if x.level = 1 then some x else match rdN V out (kidN x (towP key x.L)) with
    | (_, true) => none
    | (y, false) => leafP V out key k y
/-- Which page below has a key, by the keys around it. -/
theorem towP_eq {k : ByteArray} {L : List Pr} (hs : Srt L) {j : Nat} {p : Pr} (hp : L[j]? = some p) (h1 : lessB k p.key = false) (h2 : ∀ q, L[j + 1]? = some q → lessB k q.key = true) : towP k L = j := by
  have hj := (List.getElem?_eq_some_iff.1 hp).1
  by_cases e : p.key = k
  · obtain ⟨a, b⟩ := hitP_of hs hp e
    unfold towP
    rw [if_neg (by rw [b]; simp), a]
  · have hlt : lessB p.key k = true := by
      cases h : lessB p.key k with
      | true => rfl
      | false => exact absurd (lessB_total h h1) e
    have hpos : posP k L = j + 1 := posP_eq (by omega) (fun i q hi hq => by
      rcases Nat.lt_or_eq_of_le (Nat.le_of_lt_succ hi) with c | c
      · exact lessB_trans (hs _ _ _ _ c hq hp) hlt
      · subst c
        rw [hp] at hq
        cases hq
        exact hlt) (fun q hq => lessB_asymm (h2 q hq))
    have hno : hitP k L = false := by
      rw [Bool.eq_false_iff]
      intro h
      obtain ⟨q, hq, hk⟩ := hitP_some h
      rw [hpos] at hq
      have := h2 q hq
      rw [hk, lessB_irrefl] at this
      cases this
    unfold towP
    rw [if_pos ⟨hno, by omega⟩, hpos]
    omega
/-- From the empty key on, all pages below are gone through. -/
theorem towP_empty (L : List Pr) : towP ⟨#[]⟩ L = 0 := by
  have h : posP ⟨#[]⟩ L = 0 := posP_eq (Nat.zero_le _) (fun j p hj _ => by omega) (fun p _ => lessB_empty _)
  unfold towP
  rw [h]
  split <;> rfl
/-- A record as it may be put. -/
structure RecOk (low high : ByteArray) (p : Pr) : Prop where
  key : p.key.size ≠ 0
  small : p.key.size ≤ 32
  val : p.val.size ≤ 80
  low : lessB p.key low = false
  high : high.size = 0 ∨ lessB p.key high = true
theorem not_empty_of_less {a b : ByteArray} (h : lessB a b = true) : b.size ≠ 0 := fun e => by
  rw [size_zero e, lessB_empty] at h
  cases h
/-- Records by rising keys, of one list behind another. -/
theorem srt_append {L M : List Pr} (h1 : Srt L) (h2 : Srt M) (h3 : ∀ p ∈ L, ∀ q ∈ M, lessB p.key q.key = true) : Srt (L ++ M) := by
  intro i j p q hij hp hq
  by_cases c : j < L.length
  · rw [List.getElem?_append_left c] at hq
    rw [List.getElem?_append_left (by omega)] at hp
    exact h1 i j p q hij hp hq
  · rw [List.getElem?_append_right (by omega)] at hq
    by_cases d : i < L.length
    · rw [List.getElem?_append_left d] at hp
      exact h3 p (List.mem_of_getElem? hp) q (List.mem_of_getElem? hq)
    · rw [List.getElem?_append_right (by omega)] at hp
      exact h2 _ _ p q (by omega) hp hq
theorem srt_nil : Srt [] := fun i j p q _ hp => by simp at hp
section
variable {V : Int → ByteArray} {out : Int → Bool}
theorem rdN_of {x y : NdD} (h : rdN V out x = (y, false)) : y.at_ = x.at_ ∧ y.low = x.low ∧ y.high = x.high ∧ (x.level = 0 ∨ x.level = y.level) ∧ Lawful y.level y.low y.high y.L := by
  unfold rdN at h
  cases e : rdP V out x with
  | none =>
    rw [e] at h
    simp only [Prod.mk.injEq, Bool.true_eq_false, and_false] at h
  | some r =>
    obtain ⟨l, L⟩ := r
    rw [e] at h
    simp only [Prod.mk.injEq, and_true] at h
    subst h
    obtain ⟨_, _, _, h4, h5⟩ := rdP_some e
    exact ⟨rfl, rfl, rfl, h4, h5⟩
theorem kidN_at {x : NdD} {j : Nat} {p : Pr} (hp : x.L[j]? = some p) : (kidN x j).level = x.level - 1 ∧ (kidN x j).low = p.key ∧ (kidN x j).high = (match x.L[j + 1]? with | some q => q.key | none => x.high) := by
  unfold kidN
  rw [hp]
  exact ⟨rfl, rfl, rfl⟩
/-- What is said of a page whose pages below are all in order. -/
structure Fine (V : Int → ByteArray) (out : Int → Bool) (k : Nat) (x : NdD) (l : List Pr) : Prop where
  srt : Srt l
  recs : ∀ p ∈ l, RecOk x.low x.high p
  way : ∀ p ∈ l, ∃ y, leafP V out p.key k x = some y ∧ p ∈ y.L ∧ Srt y.L
theorem fine_visP : ∀ (k : Nat) (x : NdD), Lawful x.level x.low x.high x.L → x.level ≤ k → (∀ y ∈ visP V out ⟨#[]⟩ k (x, false), y.2 = false) → Fine V out k x (recsP (visP V out ⟨#[]⟩ k (x, false)))
  | 0, x, hl, hk, _ => by
    have := hl.pos
    omega
  | k + 1, x, hl, hk, hall => by
    by_cases h1 : x.level = 1
    · rw [visP_leaf (.inr h1)]
      have e : recsP [(x, false)] = x.L := by
        show (if x.level = 1 then x.L else []) ++ recsP [] = x.L
        rw [if_pos h1]
        simp [recsP]
      rw [e]
      have hr := recB_iff.1 (hl.recs h1)
      have hs := risB_srt hl.rise
      refine ⟨hs, fun p hp => ?_, fun p hp => ⟨x, ?_, hp, hs⟩⟩
      · obtain ⟨i, hp2⟩ := List.mem_iff_getElem?.1 hp
        have hk2 := risB_key hl.rise hp2
        exact ⟨(hr.1 p hp).1, hk2.small, (hr.1 p hp).2, hk2.low, hk2.high⟩
      · unfold leafP
        rw [if_pos h1]
    · rw [visP_node h1, towP_empty, Nat.sub_zero] at hall ⊢
      have hs := risB_srt hl.rise
      obtain ⟨hv2, hlen, p0, hp0, hp0k⟩ := lnkB_iff.1 (hl.links h1)
      have hlv := hl.pos
      have e0 : recsP ((x, false) :: visK V out ⟨#[]⟩ k x 0 x.L.length) = recsP (visK V out ⟨#[]⟩ k x 0 x.L.length) := by
        show (if x.level = 1 then x.L else []) ++ _ = _
        rw [if_neg h1]
        rfl
      rw [e0]
      have hallK : ∀ y ∈ visK V out ⟨#[]⟩ k x 0 x.L.length, y.2 = false := fun y hy => hall y (List.mem_cons_of_mem _ hy)
      -- the first m pages below
      have step : ∀ m, m ≤ x.L.length → Srt (recsP (visK V out ⟨#[]⟩ k x 0 m)) ∧
          ∀ p ∈ recsP (visK V out ⟨#[]⟩ k x 0 m), RecOk x.low x.high p ∧ (∀ q, x.L[m]? = some q → lessB p.key q.key = true) ∧ ∃ y, leafP V out p.key (k + 1) x = some y ∧ p ∈ y.L ∧ Srt y.L := by
        intro m
        induction m with
        | zero =>
          intro _
          rw [visK_zero]
          exact ⟨srt_nil, fun p hp => by cases hp⟩
        | succ m ih =>
          intro hm
          obtain ⟨ih1, ih2⟩ := ih (by omega)
          obtain ⟨p, hp⟩ : ∃ p, x.L[m]? = some p := ⟨_, List.getElem?_eq_getElem (by omega)⟩
          have hpk := risB_key hl.rise hp
          obtain ⟨k1, k2, k3⟩ := kidN_at hp
          have hsub : ∀ y ∈ visP V out ⟨#[]⟩ k (rdN V out (kidN x m)), y.2 = false := fun y hy => hallK y (by
            unfold visK
            rw [List.mem_flatMap]
            exact ⟨m, List.mem_range'.2 ⟨m, by omega, by omega⟩, hy⟩)
          obtain ⟨⟨y, b⟩, hy⟩ : ∃ r, rdN V out (kidN x m) = r := ⟨_, rfl⟩
          rw [hy] at hsub
          cases b with
          | true =>
            rw [visP_bad] at hsub
            have := hsub _ List.mem_cons_self
            cases this
          | false =>
            obtain ⟨y1, y2, y3, y4, y5⟩ := rdN_of hy
            have hyl : y.level = x.level - 1 := by
              rcases y4 with h | h
              · rw [k1] at h
                omega
              · rw [← h, k1]
            have hF := fine_visP k y y5 (by omega) hsub
            rw [visK_succ, Nat.zero_add, hy, recsP_append]
            have hyhigh : ∀ r, RecOk y.low y.high r → (x.high.size = 0 ∨ lessB r.key x.high = true) ∧ ∀ q, x.L[m + 1]? = some q → lessB r.key q.key = true := fun r hr => by
              have h5 := hr.high
              rw [y3, k3] at h5
              cases e : x.L[m + 1]? with
              | none =>
                rw [e] at h5
                exact ⟨h5, fun q hq => by cases hq⟩
              | some q =>
                rw [e] at h5
                have hqk := risB_key hl.rise e
                have hne := not_empty_of_less (hs m (m + 1) p q (by omega) hp e)
                have h6 : lessB r.key q.key = true := h5.resolve_left hne
                refine ⟨hqk.high.imp id fun h => lessB_trans h6 h, fun q' hq' => ?_⟩
                cases hq'
                exact h6
            refine ⟨srt_append ih1 hF.srt fun a ha b hb => ?_, fun r hr => ?_⟩
            · have h1 := (ih2 a ha).2.1 p hp
              have h2 := (hF.recs b hb).low
              rw [y2, k2] at h2
              exact lessB_lt_le h1 h2
            · rcases List.mem_append.1 hr with hr | hr
              · obtain ⟨a1, a2, a3⟩ := ih2 r hr
                refine ⟨a1, fun q hq => ?_, a3⟩
                exact lessB_trans (a2 p hp) (hs m (m + 1) p q (by omega) hp hq)
              · have hro := hF.recs r hr
                obtain ⟨b1, b2⟩ := hyhigh r hro
                have hlow : lessB r.key p.key = false := by
                  have := hro.low
                  rwa [y2, k2] at this
                refine ⟨⟨hro.key, hro.small, hro.val, ?_, b1⟩, b2, ?_⟩
                · rw [Bool.eq_false_iff]
                  intro h
                  have := lessB_le_trans hlow h
                  rw [hpk.low] at this
                  cases this
                · obtain ⟨z, hz, hz2⟩ := hF.way r hr
                  refine ⟨z, ?_, hz2⟩
                  unfold leafP
                  rw [if_neg h1, towP_eq hs hp hlow b2, hy]
                  exact hz
      obtain ⟨s1, s2⟩ := step x.L.length (Nat.le_refl _)
      exact ⟨s1, fun p hp => (s2 p hp).1, fun p hp => (s2 p hp).2.2⟩
end
end Go.Proofs.YtkdhlofcdcnjgaaGreat
namespace Go.Proofs.YtkdhlofcdcnjgaaGreat
set_option maxRecDepth 100000
open Go.ChangeShapes Go.WideShapes Go.ChangeAt Go.RowKit Go.PlainAid
open Go.Sort (grow)

/-- A row of pairs in memory, from an address on. -/
def RdP (w : World) (sl : Option Addr) (L : List Pr) : Prop := L = [] ∨ ∃ g o, sl = some ⟨g, o, none⟩ ∧ g < w.heap.size ∧ ∀ (i : Nat) (p : Pr), L[i]? = some p →
  w.cell? ⟨g, o + i * 2, none⟩ = some (.string p.key) ∧ w.cell? ⟨g, o + i * 2 + 1, none⟩ = some (.string p.val)
theorem RdP.on {w w' : World} {sl : Option Addr} {L : List Pr} (h : RdP w sl L) (hb : Below w.heap.size w w') : RdP w' sl L := by
  rcases h with rfl | ⟨g, o, h1, h2, h3⟩
  · exact .inl rfl
  · refine .inr ⟨g, o, h1, Nat.lt_of_lt_of_le h2 hb.size, fun i p hp => ?_⟩
    obtain ⟨a, b⟩ := h3 i p hp
    exact ⟨(hb.cell (p := ⟨g, _, none⟩) h2).trans a, (hb.cell (p := ⟨g, _, none⟩) h2).trans b⟩
theorem RdP.at {w : World} {sl : Option Addr} {L : List Pr} (h : RdP w sl L) {i : Nat} {p : Pr} (hp : L[i]? = some p) : ∃ g o, sl = some ⟨g, o, none⟩ ∧ g < w.heap.size ∧ w.cell? ⟨g, o + i * 2, none⟩ = some (.string p.key) ∧ w.cell? ⟨g, o + i * 2 + 1, none⟩ = some (.string p.val) := by
  rcases h with rfl | ⟨g, o, h1, h2, h3⟩
  · cases hp
  · exact ⟨g, o, h1, h2, h3 i p hp⟩
/-- A page as it lies in memory. -/
structure NdM where
  at_ : Int
  level : Int
  low : ByteArray
  high : ByteArray
  L : List Pr
  sl : Option Addr
  c : Nat
  next : Int
def NdM.cells (x : NdM) : Array Value := #[.int .i64 x.at_, .int .i64 x.level, .string x.low, .string x.high, .slice x.sl x.L.length x.c, .int .i64 x.next]
structure NdIs (w : World) (b o : Nat) (x : NdM) : Prop where
  lt : b < w.heap.size
  at_ : w.cell? ⟨b, o, none⟩ = some (.int .i64 x.at_)
  level : w.cell? ⟨b, o + 1, none⟩ = some (.int .i64 x.level)
  low : w.cell? ⟨b, o + 2, none⟩ = some (.string x.low)
  high : w.cell? ⟨b, o + 3, none⟩ = some (.string x.high)
  list : w.cell? ⟨b, o + 4, none⟩ = some (.slice x.sl x.L.length x.c)
  next : w.cell? ⟨b, o + 5, none⟩ = some (.int .i64 x.next)
  rd : RdP w x.sl x.L
  small : x.L.length ≤ 4096
/-- What of it no memory knows. -/
def NdM.D (x : NdM) : NdD := ⟨x.at_, x.level, x.low, x.high, x.L⟩
theorem NdIs.on {w w' : World} {b o : Nat} {x : NdM} (h : NdIs w b o x) (hb : Below w.heap.size w w') : NdIs w' b o x :=
  ⟨Nat.lt_of_lt_of_le h.lt hb.size, (hb.cell (p := ⟨b, _, none⟩) h.lt).trans h.at_, (hb.cell (p := ⟨b, _, none⟩) h.lt).trans h.level, (hb.cell (p := ⟨b, _, none⟩) h.lt).trans h.low, (hb.cell (p := ⟨b, _, none⟩) h.lt).trans h.high, (hb.cell (p := ⟨b, _, none⟩) h.lt).trans h.list, (hb.cell (p := ⟨b, _, none⟩) h.lt).trans h.next, h.rd.on hb, h.small⟩

set_option maxHeartbeats 1000000 in
theorem compareString_any (a b : ByteArray) (w : World) :
    Calls Tryz.prog 122 #[.string a, .string b] w fun e w' => e = .returned (.int .i64 (cmpB a b)) ∧ w = w' := by
  go_enter Tryz.func122, Tryz.ntmps122
  go_wp2
  rw [run_callFunc_extern Tryz.func150 (by kernel_rfl) (by kernel_rfl) (by kernel_rfl) (e := Extern.BytealgCompare.compare) (by kernel_rfl), Lib.run_compareString]
  simp only [Result.andThen]
  rw [Oper.upon_value]
  go_wp2
  go_ret
  exact ⟨rfl, rfl⟩
set_option maxHeartbeats 1000000 in
theorem compare_any (a b : ByteArray) (w : World) :
    Calls Tryz.prog 80 #[.string a, .string b] w fun e w' => e = .returned (.int .i64 (cmpB a b)) ∧ w = w' := by
  go_enter Tryz.func80, Tryz.ntmps80
  go_wp2_with fail
  refine (compareString_any _ _ _).mono ?_
  rintro e _ ⟨rfl, rfl⟩
  go_wp2
  go_ret
  exact ⟨rfl, rfl⟩
set_option maxHeartbeats 1000000 in
theorem find1_any (k v a : ByteArray) (w : World) :
    Calls Tryz.prog 79 #[.agg #[.string k, .string v], .string a] w fun e w' => e = .returned (.int .i64 (cmpB k a)) ∧ Below w.heap.size w w' := by
  have hb0 : Below w.heap.size w (w.alloc (.cells #[.string k, .string v] 47)) := by go_grown
  have HB := Lib.hid hb0
  clear hb0
  go_enter Tryz.func79, Tryz.ntmps79
  go_wp2_with fail
  refine (compare_any _ _ _).mono ?_
  rintro e _ ⟨rfl, rfl⟩
  go_wp2
  go_returns
  exact ⟨rfl, HB.out⟩
theorem half_nat (a b : Nat) : ((a : Int) + b) / 2 = (((a + b) / 2 : Nat) : Int) := by omega
set_option maxHeartbeats 2000000 in
theorem search_any {w : World} {sl : Option Addr} {L : List Pr} (c : Nat) (k : ByteArray) (h : RdP w sl L) (hs : Srt L) (hl : L.length ≤ 4096) :
    Calls Tryz.prog 78 #[.slice sl L.length c, .string k, .func (.func 79) #[] #[]] w fun e w' =>
      e = .returned (.tuple #[.int .i64 (posP k L), .bool (hitP k L)]) ∧ Below w.heap.size w w' := by
  have H := Lib.hid h
  have HS := Lib.hid hs
  clear h hs
  go_enter Tryz.func78, Tryz.ntmps78
  go_wp2
  go_loopw [9, 10] (fun i j wr => ∃ lo hi : Nat, lo ≤ hi ∧ hi ≤ L.length ∧ i = .int .i64 lo ∧ j = .int .i64 hi ∧ Hid (∀ (t : Nat) (p : Pr), t < lo → L[t]? = some p → lessB p.key k = true) ∧ Hid (∀ (t : Nat) (p : Pr), hi ≤ t → L[t]? = some p → lessB p.key k = false) ∧ Below w.heap.size w wr) (fun i j _ => (intOf j - intOf i).toNat)
  case atStart => exact ⟨0, L.length, Nat.zero_le _, Nat.le_refl _, rfl, rfl, Lib.hid (fun t p h _ => by omega), Lib.hid (fun t p h hp => by have := (List.getElem?_eq_some_iff.1 hp).1; omega), Below.refl _ _⟩
  case round =>
    obtain ⟨lo, hi, hlh, hhl, rfl, rfl, H1, H2, hb⟩ := hrel
    have HB := Lib.hid hb
    have HR := Lib.hid (H.out.on hb)
    clear hb H
    by_cases hlt : lo < hi
    · have hmid := half_nat lo hi
      obtain ⟨m, hm⟩ : ∃ m, (lo + hi) / 2 = m := ⟨_, rfl⟩
      rw [hm] at hmid
      have hm1 : lo ≤ m := by omega
      have hm2 : m < hi := by omega
      have hml : m < L.length := by omega
      obtain ⟨p, hp⟩ : ∃ p, L[m]? = some p := ⟨_, List.getElem?_eq_getElem hml⟩
      obtain ⟨g, o, rfl, hg, c1, c2⟩ := HR.out.at hp
      have HP := Lib.hid hp
      have HM := Lib.hid hm
      clear hp hm
      have hcm := cmpB_lt p.key k
      cases hq : lessB p.key k with
      | true =>
        rw [hq] at hcm
        have HQ := Lib.hid hq
        clear hq
        go_wp2_with fail
        refine (find1_any _ _ _ _).mono ?_
        rintro e w2 ⟨rfl, hb2⟩
        have HB2 := Lib.hid (HB.out.on hb2)
        clear hb2
        go_wp2
        go_roundw
        case rel => exact ⟨m + 1, hi, by omega, hhl, by go_num, rfl, Lib.hid (fun t q ht hq2 => by
          rcases Nat.lt_or_eq_of_le (Nat.le_of_lt_succ ht) with c | c
          · cases e : lessB q.key k with
            | true => rfl
            | false =>
              have h3 := HS.out t m q p c hq2 HP.out
              rw [lessB_trans h3 HQ.out] at e
              cases e
          · subst c
            rw [HP.out] at hq2
            cases hq2
            exact HQ.out), H2, HB2.out⟩
        case measure => simp [intOf]; omega
      | false =>
        rw [hq] at hcm
        have HQ := Lib.hid hq
        clear hq
        go_wp2_with fail
        refine (find1_any _ _ _ _).mono ?_
        rintro e w2 ⟨rfl, hb2⟩
        have HB2 := Lib.hid (HB.out.on hb2)
        clear hb2
        go_wp2
        go_roundw
        case rel => exact ⟨lo, m, hm1, by omega, rfl, rfl, H1, Lib.hid (fun t q ht hq2 => by
          rcases Nat.lt_or_eq_of_le ht with c | c
          · cases e : lessB q.key k with
            | false => rfl
            | true =>
              have h3 := HS.out m t p q c HP.out hq2
              have := lessB_trans h3 e
              rw [HQ.out] at this
              cases this
          · subst c
            rw [HP.out] at hq2
            cases hq2
            exact HQ.out), HB2.out⟩
        case measure => simp [intOf]; omega
    · have HX : Hid (posP k L = lo) := Lib.hid (posP_eq (by omega) (fun j p hj hp => H1.out j p hj hp) (fun p hp => H2.out lo p (by omega) hp))
      by_cases hin : lo < L.length
      · obtain ⟨p, hp⟩ : ∃ p, L[lo]? = some p := ⟨_, List.getElem?_eq_getElem hin⟩
        obtain ⟨g, o, rfl, hg, c1, c2⟩ := HR.out.at hp
        have HT : Hid (hitP k L = decide (cmpB p.key k = 0)) := by
          refine Lib.hid ?_
          unfold hitP
          rw [HX.out, hp]
        clear hp
        go_wp2_with fail
        refine (find1_any _ _ _ _).mono ?_
        rintro e w2 ⟨rfl, hb2⟩
        have HB2 := Lib.hid (HB.out.on hb2)
        clear hb2
        go_wp2
        go_returns
        rw [HX.out, HT.out]
        exact ⟨rfl, HB2.out⟩
      · have HT : Hid (hitP k L = false) := by
          refine Lib.hid ?_
          unfold hitP
          rw [HX.out, List.getElem?_eq_none (by omega)]
        go_wp2
        go_returns
        rw [HX.out, HT.out]
        exact ⟨rfl, HB.out⟩
end Go.Proofs.YtkdhlofcdcnjgaaGreat
namespace Go.Proofs.YtkdhlofcdcnjgaaGreat
set_option maxRecDepth 100000
open Go.ChangeShapes Go.WideShapes Go.ChangeAt Go.RowKit Go.PlainAid
open Go.Sort (grow)

set_option maxHeartbeats 1000000 in
theorem find_any {w : World} {b o : Nat} {x : NdM} (k : ByteArray) (h : NdIs w b o x) (hs : Srt x.L) :
    Calls Tryz.prog 39 #[.pointer (some ⟨b, o, none⟩), .string k] w fun e w' => e = .returned (.tuple #[.int .i64 (posP k x.L), .bool (hitP k x.L)]) ∧ Below w.heap.size w w' := by
  have HS := Lib.hid (search_any x.c k h.rd hs h.small)
  have c4 := h.list
  clear h hs
  go_enter Tryz.func39, Tryz.ntmps39
  go_wp2_with fail
  refine HS.out.mono ?_
  rintro e w1 ⟨rfl, hb⟩
  have HB := Lib.hid hb
  clear hb HS
  go_wp2
  go_returns
  exact ⟨rfl, HB.out⟩
set_option maxHeartbeats 1000000 in
theorem toward_any {w : World} {b o : Nat} {x : NdM} (k : ByteArray) (h : NdIs w b o x) (hs : Srt x.L) :
    Calls Tryz.prog 58 #[.pointer (some ⟨b, o, none⟩), .string k] w fun e w' => e = .returned (.int .i64 (towP k x.L)) ∧ Below w.heap.size w w' := by
  have HF := Lib.hid (find_any k h hs)
  have hle := posP_le k x.L
  have hsm := h.small
  clear h hs
  go_enter Tryz.func58, Tryz.ntmps58
  go_wp2_with fail
  refine HF.out.mono ?_
  rintro e w1 ⟨rfl, hb⟩
  have HB := Lib.hid hb
  clear hb HF
  cases hh : hitP k x.L with
  | true =>
    have HT : Hid (towP k x.L = posP k x.L) := by
      refine Lib.hid ?_
      unfold towP
      rw [if_neg (by rw [hh]; simp)]
    clear hh
    go_wp2
    go_returns
    rw [HT.out]
    exact ⟨rfl, HB.out⟩
  | false =>
    by_cases h0 : 0 < posP k x.L
    · have HT : Hid ((towP k x.L : Int) = (posP k x.L : Int) - 1) := by
        refine Lib.hid ?_
        unfold towP
        rw [if_pos ⟨hh, h0⟩]
        omega
      clear hh
      go_wp2
      go_returns
      rw [HT.out]
      exact ⟨rfl, HB.out⟩
    · have HT : Hid (towP k x.L = posP k x.L) := by
        refine Lib.hid ?_
        unfold towP
        rw [if_neg (fun c => h0 c.2)]
      clear hh
      go_wp2
      go_returns
      rw [HT.out]
      exact ⟨rfl, HB.out⟩
set_option maxHeartbeats 1000000 in
theorem size_any {w : World} {b o : Nat} {x : NdM} (p : Pr) (h : NdIs w b o x) (h1 : p.key.size ≤ 65536) (h2 : p.val.size ≤ 65536) :
    Calls Tryz.prog 114 #[.pointer (some ⟨b, o, none⟩), .agg #[.string p.key, .string p.val]] w fun e w' => e = .returned (.int .i64 (szP x.level p)) ∧ Below w.heap.size w w' := by
  have hb0 : Below w.heap.size w (w.alloc (.cells #[.string p.key, .string p.val] 47)) := by go_grown
  have HB := Lib.hid hb0
  have c1 := (h.on hb0).level
  clear hb0
  by_cases hl : 1 < x.level
  · have HT : Hid ((szP x.level p : Int) = 36) := by
      refine Lib.hid ?_
      unfold szP
      rw [if_pos hl]
      rfl
    go_enter Tryz.func114, Tryz.ntmps114
    go_wp2
    go_returns
    rw [HT.out]
    exact ⟨rfl, HB.out⟩
  · have HT : Hid ((szP x.level p : Int) = 2 + (p.key.size : Int) + p.val.size) := by
      refine Lib.hid ?_
      unfold szP
      rw [if_neg hl]
      omega
    go_enter Tryz.func114, Tryz.ntmps114
    go_wp2
    go_returns
    rw [HT.out]
    exact ⟨rfl, HB.out⟩
/-- Texts that are no longer than memory is. -/
def Mod (L : List Pr) : Prop := ∀ p ∈ L, p.key.size ≤ 65536 ∧ p.val.size ≤ 65536
theorem szP_le (level : Int) {p : Pr} (h : p.key.size ≤ 65536 ∧ p.val.size ≤ 65536) : szP level p ≤ 131074 := by
  unfold szP
  split <;> omega
theorem wtP_le (level : Int) {L : List Pr} (h : Mod L) : wtP level L ≤ L.length * 131074 := by
  induction L with
  | nil => exact Nat.zero_le _
  | cons p t ih =>
    have h1 := szP_le level (h p List.mem_cons_self)
    have h2 := ih fun q hq => h q (List.mem_cons_of_mem _ hq)
    unfold wtP at *
    rw [List.map_cons, List.sum_cons, List.length_cons, Nat.succ_mul]
    omega
theorem mod_take {L : List Pr} (h : Mod L) (k : Nat) : Mod (L.take k) := fun p hp => h p (List.mem_of_mem_take hp)
set_option maxHeartbeats 2000000 in
theorem weight_any {w : World} {b o : Nat} {x : NdM} (h : NdIs w b o x) (hm : Mod x.L) :
    Calls Tryz.prog 66 #[.pointer (some ⟨b, o, none⟩)] w fun e w' => e = .returned (.int .i64 (wtP x.level x.L)) ∧ Below w.heap.size w w' := by
  have c4 := h.list
  have hsm := h.small
  have H := Lib.hid h
  have HM := Lib.hid hm
  clear h hm
  go_enter Tryz.func66, Tryz.ntmps66
  go_wp2
  go_loopw [3, 11] (fun s i wr => ∃ k : Nat, k ≤ x.L.length ∧ s = .int .i64 (wtP x.level (x.L.take k)) ∧ i = .int .i64 k ∧ Below w.heap.size w wr) (fun _ i _ => x.L.length - (intOf i).toNat)
  case atStart => exact ⟨0, Nat.zero_le _, rfl, rfl, Below.refl _ _⟩
  case round =>
    obtain ⟨k, hk, rfl, rfl, hb⟩ := hrel
    have HB := Lib.hid hb
    have HN := Lib.hid (H.out.on hb)
    clear hb H c4
    by_cases hlt : k < x.L.length
    · obtain ⟨p, hp⟩ : ∃ p, x.L[k]? = some p := ⟨_, List.getElem?_eq_getElem hlt⟩
      obtain ⟨g, o', hsl, hg, c1, c2⟩ := HN.out.rd.at hp
      have HW := Lib.hid (wtP_take (level := x.level) hp)
      have hw1 := wtP_le x.level (mod_take HM.out k)
      have hpm := HM.out p (List.mem_of_getElem? hp)
      have hw2 := szP_le x.level hpm
      have hlen : (x.L.take k).length ≤ k := List.length_take_le _ _
      clear hp
      have hb1 : Below wr.heap.size wr (wr.alloc (.cells #[.string p.key, .string p.val] 47)) := by go_grown
      have HS := Lib.hid (size_any p (HN.out.on hb1) hpm.1 hpm.2)
      have HB1 := Lib.hid (HB.out.on hb1)
      clear hb1
      have h1 : wtP x.level (x.L.take k) ≤ 600000000 := by
        have := Nat.mul_le_mul_right 131074 hlen
        omega
      clear hw1 hlen
      generalize wtP x.level (x.L.take k) = W at *
      generalize x.sl = sl at *
      subst hsl
      go_wp2_with fail
      refine HS.out.mono ?_
      rintro e w2 ⟨rfl, hb2⟩
      have HB2 := Lib.hid (HB1.out.on hb2)
      clear hb2
      go_wp2
      go_roundw
      case rel => exact ⟨k + 1, by omega, by rw [HW.out]; go_num, by go_num, HB2.out⟩
      case measure => simp [intOf]; omega
    · obtain rfl : k = x.L.length := by omega
      have HW := Lib.hid (wtP_all x.level x.L)
      generalize wtP x.level (x.L.take x.L.length) = W at *
      go_wp2
      go_returns
      exact ⟨by rw [HW.out]; rfl, HB.out⟩
end Go.Proofs.YtkdhlofcdcnjgaaGreat
namespace Go.Proofs.YtkdhlofcdcnjgaaGreat
set_option maxRecDepth 100000
open Go.ChangeShapes Go.WideShapes Go.ChangeAt Go.RowKit Go.PlainAid
open Go.Sort (grow)

theorem below_drewN (w : World) (n : Nat) : Below w.heap.size w (w.drewN n) := ⟨rfl, rfl, rfl, Nat.le_refl _, fun _ _ => rfl⟩
theorem text_zero {a : ByteArray} (h : ¬ a.size = 0) : (a.toList == []) = false := by
  rw [ByteArray.toList_eq]
  apply beq_eq_false_iff_ne.2
  intro e
  apply h
  have : a.data.size = 0 := by rw [← Array.length_toList, e]; rfl
  exact this
theorem text_empty {a : ByteArray} (h : a.size = 0) : (a.toList == []) = true := by
  rw [size_zero h, ByteArray.toList_eq]
  rfl
set_option maxHeartbeats 2000000 in
theorem records_any {w : World} {b o : Nat} {x : NdM} (h : NdIs w b o x) :
    Calls Tryz.prog 148 #[.pointer (some ⟨b, o, none⟩)] w fun e w' => e = .returned (.bool (recB x.L)) ∧ Below w.heap.size w w' := by
  have c4 := h.list
  have hsm := h.small
  have H := Lib.hid h
  clear h
  go_enter Tryz.func148, Tryz.ntmps148
  go_wp2
  go_loopw [10] (fun i wr => ∃ k : Nat, k ≤ x.L.length ∧ i = .int .i64 k ∧ Hid (∀ (j : Nat) (p : Pr), j < k → x.L[j]? = some p → p.key.size ≠ 0 ∧ p.val.size ≤ 80) ∧ Below w.heap.size w wr) (fun i _ => x.L.length - (intOf i).toNat)
  case atStart => exact ⟨0, Nat.zero_le _, rfl, Lib.hid (fun j p h _ => by omega), Below.refl _ _⟩
  case round =>
    obtain ⟨k, hk, rfl, HI, hb⟩ := hrel
    have HB := Lib.hid hb
    have HN := Lib.hid (H.out.on hb)
    clear hb H c4
    by_cases hlt : k < x.L.length
    · obtain ⟨p, hp⟩ : ∃ p, x.L[k]? = some p := ⟨_, List.getElem?_eq_getElem hlt⟩
      obtain ⟨g, o', hsl, hg, c1, c2⟩ := HN.out.rd.at hp
      have HP := Lib.hid hp
      clear hp
      have hb1 : Below wr.heap.size wr (wr.alloc (.cells #[.string p.key, .string p.val] 47)) := by go_grown
      have HB1 := Lib.hid (HB.out.on hb1)
      clear hb1
      generalize x.sl = sl at *
      subst hsl
      have HNO : Hid (¬ (p.key.size ≠ 0 ∧ p.val.size ≤ 80) → recB x.L = false) := Lib.hid fun hn => by
        rw [Bool.eq_false_iff]
        intro hr
        exact hn ((recB_iff.1 hr).1 p (List.mem_of_getElem? HP.out))
      by_cases hz : p.key.size = 0
      · have hq := text_empty hz
        have HNO := Lib.hid (HNO.out fun c => c.1 hz)
        clear hz
        go_wp2
        go_returns
        rw [HNO.out]
        exact ⟨rfl, HB1.out⟩
      · have hq := text_zero hz
        by_cases hv : p.val.size ≤ 80
        · have hv1 : decide ((80 : Int) < p.val.size) = false := decide_eq_false (by omega)
          have HK := Lib.hid (And.intro hz hv)
          clear hz hv
          go_wp2
          go_roundw
          case rel => exact ⟨k + 1, by omega, by go_num, Lib.hid (fun j q hj hq => by
            rcases Nat.lt_or_eq_of_le (Nat.le_of_lt_succ hj) with c | c
            · exact HI.out j q c hq
            · subst c
              rw [HP.out] at hq
              cases hq
              exact HK.out), HB1.out⟩
          case measure => simp [intOf]; omega
        · have hv1 : decide ((80 : Int) < p.val.size) = true := decide_eq_true (by omega)
          have HNO := Lib.hid (HNO.out fun c => hv c.2)
          clear hz hv
          go_wp2
          go_returns
          rw [HNO.out]
          exact ⟨rfl, HB1.out⟩
    · obtain rfl : k = x.L.length := by omega
      have HR : Hid (recB x.L = decide (0 < x.L.length)) := by
        refine Lib.hid ?_
        by_cases h0 : 0 < x.L.length
        · rw [decide_eq_true h0]
          refine recB_iff.2 ⟨fun p hp => ?_, h0⟩
          obtain ⟨j, hj⟩ := List.mem_iff_getElem?.1 hp
          exact HI.out j p (List.getElem?_eq_some_iff.1 hj).1 hj
        · rw [decide_eq_false h0, Bool.eq_false_iff]
          intro c
          exact h0 (recB_iff.1 c).2
      have c4 := HN.out.list
      clear hk
      go_wp2
      go_returns
      exact ⟨by rw [HR.out]; rfl, HB.out⟩
set_option maxHeartbeats 2000000 in
theorem links_any {w : World} {b o : Nat} {x : NdM} (h : NdIs w b o x) :
    Calls Tryz.prog 149 #[.pointer (some ⟨b, o, none⟩)] w fun e w' => e = .returned (.bool (lnkB x.low x.L)) ∧ Below w.heap.size w w' := by
  have c4 := h.list
  have hsm := h.small
  have H := Lib.hid h
  clear h
  go_enter Tryz.func149, Tryz.ntmps149
  go_wp2
  go_loopw [10] (fun i wr => ∃ k : Nat, k ≤ x.L.length ∧ i = .int .i64 k ∧ Hid (∀ (j : Nat) (p : Pr), j < k → x.L[j]? = some p → p.val.size = 2) ∧ Below w.heap.size w wr) (fun i _ => x.L.length - (intOf i).toNat)
  case atStart => exact ⟨0, Nat.zero_le _, rfl, Lib.hid (fun j p h _ => by omega), Below.refl _ _⟩
  case round =>
    obtain ⟨k, hk, rfl, HI, hb⟩ := hrel
    have HB := Lib.hid hb
    have HN := Lib.hid (H.out.on hb)
    clear hb H c4
    by_cases hlt : k < x.L.length
    · obtain ⟨p, hp⟩ : ∃ p, x.L[k]? = some p := ⟨_, List.getElem?_eq_getElem hlt⟩
      obtain ⟨g, o', hsl, hg, c1, c2⟩ := HN.out.rd.at hp
      have HP := Lib.hid hp
      clear hp
      have hb1 : Below wr.heap.size wr (wr.alloc (.cells #[.string p.key, .string p.val] 47)) := by go_grown
      have HB1 := Lib.hid (HB.out.on hb1)
      clear hb1
      generalize x.sl = sl at *
      subst hsl
      by_cases hv : p.val.size = 2
      · have hv1 : ((p.val.size : Int) != 2) = false := by rw [hv]; rfl
        have HK := Lib.hid hv
        clear hv
        go_wp2
        go_roundw
        case rel => exact ⟨k + 1, by omega, by go_num, Lib.hid (fun j q hj hq => by
          rcases Nat.lt_or_eq_of_le (Nat.le_of_lt_succ hj) with c | c
          · exact HI.out j q c hq
          · subst c
            rw [HP.out] at hq
            cases hq
            exact HK.out), HB1.out⟩
        case measure => simp [intOf]; omega
      · have hv1 : ((p.val.size : Int) != 2) = true := by simp; omega
        have HNO : Hid (lnkB x.low x.L = false) := Lib.hid (by
          rw [Bool.eq_false_iff]
          intro hr
          exact hv ((lnkB_iff.1 hr).1 p (List.mem_of_getElem? HP.out)))
        clear hv
        go_wp2
        go_returns
        rw [HNO.out]
        exact ⟨rfl, HB1.out⟩
    · obtain rfl : k = x.L.length := by omega
      have c4 := HN.out.list
      have c2 := HN.out.low
      by_cases h1 : 1 < x.L.length
      · obtain ⟨p, hp⟩ : ∃ p, x.L[0]? = some p := ⟨_, List.getElem?_eq_getElem (by omega)⟩
        obtain ⟨g, o', hsl, hg, c1, c3⟩ := HN.out.rd.at hp
        rw [Nat.zero_mul, Nat.add_zero] at c1
        have HR : Hid (lnkB x.low x.L = (p.key.toList == x.low.toList)) := by
          refine Lib.hid ?_
          by_cases e : p.key = x.low
          · rw [e, beq_self_eq_true]
            exact lnkB_iff.2 ⟨fun q hq => by
              obtain ⟨j, hj⟩ := List.mem_iff_getElem?.1 hq
              exact HI.out j q (List.getElem?_eq_some_iff.1 hj).1 hj, h1, p, hp, e⟩
          · rw [beq_eq_false_iff_ne.2 (fun c => e (text_eq c)), Bool.eq_false_iff]
            intro c
            obtain ⟨_, _, q, hq, hk⟩ := lnkB_iff.1 c
            rw [hp] at hq
            cases hq
            exact e hk
        have hd1 : decide ((1 : Int) < x.L.length) = true := decide_eq_true (by omega)
        have hd2 : decide (1 < x.L.length) = true := decide_eq_true h1
        have h0 : 0 < x.L.length := by omega
        clear hp hk c3
        generalize x.sl = sl at *
        subst hsl
        go_wp2
        go_quiet (fail)
        go_wp2
        go_returns
        exact ⟨by rw [HR.out]; rfl, HB.out.on (below_drewN _ nq)⟩
      · have hd2 : decide (1 < x.L.length) = false := decide_eq_false h1
        have hd1 : decide ((1 : Int) < x.L.length) = false := decide_eq_false (by omega)
        have HR : Hid (lnkB x.low x.L = false) := by
          refine Lib.hid ?_
          rw [Bool.eq_false_iff]
          intro c
          exact h1 (lnkB_iff.1 c).2.1
        clear hk
        go_wp2
        go_quiet (fail)
        go_wp2
        go_returns
        exact ⟨by rw [HR.out]; rfl, HB.out.on (below_drewN _ nq)⟩
theorem less_of {a b : ByteArray} {v : Bool} (h : lessB a b = v) : Op.bytesLess a.toList b.toList = v := h
set_option maxHeartbeats 4000000 in
theorem rising_any {w : World} {b o : Nat} {x : NdM} (h : NdIs w b o x) :
    Calls Tryz.prog 147 #[.pointer (some ⟨b, o, none⟩)] w fun e w' => e = .returned (.bool (risB x.low x.high x.L)) ∧ Below w.heap.size w w' := by
  have c4 := h.list
  have hsm := h.small
  have H := Lib.hid h
  clear h
  go_enter Tryz.func147, Tryz.ntmps147
  go_wp2
  go_loopw [10] (fun i wr => ∃ k : Nat, k ≤ x.L.length ∧ i = .int .i64 k ∧ Hid (∀ (j : Nat), j < k → okAt x.low x.high x.L j = true) ∧ Below w.heap.size w wr) (fun i _ => x.L.length - (intOf i).toNat)
  case atStart => exact ⟨0, Nat.zero_le _, rfl, Lib.hid (fun j h => by omega), Below.refl _ _⟩
  case round =>
    obtain ⟨k, hk, rfl, HI, hb⟩ := hrel
    have HB := Lib.hid hb
    have HN := Lib.hid (H.out.on hb)
    clear hb H c4
    by_cases hlt : k < x.L.length
    · obtain ⟨p, hp⟩ : ∃ p, x.L[k]? = some p := ⟨_, List.getElem?_eq_getElem hlt⟩
      obtain ⟨q, hq⟩ : ∃ q, x.L[k - 1]? = some q := ⟨_, List.getElem?_eq_getElem (by omega)⟩
      obtain ⟨g, o', hsl, hg, c1, c2⟩ := HN.out.rd.at hp
      obtain ⟨g2, o2, hsl2, hg2, d1, d2⟩ := HN.out.rd.at hq
      rw [hsl] at hsl2
      cases hsl2
      have HPA := Lib.hid (okAt_parts (low := x.low) (high := x.high) hp)
      have HQ := Lib.hid hq
      clear hp hq d2
      have hb1 : Below wr.heap.size wr (wr.alloc (.cells #[.string p.key, .string p.val] 47)) := by go_grown
      have HB1 := Lib.hid (HB.out.on hb1)
      have e2 := (HN.out.on hb1).low
      have e3 := (HN.out.on hb1).high
      have e4 := (HN.out.on hb1).list
      have e5 := (hb1.cell (p := ⟨g, o' + (k - 1) * 2, none⟩) hg).trans d1
      clear hb1 d1
      rw [hsl] at e4
      generalize x.sl = sl at *
      subst hsl
      have HNO : Hid (¬ (KeyOk x.low x.high p ∧ (k = 0 ∨ ∃ q, x.L[k - 1]? = some q ∧ lessB q.key p.key = true)) → risB x.low x.high x.L = false) := Lib.hid fun hn => by
        refine risB_no hlt ?_
        rw [Bool.eq_false_iff]
        exact fun c => hn (HPA.out.1 c)
      by_cases h1 : p.key.size ≤ 32
      · have f1 : decide ((32 : Int) < p.key.size) = false := decide_eq_false (by omega)
        cases h2 : lessB p.key x.low with
        | true =>
          have f2 := less_of h2
          have HNO := Lib.hid (HNO.out fun c => by have := c.1.low; rw [h2] at this; cases this)
          clear h2
          go_wp2_with fail
          go_quiet (fail)
          go_wp2
          go_returns
          exact ⟨by rw [HNO.out]; rfl, HB1.out.on (below_drewN _ nq)⟩
        | false =>
          have f2 := less_of h2
          by_cases h3 : x.high.size = 0
          · have f3 := text_empty h3
            by_cases hk0 : k = 0
            · have f7 : decide (0 < k) = false := decide_eq_false (by omega)
              have f8 : decide ((0 : Int) < (k : Int)) = false := decide_eq_false (by omega)
              have HY := Lib.hid (HPA.out.2 ⟨⟨h1, h2, .inl h3⟩, .inl hk0⟩)
              clear h1 h2 h3 hk0
              go_wp2_with fail
              go_quiet (fail)
              go_wp2_with fail
              go_quiet (fail)
              go_wp2_with fail
              go_quiet (fail)
              go_wp2
              go_roundw
              case rel => exact ⟨k + 1, by omega, by go_num, Lib.hid (fun j hj => by
                rcases Nat.lt_or_eq_of_le (Nat.le_of_lt_succ hj) with c | c
                · exact HI.out j c
                · subst c; exact HY.out), HB1.out.on ⟨rfl, rfl, rfl, Nat.le_refl _, fun _ _ => rfl⟩⟩
              case measure => simp [intOf]; omega
            · have f7 : decide (0 < k) = true := decide_eq_true (by omega)
              have f8 : decide ((0 : Int) < (k : Int)) = true := decide_eq_true (by omega)
              have f9 : ((k : Int) - 1).toNat = k - 1 := by omega
              have f10 : IntKind.i64.wrap ((k : Int) - 1) = (k : Int) - 1 := IntWalk.i64_in _ (by omega)
              have f11 : (0 : Int) ≤ (k : Int) - 1 := by omega
              have f12 : ((k : Int) - 1) < x.L.length := by omega
              cases h4 : lessB q.key p.key with
              | true =>
                have f5 := less_of (lessB_asymm h4)
                have f6 : (p.key.toList == q.key.toList) = false := beq_eq_false_iff_ne.2 fun c => by rw [text_eq c, lessB_irrefl] at h4; cases h4
                have HY := Lib.hid (HPA.out.2 ⟨⟨h1, h2, .inl h3⟩, .inr ⟨q, HQ.out, h4⟩⟩)
                clear h1 h2 h3 h4 hk0
                go_wp2_with fail
                go_quiet (fail)
                go_wp2_with fail
                go_quiet (fail)
                go_wp2_with fail
                go_quiet (fail)
                clear f9 f10 f11 f12
                go_wp2
                go_roundw
                case rel => exact ⟨k + 1, by omega, by go_num, Lib.hid (fun j hj => by
                  rcases Nat.lt_or_eq_of_le (Nat.le_of_lt_succ hj) with c | c
                  · exact HI.out j c
                  · subst c; exact HY.out), HB1.out.on ⟨rfl, rfl, rfl, Nat.le_refl _, fun _ _ => rfl⟩⟩
                case measure => simp [intOf]; omega
              | false =>
                have f5 : (Op.bytesLess p.key.toList q.key.toList || p.key.toList == q.key.toList) = true := by
                  cases e : lessB p.key q.key with
                  | true => rw [less_of e]; rfl
                  | false => rw [lessB_total e h4, beq_self_eq_true, Bool.or_true]
                have HNO := Lib.hid (HNO.out fun c => by
                  rcases c.2 with e | ⟨r, hr, hl⟩
                  · exact hk0 e
                  · rw [HQ.out] at hr; cases hr; rw [h4] at hl; cases hl)
                clear h1 h2 h3 h4 hk0
                go_wp2_with fail
                go_quiet (fail)
                go_wp2_with fail
                go_quiet (fail)
                go_wp2_with fail
                go_quiet (fail)
                clear f9 f10 f11 f12
                go_wp2
                go_returns
                exact ⟨by rw [HNO.out]; rfl, HB1.out.on ⟨rfl, rfl, rfl, Nat.le_refl _, fun _ _ => rfl⟩⟩
          · have f3 := text_zero h3
            cases h5 : lessB p.key x.high with
            | true =>
              have f4 := less_of h5
              by_cases hk0 : k = 0
              · have f7 : decide (0 < k) = false := decide_eq_false (by omega)
                have f8 : decide ((0 : Int) < (k : Int)) = false := decide_eq_false (by omega)
                have HY := Lib.hid (HPA.out.2 ⟨⟨h1, h2, .inr h5⟩, .inl hk0⟩)
                clear h1 h2 h3 hk0
                go_wp2_with fail
                go_quiet (fail)
                go_wp2_with fail
                go_quiet (fail)
                go_wp2_with fail
                go_quiet (fail)
                go_wp2
                go_roundw
                case rel => exact ⟨k + 1, by omega, by go_num, Lib.hid (fun j hj => by
                  rcases Nat.lt_or_eq_of_le (Nat.le_of_lt_succ hj) with c | c
                  · exact HI.out j c
                  · subst c; exact HY.out), HB1.out.on ⟨rfl, rfl, rfl, Nat.le_refl _, fun _ _ => rfl⟩⟩
                case measure => simp [intOf]; omega
              · have f7 : decide (0 < k) = true := decide_eq_true (by omega)
                have f8 : decide ((0 : Int) < (k : Int)) = true := decide_eq_true (by omega)
                have f9 : ((k : Int) - 1).toNat = k - 1 := by omega
                have f10 : IntKind.i64.wrap ((k : Int) - 1) = (k : Int) - 1 := IntWalk.i64_in _ (by omega)
                have f11 : (0 : Int) ≤ (k : Int) - 1 := by omega
                have f12 : ((k : Int) - 1) < x.L.length := by omega
                cases h4 : lessB q.key p.key with
                | true =>
                  have f5 := less_of (lessB_asymm h4)
                  have f6 : (p.key.toList == q.key.toList) = false := beq_eq_false_iff_ne.2 fun c => by rw [text_eq c, lessB_irrefl] at h4; cases h4
                  have HY := Lib.hid (HPA.out.2 ⟨⟨h1, h2, .inr h5⟩, .inr ⟨q, HQ.out, h4⟩⟩)
                  clear h1 h2 h3 h4 hk0
                  go_wp2_with fail
                  go_quiet (fail)
                  go_wp2_with fail
                  go_quiet (fail)
                  go_wp2_with fail
                  go_quiet (fail)
                  clear f9 f10 f11 f12
                  go_wp2
                  go_roundw
                  case rel => exact ⟨k + 1, by omega, by go_num, Lib.hid (fun j hj => by
                    rcases Nat.lt_or_eq_of_le (Nat.le_of_lt_succ hj) with c | c
                    · exact HI.out j c
                    · subst c; exact HY.out), HB1.out.on ⟨rfl, rfl, rfl, Nat.le_refl _, fun _ _ => rfl⟩⟩
                  case measure => simp [intOf]; omega
                | false =>
                  have f5 : (Op.bytesLess p.key.toList q.key.toList || p.key.toList == q.key.toList) = true := by
                    cases e : lessB p.key q.key with
                    | true => rw [less_of e]; rfl
                    | false => rw [lessB_total e h4, beq_self_eq_true, Bool.or_true]
                  have HNO := Lib.hid (HNO.out fun c => by
                    rcases c.2 with e | ⟨r, hr, hl⟩
                    · exact hk0 e
                    · rw [HQ.out] at hr; cases hr; rw [h4] at hl; cases hl)
                  clear h1 h2 h3 h4 hk0
                  go_wp2_with fail
                  go_quiet (fail)
                  go_wp2_with fail
                  go_quiet (fail)
                  go_wp2_with fail
                  go_quiet (fail)
                  clear f9 f10 f11 f12
                  go_wp2
                  go_returns
                  exact ⟨by rw [HNO.out]; rfl, HB1.out.on ⟨rfl, rfl, rfl, Nat.le_refl _, fun _ _ => rfl⟩⟩
            | false =>
              have f4 := less_of h5
              have HNO := Lib.hid (HNO.out fun c => by
                rcases c.1.high with e | e
                · exact h3 e
                · rw [h5] at e; cases e)
              clear h1 h2 h3 h5
              go_wp2_with fail
              go_quiet (fail)
              go_wp2_with fail
              go_quiet (fail)
              go_wp2
              go_returns
              exact ⟨by rw [HNO.out]; rfl, HB1.out.on ⟨rfl, rfl, rfl, Nat.le_refl _, fun _ _ => rfl⟩⟩
      · have f1 : decide ((32 : Int) < p.key.size) = true := decide_eq_true (by omega)
        have HNO := Lib.hid (HNO.out fun c => h1 c.1.small)
        clear h1
        go_wp2
        go_returns
        exact ⟨by rw [HNO.out]; rfl, HB1.out⟩
    · obtain rfl : k = x.L.length := by omega
      have HR : Hid (risB x.low x.high x.L = true) := Lib.hid (risB_yes HI.out)
      go_wp2
      go_returns
      exact ⟨by rw [HR.out]; rfl, HB.out⟩
set_option maxHeartbeats 2000000 in
theorem lawful_any {w : World} {b o : Nat} {x : NdM} (h : NdIs w b o x) (hm : Mod x.L) :
    Calls Tryz.prog 121 #[.pointer (some ⟨b, o, none⟩)] w fun e w' => e = .returned (.bool (lawB x.level x.low x.high x.L)) ∧ Below w.heap.size w w' := by
  have c1 := h.level
  have hwl := wtP_le x.level hm
  have hsm := h.small
  have H := Lib.hid h
  have HW := Lib.hid (weight_any h hm)
  clear h hm
  by_cases h1 : x.level < 1
  · have HR : Hid (lawB x.level x.low x.high x.L = false) := by
      refine Lib.hid ?_
      rw [Bool.eq_false_iff]
      intro c
      have := (lawB_iff.1 c).pos
      omega
    have f1 : decide (x.level < 1) = true := decide_eq_true h1
    clear h1
    go_enter Tryz.func121, Tryz.ntmps121
    go_wp2
    go_returns
    exact ⟨by rw [HR.out]; rfl, Below.refl _ _⟩
  · have f1 : decide (x.level < 1) = false := decide_eq_false h1
    go_enter Tryz.func121, Tryz.ntmps121
    go_wp2_with fail
    refine HW.out.mono ?_
    rintro e w1 ⟨rfl, hb⟩
    have HB := Lib.hid hb
    have HN := Lib.hid (H.out.on hb)
    have HRI := Lib.hid (rising_any (H.out.on hb))
    clear hb HW H c1
    by_cases h2 : wtP x.level x.L ≤ 254
    · have f2 : decide ((254 : Int) < (wtP x.level x.L : Int)) = false := decide_eq_false (by omega)
      have f3 : decide (254 < wtP x.level x.L) = false := decide_eq_false (by omega)
      cases hr : risB x.low x.high x.L with
      | true =>
        rw [hr] at HRI
        go_wp2_with fail
        refine HRI.out.mono ?_
        rintro e w2 ⟨rfl, hb2⟩
        have HB2 := Lib.hid (HB.out.on hb2)
        have HN2 := Lib.hid (HN.out.on hb2)
        have c1 := (HN.out.on hb2).level
        clear hb2 HRI HB HN
        by_cases h3 : x.level = 1
        · have HRE := Lib.hid (records_any HN2.out)
          have HL : Hid (lawB x.level x.low x.high x.L = recB x.L) := by
            refine Lib.hid ?_
            unfold lawB
            rw [decide_eq_true (by omega), decide_eq_true h2, hr, if_pos h3]
            rfl
          have f4 : (x.level == 1) = true := by simpa using h3
          clear h1 h2 h3 hr
          go_wp2_with fail
          refine HRE.out.mono ?_
          rintro e w3 ⟨rfl, hb3⟩
          have HB3 := Lib.hid (HB2.out.on hb3)
          clear hb3
          go_wp2
          go_returns
          exact ⟨by rw [HL.out]; rfl, HB3.out⟩
        · have HRE := Lib.hid (links_any HN2.out)
          have HL : Hid (lawB x.level x.low x.high x.L = lnkB x.low x.L) := by
            refine Lib.hid ?_
            unfold lawB
            rw [decide_eq_true (by omega), decide_eq_true h2, hr, if_neg h3]
            rfl
          have f4 : (x.level == 1) = false := by simpa using h3
          clear h1 h2 h3 hr
          go_wp2_with fail
          refine HRE.out.mono ?_
          rintro e w3 ⟨rfl, hb3⟩
          have HB3 := Lib.hid (HB2.out.on hb3)
          clear hb3
          go_wp2
          go_returns
          exact ⟨by rw [HL.out]; rfl, HB3.out⟩
      | false =>
        rw [hr] at HRI
        have HL : Hid (lawB x.level x.low x.high x.L = false) := by
          refine Lib.hid ?_
          rw [Bool.eq_false_iff]
          intro c
          have := (lawB_iff.1 c).rise
          rw [hr] at this
          cases this
        clear h1 h2 hr
        go_wp2_with fail
        refine HRI.out.mono ?_
        rintro e w2 ⟨rfl, hb2⟩
        have HB2 := Lib.hid (HB.out.on hb2)
        clear hb2
        go_wp2
        go_returns
        exact ⟨by rw [HL.out]; rfl, HB2.out⟩
    · have f2 : decide ((254 : Int) < (wtP x.level x.L : Int)) = true := decide_eq_true (by omega)
      have f3 : decide (254 < wtP x.level x.L) = true := decide_eq_true (by omega)
      have HL : Hid (lawB x.level x.low x.high x.L = false) := by
        refine Lib.hid ?_
        rw [Bool.eq_false_iff]
        intro c
        have := (lawB_iff.1 c).weight
        omega
      clear h1 h2
      go_wp2
      go_returns
      exact ⟨by rw [HL.out]; rfl, HB.out⟩
end Go.Proofs.YtkdhlofcdcnjgaaGreat
namespace Go.Proofs.YtkdhlofcdcnjgaaGreat
set_option maxRecDepth 100000
open Go.ChangeShapes Go.WideShapes Go.ChangeAt Go.RowKit Go.PlainAid
open Go.Sort (grow)

/-- The cells of a row of pairs. -/
def flatP (L : List Pr) : List Value := L.flatMap fun p => [.string p.key, .string p.val]
theorem flatP_len (L : List Pr) : (flatP L).length = L.length * 2 := by
  induction L with
  | nil => rfl
  | cons p t ih =>
    have e : flatP (p :: t) = .string p.key :: .string p.val :: flatP t := rfl
    rw [e, List.length_cons, List.length_cons, List.length_cons, ih]
    omega
theorem flatP_app (A B : List Pr) : flatP (A ++ B) = flatP A ++ flatP B := List.flatMap_append
theorem flatP_at : ∀ (L : List Pr) (i : Nat) (p : Pr), L[i]? = some p → (flatP L)[i * 2]? = some (.string p.key) ∧ (flatP L)[i * 2 + 1]? = some (.string p.val)
  | [], i, p, h => by cases h
  | q :: t, 0, p, h => by
    cases h
    exact ⟨rfl, rfl⟩
  | q :: t, i + 1, p, h => by
    have := flatP_at t i p (by simpa using h)
    have e : flatP (q :: t) = .string q.key :: .string q.val :: flatP t := rfl
    rw [e, show (i + 1) * 2 = i * 2 + 1 + 1 by omega]
    exact this
theorem flatP_one (L : List Pr) : ∀ u ∈ flatP L, u.oneCell' = true := by
  intro u hu
  obtain ⟨p, _, hp⟩ := List.mem_flatMap.1 hu
  simp only [List.mem_cons, List.not_mem_nil, or_false] at hp
  rcases hp with rfl | rfl <;> rfl
/-- What lies where a row of pairs is. -/
def rowO (L : List Pr) : Obj := .cells (flatP L).toArray 47 (0, 0)
theorem rdP_of {w : World} {g : Nat} {L : List Pr} (h : w.heap[g]? = some (rowO L)) : RdP w (some ⟨g, 0, none⟩) L := by
  refine .inr ⟨g, 0, rfl, (Array.getElem?_eq_some_iff.1 h).1, fun i p hp => ?_⟩
  obtain ⟨a, b⟩ := flatP_at L i p hp
  unfold rowO at h
  constructor
  · rw [cell_of_row _ _ _ _ _ _ h, Nat.zero_add]
    simpa using a
  · rw [cell_of_row _ _ _ _ _ _ h, Nat.zero_add]
    simpa using b
theorem info_pair : (Tryz.prog.info? 47).map (fun i => (i.zero, i.size, i.bytes)) = some (some (.agg #[.string ⟨#[]⟩, .string ⟨#[]⟩]), 2, 32) := by kernel_rfl
theorem make_pairs (w : World) (c : Nat) (hc : c ≤ 65536) : ∃ w', (Instr.makeSlice 39 (.int .i64 0) (.int .i64 (c : Int))).run Tryz.prog w = .ok (.slice (some ⟨w.heap.size, 0, none⟩) 0 c) w' ∧
    w'.ownsRow w.heap.size 47 2 (.slice (some ⟨w.heap.size, 0, none⟩) 0 c) 0 [] ∧ Below w.heap.size w w' := by
  obtain ⟨i, h1, h2, h3, h4⟩ := info_parts info_pair
  obtain ⟨w', a, b, c⟩ := run_make_own (P := Tryz.prog) w w.heap.size 39 47 i _ 2 Tryz.underlying39 h1 h2 h3 .i64 .i64 c (by rw [h4]; omega) (by unfold maxLen; omega) (Nat.le_refl _)
  exact ⟨w', a, b, ⟨c.os, c.tape, c.output, c.size, fun k hk => c.block k hk (by simp)⟩⟩
section
variable {P : Program} (w : World)
/-- An append to a row that has room, at a step of a region that draws its order. -/
theorem step_append_spare {ops : Array Oper} {o : Oper} {a : Act} {K : Act → World → Prop} {Q : Exit → Act → World → Prop} {E : Prop} (hgd : o.guard = none) (s x : Operand) (t : TypeId)
    (ho : o.op = .call { callee := .builtin .append, args := #[s, x], argTypes := #[t, t] })
    (base : Nat) (e : TypeId) (i : TypeInfo) (size : Nat) (ht : P.underlying t = some (.slice e)) (hi : P.info? e = some i) (hsize : i.size = size)
    (g n cap : Nat) (xs : List Value) (hs : a.eval s = .slice (some ⟨g, 0, none⟩) n cap) (hown : w.ownsRow base e size (.slice (some ⟨g, 0, none⟩) n cap) n xs)
    (ad : Addr) (m c : Nat) (news : List Value) (hx : a.eval x = .slice (some ad) m c) (hl : news.length = m * size) (hnews : ∀ j u, news[j]? = some u → w.cell? (ad.add j) = some u) (h1 : ∀ u ∈ news, u.oneCell' = true)
    (hroom : n + m ≤ cap)
    (h : ∀ w', w'.ownsRow base e size (.slice (some ⟨g, 0, none⟩) (n + m) cap) (n + m) (xs ++ news) → w.grownBy w' (some g) → K (a.put o.dst (.slice (some ⟨g, 0, none⟩) (n + m) cap)) w') :
    if Region.wanted o (yielded ops a.tmps) = true then Oper.wp P o a w K Q else E := by
  have hw : Region.wanted o (yielded ops a.tmps) = true := by simp [Region.wanted, hgd]
  rw [if_pos hw]
  exact wp_append_own_spare w s x t ho base e i size ht hi hsize g n cap xs hs hown ad m c news hx hl hnews h1 hroom h
end
/-- A page's pairs are what was asked for. -/
def UnpOk (w : World) (s : ByteArray) (L : List Pr) (e : Ending) (w' : World) : Prop := ∃ g, e = .returned (.tuple #[.int .i64 (bt s 0), .slice (some ⟨g, 0, none⟩) L.length L.length, .bool true]) ∧ w.heap.size ≤ g ∧ w'.heap[g]? = some (rowO L) ∧ Below w.heap.size w w'
theorem unpL_step {k : Nat} {d : ByteArray} {a b : Nat} (ha : bt d 0 = (a : Int)) (hb : bt d 1 = (b : Int)) (h1 : 2 ≤ d.size) (h2 : 2 + a + b ≤ d.size) :
    unpL (k + 1) d = (unpL k (d.extract (2 + a + b) d.size)).map (⟨d.extract 2 (2 + a), d.extract (2 + a) (2 + a + b)⟩ :: ·) := by
  conv => lhs; unfold unpL
  rw [if_neg (by omega), ha, hb, if_neg (by omega)]
  rw [show (2 + (a : Int) + b).toNat = 2 + a + b by omega, show (2 + (a : Int)).toNat = 2 + a by omega]
theorem unpL_short {k : Nat} {d : ByteArray} (h : d.size < 2) : unpL (k + 1) d = none := by
  conv => lhs; unfold unpL
  rw [if_pos h]
theorem unpL_less {k : Nat} {d : ByteArray} {a b : Nat} (ha : bt d 0 = (a : Int)) (hb : bt d 1 = (b : Int)) (h2 : d.size < 2 + a + b) : unpL (k + 1) d = none := by
  by_cases h : d.size < 2
  · exact unpL_short h
  · conv => lhs; unfold unpL
    rw [if_neg h, ha, hb, if_pos (by omega)]
theorem bt_nat (s : ByteArray) (k : Nat) : ∃ a : Nat, bt s k = (a : Int) ∧ a ≤ 255 := by
  have h1 := bt_nonneg s k
  have h2 := bt_le s k
  exact ⟨(bt s k).toNat, by omega, by omega⟩
set_option maxHeartbeats 4000000 in
theorem unpack_any (s : ByteArray) (w : World) (hs : 2 ≤ s.size) (hs2 : s.size ≤ 4096) :
    Calls Tryz.prog 120 #[.string s] w fun e w' => (∃ L, unpP s = some L ∧ UnpOk w s L e w') ∨ (unpP s = none ∧ e = .returned (.tuple #[.int .i64 0, .slice none 0 0, .bool false]) ∧ Below w.heap.size w w') := by
  obtain ⟨lv, hlv, hlv2⟩ := bt_nat s 0
  obtain ⟨c, hc, hc2⟩ := bt_nat s 1
  have HU : Hid (unpP s = unpL c (s.extract 2 s.size)) := by
    refine Lib.hid ?_
    unfold unpP
    rw [hc]
    rfl
  have gb := get_bt s
  have HLV := Lib.hid hlv
  go_enter Tryz.func120, Tryz.ntmps120
  go_wp2_with fail
  go_quiet (fail)
  obtain ⟨w1, hmk, hrow, hb1⟩ := make_pairs (w.drewN nq) c (by omega)
  have HR := Lib.hid hrow
  have HB := Lib.hid (Below.trans (below_drewN w nq) hb1)
  clear hrow hb1
  go_wp2_with fail
  rw [World.heap_drewN] at HR
  have HG := Lib.hid hmk
  clear hmk gb hc
  go_loopw [0, 7, 21] (fun d l i wr => ∃ (k : Nat) (D : ByteArray) (A : List Pr), k ≤ c ∧ A.length = k ∧ D.size ≤ 4096 ∧ d = .string D ∧ l = .slice (some ⟨w.heap.size, 0, none⟩) k c ∧ i = .int .i64 k ∧ Hid (unpP s = (unpL (c - k) D).map (A ++ ·)) ∧
    Hid (wr.ownsRow w.heap.size 47 2 (.slice (some ⟨w.heap.size, 0, none⟩) k c) k (flatP A)) ∧ Below w.heap.size w wr) (fun _ _ i _ => c - (intOf i).toNat)
  case atStart => exact ⟨0, s.extract 2 s.size, [], Nat.zero_le _, rfl, by rw [ByteArray.size_extract]; omega, rfl, rfl, rfl, Lib.hid (by
    rw [HU.out, Nat.sub_zero]
    cases unpL c (s.extract 2 s.size) <;> rfl), HR, HB.out⟩
  case round =>
    obtain ⟨k, D, A, hk, hA, hD, rfl, rfl, rfl, HI, HRk, hbk⟩ := hrel
    have HBk := Lib.hid hbk
    have HA := Lib.hid hA
    clear hbk hA HR HB
    by_cases hlt : k < c
    · obtain ⟨a, ha, ha2⟩ := bt_nat D 0
      obtain ⟨b, hb, hb2⟩ := bt_nat D 1
      have gd := get_bt D
      have hck : c - k = (c - (k + 1)) + 1 := by omega
      by_cases h2 : 2 ≤ D.size
      · have f1 : decide ((D.size : Int) < 2) = false := decide_eq_false (by omega)
        by_cases h3 : 2 + a + b ≤ D.size
        · have f2 : decide ((D.size : Int) < 2 + (a : Int) + b) = false := decide_eq_false (by omega)
          have HI2 : Hid (unpP s = (unpL (c - (k + 1)) (D.extract (2 + a + b) D.size)).map ((A ++ [⟨D.extract 2 (2 + a), D.extract (2 + a) (2 + a + b)⟩]) ++ ·)) := by
            refine Lib.hid ?_
            rw [HI.out, hck, unpL_step ha hb h2 h3, Option.map_map]
            congr 1
            funext x
            simp
          have hs1 : ∀ w, (Instr.slice 9 (.string D) (some (.int .i64 2)) (some (.int .i64 (2 + (a : Int)))) none).run Tryz.prog w = .ok (.string (D.extract 2 (2 + a))) w := fun w => by
            rw [run_slice_string w 9 D .i64 .i64 2 (2 + (a : Int)) Tryz.underlying9 (by omega) (by omega) (by omega)]
            rw [show (2 + (a : Int)).toNat = 2 + a by omega]
            rfl
          have hs2 : ∀ w, (Instr.slice 9 (.string D) (some (.int .i64 (2 + (a : Int)))) (some (.int .i64 (2 + (a : Int) + b))) none).run Tryz.prog w = .ok (.string (D.extract (2 + a) (2 + a + b))) w := fun w => by
            rw [run_slice_string w 9 D .i64 .i64 (2 + (a : Int)) (2 + (a : Int) + b) Tryz.underlying9 (by omega) (by omega) (by omega)]
            rw [show (2 + (a : Int)).toNat = 2 + a by omega, show (2 + (a : Int) + b).toNat = 2 + a + b by omega]
          have hs3 : ∀ w, (Instr.slice 9 (.string D) (some (.int .i64 (2 + (a : Int) + b))) none none).run Tryz.prog w = .ok (.string (D.extract (2 + a + b) D.size)) w := fun w => by
            rw [run_slice_string_from_if w 9 D .i64 (2 + (a : Int) + b) Tryz.underlying9, if_pos (by omega), show (2 + (a : Int) + b).toNat = 2 + a + b by omega]
          have hsz : (D.extract (2 + a + b) D.size).size ≤ 4096 := by rw [ByteArray.size_extract]; omega
          generalize D.extract (2 + a + b) D.size = D2 at *
          generalize D.extract 2 (2 + a) = K2 at *
          generalize D.extract (2 + a) (2 + a + b) = V2 at *
          obtain ⟨i0, hi, hz0, hz1, hz2⟩ := info_parts info_pair
          have HINF := Lib.hid (And.intro hi hz1)
          clear hi hz0 hz1 hz2 hck
          go_wp2_with fail
          go_region_law (refine step_append_spare _ rfl (.tmp 39) (.tmp 48) 39 rfl w.heap.size 47 i0 2 Tryz.underlying39 HINF.out.1 HINF.out.2 w.heap.size k c _ rfl (World.ownsRow.alloc HRk.out _) _ 1 1 [.string K2, .string V2] rfl rfl (World.news_of_block (heap_alloc_new _ _)) (flatP_one [⟨K2, V2⟩]) (by omega) ?_; intro w3 hown hgrow; have HO3 := Lib.hid hown; have HG3 := Lib.hid hgrow; clear hown hgrow)
          all_goals
            have HB3 : Hid (Below w.heap.size w w3) := Lib.hid ((HBk.out.on (by go_grown)).grown HG3.out (by have := HBk.out.size; simp; omega) (fun _ e => by cases e; exact Nat.le_refl _))
            clear HG3
            go_wp2
            go_roundw
            case rel => exact ⟨k + 1, D2, A ++ [⟨K2, V2⟩], by omega, by rw [List.length_append, HA.out]; rfl, hsz, rfl, rfl, by go_num, HI2, Lib.hid (by rw [flatP_app]; exact HO3.out), HB3.out⟩
            case measure => simp [intOf]; omega
        · have f2 : decide ((D.size : Int) < 2 + (a : Int) + b) = true := decide_eq_true (by omega)
          have HN : Hid (unpP s = none) := by
            refine Lib.hid ?_
            rw [HI.out, hck, unpL_less ha hb (by omega)]
            rfl
          clear hck
          go_wp2
          go_returns
          exact .inr ⟨HN.out, rfl, HBk.out⟩
      · have f1 : decide ((D.size : Int) < 2) = true := decide_eq_true (by omega)
        have HN : Hid (unpP s = none) := by
          refine Lib.hid ?_
          rw [HI.out, hck, unpL_short (by omega)]
          rfl
        clear hck ha hb gd
        go_wp2
        go_returns
        exact .inr ⟨HN.out, rfl, HBk.out⟩
    · obtain rfl : k = c := by omega
      have HN : Hid (unpP s = some A) := by
        refine Lib.hid ?_
        rw [HI.out, Nat.sub_self]
        show some (A ++ []) = some A
        rw [List.append_nil]
      have HY : Hid (wr.heap[w.heap.size]? = some (rowO A)) := by
        refine Lib.hid ?_
        obtain ⟨_, h⟩ := HRk.out
        rcases h with ⟨e, _⟩ | ⟨g, cap, cur, e, _, hg, _, _, hcs, ht⟩
        · cases e
        · cases e
          rw [hg]
          unfold rowO
          have : cur.toList = flatP A := by
            rw [← ht, List.take_of_length_le (by rw [Array.length_toList, hcs]; exact Nat.le_refl _)]
          rw [← this]
      clear hk
      go_wp2
      go_returns
      refine .inl ⟨A, HN.out, w.heap.size, ?_, Nat.le_refl _, HY.out, HBk.out⟩
      rw [HLV.out, HA.out]
      rfl
end Go.Proofs.YtkdhlofcdcnjgaaGreat
namespace Go.Proofs.YtkdhlofcdcnjgaaGreat
set_option maxRecDepth 100000
open Go.ChangeShapes Go.WideShapes Go.ChangeAt Go.RowKit Go.PlainAid
open Go.Sort (grow)

theorem or_num (a b : Nat) (ha : a ≤ 255) (hb : b ≤ 255) : bits .or .i64 (a : Int) ((b : Int) * 256) = (a : Int) + b * 256 := by
  have hx : a < 2 ^ 8 := by omega
  rw [show ((b : Int) * 256) = ((2 ^ 8 * b : Nat) : Int) by omega]
  show IntKind.i64.wrap ((BitVec.ofInt 64 (a : Int) ||| BitVec.ofInt 64 ((2 ^ 8 * b : Nat) : Int)).toNat : Int) = _
  rw [BitVec.toNat_or, BitVec.ofInt_natCast, BitVec.ofInt_natCast, BitVec.toNat_ofNat, BitVec.toNat_ofNat, Nat.mod_eq_of_lt (by omega), Nat.mod_eq_of_lt (by omega), Nat.or_comm, ← Nat.two_pow_add_eq_or_of_lt hx b]
  rw [IntWalk.i64_in _ (by omega)]
  omega
set_option maxHeartbeats 1000000 in
theorem unnumber_any (s : ByteArray) (w : World) (hs : s.size = 2) :
    Calls Tryz.prog 103 #[.string s] w fun e w' => e = .returned (.int .i64 (numP s)) ∧ ∃ q, w.drewN q = w' := by
  obtain ⟨a, ha, ha2⟩ := bt_nat s 0
  obtain ⟨b, hb, hb2⟩ := bt_nat s 1
  have gb := get_bt s
  have HN : Hid (numP s = (a : Int) + b * 256) := by
    refine Lib.hid ?_
    unfold numP
    rw [ha, hb]
  go_enter Tryz.func103, Tryz.ntmps103
  go_wp2
  go_quiet (fail)
  go_wp2
  go_returns
  rw [HN.out]
  exact ⟨ret_i (or_num a b ha2 hb2), nq, rfl⟩
set_option maxHeartbeats 1000000 in
theorem made_yes {w : World} {tb pp : Nat} (h : w.cell? ⟨tb, 0, none⟩ = some (.pointer (some ⟨pp, 0, none⟩))) :
    Calls Tryz.prog 25 #[.pointer (some ⟨tb, 0, none⟩)] w fun e w' => e = .returned (.bool true) ∧ w = w' := by
  go_enter Tryz.func25, Tryz.ntmps25
  go_wp2
  go_returns
  exact ⟨rfl, rfl⟩
set_option maxHeartbeats 1000000 in
theorem number_any (k : Nat) (w : World) (hk : k ≤ 65535) :
    Calls Tryz.prog 68 #[.int .i64 k] w fun e w' => (∃ s : ByteArray, e = .returned (.string s) ∧ s.size = 2) ∧ Below w.heap.size w w' := by
  have hcv := conv_row (P := Tryz.prog) 143 5 9 Tryz.underlying143 Tryz.underlying5 Tryz.underlying9 [(k : Int) % 256, (k : Int) / 256] (w.alloc (.cells #[.int .u8 ((k : Int) % 256), .int .u8 ((k : Int) / 256)] 5)) w.heap.size 2 2 _ _ _ (heap_alloc_new _ _) rfl (fun i hi => by
    have : i = 0 ∨ i = 1 := by omega
    rcases this with rfl | rfl <;> rfl)
  have hb0 : Below w.heap.size w (w.alloc (.cells #[.int .u8 ((k : Int) % 256), .int .u8 ((k : Int) / 256)] 5)) := by go_grown
  have HB := Lib.hid hb0
  have HS : Hid ((strOfNums [(k : Int) % 256, (k : Int) / 256]).size = 2) := Lib.hid rfl
  clear hb0
  generalize strOfNums [(k : Int) % 256, (k : Int) / 256] = T at *
  go_enter Tryz.func68, Tryz.ntmps68
  go_wp2
  go_returns
  exact ⟨⟨T, rfl, HS.out⟩, HB.out⟩
end Go.Proofs.YtkdhlofcdcnjgaaGreat
