import Derived.Test.YtcjfnfdinhbdlaaGreatDoorGaa
import Derived.Sort.Walk0
import Derived.Lib.Bytealg
import Derived.Lib.AppendStr
import Derived.Test.YtcjfnfdinhbdlaaGreatDoorRows
import Derived.Test.YtcjfnfdinhbdlaaGreatDoorGad
import Derived.Sort.OwnSortedInts
import Derived.IntWalk
import Derived.OpenShut
import Derived.SizedLaws
import Derived.OwnWalk
import Derived.Deep.Slices
import Derived.Deep.Fields
import Derived.Deep.MidRow
import Derived.Deep.AppendLies
namespace Go.Proofs.YtcjfnfdinhbdlaaGreatDoor
set_option maxRecDepth 100000
open Go.ChangeShapes Go.WideShapes Go.ChangeAt Go.RowKit Go.PlainAid
def lessB (a b : ByteArray) : Bool := Op.bytesLess a.toList b.toList
theorem text_eq {a b : ByteArray} (h : a.toList = b.toList) : a = b := by
  rw [ByteArray.toList_eq, ByteArray.toList_eq] at h
  exact ByteArray.ext (Array.ext' h)
theorem lessB_iff {a b : ByteArray} : lessB a b = true ↔ a.toList < b.toList := by
  unfold lessB
  rw [bytesLess_eq]
  exact decide_eq_true_iff
theorem lessB_irrefl (a : ByteArray) : lessB a a = false := by
  rw [Bool.eq_false_iff]
  intro h
  exact absurd (lessB_iff.1 h) (List.lt_irrefl _)
theorem lessB_trans {a b c : ByteArray} (h : lessB a b = true) (k : lessB b c = true) : lessB a c = true := lessB_iff.2 (List.lt_trans (lessB_iff.1 h) (lessB_iff.1 k))
theorem lessB_asymm {a b : ByteArray} (h : lessB a b = true) : lessB b a = false := by
  rw [Bool.eq_false_iff]
  intro k
  have := lessB_trans h k
  rw [lessB_irrefl] at this
  cases this
theorem lessB_total {a b : ByteArray} (h : lessB a b = false) (k : lessB b a = false) : a = b := by
  have h1 : ¬ a.toList < b.toList := fun c => by rw [lessB_iff.2 c] at h; cases h
  have h2 : ¬ b.toList < a.toList := fun c => by rw [lessB_iff.2 c] at k; cases k
  exact text_eq (List.le_antisymm (List.not_lt.1 h2) (List.not_lt.1 h1))
theorem lessB_le_trans {a b c : ByteArray} (h : lessB b a = false) (k : lessB b c = true) : lessB a c = true := by
  cases e : lessB a b with
  | true => exact lessB_trans e k
  | false => rw [lessB_total e h]; exact k
theorem lessB_lt_le {a b c : ByteArray} (h : lessB a b = true) (k : lessB c b = false) : lessB a c = true := by
  cases e : lessB b c with
  | true => exact lessB_trans h e
  | false => rw [← lessB_total e k]; exact h
theorem lessB_empty (a : ByteArray) : lessB a ⟨#[]⟩ = false := by
  rw [Bool.eq_false_iff]
  intro h
  have := lessB_iff.1 h
  rw [ByteArray.toList_eq, ByteArray.toList_eq] at this
  exact absurd this (List.not_lt_nil _)
theorem size_zero {a : ByteArray} (h : a.size = 0) : a = ⟨#[]⟩ := by
  apply ByteArray.ext
  apply Array.eq_empty_of_size_eq_zero
  exact h
theorem cmp_lt : ∀ (a b : List UInt8), Lib.compareBytes a b < 0 ↔ a < b
  | [], [] => by simp [Lib.compareBytes]
  | [], _ :: _ => by simp [Lib.compareBytes]
  | _ :: _, [] => by simp [Lib.compareBytes]
  | x :: a, y :: b => by
    have ih := cmp_lt a b
    unfold Lib.compareBytes
    rw [List.cons_lt_cons_iff]
    by_cases h : x < y
    · simp [h]
    · by_cases k : y < x
      · have : ¬ x = y := fun e => by subst e; exact h k
        simp [h, k, this]
      · have : x = y := UInt8.le_antisymm (UInt8.not_lt.1 k) (UInt8.not_lt.1 h)
        subst this
        simp [h, ih]
theorem cmp_zero : ∀ (a b : List UInt8), Lib.compareBytes a b = 0 ↔ a = b
  | [], [] => by simp [Lib.compareBytes]
  | [], _ :: _ => by simp [Lib.compareBytes]
  | _ :: _, [] => by simp [Lib.compareBytes]
  | x :: a, y :: b => by
    have ih := cmp_zero a b
    unfold Lib.compareBytes
    by_cases h : x < y
    · have : ¬ x = y := fun e => by subst e; exact UInt8.lt_irrefl _ h
      simp [h, this]
    · by_cases k : y < x
      · have : ¬ x = y := fun e => by subst e; exact h k
        simp [h, k, this]
      · have : x = y := UInt8.le_antisymm (UInt8.not_lt.1 k) (UInt8.not_lt.1 h)
        subst this
        simp [h, ih]
def cmpB (a b : ByteArray) : Int := Lib.compareBytes a.data.toList b.data.toList
theorem cmpB_lt (a b : ByteArray) : decide (cmpB a b < 0) = lessB a b := by
  unfold cmpB lessB
  rw [bytesLess_eq, ByteArray.toList_eq, ByteArray.toList_eq]
  exact decide_eq_decide.2 (cmp_lt _ _)
theorem cmpB_zero (a b : ByteArray) : cmpB a b = 0 ↔ a = b := by
  unfold cmpB
  rw [cmp_zero]
  exact ⟨fun h => ByteArray.ext (Array.ext' h), fun h => by rw [h]⟩
structure Pr where
  key : ByteArray
  val : ByteArray
def Srt (L : List Pr) : Prop := ∀ (i j : Nat) (p q : Pr), i < j → L[i]? = some p → L[j]? = some q → lessB p.key q.key = true
def posP (k : ByteArray) (L : List Pr) : Nat := L.findIdx fun p => !lessB p.key k
theorem posP_le (k : ByteArray) (L : List Pr) : posP k L ≤ L.length := List.findIdx_le_length
theorem posP_below {k : ByteArray} {L : List Pr} {i : Nat} {p : Pr} (hi : i < posP k L) (hp : L[i]? = some p) : lessB p.key k = true := by
  have h2 := List.not_of_lt_findIdx hi
  obtain ⟨hl, rfl⟩ := List.getElem?_eq_some_iff.1 hp
  simpa using h2
theorem posP_at {k : ByteArray} {L : List Pr} {p : Pr} (hp : L[posP k L]? = some p) : lessB p.key k = false := by
  obtain ⟨hl, rfl⟩ := List.getElem?_eq_some_iff.1 hp
  have h2 := List.findIdx_getElem (w := hl)
  unfold posP
  simpa using h2
theorem posP_above {k : ByteArray} {L : List Pr} (hs : Srt L) {i : Nat} {p : Pr} (hi : posP k L ≤ i) (hp : L[i]? = some p) : lessB p.key k = false := by
  rcases Nat.lt_or_eq_of_le hi with h | h
  · have hl := (List.getElem?_eq_some_iff.1 hp).1
    obtain ⟨q, hq⟩ : ∃ q, L[posP k L]? = some q := ⟨_, List.getElem?_eq_getElem (by omega)⟩
    have h1 := posP_at hq
    have h2 := hs _ _ _ _ h hq hp
    rw [Bool.eq_false_iff]
    intro h3
    rw [lessB_trans h2 h3] at h1
    cases h1
  · subst h
    exact posP_at hp
theorem posP_eq {k : ByteArray} {L : List Pr} {i : Nat} (hi : i ≤ L.length) (h1 : ∀ j p, j < i → L[j]? = some p → lessB p.key k = true) (h2 : ∀ p, L[i]? = some p → lessB p.key k = false) : posP k L = i := by
  rcases Nat.lt_trichotomy (posP k L) i with c | c | c
  · obtain ⟨q, hq⟩ : ∃ q, L[posP k L]? = some q := ⟨_, List.getElem?_eq_getElem (by omega)⟩
    have := posP_at hq
    rw [h1 _ _ c hq] at this
    cases this
  · exact c
  · have := posP_le k L
    obtain ⟨q, hq⟩ : ∃ q, L[i]? = some q := ⟨_, List.getElem?_eq_getElem (by omega)⟩
    have h3 := posP_below c hq
    rw [h2 _ hq] at h3
    cases h3
def hitP (k : ByteArray) (L : List Pr) : Bool := match L[posP k L]? with
  | some p => decide (cmpB p.key k = 0)
  | none => false
theorem hitP_some {k : ByteArray} {L : List Pr} (h : hitP k L = true) : ∃ p, L[posP k L]? = some p ∧ p.key = k := by
  unfold hitP at h
  split at h
  · next p hp => exact ⟨p, hp, (cmpB_zero _ _).1 (of_decide_eq_true h)⟩
  · cases h
theorem hitP_of {k : ByteArray} {L : List Pr} (hs : Srt L) {i : Nat} {p : Pr} (hp : L[i]? = some p) (hk : p.key = k) : posP k L = i ∧ hitP k L = true := by
  have hi := (List.getElem?_eq_some_iff.1 hp).1
  have e : posP k L = i := posP_eq (by omega) (fun j q hj hq => by rw [← hk]; exact hs _ _ _ _ hj hq hp) (fun q hq => by rw [hp] at hq; cases hq; rw [hk]; exact lessB_irrefl _)
  refine ⟨e, ?_⟩
  unfold hitP
  rw [e, hp]
  exact decide_eq_true ((cmpB_zero _ _).2 hk)
def towP (k : ByteArray) (L : List Pr) : Nat := if hitP k L = false ∧ 0 < posP k L then posP k L - 1 else posP k L
def szP (level : Int) (p : Pr) : Nat := if 1 < level then 36 else 2 + p.key.size + p.val.size
def wtP (level : Int) (L : List Pr) : Nat := (L.map (szP level)).sum
theorem wtP_nil (level : Int) : wtP level [] = 0 := rfl
theorem wtP_take {level : Int} {L : List Pr} {i : Nat} {p : Pr} (h : L[i]? = some p) : wtP level (L.take (i + 1)) = wtP level (L.take i) + szP level p := by
  unfold wtP
  rw [List.take_add_one, h]
  simp
theorem wtP_all (level : Int) (L : List Pr) : wtP level (L.take L.length) = wtP level L := by rw [List.take_length]
def okAt (low high : ByteArray) (L : List Pr) (i : Nat) : Bool := match L[i]? with
  | none => true
  | some p => decide (p.key.size ≤ 32) && !lessB p.key low && (decide (high.size = 0) || lessB p.key high) && (decide (i = 0) || match L[i - 1]? with | some q => lessB q.key p.key | none => true)
def risB (low high : ByteArray) (L : List Pr) : Bool := (List.range L.length).all (okAt low high L)
def recB (L : List Pr) : Bool := L.all (fun p => decide (p.key.size ≠ 0) && decide (p.val.size ≤ 80)) && decide (0 < L.length)
def lnkB (low : ByteArray) (L : List Pr) : Bool := L.all (fun p => decide (p.val.size = 2)) && decide (1 < L.length) && (match L[0]? with | some p => decide (p.key = low) | none => false)
def lawB (level : Int) (low high : ByteArray) (L : List Pr) : Bool := decide (1 ≤ level) && decide (wtP level L ≤ 254) && risB low high L && (if level = 1 then recB L else lnkB low L)
theorem risB_no {low high : ByteArray} {L : List Pr} {i : Nat} (hi : i < L.length) (h : okAt low high L i = false) : risB low high L = false := by
  rw [Bool.eq_false_iff]
  intro k
  have := List.all_eq_true.1 k i (List.mem_range.2 hi)
  rw [h] at this
  cases this
theorem risB_yes {low high : ByteArray} {L : List Pr} (h : ∀ i, i < L.length → okAt low high L i = true) : risB low high L = true := List.all_eq_true.2 fun i hi => h i (List.mem_range.1 hi)
theorem risB_at {low high : ByteArray} {L : List Pr} (h : risB low high L = true) {i : Nat} (hi : i < L.length) : okAt low high L i = true := List.all_eq_true.1 h i (List.mem_range.2 hi)
structure KeyOk (low high : ByteArray) (p : Pr) : Prop where
  small : p.key.size ≤ 32
  low : lessB p.key low = false
  high : high.size = 0 ∨ lessB p.key high = true
theorem okAt_parts {low high : ByteArray} {L : List Pr} {i : Nat} {p : Pr} (hp : L[i]? = some p) : okAt low high L i = true ↔ KeyOk low high p ∧ (i = 0 ∨ ∃ q, L[i - 1]? = some q ∧ lessB q.key p.key = true) := by
  unfold okAt
  rw [hp]
  have hl := (List.getElem?_eq_some_iff.1 hp).1
  obtain ⟨q, hq⟩ : ∃ q, L[i - 1]? = some q := ⟨_, List.getElem?_eq_getElem (by omega)⟩
  simp only [hq, Bool.and_eq_true, Bool.or_eq_true, decide_eq_true_eq, Bool.not_eq_true', Option.some.injEq, exists_eq_left']
  exact ⟨fun ⟨⟨⟨a, b⟩, c⟩, d⟩ => ⟨⟨a, b, c⟩, d⟩, fun ⟨⟨a, b, c⟩, d⟩ => ⟨⟨⟨a, b⟩, c⟩, d⟩⟩
theorem risB_key {low high : ByteArray} {L : List Pr} (h : risB low high L = true) {i : Nat} {p : Pr} (hp : L[i]? = some p) : KeyOk low high p := ((okAt_parts hp).1 (risB_at h (List.getElem?_eq_some_iff.1 hp).1)).1
theorem risB_srt {low high : ByteArray} {L : List Pr} (h : risB low high L = true) : Srt L := by
  intro i j p q hij hp hq
  induction j generalizing q with
  | zero => omega
  | succ j ih =>
    have hj := (List.getElem?_eq_some_iff.1 hq).1
    obtain ⟨r, hr⟩ : ∃ r, L[j]? = some r := ⟨_, List.getElem?_eq_getElem (by omega)⟩
    have h1 : lessB r.key q.key = true := by
      rcases ((okAt_parts hq).1 (risB_at h hj)).2 with e | ⟨r', hr', hl⟩
      · omega
      · rw [Nat.add_sub_cancel, hr] at hr'
        cases hr'
        exact hl
    rcases Nat.lt_or_eq_of_le (Nat.le_of_lt_succ hij) with c | c
    · exact lessB_trans (ih r c hr) h1
    · subst c
      rw [hp] at hr
      cases hr
      exact h1
structure Lawful (level : Int) (low high : ByteArray) (L : List Pr) : Prop where
  pos : 1 ≤ level
  weight : wtP level L ≤ 254
  rise : risB low high L = true
  recs : level = 1 → recB L = true
  links : level ≠ 1 → lnkB low L = true
theorem lawB_iff {level : Int} {low high : ByteArray} {L : List Pr} : lawB level low high L = true ↔ Lawful level low high L := by
  unfold lawB
  simp only [Bool.and_eq_true, decide_eq_true_eq]
  constructor
  · rintro ⟨⟨⟨a, b⟩, c⟩, d⟩
    refine ⟨a, b, c, fun e => ?_, fun e => ?_⟩
    · rwa [if_pos e] at d
    · rwa [if_neg e] at d
  · rintro ⟨a, b, c, d, e⟩
    refine ⟨⟨⟨a, b⟩, c⟩, ?_⟩
    by_cases h : level = 1
    · rw [if_pos h]; exact d h
    · rw [if_neg h]; exact e h
theorem recB_iff {L : List Pr} : recB L = true ↔ (∀ p ∈ L, p.key.size ≠ 0 ∧ p.val.size ≤ 80) ∧ 0 < L.length := by
  unfold recB
  simp only [Bool.and_eq_true, List.all_eq_true, decide_eq_true_eq]
theorem lnkB_iff {low : ByteArray} {L : List Pr} : lnkB low L = true ↔ (∀ p ∈ L, p.val.size = 2) ∧ 1 < L.length ∧ ∃ p, L[0]? = some p ∧ p.key = low := by
  unfold lnkB
  simp only [Bool.and_eq_true, List.all_eq_true, decide_eq_true_eq]
  cases h : L[0]? with
  | none => simp
  | some p => simp [and_assoc]
def unpL : Nat → ByteArray → Option (List Pr)
  | 0, _ => some []
  | k + 1, d => if d.size < 2 then none else if (d.size : Int) < 2 + bt d 0 + bt d 1 then none else
    (unpL k (d.extract (2 + bt d 0 + bt d 1).toNat d.size)).map (⟨d.extract 2 (2 + bt d 0).toNat, d.extract (2 + bt d 0).toNat (2 + bt d 0 + bt d 1).toNat⟩ :: ·)
def unpP (s : ByteArray) : Option (List Pr) := unpL (bt s 1).toNat (s.extract 2 s.size)
theorem unpL_len : ∀ (k : Nat) (d : ByteArray) (L : List Pr), unpL k d = some L → L.length = k
  | 0, d, L, h => by
    have : some [] = some L := h
    cases this
    rfl
  | k + 1, d, L, h => by
    unfold unpL at h
    split at h
    · cases h
    · split at h
      · cases h
      · cases h2 : unpL k (d.extract (2 + bt d 0 + bt d 1).toNat d.size) with
        | none => rw [h2] at h; cases h
        | some M =>
          rw [h2] at h
          have h : some (_ :: M) = some L := h
          cases h
          rw [List.length_cons, unpL_len k _ M h2]
theorem unpP_len {s : ByteArray} {L : List Pr} (h : unpP s = some L) : L.length ≤ 255 ∧ (L.length : Int) = bt s 1 := by
  have := unpL_len _ _ _ h
  have h1 := bt_nonneg s 1
  have h2 := bt_le s 1
  omega
def numP (s : ByteArray) : Int := bt s 0 + bt s 1 * 256
theorem numP_b (s : ByteArray) : 0 ≤ numP s ∧ numP s ≤ 65535 := by
  have h1 := bt_nonneg s 0
  have h2 := bt_le s 0
  have h3 := bt_nonneg s 1
  have h4 := bt_le s 1
  unfold numP
  omega
structure NdD where
  at_ : Int
  level : Int
  low : ByteArray
  high : ByteArray
  L : List Pr
def rdP (V : Int → ByteArray) (out : Int → Bool) (x : NdD) : Option (Int × List Pr) :=
  if out x.at_ = false then none else match unpP (V x.at_) with
  | none => none
  | some L => if x.level ≠ 0 ∧ x.level ≠ bt (V x.at_) 0 then none else if lawB (bt (V x.at_) 0) x.low x.high L = false then none else some (bt (V x.at_) 0, L)
def rdN (V : Int → ByteArray) (out : Int → Bool) (x : NdD) : NdD × Bool := match rdP V out x with
  | none => (x, true)
  | some (l, L) => ({ x with level := l, L := L }, false)
theorem rdP_some {V : Int → ByteArray} {out : Int → Bool} {x : NdD} {l : Int} {L : List Pr} (h : rdP V out x = some (l, L)) : out x.at_ = true ∧ unpP (V x.at_) = some L ∧ l = bt (V x.at_) 0 ∧ (x.level = 0 ∨ x.level = l) ∧ Lawful l x.low x.high L := by
  unfold rdP at h
  split at h
  · cases h
  · next ho =>
    split at h
    · cases h
    · next M hM =>
      split at h
      · cases h
      · next hl =>
        split at h
        · cases h
        · next hw =>
          have h : some (bt (V x.at_) 0, M) = some (l, L) := h
          cases h
          refine ⟨by simpa using ho, hM, rfl, ?_, lawB_iff.1 (by simpa using hw)⟩
          by_cases e : x.level = 0
          · exact .inl e
          · exact .inr (Decidable.byContradiction fun e2 => hl ⟨e, e2⟩)
def kidN (x : NdD) (i : Nat) : NdD := match x.L[i]? with
  | none => x
  | some p => ⟨numP p.val, x.level - 1, p.key, (match x.L[i + 1]? with | some q => q.key | none => x.high), []⟩
def visP (V : Int → ByteArray) (out : Int → Bool) (from_ : ByteArray) : Nat → NdD × Bool → List (NdD × Bool)
  | 0, x => [x]
  | k + 1, x => x :: if x.2 = true ∨ x.1.level = 1 then [] else (List.range' (towP from_ x.1.L) (x.1.L.length - towP from_ x.1.L)).flatMap fun i => visP V out from_ k (rdN V out (kidN x.1 i))
def visK (V : Int → ByteArray) (out : Int → Bool) (from_ : ByteArray) (k : Nat) (x : NdD) (t m : Nat) : List (NdD × Bool) := (List.range' t m).flatMap fun i => visP V out from_ k (rdN V out (kidN x i))
theorem visK_zero (V : Int → ByteArray) (out : Int → Bool) (from_ : ByteArray) (k : Nat) (x : NdD) (t : Nat) : visK V out from_ k x t 0 = [] := rfl
theorem visK_succ (V : Int → ByteArray) (out : Int → Bool) (from_ : ByteArray) (k : Nat) (x : NdD) (t m : Nat) : visK V out from_ k x t (m + 1) = visK V out from_ k x t m ++ visP V out from_ k (rdN V out (kidN x (t + m))) := by
  unfold visK
  rw [List.range'_concat, List.flatMap_append]
  simp
theorem visP_leaf {V : Int → ByteArray} {out : Int → Bool} {from_ : ByteArray} {k : Nat} {x : NdD × Bool} (h : x.2 = true ∨ x.1.level = 1) : visP V out from_ (k + 1) x = [x] := by
  conv => lhs; unfold visP
  rw [if_pos h]
theorem visP_bad {V : Int → ByteArray} {out : Int → Bool} {from_ : ByteArray} {k : Nat} {x : NdD} : visP V out from_ k (x, true) = [(x, true)] := by
  cases k with
  | zero => rfl
  | succ k => exact visP_leaf (.inl rfl)
theorem visP_node {V : Int → ByteArray} {out : Int → Bool} {from_ : ByteArray} {k : Nat} {x : NdD} (h : x.level ≠ 1) : visP V out from_ (k + 1) (x, false) = (x, false) :: visK V out from_ k x (towP from_ x.L) (x.L.length - towP from_ x.L) := by
  conv => lhs; unfold visP
  rw [if_neg (by simp [h])]
  rfl
theorem towP_le (k : ByteArray) (L : List Pr) : towP k L ≤ L.length := by
  have := posP_le k L
  unfold towP
  split <;> omega
end Go.Proofs.YtcjfnfdinhbdlaaGreatDoor
namespace Go.Proofs.YtcjfnfdinhbdlaaGreatDoor
set_option maxRecDepth 100000
open Go.ChangeShapes Go.WideShapes Go.ChangeAt Go.RowKit Go.PlainAid
def numsS (s : ByteArray) : List Int := s.data.toList.map fun b => (b.toNat : Int)
theorem numsS_len (s : ByteArray) : (numsS s).length = s.size := by
  unfold numsS
  rw [List.length_map, Array.length_toList]
  rfl
def onN (p : Pr) : List Int := [(p.key.size : Int) % 256, (p.val.size : Int) % 256] ++ numsS p.key ++ numsS p.val
def pkN (L : List Pr) : List Int := L.flatMap onN
theorem onN_len (p : Pr) : (onN p).length = 2 + p.key.size + p.val.size := by
  unfold onN
  rw [List.length_append, List.length_append, numsS_len, numsS_len]
  simp
theorem pkN_snoc (L : List Pr) (p : Pr) : pkN (L ++ [p]) = pkN L ++ onN p := by
  unfold pkN
  rw [List.flatMap_append]
  simp
def pkS (L : List Pr) : Nat := (L.map fun p => 2 + p.key.size + p.val.size).sum
theorem pkN_len (L : List Pr) : (pkN L).length = pkS L := by
  unfold pkN pkS
  rw [List.length_flatMap]
  congr 1
  exact List.map_congr_left fun p _ => onN_len p
def packN (level : Int) (L : List Pr) : List Int := [level % 256, (L.length : Int) % 256] ++ pkN L
def packP (level : Int) (L : List Pr) : ByteArray := strOfNums (packN level L)
theorem packP_size (level : Int) (L : List Pr) : (packP level L).size = 2 + pkS L := by
  have h : (packP level L).data.toList.length = (packN level L).length := by unfold packP strOfNums; simp
  rw [Array.length_toList] at h
  show (packP level L).data.size = _
  rw [h]
  unfold packN
  rw [List.length_append, pkN_len]
  rfl
def u8 (n : Int) : UInt8 := UInt8.ofNat n.toNat
theorem u8_nums (s : ByteArray) : (numsS s).map u8 = s.data.toList := by
  unfold numsS u8
  rw [List.map_map]
  conv => rhs; rw [← List.map_id s.data.toList]
  refine List.map_congr_left fun b _ => ?_
  show UInt8.ofNat ((b.toNat : Int)).toNat = b
  rw [Int.toNat_natCast]
  exact UInt8.ofNat_toNat
theorem u8_nat {n : Int} (h0 : 0 ≤ n) (h1 : n < 256) : ((u8 n).toNat : Int) = n := by
  unfold u8
  rw [UInt8.toNat_ofNat']
  omega
theorem bt_at (s : ByteArray) (k : Nat) : bt s k = ((s.data.toList.getD k 0).toNat : Int) := bt_list s k
theorem unpL_pack : ∀ (L : List Pr) (d : ByteArray) (rest : List UInt8), d.data.toList = (pkN L).map u8 ++ rest → (∀ p ∈ L, p.key.size < 256 ∧ p.val.size < 256) → unpL L.length d = some L
  | [], d, rest, _, _ => rfl
  | p :: L, d, rest, hd, hm => by
    obtain ⟨hk, hv⟩ := hm p List.mem_cons_self
    have e1 : d.data.toList = u8 ((p.key.size : Int) % 256) :: u8 ((p.val.size : Int) % 256) :: (p.key.data.toList ++ (p.val.data.toList ++ ((pkN L).map u8 ++ rest))) := by
      rw [hd]
      have e : pkN (p :: L) = onN p ++ pkN L := by unfold pkN; rw [List.flatMap_cons]
      rw [e, List.map_append]
      unfold onN
      rw [List.map_append, List.map_append, u8_nums, u8_nums]
      simp
    have hkl : p.key.data.toList.length = p.key.size := Array.length_toList
    have hvl : p.val.data.toList.length = p.val.size := Array.length_toList
    have b0 : bt d 0 = p.key.size := by
      rw [bt_at, e1]
      show ((u8 ((p.key.size : Int) % 256)).toNat : Int) = _
      rw [u8_nat (by omega) (by omega)]
      omega
    have b1 : bt d 1 = p.val.size := by
      rw [bt_at, e1]
      show ((u8 ((p.val.size : Int) % 256)).toNat : Int) = _
      rw [u8_nat (by omega) (by omega)]
      omega
    have hsz : d.size = 2 + p.key.size + p.val.size + ((pkN L).map u8 ++ rest).length := by
      have : d.data.toList.length = d.size := Array.length_toList
      rw [← this, e1]
      simp only [List.length_cons, List.length_append, hkl, hvl]
      omega
    have k1 : d.extract 2 (2 + bt d 0).toNat = p.key := by
      refine ByteArray.ext (Array.ext' ?_)
      rw [Lib.extract_data, e1, b0]
      rw [show (2 + (p.key.size : Int)).toNat - 2 = p.key.size by omega]
      show (p.key.data.toList ++ _).take p.key.size = _
      rw [List.take_left' hkl]
    have k2 : d.extract (2 + bt d 0).toNat (2 + bt d 0 + bt d 1).toNat = p.val := by
      refine ByteArray.ext (Array.ext' ?_)
      rw [Lib.extract_data, e1, b0, b1]
      rw [show (2 + (p.key.size : Int) + (p.val.size : Int)).toNat - (2 + (p.key.size : Int)).toNat = p.val.size by omega, show (2 + (p.key.size : Int)).toNat = p.key.size + 2 by omega]
      show ((p.key.data.toList ++ _).drop p.key.size).take p.val.size = _
      rw [List.drop_left' hkl, List.take_left' hvl]
    have k3 : (d.extract (2 + bt d 0 + bt d 1).toNat d.size).data.toList = (pkN L).map u8 ++ rest := by
      rw [Lib.extract_data, e1, b0, b1, hsz]
      rw [show (2 + (p.key.size : Int) + (p.val.size : Int)).toNat = p.key.size + p.val.size + 2 by omega]
      show ((p.key.data.toList ++ (p.val.data.toList ++ _)).drop (p.key.size + p.val.size)).take _ = _
      rw [← List.append_assoc, List.drop_left' (by rw [List.length_append, hkl, hvl]), List.take_of_length_le (by omega)]
    show unpL (L.length + 1) d = _
    unfold unpL
    rw [if_neg (by omega), if_neg (by rw [b0, b1]; omega), unpL_pack L _ rest k3 fun q hq => hm q (List.mem_cons_of_mem _ hq), k1, k2]
    rfl
theorem unpP_pack {level : Int} {L : List Pr} {s : ByteArray} {rest : List UInt8} (hs : s.data.toList = (packP level L).data.toList ++ rest) (hl : L.length < 256) (h0 : 0 ≤ level) (h1 : level < 256) (hm : ∀ p ∈ L, p.key.size < 256 ∧ p.val.size < 256) :
    unpP s = some L ∧ bt s 0 = level := by
  have e : s.data.toList = u8 (level % 256) :: u8 ((L.length : Int) % 256) :: ((pkN L).map u8 ++ rest) := by
    rw [hs]
    unfold packP
    rw [strOfNums_data]
    unfold packN
    rw [List.map_append]
    rfl
  have b0 : bt s 0 = level := by
    rw [bt_at, e]
    show ((u8 (level % 256)).toNat : Int) = _
    rw [u8_nat (by omega) (by omega)]
    omega
  have b1 : bt s 1 = L.length := by
    rw [bt_at, e]
    show ((u8 ((L.length : Int) % 256)).toNat : Int) = _
    rw [u8_nat (by omega) (by omega)]
    omega
  refine ⟨?_, b0⟩
  unfold unpP
  rw [b1, Int.toNat_natCast]
  refine unpL_pack L _ rest ?_ hm
  have hsz : s.data.toList.length = s.size := Array.length_toList
  rw [Lib.extract_data, e, List.take_of_length_le (by rw [← hsz, e]; simp)]
  rfl
end Go.Proofs.YtcjfnfdinhbdlaaGreatDoor
namespace Go.Proofs.YtcjfnfdinhbdlaaGreatDoor
set_option maxRecDepth 100000
open Go.ChangeShapes Go.WideShapes Go.ChangeAt Go.RowKit Go.PlainAid
open Go.Sort (grow)
def RdP (w : World) (sl : Option Addr) (L : List Pr) : Prop := L = [] ∨ ∃ g o, sl = some ⟨g, o, none⟩ ∧ g < w.heap.size ∧ ∀ (i : Nat) (p : Pr), L[i]? = some p →
  w.cell? ⟨g, o + i * 2, none⟩ = some (.string p.key) ∧ w.cell? ⟨g, o + i * 2 + 1, none⟩ = some (.string p.val)
theorem RdP.on {w w' : World} {sl : Option Addr} {L : List Pr} (h : RdP w sl L) (hb : Below w.heap.size w w') : RdP w' sl L := by
  rcases h with rfl | ⟨g, o, h1, h2, h3⟩
  · exact .inl rfl
  · refine .inr ⟨g, o, h1, Nat.lt_of_lt_of_le h2 hb.size, fun i p hp => ?_⟩
    obtain ⟨a, b⟩ := h3 i p hp
    exact ⟨(hb.cell (p := ⟨g, _, none⟩) h2).trans a, (hb.cell (p := ⟨g, _, none⟩) h2).trans b⟩
theorem RdP.at {w : World} {sl : Option Addr} {L : List Pr} (h : RdP w sl L) {i : Nat} {p : Pr} (hp : L[i]? = some p) : ∃ g o, sl = some ⟨g, o, none⟩ ∧ g < w.heap.size ∧ w.cell? ⟨g, o + i * 2, none⟩ = some (.string p.key) ∧ w.cell? ⟨g, o + i * 2 + 1, none⟩ = some (.string p.val) := by
  rcases h with rfl | ⟨g, o, h1, h2, h3⟩
  · cases hp
  · exact ⟨g, o, h1, h2, h3 i p hp⟩
structure NdM where
  at_ : Int
  level : Int
  low : ByteArray
  high : ByteArray
  L : List Pr
  sl : Option Addr
  c : Nat
  next : Int
def NdM.cells (x : NdM) : Array Value := #[.int .i64 x.at_, .int .i64 x.level, .string x.low, .string x.high, .slice x.sl x.L.length x.c, .int .i64 x.next]
structure NdIs (w : World) (b o : Nat) (x : NdM) : Prop where
  lt : b < w.heap.size
  at_ : w.cell? ⟨b, o, none⟩ = some (.int .i64 x.at_)
  level : w.cell? ⟨b, o + 1, none⟩ = some (.int .i64 x.level)
  low : w.cell? ⟨b, o + 2, none⟩ = some (.string x.low)
  high : w.cell? ⟨b, o + 3, none⟩ = some (.string x.high)
  list : w.cell? ⟨b, o + 4, none⟩ = some (.slice x.sl x.L.length x.c)
  next : w.cell? ⟨b, o + 5, none⟩ = some (.int .i64 x.next)
  rd : RdP w x.sl x.L
  small : x.L.length ≤ 4096
def NdM.D (x : NdM) : NdD := ⟨x.at_, x.level, x.low, x.high, x.L⟩
theorem NdIs.on {w w' : World} {b o : Nat} {x : NdM} (h : NdIs w b o x) (hb : Below w.heap.size w w') : NdIs w' b o x :=
  ⟨Nat.lt_of_lt_of_le h.lt hb.size, (hb.cell (p := ⟨b, _, none⟩) h.lt).trans h.at_, (hb.cell (p := ⟨b, _, none⟩) h.lt).trans h.level, (hb.cell (p := ⟨b, _, none⟩) h.lt).trans h.low, (hb.cell (p := ⟨b, _, none⟩) h.lt).trans h.high, (hb.cell (p := ⟨b, _, none⟩) h.lt).trans h.list, (hb.cell (p := ⟨b, _, none⟩) h.lt).trans h.next, h.rd.on hb, h.small⟩
set_option maxHeartbeats 1000000 in
theorem compareString_any (a b : ByteArray) (w : World) :
    Calls Tryz.prog 167 #[.string a, .string b] w fun e w' => e = .returned (.int .i64 (cmpB a b)) ∧ w = w' := by
  go_enter Tryz.func167, Tryz.ntmps167
  go_wp2
  rw [run_callFunc_extern Tryz.func212 (by kernel_rfl) (by kernel_rfl) (by kernel_rfl) (e := Extern.BytealgCompare.compare) (by kernel_rfl), Lib.run_compareString]
  simp only [Result.andThen]
  rw [Oper.upon_value]
  go_wp2
  go_ret
  exact ⟨rfl, rfl⟩
set_option maxHeartbeats 1000000 in
theorem compare_any (a b : ByteArray) (w : World) :
    Calls Tryz.prog 113 #[.string a, .string b] w fun e w' => e = .returned (.int .i64 (cmpB a b)) ∧ w = w' := by
  go_enter Tryz.func113, Tryz.ntmps113
  go_wp2_with fail
  refine (compareString_any _ _ _).mono ?_
  rintro e _ ⟨rfl, rfl⟩
  go_wp2
  go_ret
  exact ⟨rfl, rfl⟩
set_option maxHeartbeats 1000000 in
theorem find1_any (k v a : ByteArray) (w : World) :
    Calls Tryz.prog 112 #[.agg #[.string k, .string v], .string a] w fun e w' => e = .returned (.int .i64 (cmpB k a)) ∧ Below w.heap.size w w' := by
  have hb0 : Below w.heap.size w (w.alloc (.cells #[.string k, .string v] 121)) := by go_grown
  have HB := Lib.hid hb0
  clear hb0
  go_enter Tryz.func112, Tryz.ntmps112
  go_wp2_with fail
  refine (compare_any _ _ _).mono ?_
  rintro e _ ⟨rfl, rfl⟩
  go_wp2
  go_returns
  exact ⟨rfl, HB.out⟩
theorem half_nat (a b : Nat) : ((a : Int) + b) / 2 = (((a + b) / 2 : Nat) : Int) := by omega
set_option maxHeartbeats 2000000 in
theorem search_any {w : World} {sl : Option Addr} {L : List Pr} (c : Nat) (k : ByteArray) (h : RdP w sl L) (hs : Srt L) (hl : L.length ≤ 4096) :
    Calls Tryz.prog 111 #[.slice sl L.length c, .string k, .func (.func 112) #[] #[]] w fun e w' =>
      e = .returned (.tuple #[.int .i64 (posP k L), .bool (hitP k L)]) ∧ Below w.heap.size w w' := by
  have H := Lib.hid h
  have HS := Lib.hid hs
  clear h hs
  go_enter Tryz.func111, Tryz.ntmps111
  go_wp2
  go_loopw [9, 10] (fun i j wr => ∃ lo hi : Nat, lo ≤ hi ∧ hi ≤ L.length ∧ i = .int .i64 lo ∧ j = .int .i64 hi ∧ Hid (∀ (t : Nat) (p : Pr), t < lo → L[t]? = some p → lessB p.key k = true) ∧ Hid (∀ (t : Nat) (p : Pr), hi ≤ t → L[t]? = some p → lessB p.key k = false) ∧ Below w.heap.size w wr) (fun i j _ => (intOf j - intOf i).toNat)
  case atStart => exact ⟨0, L.length, Nat.zero_le _, Nat.le_refl _, rfl, rfl, Lib.hid (fun t p h _ => by omega), Lib.hid (fun t p h hp => by have := (List.getElem?_eq_some_iff.1 hp).1; omega), Below.refl _ _⟩
  case round =>
    obtain ⟨lo, hi, hlh, hhl, rfl, rfl, H1, H2, hb⟩ := hrel
    have HB := Lib.hid hb
    have HR := Lib.hid (H.out.on hb)
    clear hb H
    by_cases hlt : lo < hi
    · have hmid := half_nat lo hi
      obtain ⟨m, hm⟩ : ∃ m, (lo + hi) / 2 = m := ⟨_, rfl⟩
      rw [hm] at hmid
      have hm1 : lo ≤ m := by omega
      have hm2 : m < hi := by omega
      have hml : m < L.length := by omega
      obtain ⟨p, hp⟩ : ∃ p, L[m]? = some p := ⟨_, List.getElem?_eq_getElem hml⟩
      obtain ⟨g, o, rfl, hg, c1, c2⟩ := HR.out.at hp
      have HP := Lib.hid hp
      have HM := Lib.hid hm
      clear hp hm
      have hcm := cmpB_lt p.key k
      cases hq : lessB p.key k with
      | true =>
        rw [hq] at hcm
        have HQ := Lib.hid hq
        clear hq
        go_wp2_with fail
        refine (find1_any _ _ _ _).mono ?_
        rintro e w2 ⟨rfl, hb2⟩
        have HB2 := Lib.hid (HB.out.on hb2)
        clear hb2
        go_wp2
        go_roundw
        case rel => exact ⟨m + 1, hi, by omega, hhl, by go_num, rfl, Lib.hid (fun t q ht hq2 => by
          rcases Nat.lt_or_eq_of_le (Nat.le_of_lt_succ ht) with c | c
          · cases e : lessB q.key k with
            | true => rfl
            | false =>
              have h3 := HS.out t m q p c hq2 HP.out
              rw [lessB_trans h3 HQ.out] at e
              cases e
          · subst c
            rw [HP.out] at hq2
            cases hq2
            exact HQ.out), H2, HB2.out⟩
        case measure => simp [intOf]; omega
      | false =>
        rw [hq] at hcm
        have HQ := Lib.hid hq
        clear hq
        go_wp2_with fail
        refine (find1_any _ _ _ _).mono ?_
        rintro e w2 ⟨rfl, hb2⟩
        have HB2 := Lib.hid (HB.out.on hb2)
        clear hb2
        go_wp2
        go_roundw
        case rel => exact ⟨lo, m, hm1, by omega, rfl, rfl, H1, Lib.hid (fun t q ht hq2 => by
          rcases Nat.lt_or_eq_of_le ht with c | c
          · cases e : lessB q.key k with
            | false => rfl
            | true =>
              have h3 := HS.out m t p q c HP.out hq2
              have := lessB_trans h3 e
              rw [HQ.out] at this
              cases this
          · subst c
            rw [HP.out] at hq2
            cases hq2
            exact HQ.out), HB2.out⟩
        case measure => simp [intOf]; omega
    · have HX : Hid (posP k L = lo) := Lib.hid (posP_eq (by omega) (fun j p hj hp => H1.out j p hj hp) (fun p hp => H2.out lo p (by omega) hp))
      by_cases hin : lo < L.length
      · obtain ⟨p, hp⟩ : ∃ p, L[lo]? = some p := ⟨_, List.getElem?_eq_getElem hin⟩
        obtain ⟨g, o, rfl, hg, c1, c2⟩ := HR.out.at hp
        have HT : Hid (hitP k L = decide (cmpB p.key k = 0)) := by
          refine Lib.hid ?_
          unfold hitP
          rw [HX.out, hp]
        clear hp
        go_wp2_with fail
        refine (find1_any _ _ _ _).mono ?_
        rintro e w2 ⟨rfl, hb2⟩
        have HB2 := Lib.hid (HB.out.on hb2)
        clear hb2
        go_wp2
        go_returns
        rw [HX.out, HT.out]
        exact ⟨rfl, HB2.out⟩
      · have HT : Hid (hitP k L = false) := by
          refine Lib.hid ?_
          unfold hitP
          rw [HX.out, List.getElem?_eq_none (by omega)]
        go_wp2
        go_returns
        rw [HX.out, HT.out]
        exact ⟨rfl, HB.out⟩
end Go.Proofs.YtcjfnfdinhbdlaaGreatDoor
namespace Go.Proofs.YtcjfnfdinhbdlaaGreatDoor
set_option maxRecDepth 100000
open Go.ChangeShapes Go.WideShapes Go.ChangeAt Go.RowKit Go.PlainAid
def leafP (V : Int → ByteArray) (out : Int → Bool) (key : ByteArray) : Nat → NdD → Option NdD
  | 0, _ => none
  | k + 1, x => if x.level = 1 then some x else match rdN V out (kidN x (towP key x.L)) with
    | (_, true) => none
    | (y, false) => leafP V out key k y
theorem towP_empty (L : List Pr) : towP ⟨#[]⟩ L = 0 := by
  have h : posP ⟨#[]⟩ L = 0 := posP_eq (Nat.zero_le _) (fun j p hj _ => by omega) (fun p _ => lessB_empty _)
  unfold towP
  rw [h]
  split <;> rfl
structure RecOk (low high : ByteArray) (p : Pr) : Prop where
  key : p.key.size ≠ 0
  small : p.key.size ≤ 32
  val : p.val.size ≤ 80
  low : lessB p.key low = false
  high : high.size = 0 ∨ lessB p.key high = true
theorem not_empty_of_less {a b : ByteArray} (h : lessB a b = true) : b.size ≠ 0 := fun e => by
  rw [size_zero e, lessB_empty] at h
  cases h
theorem srt_append {L M : List Pr} (h1 : Srt L) (h2 : Srt M) (h3 : ∀ p ∈ L, ∀ q ∈ M, lessB p.key q.key = true) : Srt (L ++ M) := by
  intro i j p q hij hp hq
  by_cases c : j < L.length
  · rw [List.getElem?_append_left c] at hq
    rw [List.getElem?_append_left (by omega)] at hp
    exact h1 i j p q hij hp hq
  · rw [List.getElem?_append_right (by omega)] at hq
    by_cases d : i < L.length
    · rw [List.getElem?_append_left d] at hp
      exact h3 p (List.mem_of_getElem? hp) q (List.mem_of_getElem? hq)
    · rw [List.getElem?_append_right (by omega)] at hp
      exact h2 _ _ p q (by omega) hp hq
theorem srt_nil : Srt [] := fun i j p q _ hp => by simp at hp
section
variable {V : Int → ByteArray} {out : Int → Bool}
theorem rdN_of {x y : NdD} (h : rdN V out x = (y, false)) : y.at_ = x.at_ ∧ y.low = x.low ∧ y.high = x.high ∧ (x.level = 0 ∨ x.level = y.level) ∧ Lawful y.level y.low y.high y.L := by
  unfold rdN at h
  cases e : rdP V out x with
  | none =>
    rw [e] at h
    simp only [Prod.mk.injEq, Bool.true_eq_false, and_false] at h
  | some r =>
    obtain ⟨l, L⟩ := r
    rw [e] at h
    simp only [Prod.mk.injEq, and_true] at h
    subst h
    obtain ⟨_, _, _, h4, h5⟩ := rdP_some e
    exact ⟨rfl, rfl, rfl, h4, h5⟩
theorem kidN_at {x : NdD} {j : Nat} {p : Pr} (hp : x.L[j]? = some p) : (kidN x j).level = x.level - 1 ∧ (kidN x j).low = p.key ∧ (kidN x j).high = (match x.L[j + 1]? with | some q => q.key | none => x.high) := by
  unfold kidN
  rw [hp]
  exact ⟨rfl, rfl, rfl⟩
end
end Go.Proofs.YtcjfnfdinhbdlaaGreatDoor
namespace Go.Proofs.YtcjfnfdinhbdlaaGreatDoor
set_option maxRecDepth 100000
open Go.ChangeShapes Go.WideShapes Go.ChangeAt Go.RowKit Go.PlainAid Go.Deep
theorem heap_inU {w : World} {k : Nat} {o : Obj} (h : w.heap[k]? = some o) : k < w.heap.size := (Array.getElem?_eq_some_iff.1 h).1
theorem ownsRow_onU {w w' : World} {base : Nat} {e : TypeId} {size : Nat} {v : Value} {n : Nat} {xs : List Value} (h : w.ownsRow base e size v n xs) (b : Below w.heap.size w w') : w'.ownsRow base e size v n xs := by
  obtain ⟨h1, h2⟩ := h
  refine ⟨h1, ?_⟩
  rcases h2 with h2 | ⟨g, cap, cur, hv, hb, hg, h3⟩
  · exact .inl h2
  · exact .inr ⟨g, cap, cur, hv, hb, (b.block g (heap_inU hg)).trans hg, h3⟩
theorem info_u64U : (Tryz.prog.info? 137).map (fun i => (i.zero, i.size, i.bytes)) = some (some (.int .u64 0), 1, 8) := by kernel_rfl
def appUU (vs : Array Value) : Sem Value := Builtin.append_ #[243, 243] 243 vs
theorem app_u64U (vs : Array Value) : Builtin.append_ #[243, 243] 243 vs = appUU vs := rfl
def UnsOwn (n₀ : Nat) (W : World) (v : Value) (L : List Int) : Prop := W.ownsRow n₀ 137 1 v L.length (L.map (Value.int .u64))
theorem row_pushU {n₀ : Nat} {W : World} {L : List Int} {v : Value} (hrow : UnsOwn n₀ W v L) (hn : n₀ ≤ W.heap.size) (hlen : L.length ≤ 1048576) (x : Int) (m : Nat) (hm : L.length = m) :
    ∃ g cap w2, (appUU #[v, .slice (some ⟨W.heap.size, 0, none⟩) 1 1]).run Tryz.prog (W.alloc (.cells #[.int .u64 x] 137)) = .ok (.slice (some ⟨g, 0, none⟩) (m + 1) cap) w2 ∧
      UnsOwn n₀ w2 (.slice (some ⟨g, 0, none⟩) (m + 1) cap) (L ++ [x]) ∧ (W.alloc (.cells #[.int .u64 x] 137)).grownBy w2 v.ownBlock ∧ Below n₀ W w2 := by
  subst hm
  obtain ⟨i0, hi, hz0, hz1, hz2⟩ := info_parts info_u64U
  have hq := heap_alloc_new W (.cells #[.int .u64 x] 137)
  have hba : Below W.heap.size W (W.alloc (.cells #[.int .u64 x] 137)) := by go_grown
  obtain ⟨g, cap, w2, hr, h2, h3, _, _⟩ := run_append_lies (P := Tryz.prog) (w := W.alloc (.cells #[.int .u64 x] 137)) 243 243 n₀ 137 i0 (.int .u64 0) 1 8 Tryz.underlying243 hi hz0 hz1 hz2 rfl (by decide) v L.length (L.map (Value.int .u64)) (ownsRow_onU hrow hba) ⟨W.heap.size, 0, none⟩ 1 1 [.int .u64 x] rfl
    (fun j u hu => by
      rcases j with _ | j
      · have : Value.int .u64 x = u := by simpa using hu
        rw [← this]
        show (W.alloc (.cells #[.int .u64 x] 137)).cell? ⟨W.heap.size, 0, none⟩ = _
        rw [cell_of_row _ _ _ _ _ _ hq]
        rfl
      · simp at hu) (fun u hu => by have : u = .int .u64 x := by simpa using hu
                                    rw [this]; rfl) (by decide) (by unfold maxLen; omega) (by omega) (by rw [World.size_alloc]; omega) _ rfl
  refine ⟨g, cap, w2, hr, ?_, h3, (hba.mono hn).grown h3 (by rw [World.size_alloc]; omega) (fun k e => (hrow.lt k e).1)⟩
  unfold UnsOwn
  rw [List.length_append, List.map_append]
  exact h2
theorem UnsOwn.cells {n₀ : Nat} {W : World} {v : Value} {L : List Int} (h : UnsOwn n₀ W v L) : ∃ ao cap, v = .slice ao L.length cap ∧ ∀ (i : Nat) (x : Int), L[i]? = some x → ∃ g, ao = some ⟨g, 0, none⟩ ∧ g < W.heap.size ∧ n₀ ≤ g ∧ W.cell? ⟨g, i, none⟩ = some (.int .u64 x) := by
  obtain ⟨h1, h2⟩ := h
  rcases h2 with ⟨rfl, h0⟩ | ⟨g, cap, cur, rfl, hn, hg, hm, hc, hsz, ht⟩
  · have h0' : L.length = 0 := by simpa using h0
    exact ⟨none, 0, by rw [h0'], fun i x hx => by rw [List.length_eq_zero_iff.1 h0'] at hx; simp at hx⟩
  · refine ⟨_, cap, rfl, fun i x hx => ⟨g, rfl, heap_inU hg, hn, ?_⟩⟩
    rw [cell_of_row _ _ _ _ _ _ hg]
    have hi : i < L.length := (List.getElem?_eq_some_iff.1 hx).1
    have := congrArg (fun l => l[i]?) ht
    simp only [List.getElem?_map, hx, Option.map_some] at this
    rw [← this, Nat.mul_one, List.getElem?_take_of_lt hi, Array.getElem?_toList]
end Go.Proofs.YtcjfnfdinhbdlaaGreatDoor
