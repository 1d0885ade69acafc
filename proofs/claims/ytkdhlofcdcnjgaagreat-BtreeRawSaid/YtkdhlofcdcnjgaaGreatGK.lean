/- Contracts of package cache: same, whose deferred closure finds no panic. Plain: what a cache keeps, as a list, the last used ahead; entries as cells of a row. A cache in memory; contracts: New, Len, find. Contracts: use. Contracts: slices.Backward over entries; oldest. -/
import Derived.Test.YtkdhlofcdcnjgaaGreatGA
import Derived.Test.YtkdhlofcdcnjgaaGreatRows
import Derived.Recover
import Derived.Tactics2
import Derived.Laws.Pointers
import Derived.RangeFuncBox
import Derived.OwnWalk
import Derived.Deep.AppendLies
import Derived.Deep.QuietTactic
import Derived.BigQuiet
import Derived.IntWalk
import Derived.Laws.AppendOwn
import Derived.Laws.OwnMore
import Derived.RangeFuncNested
import Derived.RangeFuncBound
import Derived.RangeFuncCalls
import Derived.RangeFuncLeaves
import Derived.Shelf.Abstract
import Derived.Shelf.RegionOpen
import Derived.OwnWalkIn
import Derived.TacticsInMore
import Derived.LoopNIn
import Derived.LoopIn
namespace Go.Proofs.YtkdhlofcdcnjgaaGreat
set_option maxRecDepth 100000
open Go.ChangeShapes Go.WideShapes Go.ChangeAt Go.RowKit Go.PlainAid

theorem make_func (fn : Fn) (a b : Array Value) (w : World) : (Instr.makeFunc fn a b).run Tryz.prog w = .ok (.func fn a b) w := rfl
namespace KA
theorem catch_idle (w : World) :
    CallsD Tryz.prog 162 #[] .returning w fun e u' w' => e = .returned (.tuple #[]) ∧ u' = .returning ∧ w' = w := by
  refine callsD_of_wpS Tryz.func162 rfl fun c₀ cs hu => ?_
  apply wpS_region
  simp [wpOpsS, go_sem, recoverD, hu, Tryz.ntmps162]
  cases c₀
  simp_all [bodyPostS, results, Tryz.results162]
theorem same_any (a b : Int) (w : World) : Calls Tryz.prog 145 #[.int .i64 a, .int .i64 b] w fun e w' => e = .returned (.bool (a == b)) ∧ w = w' := by
  have hmf := make_func
  go_enter_defers Tryz.func145, Tryz.ntmps145
  go_wp2
  refine leaves_cons (f := 162) (args := #[]) (by simp) (by simp [go_sem]) ?_
  refine (catch_idle _).mono ?_
  rintro e u' w'' ⟨rfl, rfl, rfl⟩
  simp [Leaves, settle, results, Tryz.results145, go_sem]
end KA
end Go.Proofs.YtkdhlofcdcnjgaaGreat
namespace Go.Proofs.YtkdhlofcdcnjgaaGreat
set_option maxRecDepth 100000
open Go.ChangeShapes Go.WideShapes Go.ChangeAt Go.RowKit Go.PlainAid

/-- Something that is kept: its key, its value, how many pins it has. -/
structure Ent (K V : Type) where
  key : K
  val : V
  pins : Nat
section
variable {K V : Type}
/-- Where a key is kept. -/
def posK [DecidableEq K] (k : K) (L : List (Ent K V)) : Nat := L.findIdx fun e => decide (e.key = k)
/-- Each key is kept once. -/
def Once (L : List (Ent K V)) : Prop := (L.map (·.key)).Nodup
/-- What is at a place, used. -/
def useL (i : Nat) (L : List (Ent K V)) : List (Ent K V) := (L[i]?).toList ++ L.eraseIdx i
theorem posK_le [DecidableEq K] (k : K) (L : List (Ent K V)) : posK k L ≤ L.length := List.findIdx_le_length
theorem posK_at [DecidableEq K] {k : K} {L : List (Ent K V)} (h : posK k L < L.length) : ∃ e, L[posK k L]? = some e ∧ e.key = k := by
  have h2 := List.findIdx_getElem (w := h)
  exact ⟨_, List.getElem?_eq_getElem h, of_decide_eq_true h2⟩
theorem posK_ne [DecidableEq K] {k : K} {L : List (Ent K V)} {i : Nat} {e : Ent K V} (hi : i < posK k L) (he : L[i]? = some e) : e.key ≠ k := by
  have h2 := List.not_of_lt_findIdx hi
  obtain ⟨hl, rfl⟩ := List.getElem?_eq_some_iff.1 he
  simpa using h2
theorem posK_eq [DecidableEq K] {k : K} {L : List (Ent K V)} {i : Nat} {e : Ent K V} (he : L[i]? = some e) (hk : e.key = k) (hb : ∀ j x, j < i → L[j]? = some x → x.key ≠ k) : posK k L = i := by
  obtain ⟨hl, rfl⟩ := List.getElem?_eq_some_iff.1 he
  refine (List.findIdx_eq hl).2 ⟨by simpa using hk, fun j hj => ?_⟩
  simpa using hb j _ hj (List.getElem?_eq_getElem (by omega))
theorem posK_no [DecidableEq K] {k : K} {L : List (Ent K V)} (hb : ∀ (j : Nat) (x : Ent K V), L[j]? = some x → x.key ≠ k) : posK k L = L.length := by
  refine List.findIdx_eq_length.2 fun x hx => ?_
  obtain ⟨j, hj⟩ := List.mem_iff_getElem?.1 hx
  simpa using hb j x hj
theorem posK_none [DecidableEq K] {k : K} {L : List (Ent K V)} (h : ¬ posK k L < L.length) : ∀ e ∈ L, e.key ≠ k := by
  intro e he hk
  exact h (List.findIdx_lt_length_of_exists ⟨e, he, by simpa using hk⟩)
theorem posK_some [DecidableEq K] {k : K} {L : List (Ent K V)} {e : Ent K V} (he : e ∈ L) (hk : e.key = k) : posK k L < L.length :=
  List.findIdx_lt_length_of_exists ⟨e, he, by simpa using hk⟩
theorem useL_some {L : List (Ent K V)} {i : Nat} {e : Ent K V} (h : L[i]? = some e) : useL i L = e :: L.eraseIdx i := by
  unfold useL
  rw [h]
  rfl
theorem useL_len {L : List (Ent K V)} {i : Nat} (h : i < L.length) : (useL i L).length = L.length := by
  rw [useL_some (List.getElem?_eq_getElem h), List.length_cons, List.length_eraseIdx_of_lt h]
  omega
theorem once_inj {L : List (Ent K V)} (h : Once L) {i j : Nat} {a b : Ent K V} (ha : L[i]? = some a) (hb : L[j]? = some b) (hk : a.key = b.key) : i = j := by
  unfold Once at h
  obtain ⟨hi, rfl⟩ := List.getElem?_eq_some_iff.1 ha
  obtain ⟨hj, rfl⟩ := List.getElem?_eq_some_iff.1 hb
  have := List.getElem_inj (i := i) (j := j) (h₀ := by simpa using hi) (h₁ := by simpa using hj) h
  exact this.1 (by simpa using hk)
/-- Without the key: the place that it has is gone. -/
theorem once_filter [DecidableEq K] {L : List (Ent K V)} : ∀ {i : Nat} {e : Ent K V}, Once L → L[i]? = some e → L.filter (fun x => !decide (x.key = e.key)) = L.eraseIdx i := by
  induction L with
  | nil => intro i e _ h; simp at h
  | cons a L ih =>
    intro i e h he
    have hn : a.key ∉ L.map (·.key) ∧ Once L := List.nodup_cons.1 h
    cases i with
    | zero =>
      obtain rfl : a = e := by simpa using he
      have : L.filter (fun x => !decide (x.key = a.key)) = L := by
        refine List.filter_eq_self.2 fun x hx => ?_
        have : x.key ≠ a.key := fun hk => hn.1 (List.mem_map.2 ⟨x, hx, hk⟩)
        simp [this]
      simp [this]
    | succ i =>
      have he' : L[i]? = some e := by simpa using he
      have hne : a.key ≠ e.key := fun hk => hn.1 (List.mem_map.2 ⟨e, List.mem_of_getElem? he', hk.symm⟩)
      rw [List.filter_cons_of_pos (by simp [hne]), ih hn.2 he', List.eraseIdx_cons_succ]
theorem once_none [DecidableEq K] {L : List (Ent K V)} {k : K} (h : ¬ posK k L < L.length) : L.filter (fun x => !decide (x.key = k)) = L := by
  refine List.filter_eq_self.2 fun x hx => ?_
  simp [posK_none h x hx]
theorem once_erase {L : List (Ent K V)} (h : Once L) (i : Nat) : Once (L.eraseIdx i) := by
  exact List.Nodup.sublist ((List.eraseIdx_sublist L i).map _) h
theorem mem_erase [DecidableEq K] {L : List (Ent K V)} {i : Nat} {e x : Ent K V} (h : Once L) (he : L[i]? = some e) (hx : x ∈ L.eraseIdx i) : x ∈ L ∧ x.key ≠ e.key := by
  rw [← once_filter h he] at hx
  have := List.mem_filter.1 hx
  exact ⟨this.1, by simpa using this.2⟩
theorem once_cons {L : List (Ent K V)} {e : Ent K V} (h : Once L) (hn : ∀ x ∈ L, x.key ≠ e.key) : Once (e :: L) := by
  refine List.nodup_cons.2 ⟨fun hx => ?_, h⟩
  obtain ⟨x, hx, hk⟩ := List.mem_map.1 hx
  exact hn x hx hk
theorem once_use [DecidableEq K] {L : List (Ent K V)} (h : Once L) (i : Nat) : Once (useL i L) := by
  cases hi : L[i]? with
  | none =>
    unfold useL
    rw [hi, List.eraseIdx_of_length_le (by rw [List.getElem?_eq_none_iff] at hi; omega)]
    exact h
  | some e =>
    rw [useL_some hi]
    exact once_cons (once_erase h i) fun x hx => (mem_erase h hi hx).2

/-- Where that is which was used longest ago, of what has no pin: from the end. -/
def oldL (L : List (Ent K V)) : Nat := L.reverse.findIdx fun e => decide (e.pins = 0)
/-- What a Put leaves. -/
def putL [DecidableEq K] (most : Nat) (k : K) (v : V) (L : List (Ent K V)) : List (Ent K V) :=
  if posK k L < L.length then (L[posK k L]?).toList.map (fun e => { e with val := v }) ++ L.eraseIdx (posK k L)
  else if L.length < most then ⟨k, v, 0⟩ :: L
  else if oldL L < L.length then ⟨k, v, 0⟩ :: L.eraseIdx (L.length - 1 - oldL L)
  else L
/-- What a Put tells: which key is gone. -/
def putK [DecidableEq K] (most : Nat) (k : K) (L : List (Ent K V)) : Option K :=
  if posK k L < L.length then none else if L.length < most then none
  else if oldL L < L.length then (L[L.length - 1 - oldL L]?).map (·.key) else none
/-- What a Put tells: its error. -/
def putE [DecidableEq K] (most : Nat) (k : K) (L : List (Ent K V)) : Int :=
  if posK k L < L.length then 0 else if L.length < most then 0 else if oldL L < L.length then 0 else 12
/-- One more pin, or one fewer, at a place. -/
def pinL (i : Nat) (by_ : Int) (L : List (Ent K V)) : List (Ent K V) := L.modify i fun e => { e with pins := ((e.pins : Int) + by_).toNat }
theorem oldL_at {L : List (Ent K V)} (h : oldL L < L.length) : ∃ e, L[L.length - 1 - oldL L]? = some e ∧ e.pins = 0 ∧ ∀ j x, L.length - 1 - oldL L < j → L[j]? = some x → x.pins ≠ 0 := by
  have h' : oldL L < L.reverse.length := by simpa using h
  have h2 := List.findIdx_getElem (w := h')
  have e2 : L[L.length - 1 - oldL L]? = some (L.reverse[oldL L]) := by rw [← List.getElem?_reverse h]; exact List.getElem?_eq_getElem h'
  refine ⟨_, e2, of_decide_eq_true h2, fun j x hj hx => ?_⟩
  obtain ⟨hl, _⟩ := List.getElem?_eq_some_iff.1 hx
  have hq : L.length - 1 - j < L.reverse.length := by rw [List.length_reverse]; omega
  have h3 := List.not_of_lt_findIdx (xs := L.reverse) (p := fun e => decide (e.pins = 0)) (i := L.length - 1 - j) (by unfold oldL at hj h; omega)
  have e3 : L.reverse[L.length - 1 - j]? = L[j]? := by rw [List.getElem?_reverse (by omega), show L.length - 1 - (L.length - 1 - j) = j by omega]
  rw [hx, List.getElem?_eq_getElem hq] at e3
  rw [Option.some.inj e3] at h3
  simpa using h3
theorem oldL_no {L : List (Ent K V)} (h : ¬ oldL L < L.length) : ∀ e ∈ L, e.pins ≠ 0 := by
  intro e he hk
  have := List.findIdx_lt_length_of_exists (xs := L.reverse) (p := fun e => decide (e.pins = 0)) ⟨e, by simpa using he, by simpa using hk⟩
  unfold oldL at h
  rw [List.length_reverse] at this
  exact h this
theorem oldL_yes {L : List (Ent K V)} {e : Ent K V} (he : e ∈ L) (hp : e.pins = 0) : oldL L < L.length := by
  by_cases h : oldL L < L.length
  · exact h
  · exact absurd hp (oldL_no h e he)
theorem oldL_eq {L : List (Ent K V)} {i : Nat} {e : Ent K V} (he : L[i]? = some e) (hp : e.pins = 0) (hb : ∀ j x, i < j → L[j]? = some x → x.pins ≠ 0) : oldL L = L.length - 1 - i := by
  obtain ⟨hl, _⟩ := List.getElem?_eq_some_iff.1 he
  have hq : L.length - 1 - i < L.reverse.length := by rw [List.length_reverse]; omega
  have e3 : L.reverse[L.length - 1 - i]? = L[i]? := by rw [List.getElem?_reverse (by omega), show L.length - 1 - (L.length - 1 - i) = i by omega]
  rw [he, List.getElem?_eq_getElem hq] at e3
  refine (List.findIdx_eq hq).2 ⟨by rw [Option.some.inj e3]; exact decide_eq_true hp, fun j hj => ?_⟩
  have hj2 : j < L.reverse.length := by omega
  have e4 : L.reverse[j]? = L[L.length - 1 - j]? := List.getElem?_reverse (by omega)
  rw [List.getElem?_eq_getElem hj2] at e4
  simpa using hb (L.length - 1 - j) _ (by omega) e4.symm
theorem pinL_len (i : Nat) (b : Int) (L : List (Ent K V)) : (pinL i b L).length = L.length := List.length_modify _ _ _
theorem once_pin {L : List (Ent K V)} (h : Once L) (i : Nat) (b : Int) : Once (pinL i b L) := by
  unfold Once pinL
  have : (L.modify i fun e => { e with pins := ((e.pins : Int) + b).toNat }).map (·.key) = L.map (·.key) := by
    apply List.ext_getElem?
    intro j
    rw [List.getElem?_map, List.getElem?_modify, List.getElem?_map]
    cases L[j]? with
    | none => rfl
    | some x => by_cases e : i = j <;> simp [e]
  rw [this]
  exact h
theorem once_put [DecidableEq K] {L : List (Ent K V)} (h : Once L) (most : Nat) (k : K) (v : V) : Once (putL most k v L) := by
  unfold putL
  split
  · rename_i hp
    obtain ⟨e, he, hk⟩ := posK_at hp
    rw [he]
    exact once_cons (once_erase h _) fun x hx => by have := (mem_erase h he hx).2; simpa using this
  · rename_i hp
    split
    · exact once_cons h (posK_none hp)
    · split
      · exact once_cons (once_erase h _) fun x hx => posK_none hp x ((List.eraseIdx_sublist _ _).subset hx)
      · exact h
theorem put_len [DecidableEq K] {L : List (Ent K V)} {most : Nat} (hm : L.length ≤ most) (k : K) (v : V) : (putL most k v L).length ≤ most := by
  unfold putL
  split
  · rename_i hp
    obtain ⟨e, he, hk⟩ := posK_at hp
    rw [he]
    simp only [Option.toList_some, List.map_cons, List.map_nil, List.cons_append, List.nil_append, List.length_cons]
    rw [List.length_eraseIdx_of_lt hp]
    omega
  · split
    · simp only [List.length_cons]; omega
    · split
      · rw [List.length_cons, List.length_eraseIdx_of_lt (by omega)]; omega
      · exact hm
end
section
variable {K V : Type} (c : Ent K V → List Value)
/-- Entries as cells, three each. -/
def flat (L : List (Ent K V)) : List Value := L.flatMap c
structure Three : Prop where
  len : ∀ e, (c e).length = 3
  one : ∀ e, ∀ u ∈ c e, u.oneCell' = true
variable {c}
theorem flat_len (h : Three c) (L : List (Ent K V)) : (flat c L).length = L.length * 3 := by
  induction L with
  | nil => rfl
  | cons a L ih => simp only [flat, List.flatMap_cons, List.length_append, h.len, List.length_cons] at ih ⊢; omega
theorem flat_cons (a : Ent K V) (L : List (Ent K V)) : flat c (a :: L) = c a ++ flat c L := rfl
theorem flat_app (A B : List (Ent K V)) : flat c (A ++ B) = flat c A ++ flat c B := List.flatMap_append
theorem flat_one (h : Three c) (L : List (Ent K V)) : ∀ u ∈ flat c L, u.oneCell' = true := by
  intro u hu
  obtain ⟨e, _, he⟩ := List.mem_flatMap.1 hu
  exact h.one e u he
theorem flat_take (h : Three c) (L : List (Ent K V)) (i : Nat) : (flat c L).take (i * 3) = flat c (L.take i) := by
  induction L generalizing i with
  | nil => simp [flat]
  | cons a L ih =>
    cases i with
    | zero => simp [flat]
    | succ i =>
      rw [flat_cons, List.take_succ_cons, flat_cons, List.take_append, h.len, show (i + 1) * 3 - 3 = i * 3 by omega, ih, List.take_of_length_le (by rw [h.len]; omega)]
theorem flat_drop (h : Three c) (L : List (Ent K V)) (i : Nat) : (flat c L).drop (i * 3) = flat c (L.drop i) := by
  induction L generalizing i with
  | nil => simp [flat]
  | cons a L ih =>
    cases i with
    | zero => simp [flat]
    | succ i =>
      rw [flat_cons, List.drop_succ_cons, List.drop_append, h.len, show (i + 1) * 3 - 3 = i * 3 by omega, ih, List.drop_of_length_le (by rw [h.len]; omega)]
      rfl
theorem flat_at (h : Three c) {L : List (Ent K V)} {i : Nat} {e : Ent K V} (he : L[i]? = some e) (j : Nat) (hj : j < 3) : (flat c L)[i * 3 + j]? = (c e)[j]? := by
  rw [← List.getElem?_drop, flat_drop h]
  obtain ⟨hl, rfl⟩ := List.getElem?_eq_some_iff.1 he
  rw [List.drop_eq_getElem_cons hl, flat_cons, List.getElem?_append_left (by rw [h.len]; exact hj)]
end
/-- A row of entries that a call owns. -/
def RowE {K V : Type} (c : Ent K V → List Value) (t : TypeId) (n₀ : Nat) (W : World) (v : Value) (L : List (Ent K V)) : Prop := W.ownsRow n₀ t 3 v L.length (flat c L)
/-- The block of a row that isn't empty. -/
theorem RowE.block {K V : Type} {c : Ent K V → List Value} {t : TypeId} {n₀ : Nat} {W : World} {v : Value} {L : List (Ent K V)} (h : RowE c t n₀ W v L) (hn : 0 < L.length) :
    ∃ g cap cur, v = .slice (some ⟨g, 0, none⟩) L.length cap ∧ n₀ ≤ g ∧ W.heap[g]? = some (.cells cur t (0, 0)) ∧ L.length ≤ cap ∧ cap ≤ maxLen ∧ cur.size = cap * 3 ∧ cur.toList.take (L.length * 3) = flat c L := by
  rcases h.2 with ⟨_, h0⟩ | h
  · omega
  · exact h
/-- The row with other entries, no more than fit. -/
theorem RowE.mk' {K V : Type} {c : Ent K V → List Value} {t : TypeId} {n₀ : Nat} {W : World} {M : List (Ent K V)} {g cap : Nat} {cur2 : Array Value} (h3 : Three c) (hb : n₀ ≤ g) (hg : W.heap[g]? = some (.cells cur2 t (0, 0)))
    (hm : cap ≤ maxLen) (hs2 : cur2.size = cap * 3) (hl : M.length ≤ cap) (ht2 : cur2.toList.take (M.length * 3) = flat c M) {n : Nat} (hn : n = M.length) :
    RowE c t n₀ W (.slice (some ⟨g, 0, none⟩) n cap) M := by
  subst hn
  exact ⟨flat_len h3 M, .inr ⟨g, cap, cur2, rfl, hb, hg, hl, hm, hs2, ht2⟩⟩
theorem cut3 {K V : Type} {c : Ent K V → List Value} {cur : List Value} {L : List (Ent K V)} (ht : cur.take (L.length * 3) = flat c L) : cur = flat c L ++ cur.drop (L.length * 3) := by
  rw [← ht, List.take_append_drop]
theorem take3 {K V : Type} {c : Ent K V → List Value} (h3 : Three c) {cur : List Value} {L : List (Ent K V)} (ht : cur.take (L.length * 3) = flat c L) {i : Nat} (hi : i ≤ L.length) : cur.take (i * 3) = flat c (L.take i) := by
  rw [← flat_take h3, ← ht, List.take_take, Nat.min_eq_left (by omega)]
theorem drop3 {K V : Type} {c : Ent K V → List Value} (h3 : Three c) {cur : List Value} {L : List (Ent K V)} (ht : cur.take (L.length * 3) = flat c L) {i : Nat} (hi : i ≤ L.length) : cur.drop (i * 3) = flat c (L.drop i) ++ cur.drop (L.length * 3) := by
  have h := cut3 ht
  generalize cur.drop (L.length * 3) = r at *
  rw [h, List.drop_append, flat_drop h3, flat_len h3, show i * 3 - L.length * 3 = 0 by omega, List.drop_zero]
theorem front3 {K V : Type} {c : Ent K V → List Value} (h3 : Three c) (M : List (Ent K V)) (r : List Value) (n : Nat) (hn : n = M.length) : (flat c M ++ r).take (n * 3) = flat c M := by
  rw [hn, ← flat_len h3 M]
  exact List.take_left
theorem erase_cut {K V : Type} (L : List (Ent K V)) (i : Nat) : L.eraseIdx i = L.take i ++ L.drop (i + 1) := List.eraseIdx_eq_take_drop_succ _ _
/-- What is at a place, moved ahead. -/
theorem use_list {K V : Type} {c : Ent K V → List Value} (h3 : Three c) {cur : List Value} {L : List (Ent K V)} {i : Nat} {x : Ent K V} (hx : L[i]? = some x) (ht : cur.take (L.length * 3) = flat c L) :
    (c x ++ cur.take (i * 3) ++ cur.drop ((i + 1) * 3)).take (L.length * 3) = flat c (useL i L) := by
  have hi := (List.getElem?_eq_some_iff.1 hx).1
  rw [take3 h3 ht (by omega), drop3 h3 ht (by omega), ← List.append_assoc, ← flat_cons, ← flat_app, useL_some hx, erase_cut]
  exact front3 h3 _ _ _ (by simp; omega)
/-- One entry otherwise. -/
theorem set_list {K V : Type} {c : Ent K V → List Value} (h3 : Three c) {cur : List Value} {L : List (Ent K V)} {i : Nat} {x : Ent K V} (hi : i < L.length) (ht : cur.take (L.length * 3) = flat c L) :
    (cur.take (i * 3) ++ c x ++ cur.drop ((i + 1) * 3)).take (L.length * 3) = flat c (L.set i x) := by
  rw [take3 h3 ht (by omega), drop3 h3 ht (by omega), List.append_assoc, ← List.append_assoc (c x), ← flat_cons, ← List.append_assoc, ← flat_app, List.set_eq_take_append_cons_drop, if_pos hi]
  exact front3 h3 _ _ _ (by simp; omega)
/-- copy of a row's first entries behind its first one. -/
theorem run_copy_row3 {P : Program} (w : World) (dT sT ty elem : TypeId) (g o dLen dCap sLen sCap : Nat) (cur : Array Value) (t : TypeId) (hu : P.underlying dT = some (.slice elem)) (hs : (P.info? elem).map (·.size) = some 3)
    (hg : w.heap[g]? = some (.cells cur t (0, 0))) (hn : sLen = dLen) (hfit : o + dLen * 3 ≤ cur.size) (h1 : ∀ v ∈ cur.toList.take (dLen * 3), v.oneCell' = true) :
    (Builtin.copy_ #[dT, sT] ty #[.slice (some ⟨g, o, none⟩) dLen dCap, .slice (some ⟨g, 0, none⟩) sLen sCap]).run P w =
      .ok (goInt dLen) (w.setRow g (cur.toList.take o ++ cur.toList.take (dLen * 3) ++ cur.toList.drop (o + dLen * 3)).toArray) := by
  subst hn
  have hlen : (cur.toList.take (sLen * 3)).length = sLen * 3 := by rw [List.length_take, Array.length_toList]; omega
  have hl := run_loadCells_list (P := P) w ⟨g, 0, none⟩ (cur.toList.take (sLen * 3)) (fun j v hv => by
    have hj := (List.getElem?_eq_some_iff.1 hv).1
    rw [List.getElem?_take_of_lt (by omega), Array.getElem?_toList] at hv
    have hadd : (⟨g, 0, none⟩ : Addr).add j = ⟨g, j, none⟩ := by unfold Addr.add; split <;> simp_all
    rw [hadd, cell_of_row _ _ _ _ _ _ hg]
    exact hv)
  rw [hlen] at hl
  have hst := run_storeCells_at P g o t (cur.toList.take (sLen * 3)) 0 cur w hg (by rw [hlen]; omega) h1
  rw [hlen] at hst
  simp only [Nat.add_zero] at hst
  cases hq : P.info? elem with
  | none => simp [hq] at hs
  | some i =>
    have hi : i.size = 3 := by simpa [hq] using hs
    simp [Builtin.copy_, run_underlying hu, Builtin.lenOf, Builtin.firstCells, sizeOf, typeInfo, hq, hi, hl]
    rw [hst, List.append_assoc]
    rfl
end Go.Proofs.YtkdhlofcdcnjgaaGreat
namespace Go.Proofs.YtkdhlofcdcnjgaaGreat
set_option maxRecDepth 100000
open Go.ChangeShapes Go.WideShapes Go.ChangeAt Go.RowKit Go.PlainAid

theorem heap_in {w : World} {k : Nat} {o : Obj} (h : w.heap[k]? = some o) : k < w.heap.size := (Array.getElem?_eq_some_iff.1 h).1
theorem ownsRow_onC {w w' : World} {base : Nat} {e : TypeId} {size : Nat} {v : Value} {n : Nat} {xs : List Value} (h : w.ownsRow base e size v n xs) (b : Below w.heap.size w w') : w'.ownsRow base e size v n xs := by
  obtain ⟨h1, h2⟩ := h
  refine ⟨h1, ?_⟩
  rcases h2 with h2 | ⟨g, cap, cur, hv, hb, hg, h3⟩
  · exact .inl h2
  · exact .inr ⟨g, cap, cur, hv, hb, (b.block g (heap_in hg)).trans hg, h3⟩
namespace KA
abbrev E := Ent Int ByteArray
/-- An entry's cells. -/
def cE (e : E) : List Value := [.int .i64 e.key, .string e.val, .int .i64 (e.pins : Int)]
theorem three : Three cE := ⟨fun _ => rfl, fun e u hu => by
  simp only [cE, List.mem_cons, List.not_mem_nil, or_false] at hu
  rcases hu with rfl | rfl | rfl <;> rfl⟩
/-- A cache at p, of at most so much, that keeps L; other known blocks R beside it. -/
structure CaT (w0 : World) (p : Nat) (most : Int) (L : List E) (R : List (Nat × Obj)) (w : World) : Prop where
  below : Below w0.heap.size w0 w
  base : w0.heap.size ≤ p
  row : ∃ v, w.heap[p]? = some (.cells #[.int .i64 most, v] 161 (0, 0)) ∧ RowE cE 178 w0.heap.size w v L ∧ v.ownBlock ≠ some p ∧ ∀ b o, (b, o) ∈ R → v.ownBlock ≠ some b
  known : ∀ b o, (b, o) ∈ R → w.heap[b]? = some o ∧ b ≠ p
theorem CaT.on {w0 : World} {p : Nat} {most : Int} {L : List E} {R : List (Nat × Obj)} {w w' : World} (h : CaT w0 p most L R w) (b : Below w.heap.size w w') : CaT w0 p most L R w' := by
  obtain ⟨h1, h2, ⟨v, h3, h4, h5, h6⟩, h7⟩ := h
  exact ⟨h1.on b, h2, ⟨v, (b.block p (heap_in h3)).trans h3, ownsRow_onC h4 b, h5, h6⟩, fun k o hk => ⟨(b.block k (heap_in (h7 k o hk).1)).trans (h7 k o hk).1, (h7 k o hk).2⟩⟩
theorem CaT.sub {w0 : World} {p : Nat} {most : Int} {L : List E} {R R' : List (Nat × Obj)} {w : World} (h : CaT w0 p most L R w) (hs : ∀ b o, (b, o) ∈ R' → (b, o) ∈ R) : CaT w0 p most L R' w := by
  obtain ⟨h1, h2, ⟨v, h3, h4, h5, h6⟩, h7⟩ := h
  exact ⟨h1, h2, ⟨v, h3, h4, h5, fun b o hb => h6 b o (hs b o hb)⟩, fun b o hb => h7 b o (hs b o hb)⟩
/-- The box, and the row, changed. -/
theorem CaT.move {w0 : World} {p : Nat} {most : Int} {L : List E} {R : List (Nat × Obj)} {w w' : World} {v v' : Value} {M : List E} (h : CaT w0 p most L R w)
    (hv : w.heap[p]? = some (.cells #[.int .i64 most, v] 161 (0, 0)))
    (b : w0.heap.size ≤ w.heap.size → (∀ k, v.ownBlock = some k → w0.heap.size ≤ k) → w0.heap.size ≤ p → Below w0.heap.size w w')
    (hk : ∀ k, k < w.heap.size → k ≠ p → v.ownBlock ≠ some k → w'.heap[k]? = w.heap[k]?)
    (hp : w'.heap[p]? = some (.cells #[.int .i64 most, v'] 161 (0, 0))) (hr : RowE cE 178 w0.heap.size w' v' M)
    (ho : ∀ k, v'.ownBlock = some k → v.ownBlock = some k ∨ w.heap.size ≤ k) : CaT w0 p most M R w' := by
  obtain ⟨h1, h2, ⟨u, h3, h4, h5, h6⟩, h7⟩ := h
  obtain rfl : u = v := by
    rw [hv] at h3
    injection h3 with h3
    injection h3 with h3
    simpa using h3.symm
  refine ⟨h1.trans (b h1.size (fun k hk' => (h4.lt k hk').1) h2), h2, ⟨v', hp, hr, fun hc => ?_, fun b' o hb hc => ?_⟩, fun b' o hb => ⟨?_, (h7 b' o hb).2⟩⟩
  · rcases ho p hc with hc | hc
    · exact h5 hc
    · have := heap_in hv
      omega
  · rcases ho b' hc with hc | hc
    · exact h6 b' o hb hc
    · have := heap_in (h7 b' o hb).1
      omega
  · rw [hk b' (heap_in (h7 b' o hb).1) (h7 b' o hb).2 (h6 b' o hb)]
    exact (h7 b' o hb).1
theorem box_cells {p : Nat} {w : World} {most : Int} {v : Value} (h : w.heap[p]? = some (.cells #[.int .i64 most, v] 161 (0, 0))) : w.cell? ⟨p, 0, none⟩ = some (.int .i64 most) ∧ w.cell? ⟨p, 1, none⟩ = some v ∧ w.frozen? ⟨p, 1, none⟩ = false := by
  refine ⟨by rw [cell_of_row _ _ _ _ _ _ h]; rfl, by rw [cell_of_row _ _ _ _ _ _ h]; rfl, frozen_of_row _ _ _ _ _ h⟩
theorem row_cells {n₀ : Nat} {w : World} {g n cap : Nat} {L : List E} (h : RowE cE 178 n₀ w (.slice (some ⟨g, 0, none⟩) n cap) L) {i : Nat} {e : E} (he : L[i]? = some e) :
    w.cell? ⟨g, i * 3, none⟩ = some (.int .i64 e.key) ∧ w.cell? ⟨g, i * 3 + 1, none⟩ = some (.string e.val) ∧ w.cell? ⟨g, i * 3 + 2, none⟩ = some (.int .i64 (e.pins : Int)) := by
  rcases h.2 with ⟨hv, _⟩ | ⟨g', cap', cur, hv, _, hg, _, _, _, ht⟩
  · cases hv
  · cases hv
    have hlt := (List.getElem?_eq_some_iff.1 he).1
    have key : ∀ j, j < 3 → w.cell? ⟨g, i * 3 + j, none⟩ = (cE e)[j]? := fun j hj => by
      rw [cell_of_row _ _ _ _ _ _ hg, ← flat_at three he j hj, ← ht, List.getElem?_take_of_lt (by omega), Array.getElem?_toList]
    exact ⟨key 0 (by omega), key 1 (by omega), key 2 (by omega)⟩

/-- What find tells. -/
def FindPost (k : Int) (L : List E) (w : World) (e : Ending) (w' : World) : Prop :=
  (∃ i x, L[i]? = some x ∧ x.key = k ∧ posK k L = i ∧ e = .returned (.tuple #[.int .i64 (i : Int), .bool true]) ∧ Below w.heap.size w w') ∨
  (¬ posK k L < L.length ∧ e = .returned (.tuple #[.int .i64 0, .bool false]) ∧ Below w.heap.size w w')
theorem below_drew (w : World) (n : Nat) : Below w.heap.size w (w.drewN n) := ⟨rfl, rfl, rfl, Nat.le_refl _, fun _ _ => rfl⟩
set_option maxHeartbeats 400000 in
theorem find_any {w0 : World} {p : Nat} {most : Int} {L : List E} {R : List (Nat × Obj)} {w : World} (h : CaT w0 p most L R w) (k : Int) (hl : L.length ≤ 4096) :
    Calls Tryz.prog 116 #[.pointer (some ⟨p, 0, none⟩), .int .i64 k] w (FindPost k L w) := by
  obtain ⟨v, hp, hr, _⟩ := h.row
  obtain ⟨hm, hu, _⟩ := box_cells hp
  obtain ⟨ao, n, cap, rfl, hn⟩ : ∃ ao n cap, v = .slice ao n cap ∧ n = L.length := by
    rcases hr.2 with ⟨hv, h0⟩ | ⟨g, cap, cur, hv, _⟩
    · exact ⟨_, _, _, hv, h0.symm⟩
    · exact ⟨_, _, _, hv, rfl⟩
  subst hn
  have HR := Lib.hid hr
  have HP := Lib.hid hp
  clear h hp hr
  go_enter Tryz.func116, Tryz.ntmps116
  go_wp2_with fail
  go_loopw [14] (fun i wr => ∃ j : Nat, j ≤ L.length ∧ i = .int .i64 j ∧ (∀ t x, t < j → L[t]? = some x → x.key ≠ k) ∧ Below w.heap.size w wr) (fun i _ => L.length - (intOf i).toNat)
  case atStart => exact ⟨0, Nat.zero_le _, rfl, fun _ _ h => absurd h (Nat.not_lt_zero _), Below.refl _ _⟩
  case round =>
    obtain ⟨j, hj, rfl, hb, hB⟩ := hrel
    have HN := Lib.hid hb
    have HB := Lib.hid hB
    have hu2 := (hB.cell (p := ⟨p, 1, none⟩) (heap_in HP.out)).trans hu
    clear hb hB hm hu
    by_cases hlt : j < L.length
    · obtain ⟨x, hx⟩ : ∃ x, L[j]? = some x := ⟨_, List.getElem?_eq_getElem hlt⟩
      obtain ⟨g, cap', cur, hv, _⟩ := HR.out.block (by omega)
      cases hv
      have hc := (row_cells (ownsRow_onC HR.out HB.out) hx).1
      have HX := Lib.hid hx
      by_cases hk : x.key = k
      · have hq : (x.key == k) = true := beq_iff_eq.2 hk
        have HS := Lib.hid fun w => hq ▸ same_any x.key k w
        have HK := Lib.hid hk
        clear hx hq hk
        go_wp2_with fail
        refine (HS.out _).mono ?_
        rintro e _ ⟨rfl, rfl⟩
        go_wp2
        go_returns
        exact .inl ⟨j, x, HX.out, HK.out, posK_eq HX.out HK.out HN.out, rfl, HB.out⟩
      · have hq : (x.key == k) = false := beq_eq_false_iff_ne.2 hk
        have HS := Lib.hid fun w => hq ▸ same_any x.key k w
        have HK := Lib.hid hk
        clear hx hq hk
        go_wp2_with fail
        refine (HS.out _).mono ?_
        rintro e _ ⟨rfl, rfl⟩
        go_wp2
        go_roundw
        case rel => exact ⟨j + 1, by omega, by go_num, fun t y ht hy => by
          by_cases e : t = j
          · subst e
            rw [HX.out] at hy
            cases hy
            exact HK.out
          · exact HN.out t y (by omega) hy, HB.out⟩
        case measure => simp [intOf]; omega
    · obtain rfl : j = L.length := by omega
      go_wp2
      go_returns
      refine .inr ⟨?_, rfl, HB.out⟩
      rw [posK_no fun t y hy => HN.out t y (List.getElem?_eq_some_iff.1 hy).1 hy]
      omega
end KA
end Go.Proofs.YtkdhlofcdcnjgaaGreat
namespace Go.Proofs.YtkdhlofcdcnjgaaGreat
set_option maxRecDepth 100000
open Go.ChangeShapes Go.WideShapes Go.ChangeAt Go.RowKit Go.PlainAid

/-- Cells stored into a block, as its row. -/
theorem setCells_row {w : World} {b o : Nat} {cur : Array Value} {t : TypeId} {vs : List Value} (h : w.heap[b]? = some (.cells cur t (0, 0))) (hs : o + vs.length ≤ cur.size) (h1 : ∀ v ∈ vs, v.oneCell' = true) :
    w.setCells b o vs = w.setRow b (cur.toList.take o ++ vs ++ cur.toList.drop (o + vs.length)).toArray := by
  have a := run_storeCells_at Tryz.prog b o t vs 0 cur w h (by simpa using hs) h1
  have c := run_storeCells_cells (P := Tryz.prog) b o vs 0 w (fun j hj => by
    rw [cell_of_row _ _ _ _ _ _ h]
    rw [Array.getElem?_eq_getElem (by omega)]
    rfl) (fun j _ => frozen_of_row _ _ _ _ _ h) h1
  rw [a] at c
  simp only [Nat.add_zero] at c
  injection c with _ c
  exact c.symm
theorem add_off (g b : Nat) : (⟨g, 0, none⟩ : Addr).add b = ⟨g, b, none⟩ := by
  unfold Addr.add
  split
  · next h => rw [h]
  · rw [Nat.zero_add]
namespace KA
theorem elem_e : Tryz.prog.elem 159 = 178 := by kernel_rfl
theorem under_e : Tryz.prog.underlying 159 = some (.slice (Tryz.prog.elem 159)) := by kernel_rfl
theorem info_e : (Tryz.prog.info? 178).map (·.size) = some 3 := by kernel_rfl
theorem isRow_e : ∃ d, Tryz.prog.underlying 178 = some d ∧ d.isRow = true := by
  refine ⟨(Tryz.prog.underlying 178).getD default, by kernel_rfl, by kernel_rfl⟩
/-- Where used[1:] begins: Go does not point behind an array's end. -/
def offE (cap : Nat) : Nat := if cap = 1 then 0 else 3
theorem slice_up (g n cap i : Nat) (hi : i < n) (hc : n ≤ cap) (w : World) : (Instr.slice 159 (.slice (some ⟨g, 0, none⟩) n cap) (some (.int .i64 1)) (some (.int .i64 ((i : Int) + 1))) none).run Tryz.prog w = .ok (.slice (some ⟨g, offE cap, none⟩) i (cap - 1)) w := by
  rw [run_slice_lh (P := Tryz.prog) w 159 (some ⟨g, 0, none⟩) n cap under_e .i64 .i64 1 ((i : Int) + 1) (by omega) (by omega) (by omega), elem_e, Tryz.sizeOf178]
  show Result.ok (sliced _ _ _ _ _) w = _
  unfold sliced offE
  have e1 : ((i : Int) + 1).toNat = i + 1 := by omega
  have e2 : (1 : Int).toNat = 1 := rfl
  rw [e1, e2, Nat.add_sub_cancel]
  by_cases h : cap = 1
  · simp [h]
  · simp [h, add_off]
theorem slice_lo (g n cap i : Nat) (hi : i ≤ cap) (w : World) : (Instr.slice 159 (.slice (some ⟨g, 0, none⟩) n cap) none (some (.int .i64 (i : Int))) none).run Tryz.prog w = .ok (.slice (some ⟨g, 0, none⟩) i cap) w := by
  rw [run_slice_h (P := Tryz.prog) w 159 (some ⟨g, 0, none⟩) n cap under_e .i64 (i : Int) (by omega) (by omega), elem_e, Tryz.sizeOf178]
  show Result.ok (sliced _ _ _ _ _) w = _
  unfold sliced
  rw [Int.toNat_natCast]
  by_cases h : cap = 0 <;> simp [h, add_off]
theorem info_e2 : (Tryz.prog.info? 178).map (fun i => (i.zero, i.size, i.bytes)) = some (some (.agg #[.int .i64 0, .string ⟨#[]⟩, .int .i64 0]), 3, 32) := by kernel_rfl
def copyE (vs : Array Value) : Sem Value := Builtin.copy_ #[159, 159] 3 vs
theorem copy_e (vs : Array Value) : Builtin.copy_ #[159, 159] 3 vs = copyE vs := rfl
theorem store_e (p v : Value) : Instr.storeAt 178 p v = storeS 178 p v := rfl
/-- What use does with a row. -/
theorem copy_up {w : World} {g cap : Nat} {cur : Array Value} {L : List E} {i : Nat} {x : E} (hg : w.heap[g]? = some (.cells cur 178 (0, 0))) (hx : L[i]? = some x) (hlc : L.length ≤ cap) (hcs : cur.size = cap * 3)
    (ht : cur.toList.take (L.length * 3) = flat cE L) : ∃ cur2 : Array Value, (copyE #[.slice (some ⟨g, offE cap, none⟩) i (cap - 1), .slice (some ⟨g, 0, none⟩) i cap]).run Tryz.prog w = .ok (.int .i64 (i : Int)) (w.setRow g cur2) ∧
      cur2.size = cap * 3 ∧ cur2.toList.drop 3 = cur.toList.take (i * 3) ++ cur.toList.drop ((i + 1) * 3) := by
  have hi := (List.getElem?_eq_some_iff.1 hx).1
  have ho : offE cap + i * 3 ≤ cap * 3 ∧ (offE cap = 3 ∨ (offE cap = 0 ∧ i = 0)) := by
    unfold offE
    split <;> omega
  have hr := run_copy_row3 (P := Tryz.prog) w 159 159 3 _ g (offE cap) i (cap - 1) i cap cur _ under_e (by rw [elem_e]; exact info_e) hg rfl (by rw [hcs]; exact ho.1) (fun v hv => by
    rw [take3 three ht (by omega)] at hv
    exact flat_one three _ v hv)
  refine ⟨_, hr, ?_, ?_⟩
  · simp only [List.size_toArray, List.length_append, List.length_take, List.length_drop, Array.length_toList]
    omega
  · rcases ho.2 with h | ⟨h, rfl⟩
    · rw [h]
      have h3 : (cur.toList.take 3).length = 3 := by rw [List.length_take, Array.length_toList]; omega
      show (List.take 3 cur.toList ++ _ ++ _).drop 3 = _
      rw [List.append_assoc, List.drop_append, h3, List.drop_of_length_le (by omega), show (i + 1) * 3 = 3 + i * 3 by omega]
      rfl
    · rw [h]
      simp
theorem store_up {w : World} {g cap : Nat} {cur2 : Array Value} {x : E} (hg : w.heap[g]? = some (.cells cur2 178 (0, 0))) (hs : cur2.size = cap * 3) {i : Nat} (hi : i < cap) :
    (storeS 178 (.pointer (some ⟨g, i * 3, none⟩)) (.agg (cE x).toArray)).run Tryz.prog w = .ok () (w.setRow g (cur2.toList.take (i * 3) ++ cE x ++ cur2.toList.drop (i * 3 + 3)).toArray) := by
  have h := storeMany_range (P := Tryz.prog) (t := 178) (w := w) (g := g) (o := i * 3) (cE x) ?_ (by rw [info_e]; rfl) (fun v hv => three.one x v hv)
  · rw [setCells_row hg (by show i * 3 + 3 ≤ _; omega) (fun v hv => three.one x v hv)] at h
    exact h
  · intro j hj
    have hj3 : j < 3 := hj
    refine ⟨?_, frozen_of_row _ _ _ _ _ hg⟩
    rw [cell_of_row _ _ _ _ _ _ hg, Array.getElem?_eq_getElem (by omega)]
    rfl
theorem below_row {w w' : World} {B g : Nat} (h : Below B w w') (hb : B ≤ g) (cs : Array Value) : Below B w (w'.setRow g cs) :=
  ⟨h.os, h.tape, h.output, by simp; exact h.size, fun k hk => (setRow_other w' g k cs (by omega)).trans (h.block k hk)⟩
theorem store_new (w : World) (x : E) (c : Array Value) (hc : c.size = 3) : (storeS 178 (.pointer (some ⟨w.heap.size, 0, none⟩)) (.agg #[.int .i64 x.key, .string x.val, .int .i64 (x.pins : Int)])).run Tryz.prog (w.alloc (.cells c 178)) = .ok () (w.alloc (.cells #[.int .i64 x.key, .string x.val, .int .i64 (x.pins : Int)] 178)) := by
  have h := run_storeVar_row (P := Tryz.prog) (w.alloc (.cells c 178)) w.heap.size 178 178 c #[.int .i64 x.key, .string x.val, .int .i64 (x.pins : Int)] (heap_alloc_new _ _) (by rw [info_e]; rfl) hc (all_oneCell_toArray (three.one x))
  rw [setRow_alloc] at h
  unfold storeS
  simp only [Instr.storeAt, Instr.sureAddr, Sem.run_bind, Sem.run_pure, Result.andThen_ok, h]
theorem drew_below {w w' : World} {B : Nat} (h : Below B w w') : Below B w w'.drew := ⟨h.os, h.tape, h.output, h.size, h.block⟩
/-- What use leaves: what was at a place is ahead, at the row's head; the box is as it was. -/
def UsePost (w0 : World) (p : Nat) (most : Int) (L : List E) (R : List (Nat × Obj)) (i : Nat) (e : Ending) (w' : World) : Prop :=
  ∃ g cap, e = .returned (.pointer (some ⟨g, 0, none⟩)) ∧ w'.heap[p]? = some (.cells #[.int .i64 most, .slice (some ⟨g, 0, none⟩) L.length cap] 161 (0, 0)) ∧ CaT w0 p most (useL i L) R w'
attribute [local go_sem ↓ high] copy_e store_e
set_option maxHeartbeats 400000 in
theorem use_any {w0 : World} {p : Nat} {most : Int} {L : List E} {R : List (Nat × Obj)} {w : World} (h : CaT w0 p most L R w) (i : Nat) (hi : i < L.length) (hl : L.length ≤ 4096) :
    Calls Tryz.prog 143 #[.pointer (some ⟨p, 0, none⟩), .int .i64 (i : Int)] w (UsePost w0 p most L R i) := by
  obtain ⟨x, hx⟩ : ∃ x, L[i]? = some x := ⟨_, List.getElem?_eq_getElem hi⟩
  obtain ⟨v, hp, hr, _⟩ := h.row
  obtain ⟨hm, hu, _⟩ := box_cells hp
  obtain ⟨g, cap, cur, rfl, hg0, hg, hlc, hcm, hcs, ht⟩ := hr.block (by omega)
  obtain ⟨hc0, hc1, hc2⟩ := row_cells hr hx
  have H := Lib.hid h
  have HR := Lib.hid hr
  have HP := Lib.hid hp
  have HG := Lib.hid hg
  have HX := Lib.hid hx
  have HT := Lib.hid ht
  have HCS := Lib.hid hcs
  have h1 := slice_up g L.length cap i hi hlc
  have h2 := slice_lo g L.length cap i (by omega)
  have hw : IntKind.i64.wrap ((i : Int) + 1) = (i : Int) + 1 := IntWalk.i64_in _ (by omega)
  clear h hp hr hg hx ht hcs
  have hsn := store_new w x #[.int .i64 0, .string ⟨#[]⟩, .int .i64 0] rfl
  go_enter Tryz.func143, Tryz.ntmps143
  go_wp2_with fail
  clear hsn
  have hgp : p ≠ g := fun e => by
    subst e
    have := HG.out.symm.trans HP.out
    cases this
  generalize hW : w.alloc (.cells #[.int .i64 x.key, .string x.val, .int .i64 (x.pins : Int)] 178) = W
  have hbW : Below w.heap.size w W := by rw [← hW]; go_grown
  have hp1 := (hbW.block p (heap_in HP.out)).trans HP.out
  have hg1 := (hbW.block g (heap_in HG.out)).trans HG.out
  have hx1 : W.heap[w.heap.size]? = some (.cells #[.int .i64 x.key, .string x.val, .int .i64 (x.pins : Int)] 178 (0, 0)) := by rw [← hW]; exact heap_alloc_new _ _
  have hu1 := (box_cells hp1).2.1
  obtain ⟨cur2, hcopy, hs2, hd2⟩ := copy_up (w := W.drew) hg1 HX.out hlc HCS.out HT.out
  clear hW
  go_still_tail 13, (by kernel_rfl)
  go_wp2_with fail
  have HBW := Lib.hid hbW
  have hnp : w.heap.size ≠ g := fun e => by have := heap_in HG.out; omega
  have hg2 : (W.drew.setRow g cur2).heap[g]? = some (.cells cur2 178 (0, 0)) := setRow_heap W.drew g cur _ _ _ hg1
  have hp2 : (W.drew.setRow g cur2).heap[p]? = some (.cells #[.int .i64 most, .slice (some ⟨g, 0, none⟩) L.length cap] 161 (0, 0)) := (setRow_other W.drew g p cur2 hgp).trans hp1
  have hx2 : (W.drew.setRow g cur2).heap[w.heap.size]? = some (.cells #[.int .i64 x.key, .string x.val, .int .i64 (x.pins : Int)] 178 (0, 0)) := (setRow_other W.drew g _ cur2 hnp).trans hx1
  have HO : Hid (∀ k, k < w.heap.size → k ≠ g → (W.drew.setRow g cur2).heap[k]? = w.heap[k]?) := Lib.hid fun k hk hne => (setRow_other W.drew g k cur2 hne).trans (HBW.out.block k hk)
  have HB2 : Hid (Below w0.heap.size w (W.drew.setRow g cur2)) := Lib.hid (below_row (w' := W.drew) (drew_below (HBW.out.mono H.out.below.size)) hg0 cur2)
  clear hcopy hu1 hg1 hp1 hx1 hbW HBW hc0 hc1 hc2 hu hm hw h1 h2
  generalize W.drew.setRow g cur2 = W2 at *
  have hu2 := (box_cells hp2).2.1
  have hy0 : W2.cell? ⟨w.heap.size, 0, none⟩ = some (.int .i64 x.key) := by rw [cell_of_row _ _ _ _ _ _ hx2]; rfl
  have hy1 : W2.cell? ⟨w.heap.size, 1, none⟩ = some (.string x.val) := by rw [cell_of_row _ _ _ _ _ _ hx2]; rfl
  have hy2 : W2.cell? ⟨w.heap.size, 2, none⟩ = some (.int .i64 (x.pins : Int)) := by rw [cell_of_row _ _ _ _ _ _ hx2]; rfl
  have hst : (storeS 178 (.pointer (some ⟨g, 0, none⟩)) (.agg #[.int .i64 x.key, .string x.val, .int .i64 (x.pins : Int)])).run Tryz.prog W2.drew = .ok () (W2.drew.setRow g (cE x ++ cur2.toList.drop 3).toArray) := by
    have := store_up (w := W2.drew) (x := x) (i := 0) hg2 hs2 (by omega)
    rw [Nat.zero_mul, List.take_zero, List.nil_append, Nat.zero_add] at this
    exact this
  have HL : Hid ((cE x ++ cur2.toList.drop 3).toArray.toList.take ((useL i L).length * 3) = flat cE (useL i L)) := by
    refine Lib.hid ?_
    rw [useL_len hi]
    have := use_list three HX.out HT.out
    rw [List.append_assoc, ← hd2] at this
    exact this
  have HSZ : Hid ((cE x ++ cur2.toList.drop 3).toArray.size = cap * 3) := by
    refine Lib.hid ?_
    have h3 : (cE x).toArray.size = 3 := rfl
    simp only [← List.append_toArray, Array.size_append, h3, List.size_toArray, List.length_drop, Array.length_toList]
    omega
  generalize (cE x ++ cur2.toList.drop 3).toArray = cur3 at *
  have hp3 : (W2.drew.setRow g cur3).heap[p]? = some (.cells #[.int .i64 most, .slice (some ⟨g, 0, none⟩) L.length cap] 161 (0, 0)) := (setRow_other W2.drew g p _ hgp).trans hp2
  have hg3 : (W2.drew.setRow g cur3).heap[g]? = some (.cells cur3 178 (0, 0)) := setRow_heap W2.drew g cur2 _ _ _ hg2
  have HO3 : Hid (∀ k, k < w.heap.size → k ≠ g → (W2.drew.setRow g cur3).heap[k]? = w.heap[k]?) := Lib.hid fun k hk hne => (setRow_other W2.drew g k _ hne).trans (HO.out k hk hne)
  have HB3 : Hid (Below w0.heap.size w (W2.drew.setRow g cur3)) := Lib.hid (below_row (w' := W2.drew) (drew_below HB2.out) hg0 _)
  have hu3 := (box_cells hp3).2.1
  have HP3 := Lib.hid hp3
  have HG3 := Lib.hid hg3
  clear hp3 hg3 HO HB2 hg2 hp2 hx2 hs2 hd2
  have h0n : 0 < L.length := by omega
  have h0i : (0 : Int) < (L.length : Int) := by omega
  go_still_tail 6, (by kernel_rfl)
  go_wp2
  go_returns
  refine ⟨g, cap, rfl, HP3.out, H.out.move HP.out (fun _ _ _ => HB3.out) (fun k hk _ hne => HO3.out k hk fun e => hne (by rw [e]; rfl)) HP3.out (RowE.mk' three hg0 HG3.out hcm HSZ.out (by rw [useL_len hi]; exact hlc) HL.out (useL_len hi).symm) (fun k hk => .inl hk)⟩
end KA
end Go.Proofs.YtkdhlofcdcnjgaaGreat
namespace Go.Proofs.YtkdhlofcdcnjgaaGreat
set_option maxRecDepth 100000
open Go.ChangeShapes Go.WideShapes Go.ChangeAt Go.RowKit Go.PlainAid Go.Shelf
attribute [local go_sem] Oper.semAt_some

/-- Two blocks hold what they held. -/
def KpBC (a b : Nat) (W W' : World) : Prop := W'.heap[a]? = W.heap[a]? ∧ W'.heap[b]? = W.heap[b]?
theorem KpBC.trans {a b : Nat} {A B C : World} (h : KpBC a b A B) (k : KpBC a b B C) : KpBC a b A C := ⟨k.1.trans h.1, k.2.trans h.2⟩
theorem KpBC.refl (a b : Nat) (A : World) : KpBC a b A A := ⟨rfl, rfl⟩
/-- n numbers below n, falling. -/
def downs (n : Nat) : List Nat := (List.range n).map fun k => n - 1 - k
theorem downs_split {k n : Nat} (h : k ≤ n) : ((List.range k).map fun j => n - 1 - j) <+: downs n := by
  unfold downs
  conv => rhs; rw [← List.take_append_drop k (List.range n), List.take_range, Nat.min_eq_left h, List.map_append]
  exact ⟨_, rfl⟩
theorem boxed_put {W : World} {B D : Nat} {t : TypeId} {v : Value} {l : List Deferred} {o : Obj} (h : Boxed W B t v) (hK : W.heap[D]? = some (.deferred (some l))) : Boxed (W.putObj D o) B t v := by
  refine (World.putObj_heap_other fun e => ?_).trans h
  subst e
  rw [show W.heap[B]? = _ from h] at hK
  cases hK
theorem below_putC {w W : World} {D : Nat} {o o' : Obj} (h : Below w.heap.size w W) (hD : w.heap.size ≤ D) (hK : W.heap[D]? = some o) (h1 : o.isCells = false) (h2 : o.isWalk = false) : Below w.heap.size w (W.putObj D o') :=
  h.trans (belowK_b (w := w) (Nat.le_refl _) W D o o' hD hK h1 h2)
namespace KA
theorem back_any (ao : Option Addr) (n c : Nat) (w : World) :
    Calls Tryz.prog 161 #[.slice ao n c] w fun e w' => e = .returned (.func (.func 167) #[] #[.pointer (some ⟨w.heap.size, 0, none⟩)]) ∧
      w.alloc (.cells #[.slice ao n c] 159) = w' := by
  have hmf := make_func
  go_enter Tryz.func161, Tryz.ntmps161
  go_wp2
  go_returns
  exact ⟨rfl, rfl⟩
def entAt (L : List E) (k : Nat) : E := L.getD k ⟨0, ⟨#[]⟩, 0⟩
def encE (L : List E) (k : Nat) : Array Value := #[.int .i64 (k : Int), .agg #[.int .i64 (entAt L k).key, .string (entAt L k).val, .int .i64 ((entAt L k).pins : Int)]]
set_option maxHeartbeats 1000000 in
theorem back1_in (l bs g n c : Nat) (L : List E) (hn : n = L.length) (hl : n ≤ 4096) (J Jx : List Nat → World → Prop)
    (hY : ∀ pre x W, J pre W → pre.length < n → YieldAt Fence.wide 7 Tryz.prog l (encE L x) W fun e W' =>
      (e = .returned (.bool true) ∧ J (pre ++ [x]) W' ∧ KpBC bs g W W') ∨ (e = .returned (.bool false) ∧ Jx (pre ++ [x]) W'))
    (W : World) (hS : W.heap[bs]? = some (.cells #[.slice (some ⟨g, 0, none⟩) n c] 159 (0, 0))) (h0 : J [] W)
    (hc : ∀ W' : World, W'.heap[g]? = W.heap[g]? → ∀ (i : Nat) (x : E), L[i]? = some x → W'.cell? ⟨g, i * 3, none⟩ = some (.int .i64 x.key) ∧ W'.cell? ⟨g, i * 3 + 1, none⟩ = some (.string x.val) ∧ W'.cell? ⟨g, i * 3 + 2, none⟩ = some (.int .i64 (x.pins : Int))) :
    CallsIn Fence.wide 8 Tryz.prog 167 #[.func (.yield l) #[] #[], .pointer (some ⟨bs, 0, none⟩)] W fun e W' => (∃ v, e = .returned v) ∧
      ((∃ ys, ys = downs n ∧ J ys W') ∨ (∃ pre, pre <+: downs n ∧ Jx pre W')) := by
  refine callsIn_of_wp Tryz.func167 rfl trivial ?_ rfl
  simp only [Tryz.ntmps167, List.size_toArray, List.length_cons, List.length_nil, Nat.reduceAdd, Nat.reduceSub, Array.replicate_succ, Array.replicate_zero, List.push_toArray, List.append_toArray, List.nil_append, List.cons_append]
  have hcs : W.cell? ⟨bs, 0, none⟩ = some (.slice (some ⟨g, 0, none⟩) n c) := by rw [cell_of_row _ _ _ _ _ _ hS]; rfl
  subst hn
  gi_wp2
  gi_loopw [3] (fun i wr => ∃ j : Nat, j ≤ L.length ∧ i = .int .i64 ((j : Int) - 1) ∧ J ((List.range (L.length - j)).map fun k => L.length - 1 - k) wr ∧ KpBC bs g W wr) (fun i _ => (intOf i + 1).toNat)
  case atStart => exact ⟨L.length, Nat.le_refl _, rfl, by rw [Nat.sub_self]; exact h0, KpBC.refl _ _ _⟩
  case round =>
    obtain ⟨j, hj, rfl, hJs, hnx⟩ := hrel
    have hcs2 : wr.cell? ⟨bs, 0, none⟩ = some (.slice (some ⟨g, 0, none⟩) L.length c) := by rw [cell_of_row _ _ _ _ _ _ (hnx.1.trans hS)]; rfl
    clear hcs
    cases j with
    | zero =>
      rw [show (((0 : Nat) : Int) - 1) = -1 from rfl]
      gi_wp2
      go_end0
      exact ⟨⟨_, rfl⟩, .inl ⟨_, rfl, hJs⟩⟩
    | succ t =>
      have ht : t < L.length := by omega
      obtain ⟨x, hx⟩ : ∃ x, L[t]? = some x := ⟨_, List.getElem?_eq_getElem ht⟩
      obtain ⟨hc0, hc1, hc2⟩ := hc wr hnx.2 t x hx
      obtain ⟨fn, tmps, assign, body, hy, hR⟩ := hY ((List.range (L.length - (t + 1))).map fun k => L.length - 1 - k) t wr hJs (by rw [List.length_map, List.length_range]; omega)
      have hent : entAt L t = x := by unfold entAt; rw [List.getD_eq_getElem?_getD, hx]; rfl
      unfold encE at hy
      rw [hent] at hy
      have HUP : Hid ((List.range (L.length - (t + 1))).map (fun k => L.length - 1 - k) ++ [t] = (List.range (L.length - t)).map fun k => L.length - 1 - k) := by
        refine Lib.hid ?_
        rw [show L.length - t = L.length - (t + 1) + 1 by omega, List.range_succ, List.map_append, List.map_cons, List.map_nil, show L.length - 1 - (L.length - (t + 1)) = t by omega]
      have HNX := Lib.hid hnx
      rw [show (((t + 1 : Nat) : Int) - 1) = (t : Int) by omega]
      clear hnx hJs hx hent
      gi_wp2
      refine hR.mono ?_
      rintro e W3 (⟨rfl, hJ3, hk3⟩ | ⟨rfl, hJx3⟩)
      · have HN3 := Lib.hid (HNX.out.trans hk3)
        have HJ3 := Lib.hid hJ3
        clear hk3 hJ3
        gi_wp2
        go_roundw
        case rel => exact ⟨t, by omega, rfl, by rw [← HUP.out]; exact HJ3.out, HN3.out⟩
        case measure => simp [intOf]
      · have HJ3 := Lib.hid hJx3
        clear hJx3
        gi_wp2
        refine bodyPost_ret (results_none rfl _ _ _) rfl ?_
        refine ⟨⟨_, rfl⟩, .inr ⟨_, ?_, HJ3.out⟩⟩
        rw [HUP.out]
        exact downs_split (by omega)
theorem back_stops (bs g c : Nat) (L : List E) (hl : L.length ≤ 4096) (w : World) (hS : w.heap[bs]? = some (.cells #[.slice (some ⟨g, 0, none⟩) L.length c] 159 (0, 0))) (hg : g < w.heap.size)
    (hc : ∀ W' : World, W'.heap[g]? = w.heap[g]? → ∀ (i : Nat) (x : E), L[i]? = some x → W'.cell? ⟨g, i * 3, none⟩ = some (.int .i64 x.key) ∧ W'.cell? ⟨g, i * 3 + 1, none⟩ = some (.string x.val) ∧ W'.cell? ⟨g, i * 3 + 2, none⟩ = some (.int .i64 (x.pins : Int))) :
    SeqStopsK Fence.wide 8 Tryz.prog 167 #[.pointer (some ⟨bs, 0, none⟩)] (encE L) (KpBC bs g) (fun ys => ys = downs L.length) (fun pre => pre <+: downs L.length) L.length w := fun l J Jx W hW _ _ hY h0 =>
  back1_in l bs g L.length c L rfl hl J Jx hY W ((hW.block bs (heap_in hS)).trans hS) h0 (fun W' hW' => hc W' (hW'.trans (hW.block g hg)))
theorem downs_at {n t : Nat} (h : t < n) : (downs n)[t]? = some (n - 1 - t) := by
  unfold downs
  rw [List.getElem?_map, List.getElem?_range h]
  rfl
theorem entAt_some {L : List E} {k : Nat} {x : E} (h : L[k]? = some x) : entAt L k = x := by
  unfold entAt
  rw [List.getD_eq_getElem?_getD, h]
  rfl
theorem old_stop {L : List E} {q : List Nat} {k : Nat} (hp : q ++ [k] <+: downs L.length) (hq : ∀ x ∈ q, (entAt L x).pins ≠ 0) (hk : (entAt L k).pins = 0) : k < L.length ∧ oldL L = L.length - 1 - k := by
  have hlen : q.length + 1 ≤ L.length := by
    have := hp.length_le
    unfold downs at this
    simpa using this
  have hat : ∀ t, t < q.length + 1 → (q ++ [k])[t]? = some (L.length - 1 - t) := fun t ht => by
    obtain ⟨r, hr⟩ := hp
    rw [← downs_at (show t < L.length by omega), ← hr]
    exact (List.getElem?_append_left (by rw [List.length_append]; exact ht)).symm
  have hkk : k = L.length - 1 - q.length := by
    have := hat q.length (by omega)
    simpa using this
  have hl : k < L.length := by omega
  refine ⟨hl, oldL_eq (List.getElem?_eq_getElem hl) ?_ fun j x hj hx => ?_⟩
  · rw [← entAt_some (List.getElem?_eq_getElem hl)]
    exact hk
  · have hjl := (List.getElem?_eq_some_iff.1 hx).1
    have hm := hat (L.length - 1 - j) (by omega)
    rw [List.getElem?_append_left (by omega), show L.length - 1 - (L.length - 1 - j) = j by omega] at hm
    have := hq j (List.mem_of_getElem? hm)
    rw [entAt_some hx] at this
    exact this
theorem old_done {L : List E} (h : ∀ x ∈ downs L.length, (entAt L x).pins ≠ 0) : ¬ oldL L < L.length := by
  intro hc
  obtain ⟨e, he, hp, _⟩ := oldL_at hc
  have hl := (List.getElem?_eq_some_iff.1 he).1
  have hm : L.length - 1 - oldL L ∈ downs L.length := by
    have := downs_at (n := L.length) (t := oldL L) hc
    exact List.mem_of_getElem? this
  have := h _ hm
  rw [entAt_some he] at this
  exact this hp
/-- What oldest tells. -/
def OldPost (L : List E) (w : World) (e : Ending) (w' : World) : Prop :=
  (∃ i x, L[i]? = some x ∧ oldL L = L.length - 1 - i ∧ e = .returned (.tuple #[.int .i64 (i : Int), .bool true]) ∧ Below w.heap.size w w') ∨
  (¬ oldL L < L.length ∧ e = .returned (.tuple #[.int .i64 0, .bool false]) ∧ Below w.heap.size w w')
set_option maxHeartbeats 2000000 in
theorem oldest_any {w0 : World} {p : Nat} {most : Int} {L : List E} {R : List (Nat × Obj)} {w : World} (h : CaT w0 p most L R w) (hl : L.length ≤ 4096) (h0 : 0 < L.length) :
    Calls Tryz.prog 144 #[.pointer (some ⟨p, 0, none⟩)] w (OldPost L w) := by
  obtain ⟨v, hp, hr, _⟩ := h.row
  obtain ⟨g, cap, cur, rfl, hg0, hg, hlc, hcm, hcs, ht⟩ := hr.block h0
  have hbA : Below w.heap.size w ((w.alloc (.cells #[.int .i64 0] 3)).alloc (.cells #[.bool false] 4)) := by go_grown
  have hu1 := (box_cells ((hbA.block p (heap_in hp)).trans hp)).2.1
  have hcc : ∀ W' : World, W'.heap[g]? = w.heap[g]? → ∀ (i : Nat) (x : E), L[i]? = some x → W'.cell? ⟨g, i * 3, none⟩ = some (.int .i64 x.key) ∧ W'.cell? ⟨g, i * 3 + 1, none⟩ = some (.string x.val) ∧ W'.cell? ⟨g, i * 3 + 2, none⟩ = some (.int .i64 (x.pins : Int)) := fun W' hW' i x hx => by
    obtain ⟨c0, c1, c2⟩ := row_cells hr hx
    exact ⟨(World.cell?_of_block (a := ⟨g, i * 3, none⟩) hW').trans c0, (World.cell?_of_block (a := ⟨g, i * 3 + 1, none⟩) hW').trans c1, (World.cell?_of_block (a := ⟨g, i * 3 + 2, none⟩) hW').trans c2⟩
  have HCC := Lib.hid hcc
  have HBA := Lib.hid hbA
  have HGL := heap_in hg
  clear h hp hr hg hcs ht hcc hbA
  refine (callsIn_wide (n := 10)).1 ?_
  refine callsIn_of_wp_marks Tryz.func144 rfl trivial ?_ rfl
  simp only [Tryz.ntmps144, List.size_toArray, List.length_cons, List.length_nil, Nat.reduceAdd, Nat.reduceSub, Array.replicate_succ, Array.replicate_zero, List.push_toArray, List.append_toArray, List.nil_append, List.cons_append]
  refine wpIn_wide.2 ?_
  go_wp2_with fail
  refine (back_any _ _ _ _).mono ?_
  rintro e _ ⟨rfl, rfl⟩
  go_wp2_with fail
  have z1 : (w.alloc (.cells #[.int .i64 0] 3)).heap.size = w.heap.size + 1 := by simp
  have z2 : ((w.alloc (.cells #[.int .i64 0] 3)).alloc (.cells #[.bool false] 4)).heap.size = w.heap.size + 1 + 1 := by simp
  have q1 : Boxed ((w.alloc (.cells #[.int .i64 0] 3)).alloc (.cells #[.bool false] 4)) w.heap.size 3 (.int .i64 0) := (Boxed.new w 3 (.int .i64 0)).alloc _
  have q2 : Boxed ((w.alloc (.cells #[.int .i64 0] 3)).alloc (.cells #[.bool false] 4)) (w.heap.size + 1) 4 (.bool false) := by
    have := Boxed.new (w.alloc (.cells #[.int .i64 0] 3)) 4 (.bool false)
    rwa [z1] at this
  generalize (w.alloc (.cells #[.int .i64 0] 3)).alloc (.cells #[.bool false] 4) = W1 at *
  obtain ⟨W0, hW0⟩ : ∃ W0, W1.alloc (.cells #[.slice (some ⟨g, 0, none⟩) L.length cap] 159) = W0 := ⟨_, rfl⟩
  rw [hW0]
  have hz0 : W0.heap.size = w.heap.size + 3 := by rw [← hW0, World.size_alloc, z2]
  have hb0 : Below w.heap.size w W0 := HBA.out.on (by rw [← hW0]; go_grown)
  have hs0 : W0.heap[w.heap.size + 1 + 1]? = some (.cells #[.slice (some ⟨g, 0, none⟩) L.length cap] 159 (0, 0)) := by
    rw [← hW0]
    have := heap_alloc_new W1 (.cells #[.slice (some ⟨g, 0, none⟩) L.length cap] 159)
    rwa [z2] at this
  have r1 : Boxed W0 w.heap.size 3 (.int .i64 0) := by rw [← hW0]; exact q1.alloc _
  have r2 : Boxed W0 (w.heap.size + 1) 4 (.bool false) := by rw [← hW0]; exact q2.alloc _
  have hg0' : W0.heap[g]? = w.heap[g]? := hb0.block g HGL
  clear hW0 q1 q2 z1 z2 hu1 HBA
  refine (wpIn_wide (n := 9)).1 ?_
  refine wpIn_rangeFunc_ownH (w0 := W0) rfl (by decide) (gf := 167) (lb := #[.pointer (some ⟨w.heap.size + 1 + 1, 0, none⟩)]) rfl trivial (enters_of Tryz.func167 (by kernel_rfl) rfl)
    (back_stops (w.heap.size + 1 + 1) g cap L hl W0 hs0 (by omega) (fun W' hW' => HCC.out W' (hW'.trans hg0'))) (fun h k => KpBC.trans h k)
    (fun W l o o' hl' _ _ _ => ⟨World.putObj_heap_other (by omega), World.putObj_heap_other (by omega)⟩) (Below.refl _ _) (fun _ => rfl)
    (fun pre W => (∀ x ∈ pre, (entAt L x).pins ≠ 0) ∧ Below W0.heap.size W0 W)
    (fun c pre W => c = .ret ∧ (∃ q k, pre = q ++ [k] ∧ (∀ x ∈ q, (entAt L x).pins ≠ 0) ∧ (entAt L k).pins = 0 ∧ Boxed W w.heap.size 3 (.int .i64 (k : Int))) ∧ Boxed W (w.heap.size + 1) 4 (.bool true) ∧ Below w.heap.size w W)
    ?own ?ownx ⟨(fun _ h => by cases h), Below.refl _ _⟩
    (fun x a' W => ∃ Bx, W0.heap.size ≤ Bx ∧ W.heap[Bx]? = some (.cells #[.int .i64 (entAt L x).key, .string (entAt L x).val, .int .i64 ((entAt L x).pins : Int)] 178 (0, 0)) ∧ a' = {
      tmps := #[.pointer (some ⟨p, 0, none⟩), undef, .pointer (some ⟨w.heap.size, 0, none⟩), .pointer (some ⟨w.heap.size + 1, 0, none⟩), .int .i64 (x : Int), .pointer (some ⟨Bx, 0, none⟩), .pointer (some ⟨p, 0, none⟩), .pointer (some ⟨p, 0, none⟩), .pointer (some ⟨p, 1, none⟩), .slice (some ⟨g, 0, none⟩) L.length cap,
        .func (.func 167) #[] #[.pointer (some ⟨w.heap.size + 1 + 1, 0, none⟩)], .int .i64 (x : Int), .agg #[.int .i64 (entAt L x).key, .string (entAt L x).val, .int .i64 ((entAt L x).pins : Int)], undef, undef, undef, undef], defers := [] }) ?ownA ?assign ?body ?done ?stop
  case own =>
    rintro pre X Y row ⟨h1, h4⟩ hgr hr
    exact ⟨h1, h4.grown hgr h4.size (fun k e => (hr k e).1)⟩
  case ownx =>
    rintro c pre X Y row ⟨h1, ⟨q, k, hq1, hq2, hq3, h2⟩, h3, h4⟩ hgr hr
    have hk : ∀ k, k < W0.heap.size → k < X.heap.size → Y.heap[k]? = X.heap[k]? := fun k hk hx => hgr.block k hx fun e => by have := (hr k e.symm).1; omega
    exact ⟨h1, ⟨q, k, hq1, hq2, hq3, (hk _ (by omega) h2.lt).trans h2⟩, (hk _ (by omega) h3.lt).trans h3, h4.grown hgr h4.size (fun k e => by have := (hr k e).1; omega)⟩
  case ownA =>
    rintro x a' _ X Y row ⟨Bx, h1, h2, h3⟩ hgr hr
    refine ⟨Bx, h1, (hgr.block Bx (heap_in h2) fun e => ?_).trans h2, h3⟩
    obtain ⟨_, o, ho, hc⟩ := hr Bx e.symm
    rw [h2] at ho
    cases ho
    cases hc
  case assign =>
    rintro l pre x W K ⟨h1, h4⟩ hK
    have H1 := Lib.hid h1
    have H4 := Lib.hid h4
    unfold encE
    clear h1 h4 hb0 hs0 r1 r2 hg0'
    generalize (entAt L x).key = xk at *
    generalize (entAt L x).val = xv at *
    generalize ((entAt L x).pins : Int) = xp at *
    gi_wp2
    have hsz := H4.out.size
    exact hK _ _ ((KeepsOthers.alloc _ _).from _) ⟨Below.heap_alloc _ _ _ (by omega), Below.heap_alloc _ _ _ (by omega)⟩ ⟨H1.out, H4.out.trans (Below.mono (by go_grown) hsz)⟩ ⟨W.heap.size, hsz, heap_alloc_new _ _, rfl⟩
  case body =>
    rintro l pre x _ W hl' _ ⟨h1, h4⟩ ⟨Bx, hBx, hx, rfl⟩ hlt
    have hcx : W.cell? ⟨Bx, 2, none⟩ = some (.int .i64 ((entAt L x).pins : Int)) := by rw [cell_of_row _ _ _ _ _ _ hx]; rfl
    have hsz := h4.size
    have s1 := (h4.block w.heap.size (by omega)).trans r1
    have s2 := (h4.block (w.heap.size + 1) (by omega)).trans r2
    have HB := Lib.hid (hb0.trans (h4.mono hb0.size))
    have B1 : Boxed W w.heap.size 3 (.int .i64 0) := s1
    have B2 : Boxed W (w.heap.size + 1) 4 (.bool false) := s2
    have m1 := B1.cell
    have f1 := B1.frozen
    have H1 := Lib.hid h1
    have H4 := Lib.hid h4
    by_cases hp0 : (entAt L x).pins = 0
    · have B1' := (B1.set (.int .i64 (x : Int)))
      have B2' := B2.other (Nat.ne_of_gt (Nat.lt_succ_self _)) (.int .i64 (x : Int))
      have m2 := B2'.cell
      have f2 := B2'.frozen
      have HX1 := Lib.hid ((B1'.other (Nat.ne_of_lt (Nat.lt_succ_self _)) (.bool true)))
      have HX2 := Lib.hid (B2'.set (.bool true))
      have HK : Hid (KeepsFrom W0.heap.size W ((W.setCell ⟨w.heap.size, 0, none⟩ (.int .i64 (x : Int))).setCell ⟨w.heap.size + 1, 0, none⟩ (.bool true))) := Lib.hid (((KeepsOthers.setCell W _ _).from _).trans ((KeepsOthers.setCell _ _ _).from _))
      have HB2 : Hid (Below w.heap.size w ((W.setCell ⟨w.heap.size, 0, none⟩ (.int .i64 (x : Int))).setCell ⟨w.heap.size + 1, 0, none⟩ (.bool true))) := Lib.hid ((HB.out.setCell (Nat.le_refl _) _).setCell (Nat.le_succ _) _)
      rw [hp0] at hcx
      have hcx2 : W.cell? ⟨Bx, 2, none⟩ = some (.int .i64 0) := hcx
      have HP := Lib.hid hp0
      clear hcx B1 B2 s1 s2 h1 h4 hx hb0 hs0 r1 r2 hg0' hp0 B1' B2'
      gi_wp2
      exact ⟨HK.out, rfl, ⟨pre, x, rfl, H1.out, HP.out, HX1.out⟩, HX2.out, HB2.out⟩
    · have hp1 : (((entAt L x).pins : Int) == 0) = false := beq_eq_false_iff_ne.2 (by omega)
      have HP := Lib.hid hp0
      clear B1 B2 s1 s2 h1 h4 hx hb0 hs0 r1 r2 hg0' hp0 m1 f1
      generalize (((entAt L x).pins : Int)) = xp at *
      gi_wp2
      refine ⟨KeepsFrom.refl _ _, KpBC.refl _ _ _, fun y hy => ?_, H4.out⟩
      rcases List.mem_append.1 hy with hy | hy
      · exact H1.out y hy
      · rw [List.mem_singleton.1 hy]
        exact HP.out
  case done =>
    rintro D ys W hD rfl ⟨h1, h4⟩ hK
    have s1 := (h4.block w.heap.size (by omega)).trans r1
    have s2 := (h4.block (w.heap.size + 1) (by omega)).trans r2
    have B1 : Boxed W w.heap.size 3 (.int .i64 0) := s1
    have B2 : Boxed W (w.heap.size + 1) 4 (.bool false) := s2
    have m1 := B1.cell
    have f1 := B1.frozen
    have B1' := (B1.set (.int .i64 0))
    have B2' := B2.other (Nat.ne_of_gt (Nat.lt_succ_self _)) (.int .i64 0)
    have m2 := B2'.cell
    have f2 := B2'.frozen
    have HX1 := Lib.hid ((B1'.other (Nat.ne_of_lt (Nat.lt_succ_self _)) (.bool false)))
    have HX2 := Lib.hid (B2'.set (.bool false))
    have HNO := Lib.hid (old_done h1)
    have HB2 : Hid (Below w.heap.size w ((W.setCell ⟨w.heap.size, 0, none⟩ (.int .i64 0)).setCell ⟨w.heap.size + 1, 0, none⟩ (.bool false))) := Lib.hid (((hb0.trans (h4.mono hb0.size)).setCell (Nat.le_refl _) _).setCell (Nat.le_succ _) _)
    have HK2 : Hid (((W.setCell ⟨w.heap.size, 0, none⟩ (.int .i64 0)).setCell ⟨w.heap.size + 1, 0, none⟩ (.bool false)).heap[D]? = some (.deferred (some []))) := Lib.hid (by
      rw [heap_setCell_other _ _ _ _ (by show D ≠ w.heap.size + 1; omega), heap_setCell_other _ _ _ _ (by show D ≠ w.heap.size; omega)]
      exact hK)
    have HD := Lib.hid (show w.heap.size ≤ D by omega)
    clear s1 s2 B1 B2 B1' B2' h1 h4 hK hb0 hs0 r1 r2 hg0' hD hz0
    go_wp2_with fail
    clear m1 f1 m2 f2
    generalize (W.setCell ⟨w.heap.size, 0, none⟩ (.int .i64 0)).setCell ⟨w.heap.size + 1, 0, none⟩ (.bool false) = W2 at *
    refine ⟨by simp, .inl ⟨_, _, rfl, run_takeDeferred HK2.out, ?_⟩⟩
    have g1 := boxed_put (o := .deferred none) HX1.out HK2.out
    have g2 := boxed_put (o := .deferred none) HX2.out HK2.out
    exact ⟨_, by simp [results, Tryz.results144, go_sem, g1.cell, g2.cell], .inr ⟨HNO.out, rfl, below_putC HB2.out HD.out HK2.out rfl rfl⟩⟩
  case stop =>
    rintro D c pre W hD hSp ⟨rfl, ⟨q, k, rfl, hq1, hq2, B1⟩, B2, h4⟩ hK
    obtain ⟨hkl, hold⟩ := old_stop hSp hq1 hq2
    have HD := Lib.hid (show w.heap.size ≤ D by omega)
    gi_wp2
    refine ⟨by simp, .inl ⟨_, _, rfl, run_takeDeferred hK, ?_⟩⟩
    have g1 := boxed_put (o := .deferred none) B1 hK
    have g2 := boxed_put (o := .deferred none) B2 hK
    exact ⟨_, by simp [results, Tryz.results144, go_sem, g1.cell, g2.cell], .inl ⟨k, _, List.getElem?_eq_getElem hkl, hold, rfl, below_putC h4 HD.out hK rfl rfl⟩⟩
end KA
end Go.Proofs.YtkdhlofcdcnjgaaGreat
