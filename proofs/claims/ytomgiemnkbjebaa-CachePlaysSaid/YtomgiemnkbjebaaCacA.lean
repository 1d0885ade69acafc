/- Plain: what a cache keeps, as a list, the last used ahead; entries as cells of a row. -/
import Derived.Test.YtomgiemnkbjebaaAid
import Derived.Laws.AppendOwn
import Derived.Laws.OwnMore
namespace Go.Proofs.Ytomgiemnkbjebaa
set_option maxRecDepth 100000
open Go.ChangeShapes Go.WideShapes Go.ChangeAt Go.RowKit Go.PlainAid

/-- Something that is kept: its key, its value, how many pins it has. -/
structure Ent (K V : Type) where
  key : K
  val : V
  pins : Nat
section
variable {K V : Type}
/-- Where a key is kept. -/
def posK [DecidableEq K] (k : K) (L : List (Ent K V)) : Nat := L.findIdx fun e => decide (e.key = k)
/-- Each key is kept once. -/
def Once (L : List (Ent K V)) : Prop := (L.map (·.key)).Nodup
/-- What is at a place, used. -/
def useL (i : Nat) (L : List (Ent K V)) : List (Ent K V) := (L[i]?).toList ++ L.eraseIdx i
theorem posK_le [DecidableEq K] (k : K) (L : List (Ent K V)) : posK k L ≤ L.length := List.findIdx_le_length
theorem posK_at [DecidableEq K] {k : K} {L : List (Ent K V)} (h : posK k L < L.length) : ∃ e, L[posK k L]? = some e ∧ e.key = k := by
  have h2 := List.findIdx_getElem (w := h)
  exact ⟨_, List.getElem?_eq_getElem h, of_decide_eq_true h2⟩
theorem posK_ne [DecidableEq K] {k : K} {L : List (Ent K V)} {i : Nat} {e : Ent K V} (hi : i < posK k L) (he : L[i]? = some e) : e.key ≠ k := by
  have h2 := List.not_of_lt_findIdx hi
  obtain ⟨hl, rfl⟩ := List.getElem?_eq_some_iff.1 he
  simpa using h2
theorem posK_eq [DecidableEq K] {k : K} {L : List (Ent K V)} {i : Nat} {e : Ent K V} (he : L[i]? = some e) (hk : e.key = k) (hb : ∀ j x, j < i → L[j]? = some x → x.key ≠ k) : posK k L = i := by
  obtain ⟨hl, rfl⟩ := List.getElem?_eq_some_iff.1 he
  refine (List.findIdx_eq hl).2 ⟨by simpa using hk, fun j hj => ?_⟩
  simpa using hb j _ hj (List.getElem?_eq_getElem (by omega))
theorem posK_no [DecidableEq K] {k : K} {L : List (Ent K V)} (hb : ∀ (j : Nat) (x : Ent K V), L[j]? = some x → x.key ≠ k) : posK k L = L.length := by
  refine List.findIdx_eq_length.2 fun x hx => ?_
  obtain ⟨j, hj⟩ := List.mem_iff_getElem?.1 hx
  simpa using hb j x hj
theorem posK_none [DecidableEq K] {k : K} {L : List (Ent K V)} (h : ¬ posK k L < L.length) : ∀ e ∈ L, e.key ≠ k := by
  intro e he hk
  exact h (List.findIdx_lt_length_of_exists ⟨e, he, by simpa using hk⟩)
theorem posK_some [DecidableEq K] {k : K} {L : List (Ent K V)} {e : Ent K V} (he : e ∈ L) (hk : e.key = k) : posK k L < L.length :=
  List.findIdx_lt_length_of_exists ⟨e, he, by simpa using hk⟩
theorem useL_some {L : List (Ent K V)} {i : Nat} {e : Ent K V} (h : L[i]? = some e) : useL i L = e :: L.eraseIdx i := by
  unfold useL
  rw [h]
  rfl
theorem useL_len {L : List (Ent K V)} {i : Nat} (h : i < L.length) : (useL i L).length = L.length := by
  rw [useL_some (List.getElem?_eq_getElem h), List.length_cons, List.length_eraseIdx_of_lt h]
  omega
theorem once_inj {L : List (Ent K V)} (h : Once L) {i j : Nat} {a b : Ent K V} (ha : L[i]? = some a) (hb : L[j]? = some b) (hk : a.key = b.key) : i = j := by
  unfold Once at h
  obtain ⟨hi, rfl⟩ := List.getElem?_eq_some_iff.1 ha
  obtain ⟨hj, rfl⟩ := List.getElem?_eq_some_iff.1 hb
  have := List.getElem_inj (i := i) (j := j) (h₀ := by simpa using hi) (h₁ := by simpa using hj) h
  exact this.1 (by simpa using hk)
/-- Without the key: the place that it has is gone. -/
theorem once_filter [DecidableEq K] {L : List (Ent K V)} : ∀ {i : Nat} {e : Ent K V}, Once L → L[i]? = some e → L.filter (fun x => !decide (x.key = e.key)) = L.eraseIdx i := by
  induction L with
  | nil => intro i e _ h; simp at h
  | cons a L ih =>
    intro i e h he
    have hn : a.key ∉ L.map (·.key) ∧ Once L := List.nodup_cons.1 h
    cases i with
    | zero =>
      obtain rfl : a = e := by simpa using he
      have : L.filter (fun x => !decide (x.key = a.key)) = L := by
        refine List.filter_eq_self.2 fun x hx => ?_
        have : x.key ≠ a.key := fun hk => hn.1 (List.mem_map.2 ⟨x, hx, hk⟩)
        simp [this]
      simp [this]
    | succ i =>
      have he' : L[i]? = some e := by simpa using he
      have hne : a.key ≠ e.key := fun hk => hn.1 (List.mem_map.2 ⟨e, List.mem_of_getElem? he', hk.symm⟩)
      rw [List.filter_cons_of_pos (by simp [hne]), ih hn.2 he', List.eraseIdx_cons_succ]
theorem once_none [DecidableEq K] {L : List (Ent K V)} {k : K} (h : ¬ posK k L < L.length) : L.filter (fun x => !decide (x.key = k)) = L := by
  refine List.filter_eq_self.2 fun x hx => ?_
  simp [posK_none h x hx]
theorem once_erase {L : List (Ent K V)} (h : Once L) (i : Nat) : Once (L.eraseIdx i) := by
  exact List.Nodup.sublist ((List.eraseIdx_sublist L i).map _) h
theorem mem_erase [DecidableEq K] {L : List (Ent K V)} {i : Nat} {e x : Ent K V} (h : Once L) (he : L[i]? = some e) (hx : x ∈ L.eraseIdx i) : x ∈ L ∧ x.key ≠ e.key := by
  rw [← once_filter h he] at hx
  have := List.mem_filter.1 hx
  exact ⟨this.1, by simpa using this.2⟩
theorem once_cons {L : List (Ent K V)} {e : Ent K V} (h : Once L) (hn : ∀ x ∈ L, x.key ≠ e.key) : Once (e :: L) := by
  refine List.nodup_cons.2 ⟨fun hx => ?_, h⟩
  obtain ⟨x, hx, hk⟩ := List.mem_map.1 hx
  exact hn x hx hk
theorem once_use [DecidableEq K] {L : List (Ent K V)} (h : Once L) (i : Nat) : Once (useL i L) := by
  cases hi : L[i]? with
  | none =>
    unfold useL
    rw [hi, List.eraseIdx_of_length_le (by rw [List.getElem?_eq_none_iff] at hi; omega)]
    exact h
  | some e =>
    rw [useL_some hi]
    exact once_cons (once_erase h i) fun x hx => (mem_erase h hi hx).2

/-- Where that is which was used longest ago, of what has no pin: from the end. -/
def oldL (L : List (Ent K V)) : Nat := L.reverse.findIdx fun e => decide (e.pins = 0)
/-- What a Put leaves. -/
def putL [DecidableEq K] (most : Nat) (k : K) (v : V) (L : List (Ent K V)) : List (Ent K V) :=
  if posK k L < L.length then (L[posK k L]?).toList.map (fun e => { e with val := v }) ++ L.eraseIdx (posK k L)
  else if L.length < most then ⟨k, v, 0⟩ :: L
  else if oldL L < L.length then ⟨k, v, 0⟩ :: L.eraseIdx (L.length - 1 - oldL L)
  else L
/-- What a Put tells: which key is gone. -/
def putK [DecidableEq K] (most : Nat) (k : K) (L : List (Ent K V)) : Option K :=
  if posK k L < L.length then none else if L.length < most then none
  else if oldL L < L.length then (L[L.length - 1 - oldL L]?).map (·.key) else none
/-- What a Put tells: its error. -/
def putE [DecidableEq K] (most : Nat) (k : K) (L : List (Ent K V)) : Int :=
  if posK k L < L.length then 0 else if L.length < most then 0 else if oldL L < L.length then 0 else 12
/-- One more pin, or one fewer, at a place. -/
def pinL (i : Nat) (by_ : Int) (L : List (Ent K V)) : List (Ent K V) := L.modify i fun e => { e with pins := ((e.pins : Int) + by_).toNat }
theorem oldL_at {L : List (Ent K V)} (h : oldL L < L.length) : ∃ e, L[L.length - 1 - oldL L]? = some e ∧ e.pins = 0 ∧ ∀ j x, L.length - 1 - oldL L < j → L[j]? = some x → x.pins ≠ 0 := by
  have h' : oldL L < L.reverse.length := by simpa using h
  have h2 := List.findIdx_getElem (w := h')
  have e2 : L[L.length - 1 - oldL L]? = some (L.reverse[oldL L]) := by rw [← List.getElem?_reverse h]; exact List.getElem?_eq_getElem h'
  refine ⟨_, e2, of_decide_eq_true h2, fun j x hj hx => ?_⟩
  obtain ⟨hl, _⟩ := List.getElem?_eq_some_iff.1 hx
  have hq : L.length - 1 - j < L.reverse.length := by rw [List.length_reverse]; omega
  have h3 := List.not_of_lt_findIdx (xs := L.reverse) (p := fun e => decide (e.pins = 0)) (i := L.length - 1 - j) (by unfold oldL at hj h; omega)
  have e3 : L.reverse[L.length - 1 - j]? = L[j]? := by rw [List.getElem?_reverse (by omega), show L.length - 1 - (L.length - 1 - j) = j by omega]
  rw [hx, List.getElem?_eq_getElem hq] at e3
  rw [Option.some.inj e3] at h3
  simpa using h3
theorem oldL_no {L : List (Ent K V)} (h : ¬ oldL L < L.length) : ∀ e ∈ L, e.pins ≠ 0 := by
  intro e he hk
  have := List.findIdx_lt_length_of_exists (xs := L.reverse) (p := fun e => decide (e.pins = 0)) ⟨e, by simpa using he, by simpa using hk⟩
  unfold oldL at h
  rw [List.length_reverse] at this
  exact h this
theorem oldL_yes {L : List (Ent K V)} {e : Ent K V} (he : e ∈ L) (hp : e.pins = 0) : oldL L < L.length := by
  by_cases h : oldL L < L.length
  · exact h
  · exact absurd hp (oldL_no h e he)
theorem oldL_eq {L : List (Ent K V)} {i : Nat} {e : Ent K V} (he : L[i]? = some e) (hp : e.pins = 0) (hb : ∀ j x, i < j → L[j]? = some x → x.pins ≠ 0) : oldL L = L.length - 1 - i := by
  obtain ⟨hl, _⟩ := List.getElem?_eq_some_iff.1 he
  have hq : L.length - 1 - i < L.reverse.length := by rw [List.length_reverse]; omega
  have e3 : L.reverse[L.length - 1 - i]? = L[i]? := by rw [List.getElem?_reverse (by omega), show L.length - 1 - (L.length - 1 - i) = i by omega]
  rw [he, List.getElem?_eq_getElem hq] at e3
  refine (List.findIdx_eq hq).2 ⟨by rw [Option.some.inj e3]; exact decide_eq_true hp, fun j hj => ?_⟩
  have hj2 : j < L.reverse.length := by omega
  have e4 : L.reverse[j]? = L[L.length - 1 - j]? := List.getElem?_reverse (by omega)
  rw [List.getElem?_eq_getElem hj2] at e4
  simpa using hb (L.length - 1 - j) _ (by omega) e4.symm
theorem pinL_len (i : Nat) (b : Int) (L : List (Ent K V)) : (pinL i b L).length = L.length := List.length_modify _ _ _
theorem once_pin {L : List (Ent K V)} (h : Once L) (i : Nat) (b : Int) : Once (pinL i b L) := by
  unfold Once pinL
  have : (L.modify i fun e => { e with pins := ((e.pins : Int) + b).toNat }).map (·.key) = L.map (·.key) := by
    apply List.ext_getElem?
    intro j
    rw [List.getElem?_map, List.getElem?_modify, List.getElem?_map]
    cases L[j]? with
    | none => rfl
    | some x => by_cases e : i = j <;> simp [e]
  rw [this]
  exact h
theorem once_put [DecidableEq K] {L : List (Ent K V)} (h : Once L) (most : Nat) (k : K) (v : V) : Once (putL most k v L) := by
  unfold putL
  split
  · rename_i hp
    obtain ⟨e, he, hk⟩ := posK_at hp
    rw [he]
    exact once_cons (once_erase h _) fun x hx => by have := (mem_erase h he hx).2; simpa using this
  · rename_i hp
    split
    · exact once_cons h (posK_none hp)
    · split
      · exact once_cons (once_erase h _) fun x hx => posK_none hp x ((List.eraseIdx_sublist _ _).subset hx)
      · exact h
theorem put_len [DecidableEq K] {L : List (Ent K V)} {most : Nat} (hm : L.length ≤ most) (k : K) (v : V) : (putL most k v L).length ≤ most := by
  unfold putL
  split
  · rename_i hp
    obtain ⟨e, he, hk⟩ := posK_at hp
    rw [he]
    simp only [Option.toList_some, List.map_cons, List.map_nil, List.cons_append, List.nil_append, List.length_cons]
    rw [List.length_eraseIdx_of_lt hp]
    omega
  · split
    · simp only [List.length_cons]; omega
    · split
      · rw [List.length_cons, List.length_eraseIdx_of_lt (by omega)]; omega
      · exact hm
end
section
variable {K V : Type} (c : Ent K V → List Value)
/-- Entries as cells, three each. -/
def flat (L : List (Ent K V)) : List Value := L.flatMap c
structure Three : Prop where
  len : ∀ e, (c e).length = 3
  one : ∀ e, ∀ u ∈ c e, u.oneCell' = true
variable {c}
theorem flat_len (h : Three c) (L : List (Ent K V)) : (flat c L).length = L.length * 3 := by
  induction L with
  | nil => rfl
  | cons a L ih => simp only [flat, List.flatMap_cons, List.length_append, h.len, List.length_cons] at ih ⊢; omega
theorem flat_cons (a : Ent K V) (L : List (Ent K V)) : flat c (a :: L) = c a ++ flat c L := rfl
theorem flat_app (A B : List (Ent K V)) : flat c (A ++ B) = flat c A ++ flat c B := List.flatMap_append
theorem flat_one (h : Three c) (L : List (Ent K V)) : ∀ u ∈ flat c L, u.oneCell' = true := by
  intro u hu
  obtain ⟨e, _, he⟩ := List.mem_flatMap.1 hu
  exact h.one e u he
theorem flat_take (h : Three c) (L : List (Ent K V)) (i : Nat) : (flat c L).take (i * 3) = flat c (L.take i) := by
  induction L generalizing i with
  | nil => simp [flat]
  | cons a L ih =>
    cases i with
    | zero => simp [flat]
    | succ i =>
      rw [flat_cons, List.take_succ_cons, flat_cons, List.take_append, h.len, show (i + 1) * 3 - 3 = i * 3 by omega, ih, List.take_of_length_le (by rw [h.len]; omega)]
theorem flat_drop (h : Three c) (L : List (Ent K V)) (i : Nat) : (flat c L).drop (i * 3) = flat c (L.drop i) := by
  induction L generalizing i with
  | nil => simp [flat]
  | cons a L ih =>
    cases i with
    | zero => simp [flat]
    | succ i =>
      rw [flat_cons, List.drop_succ_cons, List.drop_append, h.len, show (i + 1) * 3 - 3 = i * 3 by omega, ih, List.drop_of_length_le (by rw [h.len]; omega)]
      rfl
theorem flat_at (h : Three c) {L : List (Ent K V)} {i : Nat} {e : Ent K V} (he : L[i]? = some e) (j : Nat) (hj : j < 3) : (flat c L)[i * 3 + j]? = (c e)[j]? := by
  rw [← List.getElem?_drop, flat_drop h]
  obtain ⟨hl, rfl⟩ := List.getElem?_eq_some_iff.1 he
  rw [List.drop_eq_getElem_cons hl, flat_cons, List.getElem?_append_left (by rw [h.len]; exact hj)]
end
/-- A row of entries that a call owns. -/
def RowE {K V : Type} (c : Ent K V → List Value) (t : TypeId) (n₀ : Nat) (W : World) (v : Value) (L : List (Ent K V)) : Prop := W.ownsRow n₀ t 3 v L.length (flat c L)
/-- The block of a row that isn't empty. -/
theorem RowE.block {K V : Type} {c : Ent K V → List Value} {t : TypeId} {n₀ : Nat} {W : World} {v : Value} {L : List (Ent K V)} (h : RowE c t n₀ W v L) (hn : 0 < L.length) :
    ∃ g cap cur, v = .slice (some ⟨g, 0, none⟩) L.length cap ∧ n₀ ≤ g ∧ W.heap[g]? = some (.cells cur t (0, 0)) ∧ L.length ≤ cap ∧ cap ≤ maxLen ∧ cur.size = cap * 3 ∧ cur.toList.take (L.length * 3) = flat c L := by
  rcases h.2 with ⟨_, h0⟩ | h
  · omega
  · exact h
/-- The row with other entries, no more than fit. -/
theorem RowE.mk' {K V : Type} {c : Ent K V → List Value} {t : TypeId} {n₀ : Nat} {W : World} {M : List (Ent K V)} {g cap : Nat} {cur2 : Array Value} (h3 : Three c) (hb : n₀ ≤ g) (hg : W.heap[g]? = some (.cells cur2 t (0, 0)))
    (hm : cap ≤ maxLen) (hs2 : cur2.size = cap * 3) (hl : M.length ≤ cap) (ht2 : cur2.toList.take (M.length * 3) = flat c M) {n : Nat} (hn : n = M.length) :
    RowE c t n₀ W (.slice (some ⟨g, 0, none⟩) n cap) M := by
  subst hn
  exact ⟨flat_len h3 M, .inr ⟨g, cap, cur2, rfl, hb, hg, hl, hm, hs2, ht2⟩⟩
theorem cut3 {K V : Type} {c : Ent K V → List Value} {cur : List Value} {L : List (Ent K V)} (ht : cur.take (L.length * 3) = flat c L) : cur = flat c L ++ cur.drop (L.length * 3) := by
  rw [← ht, List.take_append_drop]
theorem take3 {K V : Type} {c : Ent K V → List Value} (h3 : Three c) {cur : List Value} {L : List (Ent K V)} (ht : cur.take (L.length * 3) = flat c L) {i : Nat} (hi : i ≤ L.length) : cur.take (i * 3) = flat c (L.take i) := by
  rw [← flat_take h3, ← ht, List.take_take, Nat.min_eq_left (by omega)]
theorem drop3 {K V : Type} {c : Ent K V → List Value} (h3 : Three c) {cur : List Value} {L : List (Ent K V)} (ht : cur.take (L.length * 3) = flat c L) {i : Nat} (hi : i ≤ L.length) : cur.drop (i * 3) = flat c (L.drop i) ++ cur.drop (L.length * 3) := by
  have h := cut3 ht
  generalize cur.drop (L.length * 3) = r at *
  rw [h, List.drop_append, flat_drop h3, flat_len h3, show i * 3 - L.length * 3 = 0 by omega, List.drop_zero]
theorem front3 {K V : Type} {c : Ent K V → List Value} (h3 : Three c) (M : List (Ent K V)) (r : List Value) (n : Nat) (hn : n = M.length) : (flat c M ++ r).take (n * 3) = flat c M := by
  rw [hn, ← flat_len h3 M]
  exact List.take_left
theorem erase_cut {K V : Type} (L : List (Ent K V)) (i : Nat) : L.eraseIdx i = L.take i ++ L.drop (i + 1) := List.eraseIdx_eq_take_drop_succ _ _
/-- What is at a place, moved ahead. -/
theorem use_list {K V : Type} {c : Ent K V → List Value} (h3 : Three c) {cur : List Value} {L : List (Ent K V)} {i : Nat} {x : Ent K V} (hx : L[i]? = some x) (ht : cur.take (L.length * 3) = flat c L) :
    (c x ++ cur.take (i * 3) ++ cur.drop ((i + 1) * 3)).take (L.length * 3) = flat c (useL i L) := by
  have hi := (List.getElem?_eq_some_iff.1 hx).1
  rw [take3 h3 ht (by omega), drop3 h3 ht (by omega), ← List.append_assoc, ← flat_cons, ← flat_app, useL_some hx, erase_cut]
  exact front3 h3 _ _ _ (by simp; omega)
/-- One entry otherwise. -/
theorem set_list {K V : Type} {c : Ent K V → List Value} (h3 : Three c) {cur : List Value} {L : List (Ent K V)} {i : Nat} {x : Ent K V} (hi : i < L.length) (ht : cur.take (L.length * 3) = flat c L) :
    (cur.take (i * 3) ++ c x ++ cur.drop ((i + 1) * 3)).take (L.length * 3) = flat c (L.set i x) := by
  rw [take3 h3 ht (by omega), drop3 h3 ht (by omega), List.append_assoc, ← List.append_assoc (c x), ← flat_cons, ← List.append_assoc, ← flat_app, List.set_eq_take_append_cons_drop, if_pos hi]
  exact front3 h3 _ _ _ (by simp; omega)
/-- copy of a row's first entries behind its first one. -/
theorem run_copy_row3 {P : Program} (w : World) (dT sT ty elem : TypeId) (g o dLen dCap sLen sCap : Nat) (cur : Array Value) (t : TypeId) (hu : P.underlying dT = some (.slice elem)) (hs : (P.info? elem).map (·.size) = some 3)
    (hg : w.heap[g]? = some (.cells cur t (0, 0))) (hn : sLen = dLen) (hfit : o + dLen * 3 ≤ cur.size) (h1 : ∀ v ∈ cur.toList.take (dLen * 3), v.oneCell' = true) :
    (Builtin.copy_ #[dT, sT] ty #[.slice (some ⟨g, o, none⟩) dLen dCap, .slice (some ⟨g, 0, none⟩) sLen sCap]).run P w =
      .ok (goInt dLen) (w.setRow g (cur.toList.take o ++ cur.toList.take (dLen * 3) ++ cur.toList.drop (o + dLen * 3)).toArray) := by
  subst hn
  have hlen : (cur.toList.take (sLen * 3)).length = sLen * 3 := by rw [List.length_take, Array.length_toList]; omega
  have hl := run_loadCells_list (P := P) w ⟨g, 0, none⟩ (cur.toList.take (sLen * 3)) (fun j v hv => by
    have hj := (List.getElem?_eq_some_iff.1 hv).1
    rw [List.getElem?_take_of_lt (by omega), Array.getElem?_toList] at hv
    have hadd : (⟨g, 0, none⟩ : Addr).add j = ⟨g, j, none⟩ := by unfold Addr.add; split <;> simp_all
    rw [hadd, cell_of_row _ _ _ _ _ _ hg]
    exact hv)
  rw [hlen] at hl
  have hst := run_storeCells_at P g o t (cur.toList.take (sLen * 3)) 0 cur w hg (by rw [hlen]; omega) h1
  rw [hlen] at hst
  simp only [Nat.add_zero] at hst
  cases hq : P.info? elem with
  | none => simp [hq] at hs
  | some i =>
    have hi : i.size = 3 := by simpa [hq] using hs
    simp [Builtin.copy_, run_underlying hu, Builtin.lenOf, Builtin.firstCells, sizeOf, typeInfo, hq, hi, hl]
    rw [hst, List.append_assoc]
    rfl
end Go.Proofs.Ytomgiemnkbjebaa
