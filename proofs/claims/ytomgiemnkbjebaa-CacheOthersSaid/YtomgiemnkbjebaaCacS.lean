/- Plain: Puts of caches whose keys are numbered. -/
import Derived.Test.YtomgiemnkbjebaaCacR
namespace Go.Proofs.Ytomgiemnkbjebaa
set_option maxRecDepth 100000
open Go.ChangeShapes Go.WideShapes Go.ChangeAt Go.RowKit Go.PlainAid Go.MapKept Go.ChangeMaps

section
variable {K V K' V' : Type}
theorem posK_cons [DecidableEq K] (k : K) (a : Ent K V) (L : List (Ent K V)) : posK k (a :: L) = if a.key = k then 0 else posK k L + 1 := by
  unfold posK
  rw [List.findIdx_cons]
  by_cases h : a.key = k <;> simp [h]
theorem posK_map [DecidableEq K] [DecidableEq K'] (h : Ent K V → Ent K' V') (k : K) (k' : K') : ∀ (L : List (Ent K V)), (∀ e ∈ L, (h e).key = k' ↔ e.key = k) → posK k' (L.map h) = posK k L
  | [], _ => rfl
  | a :: L, hk => by
    rw [List.map_cons, posK_cons, posK_cons, posK_map h k k' L fun e he => hk e (List.mem_cons_of_mem _ he)]
    have := hk a List.mem_cons_self
    by_cases c : a.key = k
    · rw [if_pos c, if_pos (this.2 c)]
    · rw [if_neg c, if_neg (fun x => c (this.1 x))]
theorem oldL_map (h : Ent K V → Ent K' V') (L : List (Ent K V)) (hz : ∀ e ∈ L, e.pins = 0) (hh : ∀ e, (h e).pins = 0) : oldL (L.map h) = oldL L := by
  cases L with
  | nil => rfl
  | cons a L =>
    have h1 : ∀ (A : Type) (B : Type) (M : List (Ent A B)), M ≠ [] → (∀ e ∈ M, e.pins = 0) → oldL M = 0 := fun A B M hne hM => by
      have hl : 0 < M.length := List.length_pos_iff.2 hne
      have := oldL_eq (L := M) (i := M.length - 1) (List.getElem?_eq_getElem (by omega)) (hM _ (List.getElem_mem _)) fun j x hj hx => by
        have := (List.getElem?_eq_some_iff.1 hx).1
        omega
      omega
    rw [h1 _ _ _ (by simp) hz, h1 _ _ _ (by simp) fun e he => ?_]
    obtain ⟨x, _, rfl⟩ := List.mem_map.1 he
    exact hh x
theorem erase_map (h : Ent K V → Ent K' V') (L : List (Ent K V)) (i : Nat) : (L.map h).eraseIdx i = (L.eraseIdx i).map h := by
  rw [erase_cut, erase_cut, List.map_append, List.map_take, List.map_drop]
theorem put_map [DecidableEq K] [DecidableEq K'] (h : Ent K V → Ent K' V') (g : K → K') (L : List (Ent K V)) (most : Nat) (k : K) (v : V) (v' : V') (hz : ∀ e ∈ L, e.pins = 0) (hh : ∀ e, (h e).pins = 0) (hg : ∀ e, (h e).key = g e.key)
    (hk : ∀ e ∈ L, g e.key = g k → e.key = k) (hv : ∀ n, (⟨g k, v', 0⟩ : Ent K' V') = h ⟨k, v, n⟩) :
    putL most (g k) v' (L.map h) = (putL most k v L).map h ∧ putE most (g k) (L.map h) = putE most k L ∧ putK most (g k) (L.map h) = (putK most k L).map g := by
  have hp : posK (g k) (L.map h) = posK k L := posK_map h k (g k) L fun e he => ⟨fun x => hk e he (by rw [← hg]; exact x), fun x => by rw [hg, x]⟩
  have ho := oldL_map h L hz hh
  unfold putL putE putK
  rw [hp, ho, List.length_map]
  by_cases c : posK k L < L.length
  · simp only [if_pos c]
    refine ⟨?_, trivial, rfl⟩
    obtain ⟨x, hx, hxk⟩ := posK_at c
    rw [List.getElem?_map, hx, erase_map, List.map_append]
    show [_] ++ _ = [_] ++ _
    congr 1
    show [_] = [_]
    congr 1
    show (⟨(h x).key, v', (h x).pins⟩ : Ent K' V') = h ⟨x.key, v, x.pins⟩
    rw [hxk, ← hv]
    have h1 := hg x
    have h2 := hh x
    rw [hxk] at h1
    rw [h1, h2]
  · simp only [if_neg c]
    by_cases c2 : L.length < most
    · simp only [if_pos c2]
      exact ⟨by rw [List.map_cons, ← hv], trivial, rfl⟩
    · simp only [if_neg c2]
      by_cases c3 : oldL L < L.length
      · simp only [if_pos c3]
        refine ⟨by rw [List.map_cons, ← hv, erase_map], trivial, ?_⟩
        rw [List.getElem?_map]
        cases L[L.length - 1 - oldL L]? with
        | none => rfl
        | some x => exact congrArg some (hg x)
      · simp only [if_neg c3]
        exact ⟨trivial, trivial, rfl⟩
theorem putK_mem [DecidableEq K] {L : List (Ent K V)} {most : Nat} {k a : K} (h : putK most k L = some a) : ∃ e ∈ L, e.key = a := by
  unfold putK at h
  split at h
  · cases h
  · split at h
    · cases h
    · split at h
      · cases hx : L[L.length - 1 - oldL L]? with
        | none =>
          rw [hx] at h
          cases h
        | some x =>
          rw [hx] at h
          exact ⟨x, List.mem_of_getElem? hx, Option.some.inj h⟩
      · cases h
end
/-- The number of a text. -/
def numT (T : ByteArray → Option Int) (s : ByteArray) : Int := (T s).getD 0
/-- An entry of the cache of texts, as one of the cache of numbers. -/
def entN (T : ByteArray → Option Int) (e : KB.E) : KA.E := ⟨numT T e.key, e.key, 0⟩
structure OthInv (T : ByteArray → Option Int) (i most : Nat) (L : List KB.E) : Prop where
  once : Once L
  zero : ∀ e ∈ L, e.pins = 0
  len : L.length ≤ most
  dom : ∀ e ∈ L, ∃ n, T e.key = some n
  inj : ∀ s t n, T s = some n → T t = some n → s = t
  rng : ∀ s n, T s = some n → 1 ≤ n ∧ n ≤ (i : Int)
  siz : ∀ s n, T s = some n → (s.size : Int) ≤ 9223372036854775807
theorem oth_empty (most : Nat) : OthInv (fun _ => none) 0 most [] := ⟨List.nodup_nil, fun e h => (by cases h), Nat.zero_le _, fun e h => (by cases h), fun s t n h => (by cases h), fun s n h => (by cases h), fun s n h => (by cases h)⟩
theorem OthInv.next {T : ByteArray → Option Int} {i most : Nat} {L : List KB.E} (h : OthInv T i most L) : OthInv T (i + 1) most L :=
  ⟨h.once, h.zero, h.len, h.dom, h.inj, fun s n hs => by have := h.rng s n hs; omega, h.siz⟩
theorem OthInv.number {T : ByteArray → Option Int} {i most : Nat} {L : List KB.E} (h : OthInv T i most L) {k : ByteArray} (hk : T k = none) (sk : (k.size : Int) ≤ 9223372036854775807) :
    OthInv (MI.put T k ((i : Int) + 1)) (i + 1) most L ∧ L.map (entN (MI.put T k ((i : Int) + 1))) = L.map (entN T) := by
  have hne : ∀ e ∈ L, e.key ≠ k := fun e he e2 => by
    obtain ⟨n, hn⟩ := h.dom e he
    rw [e2, hk] at hn
    cases hn
  refine ⟨⟨h.once, h.zero, h.len, fun e he => ?_, fun s t n hs ht => ?_, fun s n hs => ?_, fun s n hs => ?_⟩, List.map_congr_left fun e he => ?_⟩
  · obtain ⟨n, hn⟩ := h.dom e he
    exact ⟨n, by unfold MI.put; rw [if_neg (hne e he)]; exact hn⟩
  · unfold MI.put at hs ht
    by_cases c1 : s = k
    · by_cases c2 : t = k
      · rw [c1, c2]
      · rw [if_pos c1] at hs
        rw [if_neg c2] at ht
        have := (h.rng t n ht).2
        cases hs
        omega
    · rw [if_neg c1] at hs
      by_cases c2 : t = k
      · rw [if_pos c2] at ht
        have := (h.rng s n hs).2
        cases ht
        omega
      · rw [if_neg c2] at ht
        exact h.inj s t n hs ht
  · unfold MI.put at hs
    split at hs
    · cases hs
      omega
    · have := h.rng s n hs
      omega
  · unfold MI.put at hs
    by_cases c1 : s = k
    · rw [c1]
      exact sk
    · rw [if_neg c1] at hs
      exact h.siz s n hs
  · unfold entN numT MI.put
    rw [if_neg (hne e he)]
theorem OthInv.put {T : ByteArray → Option Int} {i most : Nat} {L : List KB.E} (h : OthInv T i most L) {k : ByteArray} {n : Int} (hk : T k = some n) (v : Int) (hm : 1 ≤ most) :
    (putL most n k (L.map (entN T)) = (putL most k v L).map (entN T) ∧ putE most n (L.map (entN T)) = putE most k L ∧ putK most n (L.map (entN T)) = (putK most k L).map (numT T)) ∧ putE most k L = 0 ∧ OthInv T i most (putL most k v L) ∧
      (∃ M, putL most k v L = ⟨k, v, 0⟩ :: M) ∧ ∀ a, putK most k L = some a → ∃ m, T a = some m := by
  have hn : numT T k = n := by unfold numT; rw [hk]; rfl
  have h1 := put_map (entN T) (numT T) L most k v k h.zero (fun _ => rfl) (fun _ => rfl) (fun e he heq => ?_) (fun _ => rfl)
  · rw [hn] at h1
    obtain ⟨hE, M, hM, hMm⟩ := put_zero h.once h.zero hm k v
    refine ⟨h1, hE, ⟨once_put h.once _ _ _, fun e he => ?_, put_len h.len _ _, fun e he => ?_, h.inj, h.rng, h.siz⟩, ⟨M, hM⟩, fun a ha => ?_⟩
    · rw [hM] at he
      rcases List.mem_cons.1 he with rfl | he
      · rfl
      · exact h.zero e (hMm e he).1
    · rw [hM] at he
      rcases List.mem_cons.1 he with rfl | he
      · exact ⟨n, hk⟩
      · exact h.dom e (hMm e he).1
    · obtain ⟨e, he, rfl⟩ := putK_mem ha
      exact h.dom e he
  · obtain ⟨m, hm2⟩ := h.dom e he
    have e1 : numT T e.key = m := by unfold numT; rw [hm2]; rfl
    rw [hn, e1] at heq
    exact h.inj _ _ n (by rw [hm2, heq]) hk
end Go.Proofs.Ytomgiemnkbjebaa
