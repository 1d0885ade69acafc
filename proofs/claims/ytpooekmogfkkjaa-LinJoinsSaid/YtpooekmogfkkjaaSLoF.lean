/- Plain: what a search reaches. -/
import Derived.Test.YtpooekmogfkkjaaSLoE
namespace Go.Proofs.Ytpooekmogfkkjaa
set_option maxRecDepth 100000
open Go.ChangeShapes Go.WideShapes Go.ChangeAt Go.RowKit Go.PlainAid
namespace Ln
theorem bfs_sound (l : List OpV) (lim : Int) {S : Spt → Prop} (hS : ∀ p, S p → ∀ q ∈ nx l p, S q) : ∀ (f i : Nat) (out : List Spt), (∀ p ∈ out, S p) → ∀ p ∈ bfs l lim f i out, S p
  | 0, _, _, h => h
  | f + 1, i, out, h => by
    rw [bfs]
    split
    · rename_i p hp
      split
      · refine bfs_sound l lim hS f (i + 1) _ fun q hq => ?_
        rcases adds_mem.1 hq with hq | hq
        · exact h q hq
        · exact hS p (h p (List.mem_of_getElem? hp)) q hq
      · exact h
    · exact h
theorem bfs_sub (l : List OpV) (lim : Int) : ∀ (f i : Nat) (out : List Spt), ∀ p ∈ out, p ∈ bfs l lim f i out
  | 0, _, _, _, h => h
  | f + 1, i, out, p, h => by
    rw [bfs]
    split
    · split
      · exact bfs_sub l lim f (i + 1) _ p (adds_mem.2 (.inl h))
      · exact h
    · exact h
theorem bfs_closed (l : List OpV) (lim : Int) : ∀ (f i : Nat) (out : List Spt), ((bfs l lim f i out).length : Int) ≤ lim → (bfs l lim f i out).length ≤ i + f → (∀ j p, j < i → out[j]? = some p → ∀ q ∈ nx l p, q ∈ out) → ∀ p ∈ bfs l lim f i out, ∀ q ∈ nx l p, q ∈ bfs l lim f i out
  | 0, i, out, _, hf, hc => fun p hp q hq => by
    obtain ⟨j, hj⟩ := List.getElem?_of_mem (show p ∈ out from hp)
    have := (List.getElem?_eq_some_iff.1 hj).1
    exact hc j p (by have : out.length ≤ i + 0 := hf; omega) hj q hq
  | f + 1, i, out, hl, hf, hc => by
    cases hp : out[i]? with
    | none =>
      have e : bfs l lim (f + 1) i out = out := bfs_end (List.getElem?_eq_none_iff.1 hp)
      rw [e]
      intro p hpo q hq
      obtain ⟨j, hj⟩ := List.getElem?_of_mem hpo
      have := (List.getElem?_eq_some_iff.1 hj).1
      have := List.getElem?_eq_none_iff.1 hp
      exact hc j p (by omega) hj q hq
    | some x =>
      have h0 := bfs_len l lim (f + 1) i out
      have e := bfs_go (l := l) (f := f) hp (show (out.length : Int) ≤ lim by omega)
      rw [e] at hl hf ⊢
      refine bfs_closed l lim f (i + 1) _ hl (by omega) fun j p hj hjp q hq => ?_
      by_cases c : j < i
      · have hjo : j < out.length := by have := (List.getElem?_eq_some_iff.1 hp).1; omega
        have := adds_get (l := nx l x) (List.getElem?_eq_getElem hjo)
        rw [this] at hjp
        exact adds_mem.2 (.inl (hc j p c (by rw [← hjp]; exact List.getElem?_eq_getElem hjo) q hq))
      · obtain rfl : j = i := by omega
        rw [adds_get hp] at hjp
        obtain rfl := Option.some.inj hjp
        exact adds_mem.2 (.inr hq)
/-- All that is reached from entries, where the limit was enough. -/
structure Full (l : List OpV) (ents : List (List Int)) (F : List Spt) : Prop where
  start : ∀ s ∈ ents, (0, s) ∈ F
  step : ∀ p ∈ F, ∀ q ∈ nx l p, q ∈ F
  least : ∀ S : Spt → Prop, (∀ s ∈ ents, S (0, s)) → (∀ p, S p → ∀ q ∈ nx l p, S q) → ∀ p ∈ F, S p
  nodup : F.Nodup
theorem full_of {l : List OpV} {ents first : List (List Int)} {lim : Int} (hf : US ents first) (hl : ((bfs l lim most 0 (starts first)).length : Int) ≤ lim) (hlim : lim ≤ 32768) : Full l ents (bfs l lim most 0 (starts first)) := by
  refine ⟨fun s hs => bfs_sub l lim _ _ _ _ (List.mem_map.2 ⟨s, (hf.mem s).2 hs, rfl⟩), bfs_closed l lim most 0 _ hl (by unfold most at *; omega) (fun j p hj => by omega), fun S h0 h1 => bfs_sound l lim h1 _ _ _ fun p hp => ?_, bfs_nodup l lim _ _ _ ?_⟩
  · obtain ⟨s, hs, rfl⟩ := List.mem_map.1 hp
    exact h0 s ((hf.mem s).1 hs)
  · unfold starts
    rw [List.Nodup, List.pairwise_map]
    exact hf.nodup.imp fun {a b} h e => h (Prod.mk.inj e).2
theorem Full.sub {l : List OpV} {a b : List (List Int)} {F G : List Spt} (h : Full l a F) (k : Full l b G) (hs : ∀ s ∈ a, s ∈ b) : ∀ p ∈ F, p ∈ G := h.least (fun p => p ∈ G) (fun s hs' => k.start s (hs s hs')) k.step
theorem exits_mem {l : List OpV} {F : List Spt} {s : List Int} : s ∈ exitsL l F ↔ ∃ m, (m, s) ∈ F ∧ exitB l m = true := by
  unfold exitsL
  rw [List.mem_map]
  constructor
  · rintro ⟨⟨m, t⟩, hp, rfl⟩
    obtain ⟨h1, h2⟩ := List.mem_filter.1 hp
    exact ⟨m, h1, h2⟩
  · rintro ⟨m, h1, h2⟩
    exact ⟨(m, s), List.mem_filter.2 ⟨h1, h2⟩, rfl⟩
/-- Two lists of entries together. -/
theorem full_join {l : List OpV} {a b : List (List Int)} {F G H : List Spt} (hF : Full l a F) (hG : Full l b G) (hH : Full l (a ++ b) H) : (∀ p, p ∈ H ↔ p ∈ F ∨ p ∈ G) ∧ H.length ≤ F.length + G.length ∧ F.length ≤ H.length ∧ G.length ≤ H.length := by
  have h1 : ∀ p ∈ F, p ∈ H := hF.sub hH fun s hs => List.mem_append_left _ hs
  have h2 : ∀ p ∈ G, p ∈ H := hG.sub hH fun s hs => List.mem_append_right _ hs
  have h3 : ∀ p ∈ H, p ∈ F ∨ p ∈ G := hH.least _ (fun s hs => (List.mem_append.1 hs).imp (hF.start s) (hG.start s)) fun p hp q hq => hp.imp (fun h => hF.step p h q hq) (fun h => hG.step p h q hq)
  refine ⟨fun p => ⟨h3 p, fun h => h.elim (h1 p) (h2 p)⟩, ?_, List.Nodup.length_le_of_subset hF.nodup h1, List.Nodup.length_le_of_subset hG.nodup h2⟩
  have := List.Nodup.length_le_of_subset hH.nodup (l₂ := F ++ G) fun p hp => List.mem_append.2 (h3 p hp)
  rwa [List.length_append] at this
/-- What two searches and the one of both say. -/
theorem ans_join {l : List OpV} {a b : List (List Int)} {lim : Int} {P Q n z P2 Q2 n2 z2 P3 Q3 n3 z3} (h : Ans l a lim P Q n z) (h2 : Ans l b lim P2 Q2 n2 z2) (h3 : Ans l (a ++ b) lim P3 Q3 n3 z3) (hl : l.length ≤ 16) (hlim : lim ≤ 32768) (ha : ∃ r, US a r) (hb : ∃ r, US b r) (hc : ∃ r, US (a ++ b) r) (e : z = 0) (e2 : z2 = 0) (e3 : z3 = 0) :
    (∀ B, US (Q ++ Q2) B → Q3 = B) ∧ n3 ≤ n + n2 ∧ n ≤ n3 ∧ n2 ≤ n3 := by
  obtain ⟨fa, ha⟩ := ha
  obtain ⟨fb, hb⟩ := hb
  obtain ⟨fc, hc⟩ := hc
  obtain ⟨a1, _, a3, a4⟩ := h.ok hl ha e
  obtain ⟨b1, _, b3, b4⟩ := h2.ok hl hb e2
  obtain ⟨c1, _, c3, c4⟩ := h3.ok hl hc e3
  obtain ⟨hm, k1, k2, k3⟩ := full_join (full_of ha a1 hlim) (full_of hb b1 hlim) (full_of hc c1 hlim)
  refine ⟨fun B hB => c3.eq hB fun s => ?_, by omega, by omega, by omega⟩
  rw [List.mem_append, a3.mem s, b3.mem s, exits_mem, exits_mem, exits_mem]
  constructor
  · rintro ⟨m, hp, he⟩
    exact ((hm _).1 hp).imp (fun h => ⟨m, h, he⟩) (fun h => ⟨m, h, he⟩)
  · rintro (⟨m, hp, he⟩ | ⟨m, hp, he⟩)
    · exact ⟨m, (hm _).2 (.inl hp), he⟩
    · exact ⟨m, (hm _).2 (.inr hp), he⟩
end Ln
end Go.Proofs.Ytpooekmogfkkjaa
