/- Plain: what budgets change. -/
import Derived.Test.YtpooekmogfkkjaaSLnW
import Derived.Test.YtpooekmogfkkjaaGO
namespace Go.Proofs.Ytpooekmogfkkjaa
set_option maxRecDepth 100000
open Go.ChangeShapes Go.WideShapes Go.ChangeAt Go.RowKit Go.PlainAid
namespace Ln
theorem us_exists {l : List (List Int)} (h : ∀ s ∈ l, Okz s) : ∃ r, US l r := ⟨_, us_sorted h⟩
theorem sts_okz {w : World} {v : Value} {l : List (List Int)} (h : Sts w v l) (hk : ∀ s ∈ l, s.length ≤ 1000000000) : ∀ s ∈ l, Okz s := fun s hs => by
  obtain ⟨i, hi⟩ := List.getElem?_of_mem hs
  obtain ⟨b, p, cap, u, _, _, _, hu⟩ := h.at hi
  exact ⟨hu.inI, by have := hk s hs; omega⟩
/-- A search that answers. -/
theorem Ans.ok {l : List OpV} {ents : List (List Int)} {lim : Int} {P Q : List (List Int)} {n z : Int} (h : Ans l ents lim P Q n z) (hl : l.length ≤ 16) {first : List (List Int)} (hf : US ents first) (hz : z = 0) : ((bfs l lim most 0 (starts first)).length : Int) ≤ lim ∧ P = first ∧ US (exitsL l (bfs l lim most 0 (starts first))) Q ∧ n = ((bfs l lim most 0 (starts first)).length : Int) := by
  by_cases c : ((bfs l lim most 0 (starts first)).length : Int) ≤ lim
  · exact ⟨c, (h.good hl first hf c).2⟩
  · have := (h.over hl first hf (by omega)).1
    omega
theorem Ans.same {l : List OpV} {ents : List (List Int)} {lim lim' : Int} {P Q P' Q' : List (List Int)} {n z n' z' : Int} (h : Ans l ents lim P Q n z) (h' : Ans l ents lim' P' Q' n' z') (hl : l.length ≤ 16) (hx : ∃ r, US ents r) (hz : z = 0) (hn : n ≤ lim') : z' = 0 ∧ P' = P ∧ Q' = Q ∧ n' = n := by
  obtain ⟨first, hf⟩ := hx
  obtain ⟨h1, h2, h3, h4⟩ := h.ok hl hf hz
  have e := bfs_same l (lim := lim) (lim' := lim') most 0 (starts first) h1 (by omega)
  obtain ⟨k1, k2, k3, k4⟩ := h'.good hl first hf (by rw [e]; omega)
  rw [e] at k3 k4
  exact ⟨k1, k2.trans h2.symm, k3.eq h3 (fun _ => Iff.rfl), k4.trans h4.symm⟩
theorem Ans.less {l : List OpV} {ents : List (List Int)} {lim lim' : Int} {P Q P' Q' : List (List Int)} {n z n' z' : Int} (h : Ans l ents lim P Q n z) (h' : Ans l ents lim' P' Q' n' z') (hl : l.length ≤ 16) (hx : ∃ r, US ents r) (hz : z = 0) (hn : lim' < n) : z' = 35 := by
  obtain ⟨first, hf⟩ := hx
  obtain ⟨h1, h2, h3, h4⟩ := h.ok hl hf hz
  exact (h'.over hl first hf (bfs_less l most 0 (starts first) h1 (by omega))).1
theorem Ans.count {l : List OpV} {ents : List (List Int)} {lim : Int} {P Q : List (List Int)} {n z : Int} (h : Ans l ents lim P Q n z) (hl : l.length ≤ 16) (hx : ∃ r, US ents r) (hz : z = 0) : 0 ≤ n ∧ n ≤ lim ∧ P.length ≤ ents.length ∧ Q.length ≤ n := by
  obtain ⟨first, hf⟩ := hx
  obtain ⟨h1, h2, h3, h4⟩ := h.ok hl hf hz
  refine ⟨by omega, by omega, by rw [h2]; exact hf.len, ?_⟩
  have := h3.len
  unfold exitsL at this
  rw [List.length_map] at this
  have := Nat.le_trans this (List.length_filter_le _ _)
  omega
theorem ShortP.each {kind : Int} {l : List (List Int)} (h : ShortP kind l) : ∀ s ∈ l, s.length ≤ 200 := fun s hs => by
  have key : ∀ (l : List Nat) (x : Nat), x ∈ l → x ≤ l.sum := fun l => by
    induction l with
    | nil => intro x hx; cases hx
    | cons y r ih =>
      intro x hx
      rw [List.sum_cons]
      rcases List.mem_cons.1 hx with rfl | hx
      · omega
      · have := ih x hx; omega
  exact Nat.le_trans (key _ _ (List.mem_map.2 ⟨s, hs, rfl⟩)) h.sum
/-- The cells of an answer. -/
theorem sum_cells {W w : World} {b : Nat} {x y z : Value} (h : W.heap[b]? = some (.cells #[x, y, z] 27 (0, 0))) (hb : Below W.heap.size W w) : w.cell? ⟨b, 0, none⟩ = some x ∧ w.cell? ⟨b, 1, none⟩ = some y ∧ w.cell? ⟨b, 2, none⟩ = some z := by
  have hx := (hb.block _ (heap_inO h)).trans h
  refine ⟨?_, ?_, ?_⟩
  · rw [cell_of_row _ _ _ _ _ _ hx]; rfl
  · rw [cell_of_row _ _ _ _ _ _ hx]; rfl
  · rw [cell_of_row _ _ _ _ _ _ hx]; rfl
theorem seg_cells {W w : World} {b : Nat} {x y z : Value} (h : W.heap[b]? = some (.cells #[x, y, z] 24 (0, 0))) (hb : Below W.heap.size W w) : w.cell? ⟨b, 0, none⟩ = some x ∧ w.cell? ⟨b, 1, none⟩ = some y ∧ w.cell? ⟨b, 2, none⟩ = some z := by
  have hx := (hb.block _ (heap_inO h)).trans h
  refine ⟨?_, ?_, ?_⟩
  · rw [cell_of_row _ _ _ _ _ _ hx]; rfl
  · rw [cell_of_row _ _ _ _ _ _ hx]; rfl
  · rw [cell_of_row _ _ _ _ _ _ hx]; rfl
end Ln
end Go.Proofs.Ytpooekmogfkkjaa
