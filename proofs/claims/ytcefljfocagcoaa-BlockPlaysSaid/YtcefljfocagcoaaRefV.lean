/- The reference's disk, as a value; its late writes, as cells; structs of four cells. -/
import Derived.Test.YtcefljfocagcoaaRefA
import Derived.Test.YtcefljfocagcoaaBlkE
namespace Go.Proofs.Ytcefljfocagcoaa
open Go.ChangeShapes Go.WideShapes Go.ChangeAt Go.RowKit Go.PlainAid

/-- The reference's disk, as a value that reads as d; its blocks are blocks of P. -/
def RefV (P : Nat → Prop) (w : World) (v : Value) (d : D) : Prop := ∃ (sa la : Option Addr) (sn sc ln lc : Nat) (lim : Int), v = .agg #[.slice sa sn sc, .slice la ln lc, .int .i64 lim, .bool d.dark] ∧ SafeIn w (.slice sa sn sc) d.n d.safe ∧ LateIn w (.slice la ln lc) d.late ∧ LimR lim d.limit ∧ -9223372036854775808 ≤ lim ∧ lim ≤ 9223372036854775807 ∧ (d.late = [] → la = none) ∧ (∀ a, sa = some a → P a.block) ∧ ∀ a, la = some a → P a.block
theorem RefV.on {P : Nat → Prop} {w w' : World} {v : Value} {d : D} (h : RefV P w v d) (b : Below w.heap.size w w') : RefV P w' v d := by
  obtain ⟨sa, la, sn, sc, ln, lc, lim, hv, hs, hl, hr⟩ := h
  exact ⟨sa, la, sn, sc, ln, lc, lim, hv, hs.on b, hl.on b, hr⟩
theorem RefV.mono {P Q : Nat → Prop} {w : World} {v : Value} {d : D} (h : RefV P w v d) (hs : ∀ k, P k → Q k) : RefV Q w v d := by
  obtain ⟨sa, la, sn, sc, ln, lc, lim, hv, h1, h2, h3, h4, h5, h6, h7, h8⟩ := h
  exact ⟨sa, la, sn, sc, ln, lc, lim, hv, h1, h2, h3, h4, h5, h6, fun a e => hs _ (h7 a e), fun a e => hs _ (h8 a e)⟩
/-- The reference's late writes, as cells. -/
def lateTexts (l : List (Nat × ByteArray)) : List Value := l.flatMap fun x => [.int .i64 (x.1 : Int), .string x.2]
theorem lateTexts_length : ∀ (l : List (Nat × ByteArray)), (lateTexts l).length = l.length * 2
  | [] => rfl
  | x :: l => by
    have := lateTexts_length l
    unfold lateTexts at *
    rw [List.flatMap_cons, List.length_append, this, List.length_cons]
    simp only [List.length_cons, List.length_nil]
    omega
theorem lateTexts_snoc (l : List (Nat × ByteArray)) (x : Nat × ByteArray) : lateTexts (l ++ [x]) = lateTexts l ++ [.int .i64 (x.1 : Int), .string x.2] := by simp [lateTexts]
theorem lateTexts_get : ∀ (l : List (Nat × ByteArray)) (i : Nat) (x : Nat × ByteArray), l[i]? = some x → (lateTexts l)[i * 2]? = some (.int .i64 (x.1 : Int)) ∧ (lateTexts l)[i * 2 + 1]? = some (.string x.2)
  | [], _, _, h => by simp at h
  | y :: l, 0, x, h => by
    obtain rfl : y = x := by simpa using h
    exact ⟨rfl, rfl⟩
  | y :: l, i + 1, x, h => by
    have := lateTexts_get l i x (by simpa using h)
    unfold lateTexts at *
    rw [List.flatMap_cons]
    rw [show (i + 1) * 2 = i * 2 + 2 by omega, show i * 2 + 2 + 1 = (i * 2 + 1) + 2 by omega]
    exact this
theorem lateTexts_one (l : List (Nat × ByteArray)) : ∀ v ∈ lateTexts l, v.oneCell' = true := by
  intro v hv
  unfold lateTexts at hv
  obtain ⟨x, _, hx⟩ := List.mem_flatMap.1 hv
  simp only [List.mem_cons, List.not_mem_nil, or_false] at hx
  rcases hx with rfl | rfl <;> rfl
theorem late_news {w : World} {b : Nat} {l : List (Nat × ByteArray)} (h : ∀ i x, l[i]? = some x → w.cell? ⟨b, i * 2, none⟩ = some (.int .i64 (x.1 : Int)) ∧ w.cell? ⟨b, i * 2 + 1, none⟩ = some (.string x.2)) : ∀ j u, (lateTexts l)[j]? = some u → w.cell? (Addr.add ⟨b, 0, none⟩ j) = some u := by
  intro j u hu
  have hj : j < l.length * 2 := by
    have := (List.getElem?_eq_some_iff.1 hu).1
    rwa [lateTexts_length] at this
  have hi : j / 2 < l.length := by omega
  obtain ⟨p, q⟩ := lateTexts_get l (j / 2) l[j / 2] (List.getElem?_eq_getElem hi)
  obtain ⟨c, e⟩ := h (j / 2) l[j / 2] (List.getElem?_eq_getElem hi)
  have ha : Addr.add ⟨b, 0, none⟩ j = ⟨b, j, none⟩ := by
    unfold Addr.add
    split
    · next z => rw [z]
    · rw [Nat.zero_add]
  rw [ha]
  rcases Nat.mod_two_eq_zero_or_one j with m | m
  · have k : j / 2 * 2 = j := by omega
    rw [k] at p c
    rw [c, ← p, hu]
  · have k : j / 2 * 2 + 1 = j := by omega
    rw [k] at q e
    rw [e, ← q, hu]
theorem late_owned {w : World} {base g cap : Nat} {t : TypeId} {n : Nat} {l : List (Nat × ByteArray)} (hn : l.length = n) (h : w.ownsRow base t 2 (.slice (some ⟨g, 0, none⟩) n cap) n (lateTexts l)) : LateIn w (.slice (some ⟨g, 0, none⟩) n cap) l := by
  subst hn
  obtain ⟨h1, h2⟩ := h
  rcases h2 with ⟨h2, _⟩ | ⟨g', cap', cur, hv, hb, hg, hn2, hc, hsz, ht⟩
  · cases h2
  · cases hv
    have hlt : g < w.heap.size := by
      rcases Nat.lt_or_ge g w.heap.size with c | c
      · exact c
      · rw [Array.getElem?_eq_none c] at hg; cases hg
    have cell : ∀ j u, j < l.length * 2 → (lateTexts l)[j]? = some u → w.cell? ⟨g, j, none⟩ = some u := fun j u hj hu => by
      rw [cell_of_row _ _ _ _ _ _ hg, ← hu, ← ht, List.getElem?_take_of_lt hj, Array.getElem?_toList]
    refine .inr ⟨g, cap, rfl, hlt, fun i x hx => ?_⟩
    have hi : i < l.length := (List.getElem?_eq_some_iff.1 hx).1
    obtain ⟨a, b⟩ := lateTexts_get l i x hx
    exact ⟨cell _ _ (by omega) a, cell _ _ (by omega) b⟩
/-- A struct of four cells stored over another. -/
theorem four_stored {w1 : World} {q : Nat} {t : TypeId} {o0 o1 o2 o3 : Value} (h : w1.heap[q]? = some (.cells #[o0, o1, o2, o3] t (0, 0))) (v0 v1 v2 v3 : Value) :
    ((((w1.setCell ⟨q, 0, none⟩ v0).setCell ⟨q, 1, none⟩ v1).setCell ⟨q, 2, none⟩ v2).setCell ⟨q, 3, none⟩ v3).heap[q]? = some (.cells #[v0, v1, v2, v3] t (0, 0)) := by
  have h0 := heap_setCell_same w1 q 0 _ _ v0 h
  have h1 := heap_setCell_same _ q 1 _ _ v1 h0
  have h2 := heap_setCell_same _ q 2 _ _ v2 h1
  exact heap_setCell_same _ q 3 _ _ v3 h2
theorem four_other {w1 : World} {q k : Nat} (h : k ≠ q) (v0 v1 v2 v3 : Value) : ((((w1.setCell ⟨q, 0, none⟩ v0).setCell ⟨q, 1, none⟩ v1).setCell ⟨q, 2, none⟩ v2).setCell ⟨q, 3, none⟩ v3).heap[k]? = w1.heap[k]? := by
  rw [heap_setCell_other _ _ _ _ h, heap_setCell_other _ _ _ _ h, heap_setCell_other _ _ _ _ h, heap_setCell_other _ _ _ _ h]
theorem four_below {w w1 : World} {q : Nat} (h : Below w.heap.size w w1) (hq : w.heap.size ≤ q) (v0 v1 v2 v3 : Value) : Below w.heap.size w ((((w1.setCell ⟨q, 0, none⟩ v0).setCell ⟨q, 1, none⟩ v1).setCell ⟨q, 2, none⟩ v2).setCell ⟨q, 3, none⟩ v3) :=
  (((h.setCell hq _).setCell hq _).setCell hq _).setCell hq _
theorem cells4 {W : World} {q : Nat} {t : TypeId} {v0 v1 v2 v3 : Value} (h : W.heap[q]? = some (.cells #[v0, v1, v2, v3] t (0, 0))) : W.cell? ⟨q, 0, none⟩ = some v0 ∧ W.cell? ⟨q, 1, none⟩ = some v1 ∧ W.cell? ⟨q, 2, none⟩ = some v2 ∧ W.cell? ⟨q, 3, none⟩ = some v3 ∧
    W.frozen? ⟨q, 0, none⟩ = false ∧ W.frozen? ⟨q, 1, none⟩ = false ∧ W.frozen? ⟨q, 2, none⟩ = false ∧ W.frozen? ⟨q, 3, none⟩ = false := by
  refine ⟨?_, ?_, ?_, ?_, frozen_of_row _ _ _ _ _ h, frozen_of_row _ _ _ _ _ h, frozen_of_row _ _ _ _ _ h, frozen_of_row _ _ _ _ _ h⟩ <;> rw [cell_of_row _ _ _ _ _ _ h] <;> rfl
theorem ownsRow_on {w w' : World} {base : Nat} {e : TypeId} {size : Nat} {v : Value} {n : Nat} {xs : List Value} (h : w.ownsRow base e size v n xs) (b : Below w.heap.size w w') : w'.ownsRow base e size v n xs := by
  obtain ⟨h1, h2⟩ := h
  refine ⟨h1, ?_⟩
  rcases h2 with h2 | ⟨g, cap, cur, hv, hb, hg, h3⟩
  · exact .inl h2
  · have hlt : g < w.heap.size := by
      rcases Nat.lt_or_ge g w.heap.size with c | c
      · exact c
      · rw [Array.getElem?_eq_none c] at hg; cases hg
    exact .inr ⟨g, cap, cur, hv, hb, (b.block g hlt).trans hg, h3⟩
theorem info_late : (Try.prog.info? 63).map (fun i => (i.zero, i.size, i.bytes)) = some (some (.agg #[.int .i64 0, .string ⟨#[]⟩]), 2, 24) := by kernel_rfl
end Go.Proofs.Ytcefljfocagcoaa
