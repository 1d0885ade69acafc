/- What Pack and its reference answer, whatever the pages; and that they answer the same texts. -/
import Derived.Test.YtpnlpciofmpldaaJRefE
import Derived.Test.YtpnlpciofmpldaaJRefQ
import Derived.Test.YtpnlpciofmpldaaJPackE
import Derived.Test.YtpnlpciofmpldaaJPack
import Derived.Test.YtpnlpciofmpldaaJAwake
import Derived.Test.YtpnlpciofmpldaaJPages
namespace Go.Proofs.Ytpnlpciofmpldaa
open Go.ChangeShapes Go.WideShapes Go.ChangeAt Go.RowKit Go.PlainAid

/-- The code that pages are answered with. -/
def codeP (l : List PageV) : Int := if 1024 < l.length then 2 else (l.find? fun p => decide (p.err ≠ 0)).elim 0 (·.err)
def strOf : Option Value → ByteArray
  | some (.string t) => t
  | _ => ByteArray.empty
/-- The text of block j of packed pages. -/
def packS (l : List PageV) (j : Nat) : ByteArray := strOf (packT l)[j]?
theorem packT_str (l : List PageV) : ∀ x ∈ packT l, ∃ t, x = .string t := by
  intro x hx
  unfold packT numT pageT at hx
  rcases List.mem_append.1 hx with h | h
  · obtain ⟨k, _, rfl⟩ := List.mem_map.1 h
    exact ⟨_, rfl⟩
  · obtain ⟨k, _, rfl⟩ := List.mem_map.1 h
    exact ⟨_, rfl⟩
theorem packT_length (l : List PageV) : (packT l).length = blocksN l.length := by
  have h := headT_size (l.length : Int) l.length l (Nat.le_refl _)
  rw [List.take_length] at h
  unfold packT numT pageT blocksN
  rw [List.length_append, List.length_map, List.length_map, List.length_range, h]
  unfold chunks
  omega
theorem packT_at (l : List PageV) {j : Nat} (h : j < blocksN l.length) : (packT l)[j]? = some (.string (packS l j)) := by
  have hj : j < (packT l).length := by rw [packT_length]; exact h
  obtain ⟨t, ht⟩ := packT_str l _ (List.getElem_mem hj)
  unfold packS
  rw [List.getElem?_eq_getElem hj, ht]
  rfl
/-- The slice that pages are answered with. -/
def Outs (w' : World) (l : List PageV) (z : Int) (sv : Value) : Prop :=
  (z ≠ 0 ∧ sv = .slice none 0 0) ∨ (z = 0 ∧ ∃ g cap, sv = .slice (some ⟨g, 0, none⟩) (blocksN l.length) cap ∧ g < w'.heap.size ∧ ∀ j, j < blocksN l.length → w'.cell? ⟨g, j, none⟩ = some (.string (packS l j)))
theorem Outs.on {w w' : World} {l : List PageV} {z : Int} {sv : Value} (h : Outs w l z sv) (hb : Below w.heap.size w w') : Outs w' l z sv := by
  rcases h with h | ⟨hz, g, cap, hv, hg, hc⟩
  · exact .inl h
  · exact .inr ⟨hz, g, cap, hv, Nat.lt_of_lt_of_le hg hb.size, fun j hj => by rw [← hc j hj]; simp [World.cell?, hb.block g hg]⟩
theorem outs_row {w w' : World} {l : List PageV} {sv : Value} (hrow : w'.ownsRow w.heap.size 9 1 sv (packT l).length (packT l)) : Outs w' l 0 sv := by
  obtain ⟨g, cap, hv, hg, hc⟩ := row_open hrow (by rw [packT_length]; unfold blocksN; omega)
  exact .inr ⟨rfl, g, cap, by rw [hv, packT_length], hg, fun j hj => hc j _ (packT_at l hj)⟩
theorem code_cases (l : List PageV) (hn : l.length ≤ 1024) : ((∀ p ∈ l, p.err = 0) ∧ codeP l = 0) ∨ ∃ (j : Nat) (z : PageV), l[j]? = some z ∧ z.err ≠ 0 ∧ (∀ i x, i < j → l[i]? = some x → x.err = 0) ∧ codeP l = z.err := by
  unfold codeP
  rw [if_neg (by omega)]
  cases c : l.find? fun p => decide (p.err ≠ 0) with
  | none =>
    left
    refine ⟨fun p hp => ?_, rfl⟩
    have := List.find?_eq_none.1 c p hp
    simpa using this
  | some z =>
    right
    obtain ⟨hz, xs, ys, rfl, has⟩ := List.find?_eq_some_iff_append.1 c
    refine ⟨xs.length, z, by simp, by simpa using hz, fun i x hi hx => ?_, rfl⟩
    rw [List.getElem?_append_left hi] at hx
    have := has x (List.mem_of_getElem? hx)
    simpa using this
theorem err_range (x : PageV) : 0 ≤ x.err ∧ x.err ≤ 21 := by unfold PageV.err; split <;> (try split) <;> omega
theorem code_range (l : List PageV) : 0 ≤ codeP l ∧ codeP l ≤ 21 := by
  by_cases hn : 1024 < l.length
  · unfold codeP
    rw [if_pos hn]
    omega
  · rcases code_cases l (by omega) with ⟨_, h⟩ | ⟨j, z, _, _, _, h⟩
    · omega
    · rw [h]
      exact err_range z
theorem PagesIn.slice {w : World} {v : Value} {l : List PageV} (hl : PagesIn w v l) : ∃ ao cap, v = .slice ao l.length cap := by
  rcases hl with ⟨rfl, ao, cap, rfl⟩ | ⟨b, o, cap, rfl, _⟩
  · exact ⟨ao, cap, rfl⟩
  · exact ⟨_, cap, rfl⟩
theorem pack_all (w : World) (v : Value) (l : List PageV) (hl : PagesIn w v l) :
    Calls Try.prog 13 #[v] w fun e w' => ∃ sv, e = .returned (.tuple #[sv, .int .i64 (codeP l)]) ∧ Outs w' l (codeP l) sv ∧ Below w.heap.size w w' := by
  by_cases hn : 1024 < l.length
  · obtain ⟨ao, cap, rfl⟩ := hl.slice
    have hc : codeP l = 2 := by unfold codeP; rw [if_pos hn]
    rw [hc]
    refine (pack_big w ao _ cap hn).mono ?_
    rintro e w' ⟨rfl, hb⟩
    exact ⟨_, rfl, .inl ⟨by decide, rfl⟩, hb⟩
  · rcases code_cases l (by omega) with ⟨hok, h⟩ | ⟨j, z, hz, hze, hfirst, h⟩
    · rw [h]
      refine (pack_ok w v l hl (by omega) hok).mono ?_
      rintro e w' ⟨sv, rfl, hrow, hb⟩
      exact ⟨sv, rfl, outs_row hrow, hb⟩
    · rw [h]
      refine (pack_bad w v l hl (by omega) j z hz hze hfirst).mono ?_
      rintro e w' ⟨rfl, hb⟩
      exact ⟨_, rfl, .inl ⟨hze, rfl⟩, hb⟩
theorem rpack_all (w : World) (v : Value) (l : List PageV) (hl : PagesIn w v l) :
    Calls Try.prog 14 #[v] w fun e w' => ∃ sv, e = .returned (.tuple #[sv, .int .i64 (codeP l)]) ∧ Outs w' l (codeP l) sv ∧ Below w.heap.size w w' := by
  by_cases hn : 1024 < l.length
  · obtain ⟨ao, cap, rfl⟩ := hl.slice
    have hc : codeP l = 2 := by unfold codeP; rw [if_pos hn]
    rw [hc]
    refine (rpack_big w ao _ cap hn).mono ?_
    rintro e w' ⟨rfl, hb⟩
    exact ⟨_, rfl, .inl ⟨by decide, rfl⟩, hb⟩
  · rcases code_cases l (by omega) with ⟨hok, h⟩ | ⟨j, z, hz, hze, hfirst, h⟩
    · rw [h]
      refine (rpack_ok w v l hl (by omega) hok).mono ?_
      rintro e w' ⟨sv, rfl, hrow, hb⟩
      exact ⟨sv, rfl, outs_row hrow, hb⟩
    · rw [h]
      refine (rpack_bad w v l hl (by omega) j z hz hze hfirst).mono ?_
      rintro e w' ⟨rfl, hb⟩
      exact ⟨_, rfl, .inl ⟨hze, rfl⟩, hb⟩
theorem texts_same (w : World) (l : List PageV) (z : Int) (sv tv : Value) (h1 : Outs w l z sv) (h2 : Outs w l z tv) (hn : (blocksN l.length : Int) ≤ 9223372036854775807) :
    Calls Try.prog 15 #[sv, tv] w fun e w' => e = .returned (.bool true) ∧ Below w.heap.size w w' := by
  rcases h1 with ⟨hz, rfl⟩ | ⟨hz, g, cap, rfl, hg, hc⟩
  · rcases h2 with ⟨_, rfl⟩ | ⟨hz', _⟩
    · refine (texts_nil w).mono ?_
      rintro e w' ⟨rfl, rfl⟩
      exact ⟨rfl, Below.refl _ _⟩
    · exact absurd hz' hz
  · rcases h2 with ⟨hz', _⟩ | ⟨_, g', cap', rfl, hg', hc'⟩
    · exact absurd hz hz'
    · exact texts_any g g' (blocksN l.length) cap cap' (packS l) w hc hc' hn
end Go.Proofs.Ytpnlpciofmpldaa
