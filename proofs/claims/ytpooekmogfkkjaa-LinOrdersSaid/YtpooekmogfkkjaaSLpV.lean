/- A list of numbers as a parameter, and its room. -/
import Derived.Test.YtpooekmogfkkjaaSLoB
namespace Go.Proofs.Ytpooekmogfkkjaa
set_option maxRecDepth 100000
open Go.ChangeShapes Go.WideShapes Go.ChangeAt Go.RowKit Go.PlainAid Go.Deep
theorem ints_openC {H : Type} {enc : TypeId × Value → H} {w : World} {base b0 : Nat} {sp : Nat → Bool} {held : Bool} {r : Reach} {v : Value} {d : DataW H} {p : List MemPlace}
    (hv : Value.okWide Try.prog w r b0 36 v) (h : DataW.Trod enc Try.prog w base sp held 36 v d p) : ∃ l : List Int, IntsOf w v l ∧ CapOk v ∧ (l = [] ∨ ∃ el rest, d = .slice el rest ∧ el.length = l.length) := by
  obtain ⟨ao, len0, cap0, rfl⟩ := okWide_slice Try.underlying36 hv
  obtain ⟨fuel, hf⟩ := h
  rcases open_slice Try.underlying36 hf with ⟨h0, _⟩ | ⟨a, len, cap, m, n, Dt, Pl, hcs, hb, hl, hm, hmm, hx, hi⟩
  · have : Value.slice ao len0 cap0 = .slice none 0 0 := by simpa [Value.cells] using h0
    cases this
    exact ⟨[], .inl ⟨rfl, none, 0, rfl⟩, CapOk.mk (Nat.le_refl _), .inl rfl⟩
  · have e : Value.slice ao len0 cap0 = .slice (some a) len cap := by simpa [Value.cells] using hcs
    cases e
    have hC : Try.prog.cellsOf 3 = 1 := by kernel_rfl
    have hlm : len0 ≤ m := by rw [hmm]; split <;> omega
    by_cases h0 : len0 = 0
    · subst h0
      exact ⟨[], .inl ⟨rfl, _, _, rfl⟩, CapOk.mk hl, .inl rfl⟩
    · have each : ∀ i, ∃ y : Int, i < len0 → (-9223372036854775808 ≤ y ∧ y ≤ 9223372036854775807) ∧ w.cell? (a.add i) = some (.int .i64 y) := fun i => by
        by_cases c : i < len0
        · obtain ⟨cs', hc, ht⟩ := hi i (by omega)
          rw [hC] at hc
          obtain ⟨_, hcl, hat⟩ := World.cells?_some hc
          obtain ⟨y, hy, _, hw⟩ := DataW.trod_int Try.underlying3 ht
          refine ⟨y, fun _ => ⟨bounds_i64 hw, ?_⟩⟩
          have := hat 0 (by omega)
          rw [hy, Go.Deep.add_add, Nat.mul_one, Nat.add_zero] at this
          exact this
        · exact ⟨0, fun h => absurd h c⟩
      obtain ⟨f, hf'⟩ := Classical.axiomOfChoice each
      have h00 := (hf' 0 (by omega)).2
      obtain ⟨b, off, spot⟩ := a
      have hspot : spot = none := by simpa [Addr.add] using World.cell?_spot h00
      subst hspot
      refine ⟨(List.range len0).map f, ?_, CapOk.mk hl, .inr ⟨_, _, congrArg Prod.fst hx, by simp⟩⟩
      refine .inr ⟨b, off, cap0, by simp, World.block_lt_of_cell? w _ h00, by simp; omega, by simp; unfold maxLen at hm; omega, fun i x hx => ?_⟩
      have hil : i < len0 := by have := (List.getElem?_eq_some_iff.1 hx).1; simpa using this
      have hxf : f i = x := by simpa [List.getElem?_map, List.getElem?_range hil] using hx
      subst hxf
      obtain ⟨hw, hc⟩ := hf' i hil
      exact ⟨hw, by rw [← hc, Addr.add_mid]⟩
end Go.Proofs.Ytpooekmogfkkjaa
