/- Package model: contracts of rises, number, mutex; the reference's Rising, Ints. -/
import Derived.Test.YtpooekmogfkkjaaSMoC
namespace Go.Proofs.Ytpooekmogfkkjaa
set_option maxRecDepth 100000
open Go.ChangeShapes Go.WideShapes Go.ChangeAt Go.RowKit Go.PlainAid Go.Deep

/-- Each number is above the one ahead. -/
def Rise (L : List Int) : Prop := ∀ (i : Nat) (x y : Int), L[i]? = some x → L[i + 1]? = some y → x < y
open Classical in
noncomputable def risesB (L : List Int) : Bool := decide (Rise L)
open Classical in
theorem risesB_yes {L : List Int} (h : Rise L) : risesB L = true := by unfold risesB; exact decide_eq_true h
open Classical in
theorem risesB_no {L : List Int} (h : ¬ Rise L) : risesB L = false := by unfold risesB; exact decide_eq_false h
theorem rise_far {L : List Int} (h : Rise L) : ∀ (d i : Nat) (x y : Int), L[i]? = some x → L[i + 1 + d]? = some y → x < y
  | 0, i, x, y, hx, hy => h i x y hx hy
  | d + 1, i, x, y, hx, hy => by
    have hl : i + 1 + d < L.length := by have := (List.getElem?_eq_some_iff.1 hy).1; omega
    have hz : L[i + 1 + d]? = some L[i + 1 + d] := List.getElem?_eq_getElem hl
    exact Int.lt_trans (rise_far h d i x _ hx hz) (h (i + 1 + d) _ y hz hy)
theorem rise_pair {L : List Int} (h : Rise L) : L.Pairwise (· < ·) := by
  rw [List.pairwise_iff_getElem]
  intro i j hi hj hij
  exact rise_far h (j - i - 1) i _ _ (List.getElem?_eq_getElem hi) (by rw [show i + 1 + (j - i - 1) = j by omega]; exact List.getElem?_eq_getElem hj)
theorem pair_rise {L : List Int} (h : L.Pairwise (· < ·)) : Rise L := fun i x y hx hy => by
  obtain ⟨hi, rfl⟩ := List.getElem?_eq_some_iff.1 hx
  obtain ⟨hj, rfl⟩ := List.getElem?_eq_some_iff.1 hy
  exact List.pairwise_iff_getElem.1 h i (i + 1) hi hj (by omega)
theorem below_grown {w : World} : Below w.heap.size w w := Below.refl _ _
theorem IntsOf.parts {w : World} {v : Value} {l : List Int} (h : IntsOf w v l) : ∃ ao cap, v = .slice ao l.length cap ∧ (l.length : Int) ≤ 9223372036854775807 ∧ (0 < l.length → ∃ b o, ao = some ⟨b, o, none⟩ ∧ b < w.heap.size ∧ ∀ (i : Nat) (x : Int), l[i]? = some x → w.cell? ⟨b, o + i, none⟩ = some (.int .i64 x)) := by
  rcases h with ⟨rfl, ao, cap, rfl⟩ | ⟨b, o, cap, rfl, hlt, h0, hm, hr⟩
  · exact ⟨ao, cap, rfl, by simp, fun h => by simp at h⟩
  · exact ⟨_, cap, rfl, hm, fun _ => ⟨b, o, rfl, hlt, fun i x hx => (hr i x hx).2⟩⟩
set_option maxHeartbeats 2000000 in
theorem rises_any (v : Value) (L : List Int) (w : World) (h : IntsOf w v L) : Calls Try.prog 97 #[v] w fun e w' => e = .returned (.bool (risesB L)) ∧ Below w.heap.size w w' := by
  obtain ⟨ao, cap, rfl, hm, hc⟩ := h.parts
  have HC := Lib.hid hc
  have HM := Lib.hid hm
  clear h hc hm
  go_enter Try.func97, Try.ntmps97
  go_wp2
  go_loopw [3] (fun s3 wr => ∃ j : Nat, s3 = .int .i64 ((j : Int) + 1) ∧ (j = 0 ∨ j < L.length) ∧ Below w.heap.size w wr ∧ Hid (∀ (i : Nat) (x y : Int), i < j → L[i]? = some x → L[i + 1]? = some y → x < y)) (fun s3 _ => L.length + 1 - (intOf s3).toNat)
  case atStart => exact ⟨0, rfl, .inl rfl, Below.refl _ _, fun i x y hi => absurd hi (by omega)⟩
  case round =>
    obtain ⟨j, rfl, hj, hb, HG⟩ := hrel
    by_cases hl : j + 1 < L.length
    · obtain ⟨b, o, rfl, hlt, hr⟩ := HC.out (by omega)
      have q1 : ((j : Int) + 1 < (L.length : Int)) = True := eq_true (by omega)
      have q1d : decide ((j : Int) + 1 < (L.length : Int)) = true := decide_eq_true (by omega)
      have q2 : IntKind.i64.wrap ((j : Int) + 1 + 1) = (j : Int) + 1 + 1 := IntWalk.i64_in _ (by have := HM.out; omega)
      have q3 : (0 : Int) ≤ (j : Int) + 1 := by omega
      have q4 : (j : Int) < (L.length : Int) := by omega
      have q5 : ((j : Int) + 1).toNat = j + 1 := by omega
      have q6 : IntKind.i64.wrap (j : Int) = (j : Int) := IntWalk.i64_in _ (by have := HM.out; omega)
      obtain ⟨x, hx⟩ : ∃ x, L[j]? = some x := ⟨_, List.getElem?_eq_getElem (by omega)⟩
      obtain ⟨y, hy⟩ : ∃ y, L[j + 1]? = some y := ⟨_, List.getElem?_eq_getElem hl⟩
      have c0 : wr.cell? ⟨b, o + j, none⟩ = some (.int .i64 x) := (hb.cell (p := ⟨b, o + j, none⟩) hlt).trans (hr j x hx)
      have c1 : wr.cell? ⟨b, o + (j + 1), none⟩ = some (.int .i64 y) := (hb.cell (p := ⟨b, o + (j + 1), none⟩) hlt).trans (hr (j + 1) y hy)
      have HL := Lib.hid (And.intro hl (And.intro hx hy))
      have HB := Lib.hid hb
      clear hl hj hx hy hb hr
      by_cases hxy : x < y
      · have qq : decide (x ≥ y) = false := decide_eq_false (by omega)
        have qq2 : (y ≤ x) = False := eq_false (by omega)
        have HX := Lib.hid hxy
        clear hxy
        go_wp2
        go_quiet (fail)
        go_wp2
        go_roundw
        case measure => have := HL.out.1; simp [intOf]; omega
        case rel => exact ⟨j + 1, by simp, .inr HL.out.1, HB.out.on (below_drewN _ _), fun i u z hi hu hz => by
          by_cases c : i = j
          · subst c
            rw [HL.out.2.1] at hu
            rw [HL.out.2.2] at hz
            rw [← Option.some.inj hu, ← Option.some.inj hz]
            exact HX.out
          · exact HG.out i u z (by omega) hu hz⟩
      · have qq : decide (x ≥ y) = true := decide_eq_true (by omega)
        have qq2 : (y ≤ x) = True := eq_true (by omega)
        have HX := Lib.hid hxy
        clear hxy
        go_wp2
        go_quiet (fail)
        go_wp2
        go_returns
        exact ⟨by rw [risesB_no fun hr => absurd (hr j x y HL.out.2.1 HL.out.2.2) (by have := HX.out; omega)]; rfl, HB.out.on (below_drewN _ _)⟩
    · have q1 : ((j : Int) + 1 < (L.length : Int)) = False := eq_false (by omega)
      have q1d : decide ((j : Int) + 1 < (L.length : Int)) = false := decide_eq_false (by omega)
      have HL := Lib.hid hl
      have HB := Lib.hid hb
      clear hl hj hb
      go_wp2
      go_returns
      exact ⟨by rw [risesB_yes fun i x y hx hy => HG.out i x y (by have := (List.getElem?_eq_some_iff.1 hy).1; have := HL.out; omega) hx hy]; rfl, HB.out⟩
set_option maxHeartbeats 2000000 in
theorem rrising_any (v : Value) (L : List Int) (w : World) (h : IntsOf w v L) : Calls Try.prog 46 #[v] w fun e w' => e = .returned (.bool (risesB L)) ∧ Below w.heap.size w w' := by
  obtain ⟨ao, cap, rfl, hm, hc⟩ := h.parts
  have HC := Lib.hid hc
  have HM := Lib.hid hm
  clear h hc hm
  go_enter Try.func46, Try.ntmps46
  go_wp2
  go_loopw [3] (fun s3 wr => ∃ j : Nat, s3 = .int .i64 ((j : Int) + 1) ∧ (j = 0 ∨ j < L.length) ∧ Below w.heap.size w wr ∧ Hid (∀ (i : Nat) (x y : Int), i < j → L[i]? = some x → L[i + 1]? = some y → x < y)) (fun s3 _ => L.length + 1 - (intOf s3).toNat)
  case atStart => exact ⟨0, rfl, .inl rfl, Below.refl _ _, fun i x y hi => absurd hi (by omega)⟩
  case round =>
    obtain ⟨j, rfl, hj, hb, HG⟩ := hrel
    by_cases hl : j + 1 < L.length
    · obtain ⟨b, o, rfl, hlt, hr⟩ := HC.out (by omega)
      have q1 : ((j : Int) + 1 < (L.length : Int)) = True := eq_true (by omega)
      have q1d : decide ((j : Int) + 1 < (L.length : Int)) = true := decide_eq_true (by omega)
      have q2 : IntKind.i64.wrap ((j : Int) + 1 + 1) = (j : Int) + 1 + 1 := IntWalk.i64_in _ (by have := HM.out; omega)
      have q3 : (0 : Int) ≤ (j : Int) + 1 := by omega
      have q4 : (j : Int) < (L.length : Int) := by omega
      have q5 : ((j : Int) + 1).toNat = j + 1 := by omega
      have q6 : IntKind.i64.wrap (j : Int) = (j : Int) := IntWalk.i64_in _ (by have := HM.out; omega)
      obtain ⟨x, hx⟩ : ∃ x, L[j]? = some x := ⟨_, List.getElem?_eq_getElem (by omega)⟩
      obtain ⟨y, hy⟩ : ∃ y, L[j + 1]? = some y := ⟨_, List.getElem?_eq_getElem hl⟩
      have c0 : wr.cell? ⟨b, o + j, none⟩ = some (.int .i64 x) := (hb.cell (p := ⟨b, o + j, none⟩) hlt).trans (hr j x hx)
      have c1 : wr.cell? ⟨b, o + (j + 1), none⟩ = some (.int .i64 y) := (hb.cell (p := ⟨b, o + (j + 1), none⟩) hlt).trans (hr (j + 1) y hy)
      have HL := Lib.hid (And.intro hl (And.intro hx hy))
      have HB := Lib.hid hb
      clear hl hj hx hy hb hr
      by_cases hxy : x < y
      · have qq : decide (x ≥ y) = false := decide_eq_false (by omega)
        have qq2 : (y ≤ x) = False := eq_false (by omega)
        have HX := Lib.hid hxy
        clear hxy
        go_wp2
        go_quiet (fail)
        go_wp2
        go_roundw
        case measure => have := HL.out.1; simp [intOf]; omega
        case rel => exact ⟨j + 1, by simp, .inr HL.out.1, HB.out.on (below_drewN _ _), fun i u z hi hu hz => by
          by_cases c : i = j
          · subst c
            rw [HL.out.2.1] at hu
            rw [HL.out.2.2] at hz
            rw [← Option.some.inj hu, ← Option.some.inj hz]
            exact HX.out
          · exact HG.out i u z (by omega) hu hz⟩
      · have qq : decide (x ≥ y) = true := decide_eq_true (by omega)
        have qq2 : (y ≤ x) = True := eq_true (by omega)
        have HX := Lib.hid hxy
        clear hxy
        go_wp2
        go_quiet (fail)
        go_wp2
        go_returns
        exact ⟨by rw [risesB_no fun hr => absurd (hr j x y HL.out.2.1 HL.out.2.2) (by have := HX.out; omega)]; rfl, HB.out.on (below_drewN _ _)⟩
    · have q1 : ((j : Int) + 1 < (L.length : Int)) = False := eq_false (by omega)
      have q1d : decide ((j : Int) + 1 < (L.length : Int)) = false := decide_eq_false (by omega)
      have HL := Lib.hid hl
      have HB := Lib.hid hb
      clear hl hj hb
      go_wp2
      go_returns
      exact ⟨by rw [risesB_yes fun i x y hx hy => HG.out i x y (by have := (List.getElem?_eq_some_iff.1 hy).1; have := HL.out; omega) hx hy]; rfl, HB.out⟩
end Go.Proofs.Ytpooekmogfkkjaa
