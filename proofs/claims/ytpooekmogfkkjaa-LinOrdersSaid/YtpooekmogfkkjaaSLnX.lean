/- The document's helpers: States, Same. -/
import Derived.Test.YtpooekmogfkkjaaSLnW
import Derived.Test.YtpooekmogfkkjaaSMoI
namespace Go.Proofs.Ytpooekmogfkkjaa
set_option maxRecDepth 100000
open Go.ChangeShapes Go.WideShapes Go.ChangeAt Go.RowKit Go.PlainAid Go.Deep
namespace Ln
set_option maxHeartbeats 4000000 in
theorem states_any {va vb : Value} {a b : List (List Int)} {w : World} (ha : Sts w va a) (hb : Sts w vb b) (hla : a.length ≤ 1000000000) : Calls Try.prog 14 #[va, vb] w fun e w' => e = .returned (.bool (decide (a = b))) ∧ Below w.heap.size w w' := by
  obtain ⟨aa, ca, rfl⟩ := ha.len
  obtain ⟨ab, cb, rfl⟩ := hb.len
  by_cases hl : a.length = b.length
  case neg =>
    have q : ((a.length : Int) != (b.length : Int)) = true := bne_iff_ne.2 (by omega)
    have HD := Lib.hid (show decide (a = b) = false from decide_eq_false fun e => hl (by rw [e]))
    clear ha hb hl
    go_enter Try.func14, Try.ntmps14
    go_wp2_with fail
    go_returns
    exact ⟨by rw [HD.out]; rfl, Below.refl _ _⟩
  have q : ((a.length : Int) != (b.length : Int)) = false := by rw [hl]; simp
  have HA := Lib.hid ha
  have HB := Lib.hid hb
  have HL := Lib.hid hl
  have HI0 := Lib.hid (show (∀ k, k < 0 → a[k]? = b[k]?) ∧ Below w.heap.size w w from ⟨fun k h => by omega, Below.refl _ _⟩)
  clear ha hb hl
  go_enter Try.func14, Try.ntmps14
  go_wp2_with fail
  go_loopw [5] (fun s5 wr => ∃ i : Nat, s5 = .int .i64 i ∧ i ≤ a.length ∧ Hid ((∀ k, k < i → a[k]? = b[k]?) ∧ Below w.heap.size w wr)) (fun s5 _ => a.length - (intOf s5).toNat)
  case atStart => exact ⟨0, rfl, Nat.zero_le _, HI0⟩
  case round =>
    clear HI0
    obtain ⟨i, rfl, hi, HI⟩ := hrel
    rename World => wq
    by_cases hil : i < a.length
    · have q1 : (i : Int) < (a.length : Int) := by omega
      have q1b : (i : Int) < (b.length : Int) := by have := HL.out; omega
      have q2 : IntKind.i64.wrap ((i : Int) + 1) = (i : Int) + 1 := IntWalk.i64_in _ (by omega)
      have q3 : (0 : Int) ≤ i := by omega
      obtain ⟨x, hx⟩ : ∃ x, a[i]? = some x := ⟨_, List.getElem?_eq_getElem hil⟩
      obtain ⟨y, hy⟩ : ∃ y, b[i]? = some y := ⟨_, List.getElem?_eq_getElem (by have := HL.out; omega)⟩
      have hb2 := HI.out.2.on (Below.refl wq.heap.size wq).drew
      obtain ⟨b1, p1, c1, u1, hv1, _, hc1, hu1⟩ := (HA.out.on hb2).at hx
      obtain ⟨b2, p2, c2, u2, hv2, _, hc2, hu2⟩ := (HB.out.on hb2).at hy
      obtain rfl : aa = some ⟨b1, p1, none⟩ := by cases hv1; rfl
      obtain rfl : ab = some ⟨b2, p2, none⟩ := by cases hv2; rfl
      obtain ⟨au1, cu1, rfl, _⟩ := hu1.parts
      obtain ⟨au2, cu2, rfl, _⟩ := hu2.parts
      have HU := Lib.hid (And.intro hu1 hu2)
      have HX := Lib.hid (And.intro hx hy)
      have HB2 := Lib.hid hb2
      clear hv1 hv2 hu1 hu2 hx hy hb2
      have HS := Lib.hid (show ∀ W, Below wq.drew.heap.size wq.drew W → W.cell? ⟨b1, p1 + i, none⟩ = some (.slice au1 x.length cu1) ∧ W.cell? ⟨b2, p2 + i, none⟩ = some (.slice au2 y.length cu2) from fun W hb => by
        refine ⟨?_, ?_⟩
        · exact (hb.cell (p := ⟨b1, p1 + i, none⟩) (World.block_lt_of_cell? _ _ hc1)).trans hc1
        · exact (hb.cell (p := ⟨b2, p2 + i, none⟩) (World.block_lt_of_cell? _ _ hc2)).trans hc2)
      by_cases hxy : x = y
      · have HE := Lib.hid (show (x == y) = true by rw [hxy]; simp)
        have HXY := Lib.hid hxy
        clear hxy
        go_wp2_with fail
        go_region_held3 (fun w' => w'.cell? ⟨b1, p1 + i, none⟩ = some (.slice au1 x.length cu1) ∧ w'.cell? ⟨b2, p2 + i, none⟩ = some (.slice au2 y.length cu2)) (go_keep) (first
          | (go_at_call 30; (with_reducible refine (rints_any _ _ x y _ HU.out.1 HU.out.2).mono ?_); rintro _ w3 ⟨rfl, hb3⟩; rw [HE.out]; obtain ⟨k0, k1⟩ := HS.out w3 hb3; have HB3 := Lib.hid hb3; clear hb3)
          | fail)
        have HN := Lib.hid (show (∀ k, k < i + 1 → a[k]? = b[k]?) ∧ Below w.heap.size w w3 from ⟨fun k hk => by
          by_cases c : k < i
          · exact HI.out.1 k c
          · obtain rfl : k = i := by omega
            rw [HX.out.1, HX.out.2, HXY.out], HB2.out.on HB3.out⟩)
        go_wp2_with fail
        go_roundw
        case measure => simp [intOf] <;> omega
        case rel => exact ⟨i + 1, by simp, by omega, HN⟩
      · have HE := Lib.hid (show (x == y) = false by simpa using hxy)
        have HD := Lib.hid (show decide (a = b) = false from decide_eq_false fun e => hxy (by
          have := HX.out.1
          rw [e, HX.out.2] at this
          exact (Option.some.inj this).symm))
        clear hxy
        go_wp2_with fail
        go_region_held3 (fun w' => w'.cell? ⟨b1, p1 + i, none⟩ = some (.slice au1 x.length cu1) ∧ w'.cell? ⟨b2, p2 + i, none⟩ = some (.slice au2 y.length cu2)) (go_keep) (first
          | (go_at_call 30; (with_reducible refine (rints_any _ _ x y _ HU.out.1 HU.out.2).mono ?_); rintro _ w3 ⟨rfl, hb3⟩; rw [HE.out]; obtain ⟨k0, k1⟩ := HS.out w3 hb3; have HB3 := Lib.hid hb3; clear hb3)
          | fail)
        go_wp2_with fail
        go_returns
        exact ⟨by rw [HD.out]; rfl, HB2.out.on HB3.out⟩
    · obtain rfl : i = a.length := by omega
      have q1 : ¬ ((a.length : Int) < (a.length : Int)) := by omega
      have HD := Lib.hid (show decide (a = b) = true from decide_eq_true (by
        apply List.ext_getElem?
        intro k
        by_cases c : k < a.length
        · exact HI.out.1 k c
        · rw [List.getElem?_eq_none (by omega), List.getElem?_eq_none (by have := HL.out; omega)]))
      go_wp2_with fail
      go_returns
      exact ⟨by rw [HD.out]; rfl, HI.out.2⟩
end Ln
end Go.Proofs.Ytpooekmogfkkjaa
