/- Contracts of package bitmap, and of its reference: Lowest; the chapter's examples. -/
import Derived.Test.YtkdcfacpapmgoaaMapE
namespace Go.Proofs.Ytkdcfacpapmgoaa
set_option maxRecDepth 100000
open Go.ChangeShapes Go.WideShapes Go.ChangeAt Go.RowKit Go.PlainAid

theorem Drawn.below {B : Nat} {w w' : World} (h : Drawn w w') : Below B w w' := by
  obtain ⟨n, rfl⟩ := h
  exact ⟨rfl, rfl, rfl, Nat.le_refl _, fun _ _ => rfl⟩
/-- A number that Lowest looks for. -/
def LowP (s : ByteArray) (f t : Int) (l : Int) : Prop := f ≤ l ∧ 0 ≤ l ∧ l < t ∧ l / 8 < s.size ∧ hasB s l = false
def Least (s : ByteArray) (f t : Int) (v : Int) : Prop := LowP s f t v ∧ ∀ l, l < v → ¬ LowP s f t l
open Classical in
/-- The least one. -/
noncomputable def lowZ (s : ByteArray) (f t : Int) : Int := if h : ∃ v, Least s f t v then Classical.choose h else 0
open Classical in
/-- Is there one? -/
noncomputable def lowB (s : ByteArray) (f t : Int) : Bool := if ∃ v, Least s f t v then true else false
theorem low_yes {s : ByteArray} {f t v : Int} (h : LowP s f t v) (h2 : ∀ l, l < v → ¬ LowP s f t l) : lowZ s f t = v ∧ lowB s f t = true := by
  have he : ∃ v, Least s f t v := ⟨v, h, h2⟩
  unfold lowZ lowB
  rw [dif_pos he, if_pos he]
  have hc := Classical.choose_spec he
  refine ⟨?_, rfl⟩
  rcases Int.lt_trichotomy (Classical.choose he) v with hx | hx | hx
  · exact absurd hc.1 (h2 _ hx)
  · exact hx
  · exact absurd h (hc.2 _ hx)
theorem low_no {s : ByteArray} {f t : Int} (h : ∀ l, ¬ LowP s f t l) : lowZ s f t = 0 ∧ lowB s f t = false := by
  have he : ¬ ∃ v, Least s f t v := fun ⟨v, hv, _⟩ => h v hv
  unfold lowZ lowB
  rw [dif_neg he, if_neg he]
  exact ⟨rfl, rfl⟩

set_option maxHeartbeats 1000000 in
theorem lowest_any (s : ByteArray) (f t : Int) (w : World) (hs : s.size ≤ 140737488351232) (b : -9223372036854775808 ≤ f) (c : f ≤ 9223372036854775807) (_b2 : -9223372036854775808 ≤ t) (_c2 : t ≤ 9223372036854775807) :
    Calls Try.prog 16 #[.string s, .int .i64 f, .int .i64 t] w fun e w' => e = .returned (.tuple #[.int .i64 (lowZ s f t), .bool (lowB s f t)]) ∧ Below w.heap.size w w' := by
  obtain ⟨E, hE, hE1, hE2⟩ : ∃ E : Int, min t ((s.size : Int) * 8) = E ∧ E ≤ t ∧ E ≤ (s.size : Int) * 8 := ⟨_, rfl, Int.min_le_left _ _, Int.min_le_right _ _⟩
  obtain ⟨S, hS⟩ : ∃ S : Int, max f 0 = S := ⟨_, rfl⟩
  go_enter Try.func16, Try.ntmps16
  go_wp2
  have HE := Lib.hid (show ∀ l : Int, 0 ≤ l → (l < E ↔ (l < t ∧ l / 8 < s.size)) from fun l hl => by rw [← hE]; omega)
  have HS := Lib.hid (show f ≤ S ∧ 0 ≤ S ∧ (S = f ∨ S = 0) by rw [← hS]; omega)
  have HN := Lib.hid (show (∀ l, ¬ LowP s f t l) → lowZ s f t = 0 ∧ lowB s f t = false from low_no)
  have HY := Lib.hid (show ∀ v, LowP s f t v → (∀ l, l < v → ¬ LowP s f t l) → lowZ s f t = v ∧ lowB s f t = true from fun v => low_yes)
  clear hE hS
  go_loopw [9] (fun x wx => ∃ i : Int, S ≤ i ∧ x = .int .i64 i ∧ (∀ l, l < i → ¬ LowP s f t l) ∧ Below w.heap.size w wx) (fun x _ => (E - intOf x).toNat)
  case atStart =>
    refine ⟨S, Int.le_refl _, rfl, fun l hl h => ?_, Below.refl _ _⟩
    have h1 := h.1
    have h2 := h.2.1
    have := HS.out
    omega
  case round =>
    obtain ⟨i, hi, rfl, hno, hbx⟩ := hrel
    have HNO := Lib.hid hno
    clear hno
    have h0 : 0 ≤ i := by have := HS.out; omega
    by_cases hlt : i < E
    · have HA := Lib.hid fun w => has_any s i w hs (by omega) (by omega)
      go_wp2_with fail
      refine (HA.out _).mono ?_
      rintro e w1 ⟨rfl, hd⟩
      cases hh : hasB s i
      · go_wp2
        go_returns
        have hy := HY.out i ⟨by have := HS.out; omega, h0, ((HE.out i h0).1 hlt).1, ((HE.out i h0).1 hlt).2, hh⟩ HNO.out
        exact ⟨by rw [hy.1, hy.2]; rfl, hbx.on hd.below⟩
      · go_wp2
        go_roundw
        case rel =>
          refine ⟨i + 1, by omega, rfl, fun l hl h => ?_, hbx.on hd.below⟩
          by_cases e : l = i
          · subst e
            have := h.2.2.2.2
            rw [hh] at this
            cases this
          · exact HNO.out l (by omega) h
        case measure => simp [intOf]; omega
    · go_wp2
      go_returns
      have hn := HN.out fun l h => by
        by_cases e : l < i
        · exact HNO.out l e h
        · have := (HE.out l h.2.1).2 ⟨h.2.2.1, h.2.2.2.1⟩
          omega
      exact ⟨by rw [hn.1, hn.2]; rfl, hbx⟩
set_option maxHeartbeats 1000000 in
theorem rlowest_any (s : ByteArray) (f t : Int) (w : World) (hs : s.size ≤ 140737488351232) (_b : -9223372036854775808 ≤ f) (_c : f ≤ 9223372036854775807) (_b2 : -9223372036854775808 ≤ t) (_c2 : t ≤ 9223372036854775807) :
    Calls Try.prog 17 #[.string s, .int .i64 f, .int .i64 t] w fun e w' => e = .returned (.tuple #[.int .i64 (lowZ s f t), .bool (lowB s f t)]) ∧ w = w' := by
  have HN := Lib.hid (show (∀ l, ¬ LowP s f t l) → lowZ s f t = 0 ∧ lowB s f t = false from low_no)
  have HY := Lib.hid (show ∀ v, LowP s f t v → (∀ l, l < v → ¬ LowP s f t l) → lowZ s f t = v ∧ lowB s f t = true from fun v => low_yes)
  go_enter Try.func17, Try.ntmps17
  go_wp2
  go_loop [8] (fun x => ∃ k : Nat, k ≤ 8 * s.size ∧ x = .int .i64 k ∧ (∀ l, l < (k : Int) → ¬ LowP s f t l)) (fun x => 8 * s.size - (intOf x).toNat)
  case atStart =>
    refine ⟨0, Nat.zero_le _, rfl, fun l hl h => ?_⟩
    have h2 := h.2.1
    omega
  case round =>
    obtain ⟨k, hk, rfl, hno⟩ := hrel
    have HNO := Lib.hid hno
    clear hno
    by_cases hlt : k < 8 * s.size
    · have HA := Lib.hid fun w => rhas_any s k w hs (by omega) (by omega)
      by_cases h1 : f ≤ (k : Int)
      · by_cases h2 : (k : Int) < t
        · cases hh : hasB s k
          all_goals
            have HH := Lib.hid hh
            clear hh
            go_wp2_with fail
            refine (HA.out _).mono ?_
            rintro e _ ⟨rfl, rfl⟩
            rw [HH.out]
            go_wp2
          · go_returns
            have hy := HY.out k ⟨h1, by omega, h2, by omega, HH.out⟩ HNO.out
            exact ⟨by rw [hy.1, hy.2]; rfl, rfl⟩
          · go_round
            case rel =>
              refine ⟨k + 1, by omega, by go_num, fun l hl h => ?_⟩
              by_cases e : l = k
              · subst e
                have := h.2.2.2.2
                rw [HH.out] at this
                cases this
              · exact HNO.out l (by omega) h
            case measure => simp [intOf]; omega
        · go_wp2
          go_round
          case rel =>
            refine ⟨k + 1, by omega, by go_num, fun l hl h => ?_⟩
            have h3 := h.2.2.1
            exact HNO.out l (by omega) h
          case measure => simp [intOf]; omega
      · go_wp2
        go_round
        case rel =>
          refine ⟨k + 1, by omega, by go_num, fun l hl h => ?_⟩
          have h3 := h.1
          exact HNO.out l (by omega) h
        case measure => simp [intOf]; omega
    · go_wp2
      go_returns
      have hn := HN.out fun l h => by
        by_cases e : l < k
        · exact HNO.out l e h
        · have := h.2.2.2.1
          omega
      exact ⟨by rw [hn.1, hn.2]; rfl, rfl⟩

theorem ex_empty : zeroS (emptyZ 9) = ⟨#[0, 0]⟩ := by kernel_rfl
theorem ex_with : withS ⟨#[0, 0]⟩ 3 true = ⟨#[8, 0]⟩ := by kernel_rfl
theorem ex_room : roomB ⟨#[0, 0]⟩ 3 = true := by kernel_rfl
theorem ex_low : lowZ ⟨#[8, 0]⟩ 3 9 = 4 ∧ lowB ⟨#[8, 0]⟩ 3 9 = true := by
  have h3 : hasB ⟨#[8, 0]⟩ 3 = true := by kernel_rfl
  have h4 : hasB ⟨#[8, 0]⟩ 4 = false := by kernel_rfl
  refine low_yes ⟨by omega, by omega, by omega, ?_, h4⟩ fun l hl h => ?_
  · show (4 : Int) / 8 < ((2 : Nat) : Int)
    omega
  · have h1 := h.1
    obtain rfl : l = 3 := by omega
    have := h.2.2.2.2
    rw [h3] at this
    cases this
theorem ex_cnt : cnt ⟨#[8, 0]⟩ (⟨#[8, 0]⟩ : ByteArray).size = 1 := by kernel_rfl
set_option maxHeartbeats 400000 in
theorem awake_any (w : World) : Calls Try.prog 12 #[] w fun e w' => e = .returned (.bool true) ∧ Below w.heap.size w w' := by
  have H1 := Lib.hid fun w => ex_empty ▸ empty_any 9 w (by omega) (by omega)
  have H2 := Lib.hid fun w => ex_with ▸ ex_room ▸ with_any ⟨#[0, 0]⟩ 3 true w (by decide) (by omega) (by omega)
  have H3 := Lib.hid fun w => ex_low.1 ▸ ex_low.2 ▸ lowest_any ⟨#[8, 0]⟩ 3 9 w (by decide) (by omega) (by omega) (by omega) (by omega)
  have H4 := Lib.hid fun w => ex_cnt ▸ count_any ⟨#[8, 0]⟩ w (by decide)
  go_enter Try.func12, Try.ntmps12
  go_wp2_with fail
  refine (H1.out _).mono ?_
  rintro e w1 ⟨rfl, hb1⟩
  go_wp2_with fail
  refine (H2.out _).mono ?_
  rintro e w2 ⟨rfl, hb2⟩
  go_wp2_with fail
  refine (H3.out _).mono ?_
  rintro e w3 ⟨rfl, hb3⟩
  go_wp2_with fail
  refine (H1.out _).mono ?_
  rintro e w4 ⟨rfl, hb4⟩
  go_wp2_with fail
  refine (H4.out _).mono ?_
  rintro e _ ⟨rfl, rfl⟩
  go_wp2
  go_returns
  exact ⟨rfl, hb1.on (hb2.on (hb3.on hb4))⟩
end Go.Proofs.Ytkdcfacpapmgoaa
