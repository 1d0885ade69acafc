/- A set with a number, or without it, has all others as they were, and is what it was, if that is taken back, and the chapter's examples hold. Conditions: none. -/
import Derived.Test.YtkdcfacpapmgoaaMapF
import Derived.Test.YtkdcfacpapmgoaaLaw
import Derived.BigQuiet
import Derived.Deep.QuietTactic
import Derived.Lib.QuietBelow
import Derived.Deep.DeepCutAuto
import Derived.Deep.CutBlock
namespace Go.Proofs.Ytkdcfacpapmgoaa.bitmapOthers
open Go.ChangeShapes Go.WideShapes Go.ChangeAt Go.RowKit Go.PlainAid
open Go.ChangeMaps (open_string)
open Go.Sort (grow)

theorem own : ownKnob Try.prog.godebug = none := by kernel_rfl
theorem laidOut : laidOutB Try.prog = true := by kernel_rfl

set_option maxRecDepth 100000 in
set_option maxHeartbeats 400000 in
theorem walk (w : World) (a0 : ByteArray) (s0 : a0.size ≤ 140737488351232) (a1 : Int) (w1 : (Lit.int .i64 a1).wf = true) (a2 : Int) (w2 : (Lit.int .i64 a2).wf = true) (a3 : Bool) :
    Calls Try.prog 7 #[.string a0, .int .i64 a1, .int .i64 a2, .bool a3] w fun e w' => e = .returned (.bool true) ∧ Below w.heap.size w w' := by
  have u0 := s0
  clear u0
  obtain ⟨b1, c1⟩ := bounds_i64 w1
  obtain ⟨b2, c2⟩ := bounds_i64 w2
  cases hr : roomB a0 a1
  · have HR := Lib.hid hr
    have HW := Lib.hid (with_no a3 hr)
    clear hr
    go_enter Try.func7, Try.ntmps7
    go_wp2_with fail
    refine (with_any a0 a1 a3 _ s0 b1 c1).mono ?_
    rintro e w1 ⟨rfl, hb1⟩
    rw [HW.out, HR.out]
    go_wp2_with fail
    refine (awake_any _).mono ?_
    rintro e w2 ⟨rfl, hb2⟩
    go_wp2
    go_returns
    exact ⟨rfl, hb1.on hb2⟩
  · have z1 : (withS a0 a1 a3).size ≤ 140737488351232 := by rw [with_size]; exact s0
    have HZ := Lib.hid z1
    have H1 := Lib.hid ((has_with a0 a1 a1 a3 hr).trans (if_pos rfl))
    have H2 := Lib.hid (has_with a0 a1 a2 a3 hr)
    have HB := Lib.hid (with_back a0 a1 a3 hr)
    have HR2 := Lib.hid ((room_with a0 a1 a1 a3).trans hr)
    have HR := Lib.hid hr
    clear hr z1
    go_enter Try.func7, Try.ntmps7
    go_wp2_with fail
    refine (with_any a0 a1 a3 _ s0 b1 c1).mono ?_
    rintro e w1 ⟨rfl, hb1⟩
    rw [HR.out]
    go_wp2_with fail
    refine (has_any a0 a1 _ s0 b1 c1).mono ?_
    rintro e w2 ⟨rfl, hb2⟩
    go_wp2_with fail
    refine (with_any _ a1 (hasB a0 a1) _ HZ.out b1 c1).mono ?_
    rintro e w3 ⟨rfl, hb3⟩
    rw [HR2.out, HB.out]
    go_wp2_with fail
    refine (has_any _ a1 _ HZ.out b1 c1).mono ?_
    rintro e w4 ⟨rfl, hb4⟩
    rw [H1.out]
    by_cases hk : a1 = a2
    · subst hk
      go_wp2_with fail
      refine (awake_any _).mono ?_
      rintro e w5 ⟨rfl, hb5⟩
      go_wp2
      go_returns
      exact ⟨rfl, hb1.on (hb2.below.on (hb3.on (hb4.below.on hb5)))⟩
    · have hk2 : (a1 == a2) = false := beq_eq_false_iff_ne.2 hk
      have H3 : Hid (hasB (withS a0 a1 a3) a2 = hasB a0 a2) := Lib.hid (by rw [H2.out, if_neg (fun h => hk h.symm)])
      clear hk
      go_wp2_with fail
      refine (has_any _ a2 _ HZ.out b2 c2).mono ?_
      rintro e w5 ⟨rfl, hb5⟩
      rw [H3.out]
      go_wp2_with fail
      refine (has_any a0 a2 _ s0 b2 c2).mono ?_
      rintro e w6 ⟨rfl, hb6⟩
      go_wp2_with fail
      refine (awake_any _).mono ?_
      rintro e w7 ⟨rfl, hb7⟩
      go_wp2
      go_returns
      exact ⟨rfl, hb1.on (hb2.below.on (hb3.on (hb4.below.on (hb5.below.on (hb6.below.on hb7)))))⟩

set_option maxRecDepth 100000 in
theorem lifted (os : Os) (started : os.Started) (H : Type) (enc : TypeId × Value → H) :
    ReturnsInHanded {} Try.checked os 7 .any (Rows.bitmapOthersSpec.pre6 enc Try.prog Try.f7 Rows.bitmapOthersRow.domain false) (Rows.bitmapOthersSpec.post enc Try.prog Try.f7 false true false false) := by
  refine law_lift (C := Try.checked) own started (by kernel_rfl) Try.func7 laidOut (by kernel_rfl) rfl Try.underlying4 rfl
    (fun ds h => match ds, h with | [_, _, _, _], _ => rfl)
    (ChangeSpec.witness6 (enc := enc) (C := Try.checked) false ⟨#[], #[.string ByteArray.empty, .int .i64 0, .int .i64 0, .bool false], []⟩ 8 (by kernel_rfl) (by kernel_rfl) (by kernel_rfl) (by kernel_rfl)) ?_
  intro W base args ds ps hval hA hsz
  rw [Try.params7] at hA hval hsz
  obtain ⟨v0, vs0, d0, ds0, p0, q0, hargs, rfl, rfl, h0, r0⟩ := trodAll_cons hA
  obtain ⟨v1, vs1, d1, ds1, p1, q1, rfl, rfl, rfl, h1, r1⟩ := trodAll_cons r0
  obtain ⟨v2, vs2, d2, ds2, p2, q2, rfl, rfl, rfl, h2, r2⟩ := trodAll_cons r1
  obtain ⟨v3, vs3, d3, ds3, p3, q3, rfl, rfl, rfl, h3, r3⟩ := trodAll_cons r2
  obtain ⟨rfl, rfl, rfl⟩ := trodAll_nil r3
  obtain rfl : args = #[v0, v1, v2, v3] := by cases args; simp_all
  obtain ⟨a0, rfl, rfl, rfl, _⟩ := open_string Try.underlying9 (hval 0 9 v0 rfl rfl) h0
  have s0 : a0.size ≤ 140737488351232 := by
    have := sized_string hsz (j := 0) rfl rfl
    simpa [reachBytes] using this
  obtain ⟨a1, rfl, rfl, rfl, w1⟩ := open_int Try.underlying3 (hval 1 3 v1 rfl rfl) h1
  obtain ⟨a2, rfl, rfl, rfl, w2⟩ := open_int Try.underlying3 (hval 2 3 v2 rfl rfl) h2
  obtain ⟨a3, rfl, rfl, rfl⟩ := open_bool Try.underlying4 (hval 3 4 v3 rfl rfl) h3
  exact walk W a0 s0 a1 w1 a2 w2 a3

theorem over : Rows.bitmapOthersRow.holds Try.pinned (OpenSpec.ofChange Rows.bitmapOthersSpec) :=
  OpenClaim.holds_of_wide 7 Try.f7 rfl rfl rfl rfl rfl rfl rfl ⟨rfl, rfl, rfl, rfl, rfl⟩ rfl rfl rfl rfl rfl (by kernel_rfl) Try.func7 (by kernel_rfl)
    (of_decide_eq_true (by kernel_rfl)) (by unfold Func.isWrapper; first | (rw [if_pos (by decide +kernel)]; kernel_rfl) | (rw [if_neg (by decide +kernel)]; exact ⟨rfl, rfl⟩))
    (fun os started H enc _ => lifted os started H enc)

theorem proved : Rows.BitmapOthersSaid :=
  over
end Go.Proofs.Ytkdcfacpapmgoaa.bitmapOthers
