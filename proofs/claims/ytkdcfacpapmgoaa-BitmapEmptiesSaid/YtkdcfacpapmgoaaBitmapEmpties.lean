/- Empty makes the set of no number, with room for every count of them up to 100000, as the law says, and the chapter's examples hold. Conditions: none. -/
import Derived.Test.YtkdcfacpapmgoaaMapF
import Derived.Test.YtkdcfacpapmgoaaLaw
import Derived.BigQuiet
import Derived.Deep.QuietTactic
import Derived.Lib.QuietBelow
import Derived.Deep.DeepCutAuto
import Derived.Deep.CutBlock
namespace Go.Proofs.Ytkdcfacpapmgoaa.bitmapEmpties
open Go.ChangeShapes Go.WideShapes Go.ChangeAt Go.RowKit Go.PlainAid
open Go.ChangeMaps (open_string)
open Go.Sort (grow)

theorem own : ownKnob Try.prog.godebug = none := by kernel_rfl
theorem laidOut : laidOutB Try.prog = true := by kernel_rfl
theorem room_zero (n i : Int) (h0 : 0 ≤ i) (h1 : i < n) : roomB (zeroS (emptyZ n)) i = true := by
  refine room_in h0 ?_
  rw [zero_size]
  unfold emptyZ
  split <;> omega
set_option maxRecDepth 100000 in
set_option maxHeartbeats 400000 in
theorem walk (w : World) (a0 : Int) (w0 : (Lit.int .i64 a0).wf = true) (a1 : Int) (w1 : (Lit.int .i64 a1).wf = true) :
    Calls Try.prog 4 #[.int .i64 a0, .int .i64 a1] w fun e w' => e = .returned (.bool true) ∧ Below w.heap.size w w' := by
  obtain ⟨b0, c0⟩ := bounds_i64 w0
  obtain ⟨b1, c1⟩ := bounds_i64 w1
  by_cases hn : a0 ≤ 100000
  · have z1 : (zeroS (emptyZ a0)).size ≤ 140737488351232 := by rw [zero_size]; unfold emptyZ; split <;> omega
    have HZ := Lib.hid z1
    have HC := Lib.hid (cnt_zero (emptyZ a0) (zeroS (emptyZ a0)).size)
    have HH := Lib.hid (has_zero (emptyZ a0) a1)
    have HR := Lib.hid (room_zero a0 a1)
    clear z1
    go_enter Try.func4, Try.ntmps4
    go_wp2_with fail
    refine (empty_any a0 _ b0 hn).mono ?_
    rintro e w1 ⟨rfl, hb1⟩
    go_wp2_with fail
    refine (with_any _ a1 true _ HZ.out b1 c1).mono ?_
    rintro e w2 ⟨rfl, hb2⟩
    go_wp2_with fail
    refine (rempty_any a0 _ b0 hn).mono ?_
    rintro e w3 ⟨rfl, hb3⟩
    go_wp2_with fail
    refine (count_any _ _ HZ.out).mono ?_
    rintro e _ ⟨rfl, rfl⟩
    rw [HC.out]
    go_wp2_with fail
    refine (has_any _ a1 _ HZ.out b1 c1).mono ?_
    rintro e w4 ⟨rfl, hb4⟩
    rw [HH.out]
    by_cases k1 : a1 < 0
    · go_wp2_with fail
      refine (awake_any _).mono ?_
      rintro e w5 ⟨rfl, hb5⟩
      go_wp2
      go_returns
      exact ⟨rfl, hb1.on (hb2.on (hb3.on (hb4.below.on hb5)))⟩
    · by_cases k2 : a0 ≤ a1
      · go_wp2_with fail
        refine (awake_any _).mono ?_
        rintro e w5 ⟨rfl, hb5⟩
        go_wp2
        go_returns
        exact ⟨rfl, hb1.on (hb2.on (hb3.on (hb4.below.on hb5)))⟩
      · rw [HR.out (by omega) (by omega)]
        go_wp2_with fail
        refine (awake_any _).mono ?_
        rintro e w5 ⟨rfl, hb5⟩
        go_wp2
        go_returns
        exact ⟨rfl, hb1.on (hb2.on (hb3.on (hb4.below.on hb5)))⟩
  · go_enter Try.func4, Try.ntmps4
    go_wp2_with fail
    refine (awake_any _).mono ?_
    rintro e w1 ⟨rfl, hb1⟩
    go_wp2
    go_returns
    exact ⟨rfl, hb1⟩

set_option maxRecDepth 100000 in
theorem lifted (os : Os) (started : os.Started) (H : Type) (enc : TypeId × Value → H) :
    ReturnsInHanded {} Try.checked os 4 .any (Rows.bitmapEmptiesSpec.pre6 enc Try.prog Try.f4 Rows.bitmapEmptiesRow.domain false) (Rows.bitmapEmptiesSpec.post enc Try.prog Try.f4 false true false false) := by
  refine law_lift (C := Try.checked) own started (by kernel_rfl) Try.func4 laidOut (by kernel_rfl) rfl Try.underlying4 rfl
    (fun ds h => match ds, h with | [_, _], _ => rfl)
    (ChangeSpec.witness6 (enc := enc) (C := Try.checked) false ⟨#[], #[.int .i64 0, .int .i64 0], []⟩ 8 (by kernel_rfl) (by kernel_rfl) (by kernel_rfl) (by kernel_rfl)) ?_
  intro W base args ds ps hval hA hsz
  rw [Try.params4] at hA hval hsz
  obtain ⟨v0, vs0, d0, ds0, p0, q0, hargs, rfl, rfl, h0, r0⟩ := trodAll_cons hA
  obtain ⟨v1, vs1, d1, ds1, p1, q1, rfl, rfl, rfl, h1, r1⟩ := trodAll_cons r0
  obtain ⟨rfl, rfl, rfl⟩ := trodAll_nil r1
  obtain rfl : args = #[v0, v1] := by cases args; simp_all
  obtain ⟨a0, rfl, rfl, rfl, w0⟩ := open_int Try.underlying3 (hval 0 3 v0 rfl rfl) h0
  obtain ⟨a1, rfl, rfl, rfl, w1⟩ := open_int Try.underlying3 (hval 1 3 v1 rfl rfl) h1
  exact walk W a0 w0 a1 w1

theorem over : Rows.bitmapEmptiesRow.holds Try.pinned (OpenSpec.ofChange Rows.bitmapEmptiesSpec) :=
  OpenClaim.holds_of_wide 4 Try.f4 rfl rfl rfl rfl rfl rfl rfl ⟨rfl, rfl, rfl, rfl, rfl⟩ rfl rfl rfl rfl rfl (by kernel_rfl) Try.func4 (by kernel_rfl)
    (of_decide_eq_true (by kernel_rfl)) (by unfold Func.isWrapper; first | (rw [if_pos (by decide +kernel)]; kernel_rfl) | (rw [if_neg (by decide +kernel)]; exact ⟨rfl, rfl⟩))
    (fun os started H enc _ => lifted os started H enc)

theorem proved : Rows.BitmapEmptiesSaid :=
  over
end Go.Proofs.Ytkdcfacpapmgoaa.bitmapEmpties
