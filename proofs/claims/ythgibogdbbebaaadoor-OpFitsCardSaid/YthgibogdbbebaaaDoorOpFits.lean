/- Which kinds have which methods is told as the chapter's table says, and the chapter's examples hold: for every two numbers. Conditions: the package-level variable op.rules starts as the program's text lays it (tied). -/
import Derived.Test.YthgibogdbbebaaaDoorOpW
import Derived.Test.YthgibogdbbebaaaDoorOpG
import Derived.Test.YthgibogdbbebaaaDoorLaw
import Derived.Test.YthgibogdbbebaaaDoorLawL
import Derived.Test.YthgibogdbbebaaaDoorCards
import Derived.Test.YthgibogdbbebaaaDoorTie
import Derived.SevenTiedAt
import Derived.BigQuiet
import Derived.Deep.QuietTactic
import Derived.Lib.QuietBelow
import Derived.Deep.DeepCutAuto
import Derived.Deep.CutBlock
namespace Go.Proofs.YthgibogdbbebaaaDoor.opFits
open Go.ChangeShapes Go.WideShapes Go.ChangeAt Go.RowKit Go.PlainAid
open Go.ChangeMaps (open_string)
open Go.Sort (grow)

theorem own : ownKnob Tryd.prog.godebug = none := by kernel_rfl
theorem laidOut : laidOutB Tryd.prog = true := by kernel_rfl
attribute [local go_sem ↓ high] store_w
set_option maxRecDepth 100000 in
set_option maxHeartbeats 800000 in
theorem walk (w : World) (a0 : Int) (w0 : (Lit.int .i64 a0).wf = true) (a1 : Int) (w1 : (Lit.int .i64 a1).wf = true) (hL0 : RulesAt w) :
    Calls Tryd.prog 3 #[.int .i64 a0, .int .i64 a1] w fun e w' => e = .returned (.bool true) ∧ Below w.heap.size w w' := by
  obtain ⟨b0, c0⟩ := bounds_i64 w0
  obtain ⟨b1, c1⟩ := bounds_i64 w1
  cases hr : ruleOf a0 a1 with
  | none =>
    have HF := Lib.hid (show rfoundV (ruleOf a0 a1) = .tuple #[.agg #[.int .i64 0, .int .i64 0, .int .i64 0, .int .i64 0], .bool false] by rw [hr]; rfl)
    have HG := Lib.hid (show (ruleOf a0 a1).isSome = false by rw [hr]; rfl)
    clear hr
    go_enter Tryd.func3, Tryd.ntmps3
    go_wp2_with fail
    refine (rfind10_any a0 a1 _).mono ?_
    rintro _ w1 ⟨rfl, hb1⟩
    rw [HF.out]
    have hs := store_row_new w1 #[.int .i64 0, .int .i64 0, .int .i64 0, .int .i64 0] rfl 0 0 0 0
    have HB1 := Lib.hid (hb1.alloc hb1.size (.cells #[.int .i64 0, .int .i64 0, .int .i64 0, .int .i64 0] 23))
    clear hb1
    go_wp2_with fail
    refine (fits_any a0 a1 _ (hL0.on HB1.out)).mono ?_
    rintro _ w2 ⟨rfl, hb2⟩
    rw [HG.out]
    have HB2 := Lib.hid (HB1.out.on hb2)
    clear hb2
    go_wp2_with fail
    refine (awake10_any _ (hL0.on HB2.out)).mono ?_
    rintro _ w3 ⟨rfl, hb3⟩
    have HB3 := Lib.hid (HB2.out.on hb3)
    clear hb3
    go_wp2_with fail
    go_returns
    exact ⟨rfl, HB3.out⟩
  | some r =>
    have HF := Lib.hid (show rfoundV (ruleOf a0 a1) = .tuple #[.agg #[.int .i64 r.kind, .int .i64 r.meth, .int .i64 r.needs, .int .i64 r.how], .bool true] by rw [hr]; rfl)
    have HG := Lib.hid (show (ruleOf a0 a1).isSome = true by rw [hr]; rfl)
    clear hr
    go_enter Tryd.func3, Tryd.ntmps3
    go_wp2_with fail
    refine (rfind10_any a0 a1 _).mono ?_
    rintro _ w1 ⟨rfl, hb1⟩
    rw [HF.out]
    have hs := store_row_new w1 #[.int .i64 0, .int .i64 0, .int .i64 0, .int .i64 0] rfl r.kind r.meth r.needs r.how
    have HB1 := Lib.hid (hb1.alloc hb1.size (.cells #[.int .i64 r.kind, .int .i64 r.meth, .int .i64 r.needs, .int .i64 r.how] 23))
    clear hb1
    go_wp2_with fail
    refine (fits_any a0 a1 _ (hL0.on HB1.out)).mono ?_
    rintro _ w2 ⟨rfl, hb2⟩
    rw [HG.out]
    have HB2 := Lib.hid (HB1.out.on hb2)
    clear hb2
    go_wp2_with fail
    refine (awake10_any _ (hL0.on HB2.out)).mono ?_
    rintro _ w3 ⟨rfl, hb3⟩
    have HB3 := Lib.hid (HB2.out.on hb3)
    clear hb3
    go_wp2_with fail
    go_returns
    exact ⟨rfl, HB3.out⟩

set_option maxRecDepth 100000 in
theorem door_met (os : Os) (args : Array Value) : laidMetH Tryd.prog Rows.opFitsRow.laid ((World.doorLaid Tryd.prog 400 os).forCall (fun _ _ => 0) ⟨#[], args, []⟩).memory :=
  laidMetH_of_parts3 (fuel := 8) (laidMet_of_run' 8 (by kernel_rfl) (by kernel_rfl)) (by kernel_rfl) (by kernel_rfl)
set_option maxRecDepth 100000 in
theorem lifted (os : Os) (started : os.Started) (H : Type) (enc : TypeId × Value → H) :
    ReturnsInHanded {} Tryd.checked os 3 .any (fun w args => (Rows.opFitsSpec.pre enc Tryd.prog Tryd.f3 [] false w args ∧ laidMetH Tryd.prog Rows.opFitsRow.laid w) ∧ sizedMet enc Tryd.prog Tryd.f3 (OpenSpec.ofChange Rows.opFitsSpec) false w args) (Rows.opFitsSpec.post enc Tryd.prog Tryd.f3 false true false false) := by
  refine law_lift_laid (C := Tryd.checked) own started (by kernel_rfl) Tryd.func3 laidOut (by kernel_rfl) rfl Tryd.underlying4 rfl
    (fun ds h => match ds, h with | [_, _], _ => rfl)
    (ChangeSpec.witness_shaped (enc := enc) (C := Tryd.checked) (os := os) (X := fun w _ => laidMetH Tryd.prog Rows.opFitsRow.laid w) false (World.doorLaid Tryd.prog 400 os) #[.int .i64 0, .int .i64 0] 8 rfl (World.shaped_of_RefB (by kernel_rfl) (by kernel_rfl)) (by kernel_rfl) (by kernel_rfl) (by kernel_rfl) (door_met os _)) ?_
  intro W base args ds ps hval hA hsz hL
  rw [Tryd.params3] at hA hval hsz
  obtain ⟨v0, vs0, d0, ds0, p0, q0, hargs, rfl, rfl, h0, r0⟩ := trodAll_cons hA
  obtain ⟨v1, vs1, d1, ds1, p1, q1, rfl, rfl, rfl, h1, r1⟩ := trodAll_cons r0
  obtain ⟨rfl, rfl, rfl⟩ := trodAll_nil r1
  obtain rfl : args = #[v0, v1] := by cases args; simp_all
  obtain ⟨a0, rfl, rfl, rfl, w0⟩ := open_int Tryd.underlying3 (hval 0 3 v0 rfl rfl) h0
  obtain ⟨a1, rfl, rfl, rfl, w1⟩ := open_int Tryd.underlying3 (hval 1 3 v1 rfl rfl) h1
  exact walk W a0 w0 a1 w1 (rules_of_laid (by kernel_rfl) (by simp [Rows.opFitsRow]) hL)

theorem over : Rows.opFitsRow.holds Tryd.pinned (OpenSpec.ofChange Rows.opFitsSpec) :=
  OpenClaim.holds_of_wide 3 Tryd.f3 rfl rfl rfl rfl rfl rfl rfl ⟨rfl, rfl, rfl, rfl, rfl⟩ rfl rfl rfl rfl rfl (by kernel_rfl) Tryd.func3 (by kernel_rfl)
    (of_decide_eq_true (by kernel_rfl)) (by unfold Func.isWrapper; first | (rw [if_pos (by decide +kernel)]; kernel_rfl) | (rw [if_neg (by decide +kernel)]; exact ⟨rfl, rfl⟩))
    (fun os started H enc _ => lifted os started H enc)

theorem proved : Rows.OpFitsCardSaid :=
  Claim7.holds_tied_plain_at (c := Rows.opFitsRow) .later [] [.data] true _ _ over (fun _ h => by cases h) (by kernel_rfl) (fun _ h => by cases h) opFits_row_tie rfl ⟨rfl, rfl⟩ (by kernel_rfl) rfl
    (fun f fn hf hfn => by
      obtain rfl : f = 3 := Option.some.inj ((show Tryd.prog.funcNamed "annalist/annalistlaw10.OpFits" = some 3 by kernel_rfl).symm.trans hf) |>.symm
      obtain rfl : fn = Tryd.f3 := (Option.some.inj (Tryd.func3.symm.trans hfn)).symm
      exact ⟨by kernel_rfl, fun j t ht => by
        have hall : (Tryd.f3.params.toList.all fun u => !Tryd.prog.wantsStandIn u) = true := by kernel_rfl
        have hm : t ∈ Tryd.f3.params.toList := by simpa using Array.mem_of_getElem? ht
        exact (show Tryd.prog.wantsStandIn t = false by simpa using List.all_eq_true.1 hall t hm)⟩)
    (by kernel_rfl)
end Go.Proofs.YthgibogdbbebaaaDoor.opFits
