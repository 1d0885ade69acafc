/- Which operations may be, and what is wrong with the others, is told as the chapter says, and the chapter's examples hold: for every operation. Conditions: the package-level variable op.rules starts as the program's text lays it (tied). -/
import Derived.Test.YthgibogdbbebaaaDoorOpW
import Derived.Test.YthgibogdbbebaaaDoorOpG
import Derived.Test.YthgibogdbbebaaaDoorLaw
import Derived.Test.YthgibogdbbebaaaDoorLawL
import Derived.Test.YthgibogdbbebaaaDoorCards
import Derived.Test.YthgibogdbbebaaaDoorTie
import Derived.SevenTiedAt
import Derived.BigQuiet
import Derived.Deep.QuietTactic
import Derived.Lib.QuietBelow
import Derived.Deep.DeepCutAuto
import Derived.Deep.CutBlock
namespace Go.Proofs.YthgibogdbbebaaaDoor.opChecks
open Go.ChangeShapes Go.WideShapes Go.ChangeAt Go.RowKit Go.PlainAid
open Go.ChangeMaps (open_string)
open Go.Sort (grow)

theorem own : ownKnob Tryd.prog.godebug = none := by kernel_rfl
theorem laidOut : laidOutB Tryd.prog = true := by kernel_rfl
attribute [local go_sem ↓ high] load_op
set_option maxRecDepth 100000 in
set_option maxHeartbeats 1600000 in
theorem walk (w : World) (o0 : OpV) (w0 : o0.Wf) (hL0 : RulesAt w) :
    Calls Tryd.prog 4 #[Value.agg #[Value.int .i64 o0.id, Value.int .i64 o0.proc, Value.int .i64 o0.obj, Value.int .i64 o0.kind, Value.int .i64 o0.meth, Value.int .i64 o0.arg, Value.int .i64 o0.sec, Value.bool o0.done, Value.int .i64 o0.res, Value.int .i64 o0.inv, Value.int .i64 o0.ret]] w fun e w' => e = .returned (.bool true) ∧ Below w.heap.size w w' := by
  have u0 := w0
  clear u0
  have hb0 : Below w.heap.size w (w.alloc (.cells #[Value.int .i64 o0.id, Value.int .i64 o0.proc, Value.int .i64 o0.obj, Value.int .i64 o0.kind, Value.int .i64 o0.meth, Value.int .i64 o0.arg, Value.int .i64 o0.sec, Value.bool o0.done, Value.int .i64 o0.res, Value.int .i64 o0.inv, Value.int .i64 o0.ret] 29)) := by go_grown
  have oa := OpAt.box w o0
  have HB := Lib.hid hb0
  obtain ⟨W, hW⟩ : ∃ W, w.alloc (.cells #[Value.int .i64 o0.id, Value.int .i64 o0.proc, Value.int .i64 o0.obj, Value.int .i64 o0.kind, Value.int .i64 o0.meth, Value.int .i64 o0.arg, Value.int .i64 o0.sec, Value.bool o0.done, Value.int .i64 o0.res, Value.int .i64 o0.inv, Value.int .i64 o0.ret] 29) = W := ⟨_, rfl⟩
  rw [hW] at oa HB
  have HR := hL0.on HB.out
  have la := fun d os => (oa.on (below_regrown W d os)).load
  obtain ⟨z, hz⟩ : ∃ z, checkZ o0 = z := ⟨_, rfl⟩
  have c1 : ∀ d os, Calls Tryd.prog 12 #[Value.agg #[Value.int .i64 o0.id, Value.int .i64 o0.proc, Value.int .i64 o0.obj, Value.int .i64 o0.kind, Value.int .i64 o0.meth, Value.int .i64 o0.arg, Value.int .i64 o0.sec, Value.bool o0.done, Value.int .i64 o0.res, Value.int .i64 o0.inv, Value.int .i64 o0.ret]] (grow (redrawn W d) os) fun e w'' => e = .returned (.int .i64 z) ∧ ∃ p : Regrown, w'' = grow (redrawn W p.d) p.os := fun d os => Calls.regrown_of (by rw [← hz]; exact check_any o0 _ (HR.on (below_regrown W d os)))
  have c2 : ∀ d os, Calls Tryd.prog 13 #[Value.agg #[Value.int .i64 o0.id, Value.int .i64 o0.proc, Value.int .i64 o0.obj, Value.int .i64 o0.kind, Value.int .i64 o0.meth, Value.int .i64 o0.arg, Value.int .i64 o0.sec, Value.bool o0.done, Value.int .i64 o0.res, Value.int .i64 o0.inv, Value.int .i64 o0.ret]] (grow (redrawn W d) os) fun e w'' => e = .returned (.int .i64 z) ∧ ∃ p : Regrown, w'' = grow (redrawn W p.d) p.os := fun d os => Calls.regrown_of (by rw [← hz]; exact rcheck_any o0 _)
  have c5 : ∀ d os, Calls Tryd.prog 11 #[] (grow (redrawn W d) os) fun e w'' => e = .returned (.bool true) ∧ ∃ p : Regrown, w'' = grow (redrawn W p.d) p.os := fun d os => Calls.regrown_of (awake10_any _ (HR.on (below_regrown W d os)))
  have C1 := Lib.hid c1
  have C2 := Lib.hid c2
  have C5 := Lib.hid c5
  clear c1 c2 c5 hz hb0 oa HR
  go_enter Tryd.func4, Tryd.ntmps4
  go_wp2_with fail
  refine wp_region_quiet_below (by kernel_rfl) (by kernel_rfl) ?_
  repeat (go_big_quiet_step (first | (with_reducible exact C1.out _ _) | (with_reducible exact C2.out _ _) | (with_reducible exact C5.out _ _)))
  refine wpQuiet_nil ?_
  intro _ hw'
  obtain ⟨⟨dq, osq⟩, hw''⟩ := hw'
  subst hw''
  go_wp2
  go_returns
  exact ⟨rfl, HB.out.on (below_regrown W dq osq)⟩

set_option maxRecDepth 100000 in
theorem door_met (os : Os) (args : Array Value) : laidMetH Tryd.prog Rows.opChecksRow.laid ((World.doorLaid Tryd.prog 400 os).forCall (fun _ _ => 0) ⟨#[], args, []⟩).memory :=
  laidMetH_of_parts3 (fuel := 8) (laidMet_of_run' 8 (by kernel_rfl) (by kernel_rfl)) (by kernel_rfl) (by kernel_rfl)
set_option maxRecDepth 100000 in
theorem lifted (os : Os) (started : os.Started) (H : Type) (enc : TypeId × Value → H) :
    ReturnsInHanded {} Tryd.checked os 4 .any (fun w args => (Rows.opChecksSpec.pre enc Tryd.prog Tryd.f4 [] false w args ∧ laidMetH Tryd.prog Rows.opChecksRow.laid w) ∧ sizedMet enc Tryd.prog Tryd.f4 (OpenSpec.ofChange Rows.opChecksSpec) false w args) (Rows.opChecksSpec.post enc Tryd.prog Tryd.f4 false true false false) := by
  refine law_lift_laid (C := Tryd.checked) own started (by kernel_rfl) Tryd.func4 laidOut (by kernel_rfl) rfl Tryd.underlying4 rfl
    (fun ds h => match ds, h with | [_], _ => rfl)
    (ChangeSpec.witness_shaped (enc := enc) (C := Tryd.checked) (os := os) (X := fun w _ => laidMetH Tryd.prog Rows.opChecksRow.laid w) false (World.doorLaid Tryd.prog 400 os) #[.agg #[.int .i64 0, .int .i64 0, .int .i64 0, .int .i64 0, .int .i64 0, .int .i64 0, .int .i64 0, .bool false, .int .i64 0, .int .i64 0, .int .i64 0]] 8 rfl (World.shaped_of_RefB (by kernel_rfl) (by kernel_rfl)) (by kernel_rfl) (by kernel_rfl) (by kernel_rfl) (door_met os _)) ?_
  intro W base args ds ps hval hA hsz hL
  rw [Tryd.params4] at hA hval hsz
  obtain ⟨v0, vs0, d0, ds0, p0, q0, hargs, rfl, rfl, h0, r0⟩ := trodAll_cons hA
  obtain ⟨rfl, rfl, rfl⟩ := trodAll_nil r0
  obtain rfl : args = #[v0] := by cases args; simp_all
  obtain ⟨o0, rfl, w0⟩ := op_open (hval 0 29 v0 rfl rfl) h0
  exact walk W o0 w0 (rules_of_laid (by kernel_rfl) (by simp [Rows.opChecksRow]) hL)

theorem over : Rows.opChecksRow.holds Tryd.pinned (OpenSpec.ofChange Rows.opChecksSpec) :=
  OpenClaim.holds_of_wide 4 Tryd.f4 rfl rfl rfl rfl rfl rfl rfl ⟨rfl, rfl, rfl, rfl, rfl⟩ rfl rfl rfl rfl rfl (by kernel_rfl) Tryd.func4 (by kernel_rfl)
    (of_decide_eq_true (by kernel_rfl)) (by unfold Func.isWrapper; first | (rw [if_pos (by decide +kernel)]; kernel_rfl) | (rw [if_neg (by decide +kernel)]; exact ⟨rfl, rfl⟩))
    (fun os started H enc _ => lifted os started H enc)

theorem proved : Rows.OpChecksCardSaid :=
  Claim7.holds_tied_plain_at (c := Rows.opChecksRow) .later [] [.data] true _ _ over (fun _ h => by cases h) (by kernel_rfl) (fun _ h => by cases h) opChecks_row_tie rfl ⟨rfl, rfl⟩ (by kernel_rfl) rfl
    (fun f fn hf hfn => by
      obtain rfl : f = 4 := Option.some.inj ((show Tryd.prog.funcNamed "annalist/annalistlaw10.OpChecks" = some 4 by kernel_rfl).symm.trans hf) |>.symm
      obtain rfl : fn = Tryd.f4 := (Option.some.inj (Tryd.func4.symm.trans hfn)).symm
      exact ⟨by kernel_rfl, fun j t ht => by
        have hall : (Tryd.f4.params.toList.all fun u => !Tryd.prog.wantsStandIn u) = true := by kernel_rfl
        have hm : t ∈ Tryd.f4.params.toList := by simpa using Array.mem_of_getElem? ht
        exact (show Tryd.prog.wantsStandIn t = false by simpa using List.all_eq_true.1 hall t hm)⟩)
    (by kernel_rfl)
end Go.Proofs.YthgibogdbbebaaaDoor.opChecks
