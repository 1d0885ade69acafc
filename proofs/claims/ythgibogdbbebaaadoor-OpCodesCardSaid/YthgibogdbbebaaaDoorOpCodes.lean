/- Every operation is shown as a record, and which operation every text is, as the chapter says, and the chapter's examples hold: for every operation and every text. Conditions: the package-level variable op.rules starts as the program's text lays it (tied). -/
import Derived.Test.YthgibogdbbebaaaDoorOpW
import Derived.Test.YthgibogdbbebaaaDoorOpX
import Derived.Test.YthgibogdbbebaaaDoorOpN
import Derived.Test.YthgibogdbbebaaaDoorLaw
import Derived.Test.YthgibogdbbebaaaDoorLawL
import Derived.Test.YthgibogdbbebaaaDoorCards
import Derived.Test.YthgibogdbbebaaaDoorTie
import Derived.SevenTiedAt
import Derived.BigQuiet
import Derived.Deep.QuietTactic
import Derived.Lib.QuietBelow
import Derived.Deep.DeepCutAuto
import Derived.Deep.CutBlock
namespace Go.Proofs.YthgibogdbbebaaaDoor.opCodes
open Go.ChangeShapes Go.WideShapes Go.ChangeAt Go.RowKit Go.PlainAid
open Go.ChangeMaps (open_string)
open Go.Sort (grow)

theorem own : ownKnob Tryd.prog.godebug = none := by kernel_rfl
theorem laidOut : laidOutB Tryd.prog = true := by kernel_rfl
attribute [local go_sem ↓ high] load_op
theorem enc_both (o : OpV) : ∃ t z, (∀ w, RulesAt w → Calls Tryd.prog 14 #[Value.agg #[Value.int .i64 o.id, Value.int .i64 o.proc, Value.int .i64 o.obj, Value.int .i64 o.kind, Value.int .i64 o.meth, Value.int .i64 o.arg, Value.int .i64 o.sec, Value.bool o.done, Value.int .i64 o.res, Value.int .i64 o.inv, Value.int .i64 o.ret]] w fun e w' => e = .returned (.tuple #[.string t, .int .i64 z]) ∧ Below w.heap.size w w') ∧
    (∀ w, Calls Tryd.prog 15 #[Value.agg #[Value.int .i64 o.id, Value.int .i64 o.proc, Value.int .i64 o.obj, Value.int .i64 o.kind, Value.int .i64 o.meth, Value.int .i64 o.arg, Value.int .i64 o.sec, Value.bool o.done, Value.int .i64 o.res, Value.int .i64 o.inv, Value.int .i64 o.ret]] w fun e w' => e = .returned (.tuple #[.string t, .int .i64 z]) ∧ Below w.heap.size w w') := by
  by_cases h : checkZ o = 0
  · exact ⟨_, _, fun w hR => encode_ok o w hR h, fun w => rencode_ok o w h⟩
  · exact ⟨_, _, fun w hR => encode_no o w hR h, fun w => rencode_no o w h⟩
theorem dec_is (x : Option OpV) : ∃ (p : OpV) (z : Int), decV x = .tuple #[Value.agg #[Value.int .i64 p.id, Value.int .i64 p.proc, Value.int .i64 p.obj, Value.int .i64 p.kind, Value.int .i64 p.meth, Value.int .i64 p.arg, Value.int .i64 p.sec, Value.bool p.done, Value.int .i64 p.res, Value.int .i64 p.inv, Value.int .i64 p.ret], .int .i64 z] := by
  cases x with
  | none => exact ⟨⟨0, 0, 0, 0, 0, 0, 0, false, 0, 0, 0⟩, 14, rfl⟩
  | some o => exact ⟨o, 0, rfl⟩
set_option maxRecDepth 100000 in
set_option maxHeartbeats 1600000 in
theorem walk (w : World) (o0 : OpV) (w0 : o0.Wf) (a1 : ByteArray) (s1 : a1.size ≤ 140737488351232) (hL0 : RulesAt w) :
    Calls Tryd.prog 5 #[Value.agg #[Value.int .i64 o0.id, Value.int .i64 o0.proc, Value.int .i64 o0.obj, Value.int .i64 o0.kind, Value.int .i64 o0.meth, Value.int .i64 o0.arg, Value.int .i64 o0.sec, Value.bool o0.done, Value.int .i64 o0.res, Value.int .i64 o0.inv, Value.int .i64 o0.ret], .string a1] w fun e w' => e = .returned (.bool true) ∧ Below w.heap.size w w' := by
  have u0 := w0
  clear u0
  have u1 := s1
  clear u1
  obtain ⟨t, z, hE, hF⟩ := enc_both o0
  obtain ⟨p, z2, hD⟩ := dec_is (decZ a1)
  have HE := Lib.hid hE
  have HF := Lib.hid hF
  have HD := Lib.hid hD
  have HS := Lib.hid s1
  have HB0 := Lib.hid (show Below w.heap.size w (w.alloc (.cells #[Value.int .i64 o0.id, Value.int .i64 o0.proc, Value.int .i64 o0.obj, Value.int .i64 o0.kind, Value.int .i64 o0.meth, Value.int .i64 o0.arg, Value.int .i64 o0.sec, Value.bool o0.done, Value.int .i64 o0.res, Value.int .i64 o0.inv, Value.int .i64 o0.ret] 29)) by go_grown)
  have l0 := (OpAt.box w o0).load
  have HR0 := Lib.hid (hL0.on HB0.out)
  clear hE hF hD s1 hL0
  go_enter Tryd.func5, Tryd.ntmps5
  go_wp2_with fail
  clear l0
  refine (HE.out _ HR0.out).mono ?_
  rintro _ w1 ⟨rfl, hb1⟩
  have l1 := ((OpAt.box w o0).on hb1).load
  have HB1 := Lib.hid (HB0.out.on hb1)
  have HR1 := Lib.hid (HR0.out.on hb1)
  clear hb1
  go_wp2_with fail
  clear l1
  refine (HF.out _).mono ?_
  rintro _ w2 ⟨rfl, hb2⟩
  have HB2 := Lib.hid (HB1.out.on hb2)
  have HR2 := Lib.hid (HR1.out.on hb2)
  clear hb2
  go_wp2_with fail
  refine (decode_any a1 _ HR2.out HS.out).mono ?_
  rintro _ w3 ⟨rfl, hb3⟩
  rw [HD.out]
  have ha3 := hb3.alloc hb3.size (.cells #[Value.int .i64 p.id, Value.int .i64 p.proc, Value.int .i64 p.obj, Value.int .i64 p.kind, Value.int .i64 p.meth, Value.int .i64 p.arg, Value.int .i64 p.sec, Value.bool p.done, Value.int .i64 p.res, Value.int .i64 p.inv, Value.int .i64 p.ret] 29)
  have OP3 := Lib.hid (OpAt.box w3 p)
  have HB3 := Lib.hid (HB2.out.on ha3)
  have HR3 := Lib.hid (HR2.out.on ha3)
  clear hb3 ha3
  go_wp2_with fail
  refine (rdecode_any a1 _ HS.out).mono ?_
  rintro _ w4 ⟨rfl, hb4⟩
  rw [HD.out]
  have ha4 := hb4.alloc hb4.size (.cells #[Value.int .i64 p.id, Value.int .i64 p.proc, Value.int .i64 p.obj, Value.int .i64 p.kind, Value.int .i64 p.meth, Value.int .i64 p.arg, Value.int .i64 p.sec, Value.bool p.done, Value.int .i64 p.res, Value.int .i64 p.inv, Value.int .i64 p.ret] 29)
  have l4 := (OP3.out.on ha4).load
  have l5 := (OpAt.box w4 p).load
  have HB4 := Lib.hid (HB3.out.on ha4)
  have HR4 := Lib.hid (HR3.out.on ha4)
  clear hb4 ha4
  go_wp2_with fail
  refine (awake10_any _ HR4.out).mono ?_
  rintro _ w5 ⟨rfl, hb5⟩
  have HB5 := Lib.hid (HB4.out.on hb5)
  clear hb5
  go_wp2_with fail
  go_returns
  exact ⟨rfl, HB5.out⟩

set_option maxRecDepth 100000 in
theorem door_met (os : Os) (args : Array Value) : laidMetH Tryd.prog Rows.opCodesRow.laid ((World.doorLaid Tryd.prog 400 os).forCall (fun _ _ => 0) ⟨#[], args, []⟩).memory :=
  laidMetH_of_parts3 (fuel := 8) (laidMet_of_run' 8 (by kernel_rfl) (by kernel_rfl)) (by kernel_rfl) (by kernel_rfl)
set_option maxRecDepth 100000 in
theorem lifted (os : Os) (started : os.Started) (H : Type) (enc : TypeId × Value → H) :
    ReturnsInHanded {} Tryd.checked os 5 .any (fun w args => (Rows.opCodesSpec.pre enc Tryd.prog Tryd.f5 [] false w args ∧ laidMetH Tryd.prog Rows.opCodesRow.laid w) ∧ sizedMet enc Tryd.prog Tryd.f5 (OpenSpec.ofChange Rows.opCodesSpec) false w args) (Rows.opCodesSpec.post enc Tryd.prog Tryd.f5 false true false false) := by
  refine law_lift_laid (C := Tryd.checked) own started (by kernel_rfl) Tryd.func5 laidOut (by kernel_rfl) rfl Tryd.underlying4 rfl
    (fun ds h => match ds, h with | [_, _], _ => rfl)
    (ChangeSpec.witness_shaped (enc := enc) (C := Tryd.checked) (os := os) (X := fun w _ => laidMetH Tryd.prog Rows.opCodesRow.laid w) false (World.doorLaid Tryd.prog 400 os) #[.agg #[.int .i64 0, .int .i64 0, .int .i64 0, .int .i64 0, .int .i64 0, .int .i64 0, .int .i64 0, .bool false, .int .i64 0, .int .i64 0, .int .i64 0], .string ByteArray.empty] 8 rfl (World.shaped_of_RefB (by kernel_rfl) (by kernel_rfl)) (by kernel_rfl) (by kernel_rfl) (by kernel_rfl) (door_met os _)) ?_
  intro W base args ds ps hval hA hsz hL
  rw [Tryd.params5] at hA hval hsz
  obtain ⟨v0, vs0, d0, ds0, p0, q0, hargs, rfl, rfl, h0, r0⟩ := trodAll_cons hA
  obtain ⟨v1, vs1, d1, ds1, p1, q1, rfl, rfl, rfl, h1, r1⟩ := trodAll_cons r0
  obtain ⟨rfl, rfl, rfl⟩ := trodAll_nil r1
  obtain rfl : args = #[v0, v1] := by cases args; simp_all
  obtain ⟨o0, rfl, w0⟩ := op_open (hval 0 29 v0 rfl rfl) h0
  obtain ⟨a1, rfl, rfl, rfl, _⟩ := open_string Tryd.underlying9 (hval 1 9 v1 rfl rfl) h1
  have s1 : a1.size ≤ 140737488351232 := by
    have := sized_string hsz (j := 1) rfl rfl
    simpa [reachBytes] using this
  exact walk W o0 w0 a1 s1 (rules_of_laid (by kernel_rfl) (by simp [Rows.opCodesRow]) hL)

theorem over : Rows.opCodesRow.holds Tryd.pinned (OpenSpec.ofChange Rows.opCodesSpec) :=
  OpenClaim.holds_of_wide 5 Tryd.f5 rfl rfl rfl rfl rfl rfl rfl ⟨rfl, rfl, rfl, rfl, rfl⟩ rfl rfl rfl rfl rfl (by kernel_rfl) Tryd.func5 (by kernel_rfl)
    (of_decide_eq_true (by kernel_rfl)) (by unfold Func.isWrapper; first | (rw [if_pos (by decide +kernel)]; kernel_rfl) | (rw [if_neg (by decide +kernel)]; exact ⟨rfl, rfl⟩))
    (fun os started H enc _ => lifted os started H enc)

theorem proved : Rows.OpCodesCardSaid :=
  Claim7.holds_tied_plain_at (c := Rows.opCodesRow) .later [] [.data] true _ _ over (fun _ h => by cases h) (by kernel_rfl) (fun _ h => by cases h) opCodes_row_tie rfl ⟨rfl, rfl⟩ (by kernel_rfl) rfl
    (fun f fn hf hfn => by
      obtain rfl : f = 5 := Option.some.inj ((show Tryd.prog.funcNamed "annalist/annalistlaw10.OpCodes" = some 5 by kernel_rfl).symm.trans hf) |>.symm
      obtain rfl : fn = Tryd.f5 := (Option.some.inj (Tryd.func5.symm.trans hfn)).symm
      exact ⟨by kernel_rfl, fun j t ht => by
        have hall : (Tryd.f5.params.toList.all fun u => !Tryd.prog.wantsStandIn u) = true := by kernel_rfl
        have hm : t ∈ Tryd.f5.params.toList := by simpa using Array.mem_of_getElem? ht
        exact (show Tryd.prog.wantsStandIn t = false by simpa using List.all_eq_true.1 hall t hm)⟩)
    (by kernel_rfl)
end Go.Proofs.YthgibogdbbebaaaDoor.opCodes
