/- Which histories may be, what is wrong with the others, and each operation of one, is told as the document says, and the chapter's example holds: for every list of operations (longer ones than 80 are let go) and every number. Conditions: the package-level variable op.rules starts as the program's text lays it (tied). -/
import Derived.Test.YtpjnmokofdldmaaDoorHtG
import Derived.Test.YtpjnmokofdldmaaDoorHtP
import Derived.Test.YtpjnmokofdldmaaDoorLaw
import Derived.Test.YtpjnmokofdldmaaDoorLawL
import Derived.Test.YtpjnmokofdldmaaDoorCards
import Derived.Test.YtpjnmokofdldmaaDoorTie
import Derived.SevenTiedAt
import Derived.BigQuiet
import Derived.Deep.QuietTactic
import Derived.Lib.QuietBelow
import Derived.Deep.DeepCutAuto
import Derived.Deep.CutBlock
namespace Go.Proofs.YtpjnmokofdldmaaDoor.histChecks
open Go.ChangeShapes Go.WideShapes Go.ChangeAt Go.RowKit Go.PlainAid
open Go.ChangeMaps (open_string)
open Go.Sort (grow)

theorem own : ownKnob Tryd.prog.godebug = none := by kernel_rfl
theorem laidOut : laidOutB Tryd.prog = true := by kernel_rfl
attribute [local go_sem ↓ high] load_op store_o
set_option maxRecDepth 100000 in
set_option maxHeartbeats 4000000 in
theorem walk (w : World) (v0 : Value) (l0 : List OpV) (h0 : OpsOf w v0 l0) (a1 : Int) (w1 : (Lit.int .i64 a1).wf = true) (hL0 : RulesAt w) :
    Calls Tryd.prog 3 #[v0, .int .i64 a1] w fun e w' => e = .returned (.bool true) ∧ Below w.heap.size w w' := by
  obtain ⟨b1, c1⟩ := bounds_i64 w1
  obtain ⟨ao, ac, rfl⟩ := h0.len
  have H := Lib.hid h0
  have HR := Lib.hid hL0
  clear h0 hL0
  by_cases hl : 80 < l0.length
  · have q0 : decide ((l0.length : Int) > 80) = true := decide_eq_true (by omega)
    have q00 : ((80 : Int) < (l0.length : Int)) = True := eq_true (by omega)
    clear hl
    go_enter Tryd.func3, Tryd.ntmps3
    go_wp2_with fail
    refine (awake_any _ HR.out).mono ?_
    rintro _ w2 ⟨rfl, hb2⟩
    go_wp2_with fail
    go_returns
    exact ⟨rfl, hb2⟩
  have q0 : decide ((l0.length : Int) > 80) = false := decide_eq_false (by omega)
  have q00 : ((80 : Int) < (l0.length : Int)) = False := eq_false (by omega)
  have HL0 := Lib.hid (show l0.length ≤ 80 by omega)
  clear hl
  obtain ⟨z, hz⟩ : ∃ z, Hs.checkL HL l0 = z := ⟨_, rfl⟩
  have HZ := Lib.hid hz
  have qz : (z != z) = false := by simp
  clear hz
  go_enter Tryd.func3, Tryd.ntmps3
  go_wp2_with fail
  refine (hcheck_any H.out (by have := HL0.out; omega) HR.out).mono ?_
  rintro _ w2 ⟨rfl, hb2⟩
  rw [HZ.out]
  have H2 := Lib.hid (H.out.on hb2)
  have HB2 := Lib.hid hb2
  clear hb2
  go_wp2_with fail
  refine (hrcheck_any H2.out (by have := HL0.out; omega)).mono ?_
  rintro _ w3 ⟨rfl, hb3⟩
  rw [HZ.out]
  have H3 := Lib.hid (H2.out.on hb3)
  have HB3 := Lib.hid (HB2.out.on hb3)
  clear hb3
  go_wp2_with fail
  refine (hrcheck_any H3.out (by have := HL0.out; omega)).mono ?_
  rintro _ w4 ⟨rfl, hb4⟩
  rw [HZ.out]
  have H4 := Lib.hid (H3.out.on hb4)
  have HB4 := Lib.hid (HB3.out.on hb4)
  clear hb4
  by_cases hz0 : z = 0
  case neg =>
    have q5 : (z != 0) = true := bne_iff_ne.2 hz0
    clear hz0
    go_wp2_with fail
    refine (awake_any _ (HR.out.on HB4.out)).mono ?_
    rintro _ w5 ⟨rfl, hb5⟩
    have HB5 := Lib.hid (HB4.out.on hb5)
    clear hb5
    go_wp2_with fail
    go_returns
    exact ⟨rfl, HB5.out⟩
  subst hz0
  have HRI := Lib.hid (show RiseO l0 from ((Hs.check_ok HL).1 HZ.out).rise)
  obtain ⟨g, hg⟩ : ∃ g, optV (Hs.getL HL l0 a1) = g := ⟨_, rfl⟩
  have HG := Lib.hid hg
  obtain ⟨r, hr⟩ : ∃ r, (Hs.getL HL l0 a1).isSome = r := ⟨_, rfl⟩
  have HRR := Lib.hid hr
  clear hg hr
  go_wp2_with fail
  refine (get_any a1 H4.out HRI.out (by have := HL0.out; omega) g HG.out).mono ?_
  rintro _ w5 ⟨rfl, hb5⟩
  rw [HRR.out]
  have s6 := store_op_new w5 (#[Value.int .i64 0, Value.int .i64 0, Value.int .i64 0, Value.int .i64 0, Value.int .i64 0, Value.int .i64 0, Value.int .i64 0, Value.bool false, Value.int .i64 0, Value.int .i64 0, Value.int .i64 0]) rfl g
  have hb6 : Below w5.heap.size w5 (w5.alloc (.cells #[Value.int .i64 g.id, Value.int .i64 g.proc, Value.int .i64 g.obj, Value.int .i64 g.kind, Value.int .i64 g.meth, Value.int .i64 g.arg, Value.int .i64 g.sec, Value.bool g.done, Value.int .i64 g.res, Value.int .i64 g.inv, Value.int .i64 g.ret] 28)) := by go_grown
  have ho6 := OpAt.box w5 g
  obtain ⟨W6, hW6⟩ : ∃ W, w5.alloc (.cells #[Value.int .i64 g.id, Value.int .i64 g.proc, Value.int .i64 g.obj, Value.int .i64 g.kind, Value.int .i64 g.meth, Value.int .i64 g.arg, Value.int .i64 g.sec, Value.bool g.done, Value.int .i64 g.res, Value.int .i64 g.inv, Value.int .i64 g.ret] 28) = W := ⟨_, rfl⟩
  rw [hW6] at s6 hb6 ho6
  have H6 := Lib.hid (H4.out.on (hb5.on hb6))
  have HB6 := Lib.hid (HB4.out.on (hb5.on hb6))
  have HO6 := Lib.hid ho6
  clear hb5 hb6 ho6 hW6
  go_wp2_with fail
  refine (rget_any a1 H6.out (by have := HL0.out; omega) g HG.out).mono ?_
  rintro _ w7 ⟨rfl, hb7⟩
  rw [HRR.out]
  have s8 := store_op_new w7 (#[Value.int .i64 0, Value.int .i64 0, Value.int .i64 0, Value.int .i64 0, Value.int .i64 0, Value.int .i64 0, Value.int .i64 0, Value.bool false, Value.int .i64 0, Value.int .i64 0, Value.int .i64 0]) rfl g
  have hb8 : Below w7.heap.size w7 (w7.alloc (.cells #[Value.int .i64 g.id, Value.int .i64 g.proc, Value.int .i64 g.obj, Value.int .i64 g.kind, Value.int .i64 g.meth, Value.int .i64 g.arg, Value.int .i64 g.sec, Value.bool g.done, Value.int .i64 g.res, Value.int .i64 g.inv, Value.int .i64 g.ret] 28)) := by go_grown
  have ho8 := OpAt.box w7 g
  obtain ⟨W8, hW8⟩ : ∃ W, w7.alloc (.cells #[Value.int .i64 g.id, Value.int .i64 g.proc, Value.int .i64 g.obj, Value.int .i64 g.kind, Value.int .i64 g.meth, Value.int .i64 g.arg, Value.int .i64 g.sec, Value.bool g.done, Value.int .i64 g.res, Value.int .i64 g.inv, Value.int .i64 g.ret] 28) = W := ⟨_, rfl⟩
  rw [hW8] at s8 hb8 ho8
  have HB8 := Lib.hid (HB6.out.on (hb7.on hb8))
  have l1 := (HO6.out.on (hb7.on hb8)).load
  have l2 := ho8.load
  clear s6 hb7 hb8 ho8 hW8
  go_wp2_with fail
  refine (awake_any _ (HR.out.on HB8.out)).mono ?_
  rintro _ w9 ⟨rfl, hb9⟩
  have HB9 := Lib.hid (HB8.out.on hb9)
  clear hb9
  go_wp2_with fail
  go_returns
  exact ⟨rfl, HB9.out⟩

set_option maxRecDepth 100000 in
theorem door_met (os : Os) (args : Array Value) : laidMetH Tryd.prog Rows.histChecksRow.laid ((World.doorLaid Tryd.prog 400 os).forCall (fun _ _ => 0) ⟨#[], args, []⟩).memory :=
  laidMetH_of_parts3 (fuel := 8) (laidMet_of_run' 8 (by kernel_rfl) (by kernel_rfl)) (by kernel_rfl) (by kernel_rfl)
set_option maxRecDepth 100000 in
theorem lifted (os : Os) (started : os.Started) (H : Type) (enc : TypeId × Value → H) :
    ReturnsInHanded {} Tryd.checked os 3 .any (fun w args => (Rows.histChecksSpec.pre enc Tryd.prog Tryd.f3 [] false w args ∧ laidMetH Tryd.prog Rows.histChecksRow.laid w) ∧ sizedMet enc Tryd.prog Tryd.f3 (OpenSpec.ofChange Rows.histChecksSpec) false w args) (Rows.histChecksSpec.post enc Tryd.prog Tryd.f3 false true false false) := by
  refine law_lift_laid (C := Tryd.checked) own started (by kernel_rfl) Tryd.func3 laidOut (by kernel_rfl) rfl Tryd.underlying4 rfl
    (fun ds h => match ds, h with | [_, _], _ => rfl)
    (ChangeSpec.witness_shaped (enc := enc) (C := Tryd.checked) (os := os) (X := fun w _ => laidMetH Tryd.prog Rows.histChecksRow.laid w) false (World.doorLaid Tryd.prog 400 os) #[.slice none 0 0, .int .i64 0] 8 rfl (World.shaped_of_RefB (by kernel_rfl) (by kernel_rfl)) (by kernel_rfl) (by kernel_rfl) (by kernel_rfl) (door_met os _)) ?_
  intro W base args ds ps hval hA hsz hL
  rw [Tryd.params3] at hA hval hsz
  obtain ⟨v0, vs0, d0, ds0, p0, q0, hargs, rfl, rfl, h0, r0⟩ := trodAll_cons hA
  obtain ⟨v1, vs1, d1, ds1, p1, q1, rfl, rfl, rfl, h1, r1⟩ := trodAll_cons r0
  obtain ⟨rfl, rfl, rfl⟩ := trodAll_nil r1
  obtain rfl : args = #[v0, v1] := by cases args; simp_all
  obtain ⟨l0, hl0, _⟩ := ops_open (hval 0 22 v0 rfl rfl) h0
  obtain ⟨a1, rfl, rfl, rfl, w1⟩ := open_int Tryd.underlying3 (hval 1 3 v1 rfl rfl) h1
  exact walk W v0 l0 hl0 a1 w1 (rules_of_laid (by kernel_rfl) (by simp [Rows.histChecksRow]) hL)

theorem over : Rows.histChecksRow.holds Tryd.pinned (OpenSpec.ofChange Rows.histChecksSpec) :=
  OpenClaim.holds_of_wide 3 Tryd.f3 rfl rfl rfl rfl rfl rfl rfl ⟨rfl, rfl, rfl, rfl, rfl⟩ rfl rfl rfl rfl rfl (by kernel_rfl) Tryd.func3 (by kernel_rfl)
    (of_decide_eq_true (by kernel_rfl)) (by unfold Func.isWrapper; first | (rw [if_pos (by decide +kernel)]; kernel_rfl) | (rw [if_neg (by decide +kernel)]; exact ⟨rfl, rfl⟩))
    (fun os started H enc _ => lifted os started H enc)

theorem proved : Rows.HistChecksCardSaid :=
  Claim7.holds_tied_plain_at (c := Rows.histChecksRow) .later [] [.data] true _ _ over (fun _ h => by cases h) (by kernel_rfl) (fun _ h => by cases h) histChecks_row_tie rfl ⟨rfl, rfl⟩ (by kernel_rfl) rfl
    (fun f fn hf hfn => by
      obtain rfl : f = 3 := Option.some.inj ((show Tryd.prog.funcNamed "annalist/annalistlaw12.HistChecks" = some 3 by kernel_rfl).symm.trans hf) |>.symm
      obtain rfl : fn = Tryd.f3 := (Option.some.inj (Tryd.func3.symm.trans hfn)).symm
      exact ⟨by kernel_rfl, fun j t ht => by
        have hall : (Tryd.f3.params.toList.all fun u => !Tryd.prog.wantsStandIn u) = true := by kernel_rfl
        have hm : t ∈ Tryd.f3.params.toList := by simpa using Array.mem_of_getElem? ht
        exact (show Tryd.prog.wantsStandIn t = false by simpa using List.all_eq_true.1 hall t hm)⟩)
    (by kernel_rfl)
end Go.Proofs.YtpjnmokofdldmaaDoor.histChecks
