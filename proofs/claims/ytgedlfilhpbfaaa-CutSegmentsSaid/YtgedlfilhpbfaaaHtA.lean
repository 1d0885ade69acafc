/- Package hist: what a history asks of operations; what updates leave; comparing IDs. -/
import Derived.Test.YtgedlfilhpbfaaaOps
import Derived.Test.YtgedlfilhpbfaaaHsP
namespace Go.Proofs.Ytgedlfilhpbfaaa
set_option maxRecDepth 100000
open Go.ChangeShapes Go.WideShapes Go.ChangeAt Go.RowKit Go.PlainAid Go.Deep

/-- What a history asks of its operations. -/
def HL : Hs.Look OpV := ⟨OpV.id, OpV.obj, OpV.kind, OpV.proc, OpV.done, checkZ, befB⟩
/-- An operation with what an edit names. -/
def updZ (k : Int) (was e : OpV) : OpV :=
  if k = 3 then ⟨was.id, was.proc, was.obj, was.kind, was.meth, was.arg, was.sec, was.done, was.res, e.inv, e.ret⟩
  else if k = 4 then ⟨was.id, was.proc, was.obj, was.kind, e.meth, e.arg, e.sec, was.done, e.res, was.inv, was.ret⟩
  else if k = 5 then ⟨was.id, was.proc, was.obj, was.kind, was.meth, was.arg, was.sec, true, e.res, was.inv, e.ret⟩
  else ⟨was.id, was.proc, was.obj, was.kind, was.meth, was.arg, was.sec, false, 0, was.inv, 0⟩
theorem upd_keep : Hs.Keep HL updZ := by
  refine ⟨fun k was e => ?_, fun k was e => ?_, fun k was e => ?_, fun k was e => ?_⟩ <;> (unfold updZ HL; repeat' split) <;> rfl
theorem check_parts {o : OpV} (h : checkZ o = 0) : namedB o = true ∧ ruledB o = true ∧ timedB o = true := by
  unfold checkZ at h
  cases h1 : namedB o <;> cases h2 : ruledB o <;> cases h3 : timedB o <;> simp [h1, h2, h3] at h ⊢
/-- Pending, and it may be: no answer, no return. -/
theorem pending_zero {o : OpV} (h : checkZ o = 0) (hd : o.done = false) : o.res = 0 ∧ o.ret = 0 := by
  obtain ⟨_, h2, h3⟩ := check_parts h
  constructor
  · unfold ruledB at h2
    cases hr : ruleOf o.kind o.meth with
    | none => rw [hr] at h2; simp at h2
    | some r =>
      rw [hr] at h2
      simp only [fitB, Bool.and_eq_true] at h2
      have := h2.2
      rw [resB_no hd] at this
      simpa using this
  · unfold timedB at h3
    rw [hd] at h3
    simp at h3
    exact h3.2
theorem upd_undo : Hs.Undo HL updZ := by
  refine ⟨fun was e => rfl, fun was e => rfl, fun was e hc hd => ?_, fun was e hd => ?_, fun was e => rfl, fun was e => rfl⟩
  · obtain ⟨h1, h2⟩ := pending_zero hc hd
    have hd' : was.done = false := hd
    show (⟨was.id, was.proc, was.obj, was.kind, was.meth, was.arg, was.sec, false, 0, was.inv, 0⟩ : OpV) = was
    cases was
    simp_all
  · have hd' : was.done = true := hd
    show (⟨was.id, was.proc, was.obj, was.kind, was.meth, was.arg, was.sec, true, was.res, was.inv, was.ret⟩ : OpV) = was
    cases was
    simp_all
theorem upd_wf {k : Int} {was e : OpV} (h : was.Wf) (h' : e.Wf) : (updZ k was e).Wf := by
  unfold updZ
  split
  · exact ⟨h.id, h.proc, h.obj, h.kind, h.meth, h.arg, h.sec, h.res, h'.inv, h'.ret⟩
  · split
    · exact ⟨h.id, h.proc, h.obj, h.kind, h'.meth, h'.arg, h'.sec, h'.res, h.inv, h.ret⟩
    · split
      · exact ⟨h.id, h.proc, h.obj, h.kind, h.meth, h.arg, h.sec, h'.res, h.inv, h'.ret⟩
      · exact ⟨h.id, h.proc, h.obj, h.kind, h.meth, h.arg, h.sec, (by decide : (-9223372036854775808 : Int) ≤ 0 ∧ (0 : Int) ≤ 9223372036854775807), h.inv, (by decide : (-9223372036854775808 : Int) ≤ 0 ∧ (0 : Int) ≤ 9223372036854775807)⟩
/-- The zero operation. -/
def zeroV : OpV := ⟨0, 0, 0, 0, 0, 0, 0, false, 0, 0, 0⟩
theorem zero_wf : zeroV.Wf := by constructor <;> (simp [zeroV])
def optV (o : Option OpV) : OpV := o.getD zeroV
/-- By rising IDs. -/
def RiseO (l : List OpV) : Prop := l.Pairwise fun a b => HL.id a < HL.id b

/-- cmp.Compare of two numbers. -/
def cmpZ (a b : Int) : Int := if a < b then -1 else if b < a then 1 else 0
theorem isnan_any (a : Int) (w : World) : Calls Try.prog 34 #[.int .i64 a] w fun e w' => e = .returned (.bool false) ∧ w = w' := by
  go_enter Try.func34, Try.ntmps34
  go_wp2
  go_returns
  exact ⟨by simp, rfl⟩
theorem compare_any (a b : Int) (w : World) : Calls Try.prog 29 #[.int .i64 a, .int .i64 b] w fun e w' => e = .returned (.int .i64 (cmpZ a b)) ∧ w = w' := by
  by_cases h1 : a < b
  · have h := Lib.hid (show cmpZ a b = -1 by unfold cmpZ; rw [if_pos h1])
    go_enter Try.func29, Try.ntmps29
    go_wp2_with fail
    refine (isnan_any a _).mono ?_
    rintro _ _ ⟨rfl, rfl⟩
    go_wp2_with fail
    refine (isnan_any b _).mono ?_
    rintro _ _ ⟨rfl, rfl⟩
    go_wp2
    go_returns
    exact ⟨by rw [h.out]; rfl, rfl⟩
  · by_cases h2 : b < a
    · have h := Lib.hid (show cmpZ a b = 1 by unfold cmpZ; rw [if_neg h1, if_pos h2])
      go_enter Try.func29, Try.ntmps29
      go_wp2_with fail
      refine (isnan_any a _).mono ?_
      rintro _ _ ⟨rfl, rfl⟩
      go_wp2_with fail
      refine (isnan_any b _).mono ?_
      rintro _ _ ⟨rfl, rfl⟩
      go_wp2
      go_returns
      exact ⟨by rw [h.out]; rfl, rfl⟩
    · have h := Lib.hid (show cmpZ a b = 0 by unfold cmpZ; rw [if_neg h1, if_neg h2])
      go_enter Try.func29, Try.ntmps29
      go_wp2_with fail
      refine (isnan_any a _).mono ?_
      rintro _ _ ⟨rfl, rfl⟩
      go_wp2_with fail
      refine (isnan_any b _).mono ?_
      rintro _ _ ⟨rfl, rfl⟩
      go_wp2
      go_returns
      exact ⟨by rw [h.out]; rfl, rfl⟩
end Go.Proofs.Ytgedlfilhpbfaaa
