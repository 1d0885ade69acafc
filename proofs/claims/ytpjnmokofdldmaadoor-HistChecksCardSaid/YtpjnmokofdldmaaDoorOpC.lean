/- Operations that may be: contracts of Check and of what it asks. -/
import Derived.Test.YtpjnmokofdldmaaDoorOpF
namespace Go.Proofs.YtpjnmokofdldmaaDoor
set_option maxRecDepth 100000
open Go.ChangeShapes Go.WideShapes Go.ChangeAt Go.RowKit Go.PlainAid

/-- An operation. -/
structure OpV where
  id : Int
  proc : Int
  obj : Int
  kind : Int
  meth : Int
  arg : Int
  sec : Int
  done : Bool
  res : Int
  inv : Int
  ret : Int
def namedB (o : OpV) : Bool := inB o.id 1 1073741824 && inB o.proc 0 1023 && inB o.obj 0 1023
def resB (o : OpV) (low high : Int) : Bool := if o.done then inB o.res low high else o.res == 0
def fitB (o : OpV) (r : RowV) : Bool := argB o.arg (decide (1 ≤ r.needs)) && argB o.sec (decide (2 ≤ r.needs)) && resB o r.low r.high
def ruledB (o : OpV) : Bool := match ruleOf o.kind o.meth with
  | none => false
  | some r => fitB o r
def timedB (o : OpV) : Bool := inB o.inv 0 1099511627776 && (if o.done then decide (o.inv < o.ret) && decide (o.ret ≤ 1099511627776) else o.ret == 0)
/-- What Check answers. -/
def checkZ (o : OpV) : Int := if namedB o then (if ruledB o then (if timedB o then 0 else 31) else 33) else 30
theorem ruled_none {o : OpV} (h : ruleOf o.kind o.meth = none) : ruledB o = false := by unfold ruledB; rw [h]
theorem ruled_some {o : OpV} {r : RowV} (h : ruleOf o.kind o.meth = some r) : ruledB o = fitB o r := by unfold ruledB; rw [h]

set_option maxHeartbeats 1000000 in
theorem named_any (o : OpV) (w : World) : Calls Tryd.prog 23 #[Value.agg #[Value.int .i64 o.id, Value.int .i64 o.proc, Value.int .i64 o.obj, Value.int .i64 o.kind, Value.int .i64 o.meth, Value.int .i64 o.arg, Value.int .i64 o.sec, Value.bool o.done, Value.int .i64 o.res, Value.int .i64 o.inv, Value.int .i64 o.ret]] w fun e w' => e = .returned (.bool (namedB o)) ∧ Below w.heap.size w w' := by
  obtain ⟨b1, h1⟩ : ∃ b, inB o.id 1 1073741824 = b := ⟨_, rfl⟩
  obtain ⟨b2, h2⟩ : ∃ b, inB o.proc 0 1023 = b := ⟨_, rfl⟩
  obtain ⟨b3, h3⟩ : ∃ b, inB o.obj 0 1023 = b := ⟨_, rfl⟩
  have hn := Lib.hid (show namedB o = (b1 && b2 && b3) by unfold namedB; rw [h1, h2, h3])
  have H1 := Lib.hid h1
  have H2 := Lib.hid h2
  have H3 := Lib.hid h3
  clear h1 h2 h3
  go_enter Tryd.func23, Tryd.ntmps23
  go_wp2_with fail
  refine (within_any _ _ _ _).mono ?_
  rintro _ _ ⟨rfl, rfl⟩
  rw [H1.out]
  cases b1
  · go_wp2_with fail
    go_returns
    exact ⟨by rw [hn.out]; rfl, by go_grown⟩
  · go_wp2_with fail
    refine (within_any _ _ _ _).mono ?_
    rintro _ _ ⟨rfl, rfl⟩
    rw [H2.out]
    cases b2
    · go_wp2_with fail
      go_returns
      exact ⟨by rw [hn.out]; rfl, by go_grown⟩
    · go_wp2_with fail
      refine (within_any _ _ _ _).mono ?_
      rintro _ _ ⟨rfl, rfl⟩
      rw [H3.out]
      go_wp2_with fail
      go_returns
      exact ⟨by rw [hn.out]; rfl, by go_grown⟩
set_option maxHeartbeats 1000000 in
theorem timed_any (o : OpV) (w : World) : Calls Tryd.prog 25 #[Value.agg #[Value.int .i64 o.id, Value.int .i64 o.proc, Value.int .i64 o.obj, Value.int .i64 o.kind, Value.int .i64 o.meth, Value.int .i64 o.arg, Value.int .i64 o.sec, Value.bool o.done, Value.int .i64 o.res, Value.int .i64 o.inv, Value.int .i64 o.ret]] w fun e w' => e = .returned (.bool (timedB o)) ∧ Below w.heap.size w w' := by
  obtain ⟨b1, h1⟩ : ∃ b, inB o.inv 0 1099511627776 = b := ⟨_, rfl⟩
  have H1 := Lib.hid h1
  cases hd : o.done
  · have hn := Lib.hid (show timedB o = (b1 && (o.ret == 0)) by unfold timedB; rw [h1, hd]; rfl)
    clear h1 hd
    go_enter Tryd.func25, Tryd.ntmps25
    go_wp2_with fail
    refine (within_any _ _ _ _).mono ?_
    rintro _ _ ⟨rfl, rfl⟩
    rw [H1.out]
    cases b1
    · go_wp2_with fail
      go_returns
      exact ⟨by rw [hn.out]; rfl, by go_grown⟩
    · go_wp2_with fail
      go_returns
      exact ⟨by rw [hn.out]; rfl, by go_grown⟩
  · by_cases c1 : o.inv < o.ret
    · have hn := Lib.hid (show timedB o = (b1 && decide (o.ret ≤ 1099511627776)) by unfold timedB; rw [h1, hd, decide_eq_true c1]; rfl)
      clear h1 hd
      go_enter Tryd.func25, Tryd.ntmps25
      go_wp2_with fail
      refine (within_any _ _ _ _).mono ?_
      rintro _ _ ⟨rfl, rfl⟩
      rw [H1.out]
      cases b1
      · go_wp2_with fail
        go_returns
        exact ⟨by rw [hn.out]; rfl, by go_grown⟩
      · go_wp2_with fail
        go_returns
        exact ⟨by rw [hn.out]; rfl, by go_grown⟩
    · have hn := Lib.hid (show timedB o = false by unfold timedB; rw [h1, hd, decide_eq_false c1]; cases b1 <;> rfl)
      clear h1 hd
      go_enter Tryd.func25, Tryd.ntmps25
      go_wp2_with fail
      refine (within_any _ _ _ _).mono ?_
      rintro _ _ ⟨rfl, rfl⟩
      rw [H1.out]
      cases b1
      · go_wp2_with fail
        go_returns
        exact ⟨by rw [hn.out]; rfl, by go_grown⟩
      · go_wp2_with fail
        go_returns
        exact ⟨by rw [hn.out]; rfl, by go_grown⟩
end Go.Proofs.YtpjnmokofdldmaaDoor
