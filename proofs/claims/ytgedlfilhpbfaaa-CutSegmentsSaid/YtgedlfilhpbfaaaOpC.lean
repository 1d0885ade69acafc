/- Operations that may be: contracts of Check and of what it asks. -/
import Derived.Test.YtgedlfilhpbfaaaOpF
namespace Go.Proofs.Ytgedlfilhpbfaaa
set_option maxRecDepth 100000
open Go.ChangeShapes Go.WideShapes Go.ChangeAt Go.RowKit Go.PlainAid

/-- An operation. -/
structure OpV where
  id : Int
  proc : Int
  obj : Int
  kind : Int
  meth : Int
  arg : Int
  sec : Int
  done : Bool
  res : Int
  inv : Int
  ret : Int
def namedB (o : OpV) : Bool := inB o.id 1 1073741824 && inB o.proc 0 1023 && inB o.obj 0 1023
def resB (o : OpV) (low high : Int) : Bool := if o.done then inB o.res low high else o.res == 0
def fitB (o : OpV) (r : RowV) : Bool := argB o.arg (decide (1 ≤ r.needs)) && argB o.sec (decide (2 ≤ r.needs)) && resB o r.low r.high
def ruledB (o : OpV) : Bool := match ruleOf o.kind o.meth with
  | none => false
  | some r => fitB o r
def timedB (o : OpV) : Bool := inB o.inv 0 1099511627776 && (if o.done then decide (o.inv < o.ret) && decide (o.ret ≤ 1099511627776) else o.ret == 0)
/-- What Check answers. -/
def checkZ (o : OpV) : Int := if namedB o then (if ruledB o then (if timedB o then 0 else 31) else 33) else 30
theorem ruled_none {o : OpV} (h : ruleOf o.kind o.meth = none) : ruledB o = false := by unfold ruledB; rw [h]
theorem ruled_some {o : OpV} {r : RowV} (h : ruleOf o.kind o.meth = some r) : ruledB o = fitB o r := by unfold ruledB; rw [h]

end Go.Proofs.Ytgedlfilhpbfaaa
