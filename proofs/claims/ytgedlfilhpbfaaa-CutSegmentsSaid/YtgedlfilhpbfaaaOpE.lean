/- Contracts of Check, Before and Overlap. -/
import Derived.Test.YtgedlfilhpbfaaaOpD
import Derived.Deep.QuietTactic
import Derived.BigQuiet
namespace Go.Proofs.Ytgedlfilhpbfaaa
set_option maxRecDepth 100000
open Go.ChangeShapes Go.WideShapes Go.ChangeAt Go.RowKit Go.PlainAid

theorem load_op (v : Value) : Instr.loadAt 35 v = loadS 35 v := rfl
theorem OpAt.load {w : World} {b : Nat} {o : OpV} (h : OpAt w b o) : (loadS 35 (.pointer (some ⟨b, 0, none⟩))).run Try.prog w = .ok (Value.agg #[Value.int .i64 o.id, Value.int .i64 o.proc, Value.int .i64 o.obj, Value.int .i64 o.kind, Value.int .i64 o.meth, Value.int .i64 o.arg, Value.int .i64 o.sec, Value.bool o.done, Value.int .i64 o.res, Value.int .i64 o.inv, Value.int .i64 o.ret]) w :=
  run_loadAt_mid w b 0 35 [Value.int .i64 o.id, Value.int .i64 o.proc, Value.int .i64 o.obj, Value.int .i64 o.kind, Value.int .i64 o.meth, Value.int .i64 o.arg, Value.int .i64 o.sec, Value.bool o.done, Value.int .i64 o.res, Value.int .i64 o.inv, Value.int .i64 o.ret] _ (fun j v hj => by rw [cell_of_row _ _ _ _ _ _ h, Nat.zero_add, ← hj]; simp) Try.underlying35 rfl (by kernel_rfl)
attribute [local go_sem ↓ high] load_op
theorem check_30 {o : OpV} (h : namedB o = false) : checkZ o = 30 := by unfold checkZ; rw [h]; rfl
theorem check_33 {o : OpV} (h : namedB o = true) (h2 : ruledB o = false) : checkZ o = 33 := by unfold checkZ; rw [h, h2]; rfl
theorem check_31 {o : OpV} (h : namedB o = true) (h2 : ruledB o = true) (h3 : timedB o = false) : checkZ o = 31 := by unfold checkZ; rw [h, h2, h3]; rfl
theorem check_0 {o : OpV} (h : namedB o = true) (h2 : ruledB o = true) (h3 : timedB o = true) : checkZ o = 0 := by unfold checkZ; rw [h, h2, h3]; rfl
/-- Was the first one answered ahead of the second one's invocation? -/
def befB (a b : OpV) : Bool := a.done && decide (a.ret < b.inv)
def overB (a b : OpV) : Bool := !befB a b && !befB b a
set_option maxHeartbeats 1000000 in
theorem before_any (a b : OpV) (w : World) : Calls Try.prog 23 #[Value.agg #[Value.int .i64 a.id, Value.int .i64 a.proc, Value.int .i64 a.obj, Value.int .i64 a.kind, Value.int .i64 a.meth, Value.int .i64 a.arg, Value.int .i64 a.sec, Value.bool a.done, Value.int .i64 a.res, Value.int .i64 a.inv, Value.int .i64 a.ret], Value.agg #[Value.int .i64 b.id, Value.int .i64 b.proc, Value.int .i64 b.obj, Value.int .i64 b.kind, Value.int .i64 b.meth, Value.int .i64 b.arg, Value.int .i64 b.sec, Value.bool b.done, Value.int .i64 b.res, Value.int .i64 b.inv, Value.int .i64 b.ret]] w fun e w' => e = .returned (.bool (befB a b)) ∧ Below w.heap.size w w' := by
  cases h : a.done
  · have hn := Lib.hid (show befB a b = false by unfold befB; rw [h]; rfl)
    clear h
    go_enter Try.func23, Try.ntmps23
    go_wp2_with fail
    go_returns
    exact ⟨by rw [hn.out]; rfl, by go_grown⟩
  · have hn := Lib.hid (show befB a b = decide (a.ret < b.inv) by unfold befB; rw [h]; rfl)
    clear h
    go_enter Try.func23, Try.ntmps23
    go_wp2_with fail
    go_returns
    exact ⟨by rw [hn.out]; rfl, by go_grown⟩
set_option maxHeartbeats 1000000 in
theorem rbefore_any (a b : OpV) (w : World) : Calls Try.prog 17 #[Value.agg #[Value.int .i64 a.id, Value.int .i64 a.proc, Value.int .i64 a.obj, Value.int .i64 a.kind, Value.int .i64 a.meth, Value.int .i64 a.arg, Value.int .i64 a.sec, Value.bool a.done, Value.int .i64 a.res, Value.int .i64 a.inv, Value.int .i64 a.ret], Value.agg #[Value.int .i64 b.id, Value.int .i64 b.proc, Value.int .i64 b.obj, Value.int .i64 b.kind, Value.int .i64 b.meth, Value.int .i64 b.arg, Value.int .i64 b.sec, Value.bool b.done, Value.int .i64 b.res, Value.int .i64 b.inv, Value.int .i64 b.ret]] w fun e w' => e = .returned (.bool (befB a b)) ∧ Below w.heap.size w w' := by
  cases h : a.done
  · have hn := Lib.hid (show befB a b = false by unfold befB; rw [h]; rfl)
    clear h
    go_enter Try.func17, Try.ntmps17
    go_wp2_with fail
    go_returns
    exact ⟨by rw [hn.out]; rfl, by go_grown⟩
  · have hn := Lib.hid (show befB a b = decide (a.ret < b.inv) by unfold befB; rw [h]; rfl)
    clear h
    go_enter Try.func17, Try.ntmps17
    go_wp2_with fail
    go_returns
    exact ⟨by rw [hn.out]; rfl, by go_grown⟩
end Go.Proofs.Ytgedlfilhpbfaaa
