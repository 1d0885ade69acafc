/- Contracts of package cache: same, whose deferred closure finds no panic. -/
import Derived.Test.YtomgiemnkbjebaaAid
import Derived.Test.YtomgiemnkbjebaaRows
import Derived.Recover
import Derived.Tactics2
import Derived.Laws.Pointers
import Derived.RangeFuncBox
import Derived.OwnWalk
import Derived.Deep.AppendLies
import Derived.Deep.QuietTactic
import Derived.BigQuiet
import Derived.IntWalk
namespace Go.Proofs.Ytomgiemnkbjebaa
set_option maxRecDepth 100000
open Go.ChangeShapes Go.WideShapes Go.ChangeAt Go.RowKit Go.PlainAid

theorem make_func (fn : Fn) (a b : Array Value) (w : World) : (Instr.makeFunc fn a b).run Try.prog w = .ok (.func fn a b) w := rfl
namespace KA
theorem catch_idle (w : World) :
    CallsD Try.prog 46 #[] .returning w fun e u' w' => e = .returned (.tuple #[]) ∧ u' = .returning ∧ w' = w := by
  refine callsD_of_wpS Try.func46 rfl fun c₀ cs hu => ?_
  apply wpS_region
  simp [wpOpsS, go_sem, recoverD, hu, Try.ntmps46]
  cases c₀
  simp_all [bodyPostS, results, Try.results46]
theorem same_any (a b : Int) (w : World) : Calls Try.prog 42 #[.int .i64 a, .int .i64 b] w fun e w' => e = .returned (.bool (a == b)) ∧ w = w' := by
  have hmf := make_func
  go_enter_defers Try.func42, Try.ntmps42
  go_wp2
  refine leaves_cons (f := 46) (args := #[]) (by simp) (by simp [go_sem]) ?_
  refine (catch_idle _).mono ?_
  rintro e u' w'' ⟨rfl, rfl, rfl⟩
  simp [Leaves, settle, results, Try.results42, go_sem]
end KA
end Go.Proofs.Ytomgiemnkbjebaa
