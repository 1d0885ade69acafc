/- Contracts of package cache, of texts to numbers: same. (Made by gen/mk_kb.py.) -/
import Derived.Test.YtomgiemnkbjebaaCacG
import Derived.Recover
import Derived.Tactics2
import Derived.Laws.Pointers
import Derived.RangeFuncBox
import Derived.OwnWalk
import Derived.Deep.AppendLies
import Derived.Deep.QuietTactic
import Derived.BigQuiet
import Derived.IntWalk
namespace Go.Proofs.Ytomgiemnkbjebaa
set_option maxRecDepth 100000
open Go.ChangeShapes Go.WideShapes Go.ChangeAt Go.RowKit Go.PlainAid

namespace KB
theorem catch_idle (w : World) :
    CallsD Try.prog 48 #[] .returning w fun e u' w' => e = .returned (.tuple #[]) ∧ u' = .returning ∧ w' = w := by
  refine callsD_of_wpS Try.func48 rfl fun c₀ cs hu => ?_
  apply wpS_region
  simp [wpOpsS, go_sem, recoverD, hu, Try.ntmps48]
  cases c₀
  simp_all [bodyPostS, results, Try.results48]
theorem same_any (a b : ByteArray) (w : World) : Calls Try.prog 44 #[.string a, .string b] w fun e w' => e = .returned (.bool (a.toList == b.toList)) ∧ w = w' := by
  have hmf := make_func
  go_enter_defers Try.func44, Try.ntmps44
  go_wp2
  refine leaves_cons (f := 48) (args := #[]) (by simp) (by simp [go_sem]) ?_
  refine (catch_idle _).mono ?_
  rintro e u' w'' ⟨rfl, rfl, rfl⟩
  simp [Leaves, settle, results, Try.results44, go_sem]
end KB
end Go.Proofs.Ytomgiemnkbjebaa
