import Derived.Test.YtcjfnfdinhbdlaaGreatDoorGas
import Derived.Laws.EntriesVeiled
namespace Go.Proofs.YtcjfnfdinhbdlaaGreatDoor
set_option maxRecDepth 100000
open Go.ChangeShapes Go.WideShapes Go.ChangeAt Go.RowKit Go.PlainAid
attribute [local go_sem ↓ high] app_intM
theorem eq_yield (fn : Fn) (a b : Array Value) (w : World) : (binOp .eql 164 (.func fn a b) .nilFunc).run Tryz.prog w = .ok (.bool false) w := by kernel_rfl
theorem make_funcM (fn : Fn) (a b : Array Value) (w : World) : (Instr.makeFunc fn a b).run Tryz.prog w = .ok (.func fn a b) w := rfl
end Go.Proofs.YtcjfnfdinhbdlaaGreatDoor
namespace Go.Proofs.YtcjfnfdinhbdlaaGreatDoor
set_option maxRecDepth 100000
open Go.ChangeShapes Go.WideShapes Go.ChangeAt Go.RowKit Go.PlainAid
attribute [local go_sem ↓ high] app_intM
theorem mk_each (s : ByteArray) (w : World) :
    Calls Tryz.prog 55 #[.string s] w fun e w' => e = .returned (.func (.func 102) #[] #[.pointer (some ⟨w.heap.size, 0, none⟩)]) ∧ w.alloc (.cells #[.string s] 9) = w' := by
  have hmf := make_funcM
  go_enter Tryz.func55, Tryz.ntmps55
  go_wp2
  go_returns
  exact ⟨rfl, rfl⟩
end Go.Proofs.YtcjfnfdinhbdlaaGreatDoor
