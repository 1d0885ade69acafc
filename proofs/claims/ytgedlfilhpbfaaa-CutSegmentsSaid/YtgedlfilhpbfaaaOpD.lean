/- Contracts of ruled, Check, Before and Overlap. -/
import Derived.Test.YtgedlfilhpbfaaaOpC
namespace Go.Proofs.Ytgedlfilhpbfaaa
set_option maxRecDepth 100000
open Go.ChangeShapes Go.WideShapes Go.ChangeAt Go.RowKit Go.PlainAid

theorem heap_inO {w : World} {k : Nat} {o : Obj} (h : w.heap[k]? = some o) : k < w.heap.size := (Array.getElem?_eq_some_iff.1 h).1
/-- An operation in a block of its own. -/
def OpAt (w : World) (b : Nat) (o : OpV) : Prop := w.heap[b]? = some (.cells #[Value.int .i64 o.id, Value.int .i64 o.proc, Value.int .i64 o.obj, Value.int .i64 o.kind, Value.int .i64 o.meth, Value.int .i64 o.arg, Value.int .i64 o.sec, Value.bool o.done, Value.int .i64 o.res, Value.int .i64 o.inv, Value.int .i64 o.ret] 35 (0, 0))
theorem OpAt.cell {w : World} {b : Nat} {o : OpV} (h : OpAt w b o) : w.cell? ⟨b, 0, none⟩ = some (.int .i64 o.id) ∧ w.cell? ⟨b, 1, none⟩ = some (.int .i64 o.proc) ∧ w.cell? ⟨b, 2, none⟩ = some (.int .i64 o.obj) ∧ w.cell? ⟨b, 3, none⟩ = some (.int .i64 o.kind) ∧ w.cell? ⟨b, 4, none⟩ = some (.int .i64 o.meth) ∧
    w.cell? ⟨b, 5, none⟩ = some (.int .i64 o.arg) ∧ w.cell? ⟨b, 6, none⟩ = some (.int .i64 o.sec) ∧ w.cell? ⟨b, 7, none⟩ = some (.bool o.done) ∧ w.cell? ⟨b, 8, none⟩ = some (.int .i64 o.res) ∧ w.cell? ⟨b, 9, none⟩ = some (.int .i64 o.inv) ∧ w.cell? ⟨b, 10, none⟩ = some (.int .i64 o.ret) := by
  unfold OpAt at h
  refine ⟨?_, ?_, ?_, ?_, ?_, ?_, ?_, ?_, ?_, ?_, ?_⟩ <;> (rw [cell_of_row _ _ _ _ _ _ h]; rfl)
theorem OpAt.on {w w' : World} {b : Nat} {o : OpV} (h : OpAt w b o) (hb : Below w.heap.size w w') : OpAt w' b o := (hb.block b (heap_inO h)).trans h
theorem OpAt.box (w : World) (o : OpV) : OpAt (w.alloc (.cells #[Value.int .i64 o.id, Value.int .i64 o.proc, Value.int .i64 o.obj, Value.int .i64 o.kind, Value.int .i64 o.meth, Value.int .i64 o.arg, Value.int .i64 o.sec, Value.bool o.done, Value.int .i64 o.res, Value.int .i64 o.inv, Value.int .i64 o.ret] 35)) w.heap.size o := heap_alloc_new _ _
theorem resB_no {o : OpV} (h : o.done = false) (low high : Int) : resB o low high = (o.res == 0) := by unfold resB; rw [h]; rfl
theorem resB_yes {o : OpV} (h : o.done = true) (low high : Int) : resB o low high = inB o.res low high := by unfold resB; rw [h]; rfl
end Go.Proofs.Ytgedlfilhpbfaaa
