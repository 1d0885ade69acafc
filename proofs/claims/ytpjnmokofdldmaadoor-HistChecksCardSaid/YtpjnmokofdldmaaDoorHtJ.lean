/- Package hist: edits in memory; refuse, edited. -/
import Derived.Test.YtpjnmokofdldmaaDoorHtC
import Derived.Deep.RegionHeld3
namespace Go.Proofs.YtpjnmokofdldmaaDoor
set_option maxRecDepth 100000
open Go.ChangeShapes Go.WideShapes Go.ChangeAt Go.RowKit Go.PlainAid Go.Deep

attribute [local go_sem ↓ high] load_op store_o
/-- An edit in a block of its own. -/
def EdAt (w : World) (b : Nat) (k : Int) (o : OpV) : Prop := w.heap[b]? = some (.cells #[Value.int .i64 k, Value.int .i64 o.id, Value.int .i64 o.proc, Value.int .i64 o.obj, Value.int .i64 o.kind, Value.int .i64 o.meth, Value.int .i64 o.arg, Value.int .i64 o.sec, Value.bool o.done, Value.int .i64 o.res, Value.int .i64 o.inv, Value.int .i64 o.ret] 36 (0, 0))
theorem EdAt.on {w w' : World} {b : Nat} {k : Int} {o : OpV} (h : EdAt w b k o) (hb : Below w.heap.size w w') : EdAt w' b k o := (hb.block b (heap_inO h)).trans h
theorem EdAt.box (w : World) (k : Int) (o : OpV) : EdAt (w.alloc (.cells #[Value.int .i64 k, Value.int .i64 o.id, Value.int .i64 o.proc, Value.int .i64 o.obj, Value.int .i64 o.kind, Value.int .i64 o.meth, Value.int .i64 o.arg, Value.int .i64 o.sec, Value.bool o.done, Value.int .i64 o.res, Value.int .i64 o.inv, Value.int .i64 o.ret] 36)) w.heap.size k o := heap_alloc_new _ _
theorem EdAt.cells {w : World} {b : Nat} {k : Int} {o : OpV} (h : EdAt w b k o) : ∀ i, w.cell? ⟨b, i, none⟩ = (#[Value.int .i64 k, Value.int .i64 o.id, Value.int .i64 o.proc, Value.int .i64 o.obj, Value.int .i64 o.kind, Value.int .i64 o.meth, Value.int .i64 o.arg, Value.int .i64 o.sec, Value.bool o.done, Value.int .i64 o.res, Value.int .i64 o.inv, Value.int .i64 o.ret])[i]? := fun _ => cell_of_row _ _ _ _ _ _ h
theorem EdAt.cell {w : World} {b : Nat} {k : Int} {o : OpV} (h : EdAt w b k o) : w.cell? ⟨b, 0, none⟩ = some (.int .i64 k) ∧ w.cell? ⟨b, 1, none⟩ = some (.int .i64 o.id) ∧ w.cell? ⟨b, 5, none⟩ = some (.int .i64 o.meth) ∧ w.cell? ⟨b, 6, none⟩ = some (.int .i64 o.arg) ∧ w.cell? ⟨b, 7, none⟩ = some (.int .i64 o.sec) ∧
    w.cell? ⟨b, 9, none⟩ = some (.int .i64 o.res) ∧ w.cell? ⟨b, 10, none⟩ = some (.int .i64 o.inv) ∧ w.cell? ⟨b, 11, none⟩ = some (.int .i64 o.ret) := by
  refine ⟨?_, ?_, ?_, ?_, ?_, ?_, ?_, ?_⟩ <;> (rw [h.cells]; rfl)
/-- Its operation, loaded. -/
theorem EdAt.loadO {w : World} {b : Nat} {k : Int} {o : OpV} (h : EdAt w b k o) : (loadS 28 (.pointer (some ⟨b, 1, none⟩))).run Tryd.prog w = .ok (Value.agg #[Value.int .i64 o.id, Value.int .i64 o.proc, Value.int .i64 o.obj, Value.int .i64 o.kind, Value.int .i64 o.meth, Value.int .i64 o.arg, Value.int .i64 o.sec, Value.bool o.done, Value.int .i64 o.res, Value.int .i64 o.inv, Value.int .i64 o.ret]) w :=
  load_cellsO (p := 1) (fun j u hj => by rw [h.cells]; simpa [Nat.add_comm] using hj)
theorem load_ed (v : Value) : Instr.loadAt 36 v = loadS 36 v := rfl
theorem EdAt.load {w : World} {b : Nat} {k : Int} {o : OpV} (h : EdAt w b k o) : (loadS 36 (.pointer (some ⟨b, 0, none⟩))).run Tryd.prog w = .ok (Value.agg #[Value.int .i64 k, Value.int .i64 o.id, Value.int .i64 o.proc, Value.int .i64 o.obj, Value.int .i64 o.kind, Value.int .i64 o.meth, Value.int .i64 o.arg, Value.int .i64 o.sec, Value.bool o.done, Value.int .i64 o.res, Value.int .i64 o.inv, Value.int .i64 o.ret]) w :=
  run_loadAt_mid w b 0 36 (#[Value.int .i64 k, Value.int .i64 o.id, Value.int .i64 o.proc, Value.int .i64 o.obj, Value.int .i64 o.kind, Value.int .i64 o.meth, Value.int .i64 o.arg, Value.int .i64 o.sec, Value.bool o.done, Value.int .i64 o.res, Value.int .i64 o.inv, Value.int .i64 o.ret]).toList _ (fun j v hj => by rw [h.cells, Nat.zero_add, ← hj]; simp) Tryd.underlying36 rfl (by kernel_rfl)
attribute [local go_sem ↓ high] load_ed
/-- The two boxes of results, stored into. -/
theorem put_two {B : Nat} {w W : World} {b1 b2 : Nat} {o1 o2 : OpV} (h1 : OpAt W b1 o1) (h2 : OpAt W b2 o2) (hne : b1 ≠ b2) (hb1 : B ≤ b1) (hb2 : B ≤ b2) (hB : Below B w W) (hw : B ≤ w.heap.size) (x y : OpV) :
    ∃ W5 W6, (storeS 28 (.pointer (some ⟨b1, 0, none⟩)) (Value.agg #[Value.int .i64 x.id, Value.int .i64 x.proc, Value.int .i64 x.obj, Value.int .i64 x.kind, Value.int .i64 x.meth, Value.int .i64 x.arg, Value.int .i64 x.sec, Value.bool x.done, Value.int .i64 x.res, Value.int .i64 x.inv, Value.int .i64 x.ret])).run Tryd.prog W = .ok () W5 ∧ (storeS 28 (.pointer (some ⟨b2, 0, none⟩)) (Value.agg #[Value.int .i64 y.id, Value.int .i64 y.proc, Value.int .i64 y.obj, Value.int .i64 y.kind, Value.int .i64 y.meth, Value.int .i64 y.arg, Value.int .i64 y.sec, Value.bool y.done, Value.int .i64 y.res, Value.int .i64 y.inv, Value.int .i64 y.ret])).run Tryd.prog W5 = .ok () W6 ∧ OpAt W6 b1 x ∧ OpAt W6 b2 y ∧ Below B w W6 ∧ (∀ k, k ≠ b1 → k ≠ b2 → W6.heap[k]? = W.heap[k]?) ∧ W6.heap.size = W.heap.size := by
  obtain ⟨W5, s5, q5, B5, k5, z5⟩ := put_box h1 hb1 hB hw x
  obtain ⟨W6, s6, q6, B6, k6, z6⟩ := put_box (w := w) (show OpAt W5 b2 o2 from (k5 b2 (fun e => hne e.symm)).trans h2) hb2 B5 hw y
  exact ⟨W5, W6, s5, s6, (k6 b1 hne).trans q5, q6, B6, fun k n1 n2 => (k6 k n2).trans (k5 k n1), z6.trans z5⟩
set_option maxHeartbeats 1000000 in
theorem refuse_any (e : Int) (w : World) : Calls Tryd.prog 22 #[.int .i64 e] w fun r w' => r = .returned (.tuple #[.slice none 0 0, Value.agg #[Value.int .i64 0, Value.int .i64 0, Value.int .i64 0, Value.int .i64 0, Value.int .i64 0, Value.int .i64 0, Value.int .i64 0, Value.bool false, Value.int .i64 0, Value.int .i64 0, Value.int .i64 0], Value.agg #[Value.int .i64 0, Value.int .i64 0, Value.int .i64 0, Value.int .i64 0, Value.int .i64 0, Value.int .i64 0, Value.int .i64 0, Value.bool false, Value.int .i64 0, Value.int .i64 0, Value.int .i64 0], .int .i64 e]) ∧ Below w.heap.size w w' := by
  have hb0 : Below w.heap.size w (w.alloc (.cells #[Value.int .i64 0, Value.int .i64 0, Value.int .i64 0, Value.int .i64 0, Value.int .i64 0, Value.int .i64 0, Value.int .i64 0, Value.bool false, Value.int .i64 0, Value.int .i64 0, Value.int .i64 0] 28)) := by go_grown
  have q0 : OpAt (w.alloc (.cells #[Value.int .i64 0, Value.int .i64 0, Value.int .i64 0, Value.int .i64 0, Value.int .i64 0, Value.int .i64 0, Value.int .i64 0, Value.bool false, Value.int .i64 0, Value.int .i64 0, Value.int .i64 0] 28)) w.heap.size zeroV := heap_alloc_new w _
  have z0 : (w.alloc (.cells #[Value.int .i64 0, Value.int .i64 0, Value.int .i64 0, Value.int .i64 0, Value.int .i64 0, Value.int .i64 0, Value.int .i64 0, Value.bool false, Value.int .i64 0, Value.int .i64 0, Value.int .i64 0] 28)).heap.size = w.heap.size + 1 := World.size_alloc _ _
  obtain ⟨W0, hW0⟩ : ∃ W, w.alloc (.cells #[Value.int .i64 0, Value.int .i64 0, Value.int .i64 0, Value.int .i64 0, Value.int .i64 0, Value.int .i64 0, Value.int .i64 0, Value.bool false, Value.int .i64 0, Value.int .i64 0, Value.int .i64 0] 28) = W := ⟨_, rfl⟩
  rw [hW0] at hb0 q0 z0
  have hb1 : Below W0.heap.size W0 (W0.alloc (.cells #[Value.int .i64 0, Value.int .i64 0, Value.int .i64 0, Value.int .i64 0, Value.int .i64 0, Value.int .i64 0, Value.int .i64 0, Value.bool false, Value.int .i64 0, Value.int .i64 0, Value.int .i64 0] 28)) := by go_grown
  have q1 : OpAt (W0.alloc (.cells #[Value.int .i64 0, Value.int .i64 0, Value.int .i64 0, Value.int .i64 0, Value.int .i64 0, Value.int .i64 0, Value.int .i64 0, Value.bool false, Value.int .i64 0, Value.int .i64 0, Value.int .i64 0] 28)) W0.heap.size zeroV := heap_alloc_new W0 _
  obtain ⟨W1, hW1⟩ : ∃ W, W0.alloc (.cells #[Value.int .i64 0, Value.int .i64 0, Value.int .i64 0, Value.int .i64 0, Value.int .i64 0, Value.int .i64 0, Value.int .i64 0, Value.bool false, Value.int .i64 0, Value.int .i64 0, Value.int .i64 0] 28) = W := ⟨_, rfl⟩
  rw [hW1] at hb1 q1
  rw [z0] at q1
  obtain ⟨W5, W6, s5, s6, q5, q6, b6, _, _⟩ := put_two (q0.on hb1) q1 (by omega) (Nat.le_refl _) (Nat.le_succ _) (hb0.on hb1) (Nat.le_refl _) zeroV zeroV
  dsimp only [zeroV] at s5 s6
  have Q5 := Lib.hid q5
  have Q6 := Lib.hid q6
  have HB := Lib.hid b6
  clear hb0 hb1 q0 q1 q5 q6 b6
  go_enter Tryd.func22, Tryd.ntmps22
  go_wp2_with fail
  have r5 := cells11 Q5.out
  have r6 := cells11 Q6.out
  refine bodyPost_ret (v := .tuple #[.slice none 0 0, Value.agg #[Value.int .i64 zeroV.id, Value.int .i64 zeroV.proc, Value.int .i64 zeroV.obj, Value.int .i64 zeroV.kind, Value.int .i64 zeroV.meth, Value.int .i64 zeroV.arg, Value.int .i64 zeroV.sec, Value.bool zeroV.done, Value.int .i64 zeroV.res, Value.int .i64 zeroV.inv, Value.int .i64 zeroV.ret], Value.agg #[Value.int .i64 zeroV.id, Value.int .i64 zeroV.proc, Value.int .i64 zeroV.obj, Value.int .i64 zeroV.kind, Value.int .i64 zeroV.meth, Value.int .i64 zeroV.arg, Value.int .i64 zeroV.sec, Value.bool zeroV.done, Value.int .i64 zeroV.res, Value.int .i64 zeroV.inv, Value.int .i64 zeroV.ret], .int .i64 e]) (by simp [results, Tryd.results22, go_sem, r5, r6]) rfl ?_
  exact ⟨rfl, HB.out⟩
/-- What edited answers: the operation, and a fault. -/
def editC (k : Int) (was e : OpV) : OpV × Int := if Hs.stateB HL k was = true then (zeroV, 8) else (updZ k was e, 0)
end Go.Proofs.YtpjnmokofdldmaaDoor
