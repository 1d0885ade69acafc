/- The chapter's examples hold. -/
import Derived.Test.YthgibogdbbebaaaDoorOpL
namespace Go.Proofs.YthgibogdbbebaaaDoor
set_option maxRecDepth 100000
open Go.ChangeShapes Go.WideShapes Go.ChangeAt Go.RowKit Go.PlainAid Go.Deep

def exA : OpV := ⟨1, 0, 0, 3, 7, 0, 0, true, -1, 0, 5⟩
def exB : OpV := ⟨1, 0, 0, 4, 7, 0, 0, true, -1, 0, 5⟩
def exC : OpV := ⟨2, 0, 0, 3, 7, 0, 0, true, -1, 5, 9⟩
theorem checkA : checkZ exA = 0 := by decide +kernel
theorem checkB : checkZ exB = 33 := by decide +kernel
theorem overAC : overB exA exC = true := by decide +kernel
theorem befAC : befB exA exC = false := by decide +kernel
theorem cellO {w : World} {b : Nat} (a0 a1 a2 a3 a4 a5 a6 a8 a9 a10 : Int) (a7 : Bool) (h : w.heap[b]? = some (.cells #[Value.int .i64 a0, Value.int .i64 a1, Value.int .i64 a2, Value.int .i64 a3, Value.int .i64 a4, Value.int .i64 a5, Value.int .i64 a6, Value.bool a7, Value.int .i64 a8, Value.int .i64 a9, Value.int .i64 a10] 29 (0, 0))) : w.cell? ⟨b, 0, none⟩ = some (Value.int .i64 a0) ∧ w.cell? ⟨b, 1, none⟩ = some (Value.int .i64 a1) ∧ w.cell? ⟨b, 2, none⟩ = some (Value.int .i64 a2) ∧ w.cell? ⟨b, 3, none⟩ = some (Value.int .i64 a3) ∧ w.cell? ⟨b, 4, none⟩ = some (Value.int .i64 a4) ∧ w.cell? ⟨b, 5, none⟩ = some (Value.int .i64 a5) ∧ w.cell? ⟨b, 6, none⟩ = some (Value.int .i64 a6) ∧ w.cell? ⟨b, 7, none⟩ = some (Value.bool a7) ∧ w.cell? ⟨b, 8, none⟩ = some (Value.int .i64 a8) ∧ w.cell? ⟨b, 9, none⟩ = some (Value.int .i64 a9) ∧ w.cell? ⟨b, 10, none⟩ = some (Value.int .i64 a10) :=
  OpAt.cell (o := ⟨a0, a1, a2, a3, a4, a5, a6, a7, a8, a9, a10⟩) h
set_option maxHeartbeats 2000000 in
theorem awake10_any (w : World) (hR : RulesAt w) : Calls Tryd.prog 11 #[] w fun e w' => e = .returned (.bool true) ∧ Below w.heap.size w w' := by
  have hb1 : Below w.heap.size w (w.alloc (.cells #[Value.int .i64 1, Value.int .i64 0, Value.int .i64 0, Value.int .i64 3, Value.int .i64 7, Value.int .i64 0, Value.int .i64 0, Value.bool true, Value.int .i64 (-1), Value.int .i64 0, Value.int .i64 5] 29)) := by go_grown
  have q1 := heap_alloc_new w (.cells #[Value.int .i64 1, Value.int .i64 0, Value.int .i64 0, Value.int .i64 3, Value.int .i64 7, Value.int .i64 0, Value.int .i64 0, Value.bool true, Value.int .i64 (-1), Value.int .i64 0, Value.int .i64 5] 29)
  generalize hW1 : w.alloc (.cells #[Value.int .i64 1, Value.int .i64 0, Value.int .i64 0, Value.int .i64 3, Value.int .i64 7, Value.int .i64 0, Value.int .i64 0, Value.bool true, Value.int .i64 (-1), Value.int .i64 0, Value.int .i64 5] 29) = W1 at hb1 q1
  have z1 : W1.heap.size = w.heap.size + 1 := by rw [← hW1]; simp
  have hb2 : Below W1.heap.size W1 (W1.alloc (.cells #[Value.int .i64 1, Value.int .i64 0, Value.int .i64 0, Value.int .i64 4, Value.int .i64 7, Value.int .i64 0, Value.int .i64 0, Value.bool true, Value.int .i64 (-1), Value.int .i64 0, Value.int .i64 5] 29)) := by go_grown
  have q2 := heap_alloc_new W1 (.cells #[Value.int .i64 1, Value.int .i64 0, Value.int .i64 0, Value.int .i64 4, Value.int .i64 7, Value.int .i64 0, Value.int .i64 0, Value.bool true, Value.int .i64 (-1), Value.int .i64 0, Value.int .i64 5] 29)
  generalize hW2 : W1.alloc (.cells #[Value.int .i64 1, Value.int .i64 0, Value.int .i64 0, Value.int .i64 4, Value.int .i64 7, Value.int .i64 0, Value.int .i64 0, Value.bool true, Value.int .i64 (-1), Value.int .i64 0, Value.int .i64 5] 29) = W2 at hb2 q2
  have z2 : W2.heap.size = w.heap.size + 1 + 1 := by rw [← hW2, World.size_alloc, z1]
  have hb3 : Below W2.heap.size W2 (W2.alloc (.cells #[Value.int .i64 2, Value.int .i64 0, Value.int .i64 0, Value.int .i64 3, Value.int .i64 7, Value.int .i64 0, Value.int .i64 0, Value.bool true, Value.int .i64 (-1), Value.int .i64 5, Value.int .i64 9] 29)) := by go_grown
  have q3 := heap_alloc_new W2 (.cells #[Value.int .i64 2, Value.int .i64 0, Value.int .i64 0, Value.int .i64 3, Value.int .i64 7, Value.int .i64 0, Value.int .i64 0, Value.bool true, Value.int .i64 (-1), Value.int .i64 5, Value.int .i64 9] 29)
  generalize hW3 : W2.alloc (.cells #[Value.int .i64 2, Value.int .i64 0, Value.int .i64 0, Value.int .i64 3, Value.int .i64 7, Value.int .i64 0, Value.int .i64 0, Value.bool true, Value.int .i64 (-1), Value.int .i64 5, Value.int .i64 9] 29) = W3 at hb3 q3
  rw [z1] at q2
  rw [z2] at q3
  have QA := Lib.hid ((hb2.on hb3).block _ (heap_inO q1) |>.trans q1)
  have QB := Lib.hid (hb3.block _ (heap_inO q2) |>.trans q2)
  have QC := Lib.hid q3
  have HB := Lib.hid (hb1.on (hb2.on hb3))
  have HR := Lib.hid (hR.on HB.out)
  have HW1 := Lib.hid hW1
  have HW2 := Lib.hid hW2
  have HW3 := Lib.hid hW3
  clear hb1 hb2 hb3 q1 q2 q3 z1 z2 hR hW1 hW2 hW3
  go_enter Tryd.func11, Tryd.ntmps11
  go_wp2_with fail
  rw [HW1.out, HW2.out, HW3.out]
  refine (check_any exA _ HR.out).mono ?_
  rintro _ w1 ⟨rfl, hb⟩
  rw [checkA]
  have QA1 := Lib.hid ((hb.block _ (heap_inO QA.out)).trans QA.out)
  have QC1 := Lib.hid ((hb.block _ (heap_inO QC.out)).trans QC.out)
  have HR1 := Lib.hid (HR.out.on hb)
  have HB1 := Lib.hid (HB.out.on hb)
  obtain ⟨k0, k1, k2, k3, k4, k5, k6, k7, k8, k9, k10⟩ := cellO _ _ _ _ _ _ _ _ _ _ _ ((hb.block _ (heap_inO QB.out)).trans QB.out)
  clear hb
  go_wp2_with fail
  clear k0 k1 k2 k3 k4 k5 k6 k7 k8 k9 k10
  refine (check_any exB _ HR1.out).mono ?_
  rintro _ w2 ⟨rfl, hb⟩
  rw [checkB]
  have QA2 := Lib.hid ((hb.block _ (heap_inO QA1.out)).trans QA1.out)
  have QC2 := Lib.hid ((hb.block _ (heap_inO QC1.out)).trans QC1.out)
  have HB2 := Lib.hid (HB1.out.on hb)
  obtain ⟨k0, k1, k2, k3, k4, k5, k6, k7, k8, k9, k10⟩ := cellO _ _ _ _ _ _ _ _ _ _ _ QA2.out
  obtain ⟨j0, j1, j2, j3, j4, j5, j6, j7, j8, j9, j10⟩ := cellO _ _ _ _ _ _ _ _ _ _ _ QC2.out
  clear hb
  go_wp2_with fail
  clear k0 k1 k2 k3 k4 k5 k6 k7 k8 k9 k10 j0 j1 j2 j3 j4 j5 j6 j7 j8 j9 j10
  refine (overlap_any exA exC _).mono ?_
  rintro _ w3 ⟨rfl, hb⟩
  rw [overAC]
  have HB3 := Lib.hid (HB2.out.on hb)
  obtain ⟨k0, k1, k2, k3, k4, k5, k6, k7, k8, k9, k10⟩ := cellO _ _ _ _ _ _ _ _ _ _ _ ((hb.block _ (heap_inO QA2.out)).trans QA2.out)
  obtain ⟨j0, j1, j2, j3, j4, j5, j6, j7, j8, j9, j10⟩ := cellO _ _ _ _ _ _ _ _ _ _ _ ((hb.block _ (heap_inO QC2.out)).trans QC2.out)
  clear hb
  go_wp2_with fail
  clear k0 k1 k2 k3 k4 k5 k6 k7 k8 k9 k10 j0 j1 j2 j3 j4 j5 j6 j7 j8 j9 j10
  refine (before_any exA exC _).mono ?_
  rintro _ w4 ⟨rfl, hb⟩
  rw [befAC]
  have HB4 := Lib.hid (HB3.out.on hb)
  clear hb
  go_wp2_with fail
  go_returns
  exact ⟨rfl, HB4.out⟩
end Go.Proofs.YthgibogdbbebaaaDoor
