/- Package store: Open of no disk. -/
import Derived.Test.YtfcicpcpdklceaaSW
namespace Go.Proofs.Ytfcicpcpdklceaa
set_option maxRecDepth 100000
open Go.ChangeShapes Go.WideShapes Go.ChangeAt Go.RowKit Go.PlainAid Go.ChangeMaps Go.MapKept
open Go.Sort (grow)

set_option maxHeartbeats 1000000 in
theorem last_no (w : World) : Calls Try.prog 31 #[.pointer none] w fun e w' => e = .returned (.tuple #[.agg #[.int .u64 0, .int .i64 0, .int .i64 0, .int .i64 0], .int .i64 3]) ∧ Below w.heap.size w w' := by
  have q1 := heap_alloc_new (w.alloc (.cells #[.int .u64 0, .int .i64 0, .int .i64 0, .int .i64 0] 55)) (.cells #[.int .u64 0, .int .i64 0, .int .i64 0, .int .i64 0] 55)
  have q0 := heap_alloc2_old w (.cells #[.int .u64 0, .int .i64 0, .int .i64 0, .int .i64 0] 55) (.cells #[.int .u64 0, .int .i64 0, .int .i64 0, .int .i64 0] 55)
  rw [show (w.alloc (.cells #[.int .u64 0, .int .i64 0, .int .i64 0, .int .i64 0] 55)).heap.size = w.heap.size + 1 by simp] at q1
  have hb2 : Below w.heap.size w ((w.alloc (.cells #[.int .u64 0, .int .i64 0, .int .i64 0, .int .i64 0] 55)).alloc (.cells #[.int .u64 0, .int .i64 0, .int .i64 0, .int .i64 0] 55)) := by go_grown
  go_enter Try.func31, Try.ntmps31
  go_wp2_with fail
  generalize (w.alloc (.cells #[.int .u64 0, .int .i64 0, .int .i64 0, .int .i64 0] 55)).alloc (.cells #[.int .u64 0, .int .i64 0, .int .i64 0, .int .i64 0] 55) = W0 at *
  have HT : Hid (Two w W0 none) := Lib.hid ⟨hb2, q0, q1⟩
  clear q0 q1 hb2
  have hnd : NoDisk W0 (.pointer none) := .inl rfl
  ((with_reducible refine (len_no W0 (.pointer none) hnd).mono ?_); rintro e _ ⟨rfl, rfl⟩)
  go_wp2_with fail
  refine wp_loop_rounds 1 ?_
  rw [rounds_succ]
  go_wp2_with fail
  ((with_reducible refine (read_no W0 (.pointer none) 0 hnd).mono ?_); rintro e _ ⟨rfl, rfl⟩)
  obtain ⟨z0, z1, z2, z3, f0, f1, f2, f3⟩ := HT.out.cellsA
  have hbl := HT.out.four (.int .u64 0) (.int .i64 0) (.int .i64 0) (.int .i64 0)
  obtain ⟨a0, a1, a2, a3⟩ := four_read HT.out.boxA (.int .u64 0) (.int .i64 0) (.int .i64 0) (.int .i64 0)
  have HA := Lib.hid (And.intro hbl (And.intro a0 (And.intro a1 (And.intro a2 a3))))
  clear hbl a0 a1 a2 a3
  go_wp2
  obtain ⟨hbl, a0, a1, a2, a3⟩ := HA.out
  generalize ((((W0.setCell ⟨w.heap.size, 0, none⟩ (.int .u64 0)).setCell ⟨w.heap.size, 1, none⟩ (.int .i64 0)).setCell ⟨w.heap.size, 2, none⟩ (.int .i64 0)).setCell ⟨w.heap.size, 3, none⟩ (.int .i64 0)) = W5 at *
  refine bodyPost_ret (v := .tuple #[.agg #[.int .u64 0, .int .i64 0, .int .i64 0, .int .i64 0], .int .i64 3]) (by simp [results, Try.results31, go_sem, a0, a1, a2, a3]) rfl ⟨rfl, hbl⟩
set_option maxHeartbeats 1000000 in
theorem open_no (w : World) : Calls Try.prog 15 #[.pointer none] w fun e w' => e = .returned (.tuple #[.pointer none, .int .i64 3]) ∧ Below w.heap.size w w' := by
  go_enter Try.func15, Try.ntmps15
  go_wp2_with fail
  refine (last_no w).mono ?_
  rintro e w1 ⟨rfl, hb1⟩
  have HB := Lib.hid (hb1.on (show Below w1.heap.size w1 (w1.alloc (.cells #[.int .u64 0, .int .i64 0, .int .i64 0, .int .i64 0] 55)) by go_grown))
  clear hb1
  go_wp2
  go_returns
  exact ⟨rfl, HB.out⟩
end Go.Proofs.Ytfcicpcpdklceaa
