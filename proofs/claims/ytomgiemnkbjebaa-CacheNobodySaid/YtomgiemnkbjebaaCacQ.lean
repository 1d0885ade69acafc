/- Contracts: no cache, and a cache that no New made. -/
import Derived.Test.YtomgiemnkbjebaaCacO
namespace Go.Proofs.Ytomgiemnkbjebaa
set_option maxRecDepth 100000
open Go.ChangeShapes Go.WideShapes Go.ChangeAt Go.RowKit Go.PlainAid

namespace KA
theorem find_nil (k : Int) (w : World) : Calls Try.prog 32 #[.pointer none, .int .i64 k] w fun e w' => e = .returned (.tuple #[.int .i64 0, .bool false]) ∧ w = w' := by
  go_enter Try.func32, Try.ntmps32
  go_wp2
  go_returns
  exact ⟨rfl, rfl⟩
theorem get_nil (k : Int) (w : World) : Calls Try.prog 17 #[.pointer none, .int .i64 k] w fun e w' => e = .returned (.tuple #[.string ⟨#[]⟩, .bool false]) ∧ w = w' := by
  have hf := find_nil
  go_enter Try.func17, Try.ntmps17
  go_wp2_with fail
  refine (hf k _).mono ?_
  rintro e _ ⟨rfl, rfl⟩
  go_wp2
  go_returns
  exact ⟨rfl, rfl⟩
theorem put_nil (k : Int) (v : ByteArray) (w : World) : Calls Try.prog 16 #[.pointer none, .int .i64 k, .string v] w fun e w' => e = .returned (.tuple #[.int .i64 0, .bool false, .int .i64 3]) ∧ w = w' := by
  go_enter Try.func16, Try.ntmps16
  go_wp2
  go_returns
  exact ⟨rfl, rfl⟩
theorem put_zero_most {p : Nat} {w : World} {v0 : Value} (k : Int) (v : ByteArray) (h : w.heap[p]? = some (.cells #[.int .i64 0, v0] 65 (0, 0))) :
    Calls Try.prog 16 #[.pointer (some ⟨p, 0, none⟩), .int .i64 k, .string v] w fun e w' => e = .returned (.tuple #[.int .i64 0, .bool false, .int .i64 3]) ∧ w = w' := by
  have hc := (box_cells h).1
  clear h
  go_enter Try.func16, Try.ntmps16
  go_wp2
  go_returns
  exact ⟨rfl, rfl⟩
theorem pin_nil (k : Int) (w : World) : Calls Try.prog 18 #[.pointer none, .int .i64 k] w fun e w' => e = .returned (.bool false) ∧ w = w' := by
  have hf := find_nil
  go_enter Try.func18, Try.ntmps18
  go_wp2_with fail
  refine (hf k _).mono ?_
  rintro e _ ⟨rfl, rfl⟩
  go_wp2
  go_returns
  exact ⟨rfl, rfl⟩
theorem unpin_nil (k : Int) (w : World) : Calls Try.prog 23 #[.pointer none, .int .i64 k] w fun e w' => e = .returned (.bool false) ∧ w = w' := by
  have hf := find_nil
  go_enter Try.func23, Try.ntmps23
  go_wp2_with fail
  refine (hf k _).mono ?_
  rintro e _ ⟨rfl, rfl⟩
  go_wp2
  go_returns
  exact ⟨rfl, rfl⟩
theorem drop_nil (k : Int) (w : World) : Calls Try.prog 24 #[.pointer none, .int .i64 k] w fun e w' => e = .returned (.bool false) ∧ w = w' := by
  have hf := find_nil
  go_enter Try.func24, Try.ntmps24
  go_wp2_with fail
  refine (hf k _).mono ?_
  rintro e _ ⟨rfl, rfl⟩
  go_wp2
  go_returns
  exact ⟨rfl, rfl⟩
theorem len_nil (w : World) : Calls Try.prog 12 #[.pointer none] w fun e w' => e = .returned (.int .i64 0) ∧ w = w' := by
  go_enter Try.func12, Try.ntmps12
  go_wp2
  go_returns
  exact ⟨rfl, rfl⟩
theorem mk_all_nil (w : World) :
    Calls Try.prog 30 #[.pointer none] w fun e w' => e = .returned (.func (.func 40) #[] #[.pointer (some ⟨w.heap.size, 0, none⟩)]) ∧ w.alloc (.cells #[.pointer none] 23) = w' := by
  have hmf := make_func
  go_enter Try.func30, Try.ntmps30
  go_wp2
  go_returns
  exact ⟨rfl, rfl⟩
theorem all1_nil (bc : Nat) (f : Value) {w : World} (hc : Boxed w bc 23 (.pointer none)) :
    Calls Try.prog 40 #[f, .pointer (some ⟨bc, 0, none⟩)] w fun e w' => e = .returned (.tuple #[]) ∧ w = w' := by
  have hb := hc.cell
  clear hc
  go_enter Try.func40, Try.ntmps40
  go_wp2
  go_returns
  exact ⟨rfl, rfl⟩
set_option maxHeartbeats 1000000 in
theorem kept_nil (m : Int) (hm : 1 ≤ m) (w : World) :
    Calls Try.prog 14 #[.pointer none, .int .i64 m] w fun e w' => e = .returned (.slice none 0 0) ∧ Below w.heap.size w w' := by
  have hmf := make_func
  have hnil := eq_seq
  have hm2 : ¬ m ≤ 0 := by omega
  go_enter Try.func14, Try.ntmps14
  go_wp2_with fail
  refine (mk_all_nil _).mono ?_
  rintro e _ ⟨rfl, rfl⟩
  have z2 : ((w.alloc (.cells #[.int .i64 m] 3)).alloc (.cells #[.slice none 0 0] 27)).heap.size = w.heap.size + 1 + 1 := by simp
  have z1 : (w.alloc (.cells #[.int .i64 m] 3)).heap.size = w.heap.size + 1 := by simp
  have q1 := heap_alloc_new (w.alloc (.cells #[.int .i64 m] 3)) (.cells #[.slice none 0 0] 27)
  have q2 := heap_alloc_new ((w.alloc (.cells #[.int .i64 m] 3)).alloc (.cells #[.slice none 0 0] 27)) (.cells #[.pointer none] 23)
  rw [z1] at q1
  rw [z2] at q2
  have hv : Boxed (((w.alloc (.cells #[.int .i64 m] 3)).alloc (.cells #[.slice none 0 0] 27)).alloc (.cells #[.pointer none] 23)) (w.heap.size + 1) 27 (.slice none 0 0) := (Below.heap_alloc _ _ _ (heap_in q1)).trans q1
  have HQ := Lib.hid q2
  have hc := hv.cell
  have HB0 : Hid (Below w.heap.size w (((w.alloc (.cells #[.int .i64 m] 3)).alloc (.cells #[.slice none 0 0] 27)).alloc (.cells #[.pointer none] 23))) := Lib.hid (by go_grown)
  clear q1 q2 z1 z2 hv
  go_wp2_with fail
  refine (all1_nil (w.heap.size + 1 + 1) _ HQ.out).mono ?_
  rintro e _ ⟨rfl, rfl⟩
  go_wp2
  go_returns
  exact ⟨rfl, HB0.out⟩
end KA
end Go.Proofs.Ytomgiemnkbjebaa
