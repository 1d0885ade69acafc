/- Contract of the reference's Filled. -/
import Derived.Test.YtfcicpcpdklceaaDisk
import Derived.Test.YtfcicpcpdklceaaSJHead
namespace Go.Proofs.Ytfcicpcpdklceaa
set_option maxRecDepth 100000
open Go.ChangeShapes Go.WideShapes Go.ChangeAt Go.RowKit Go.PlainAid

/-- n bytes 0. -/
def zeroes (n : Nat) : ByteArray := ofFn n fun _ => 0
theorem zeroes_size (n : Nat) : (zeroes n).size = n := ofFn_size _ _
theorem zeroes_bt (n k : Nat) : bt (zeroes n) k = 0 := by
  by_cases h : k < n
  · exact ofFn_bt n (fun _ => 0) h (Int.le_refl _) (by decide)
  · exact bt_end _ (by rw [zeroes_size]; omega)
theorem filled_cat {s : ByteArray} (h : s.size ≤ 256) : s ++ zeroes (256 - s.size) = filled s := by
  have e : (s ++ zeroes (256 - s.size)).size = 256 := by rw [ByteArray.size_append, zeroes_size]; omega
  refine text_ext (by rw [e, filled_size]) fun k hk => ?_
  rw [filled_bt s (by omega), bt_append]
  split
  · rfl
  · rw [zeroes_bt, bt_end s (by omega)]
set_option maxHeartbeats 400000 in
theorem filled_any (s : ByteArray) (w : World) (h : s.size ≤ 256) :
    Calls Try.prog 19 #[.string s] w fun e w' => e = .returned (.string (filled s)) ∧ Below w.heap.size w w' := by
  have hm := make_bytes (P := Try.prog) 78 5 Try.underlying78 (by kernel_rfl) w (256 - s.size) (by omega)
  obtain ⟨w1, hr, hrow⟩ := hm
  have e : ((256 - s.size : Nat) : Int) = 256 - (s.size : Int) := by omega
  rw [e] at hr
  have hconv := conv_text (P := Try.prog) 78 5 9 Try.underlying78 Try.underlying5 Try.underlying9 w1 w.heap.size 0 (256 - s.size) (256 - s.size) (zeroes (256 - s.size)) (zeroes_size _) (fun j v hv => by
    have hj : j < 256 - s.size := by have := (List.getElem?_eq_some_iff.1 hv).1; simpa using this
    rw [textCells_get _ _ hj, zeroes_bt] at hv
    rw [Nat.zero_add, hrow.cells j hj, ← hv])
  have hf := filled_cat h
  have hb := hrow.below
  have HF := Lib.hid hf
  have hz : (zeroes (256 - s.size)).size ≤ 256 := by rw [zeroes_size]; omega
  clear hrow hf e
  go_enter Try.func19, Try.ntmps19
  go_wp2
  go_returns
  refine ⟨?_, hb⟩
  rw [← HF.out]
  rfl
end Go.Proofs.Ytfcicpcpdklceaa
