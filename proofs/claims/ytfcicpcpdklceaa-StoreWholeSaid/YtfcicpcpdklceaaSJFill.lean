/- Contract of journal.fill. -/
import Derived.Test.YtfcicpcpdklceaaSJBlkG
namespace Go.Proofs.Ytfcicpcpdklceaa
set_option maxRecDepth 100000
open Go.ChangeShapes Go.WideShapes Go.ChangeAt Go.RowKit Go.PlainAid

def zero256 : Array Value := Array.replicate 256 (.int .u8 0)
/-- copy(b[:], s). -/
theorem copy_fill {P : Program} (w : World) (dT sT ty elem t : TypeId) (s : ByteArray) (hu : P.underlying dT = some (.slice elem)) (hs : (P.info? elem).map (·.size) = some 1) (hsz : s.size ≤ 256) :
    (Builtin.copy_ #[dT, sT] ty #[.slice (some ⟨w.heap.size, 0, none⟩) 256 256, .string s]).run P (w.alloc (.cells zero256 t)) = .ok (goInt s.size) (w.alloc (.cells (textCells 256 s).toArray t)) := by
  have hlen : (Lib.byteCells s.data.toList).length = s.size := by rw [Lib.byteCells_length, ← Lib.size_eq]
  have hcl : ((Lib.byteCells s.data.toList).take (min s.size 256)).length = s.size := by rw [List.length_take, hlen]; omega
  have e256 : zero256.size = 256 := by simp [zero256]
  have hst := run_storeCells_at P w.heap.size 0 t ((Lib.byteCells s.data.toList).take (min s.size 256)) 0 _ _ (heap_alloc_new w (.cells zero256 t)) (by rw [hcl, e256]; omega) (fun v hv => Lib.byteCells_one _ v (List.mem_of_mem_take hv))
  have hst' := hst
  simp only [Nat.add_zero, hcl, setRow_alloc] at hst'
  have hrow : ∀ l : List Value, l = zero256.toList → (l.take 0 ++ (Lib.byteCells s.data.toList).take (min s.size 256) ++ l.drop (0 + s.size)).toArray = (textCells 256 s).toArray := by
    intro l hl
    have hg : ∀ i, l[i]? = if i < 256 then some (.int .u8 0) else none := fun i => by rw [hl, Array.getElem?_toList, zero256, Array.getElem?_replicate]
    apply congrArg List.toArray
    apply List.ext_getElem?
    intro i
    rw [List.take_zero, List.nil_append, Nat.zero_add]
    by_cases c : i < s.size
    · rw [List.getElem?_append_left (by rw [hcl]; exact c), List.getElem?_take_of_lt (by omega), textCells_get 256 s (by omega), bt_list]
      have hlt : i < s.data.toList.length := by simpa using c
      simp [Lib.byteCells, List.getElem?_eq_getElem hlt, List.getD_eq_getElem?_getD]
    · rw [List.getElem?_append_right (by rw [hcl]; omega), hcl, List.getElem?_drop, show s.size + (i - s.size) = i by omega, hg]
      by_cases c2 : i < 256
      · rw [if_pos c2, textCells_get 256 s c2, bt_end s (by omega)]
      · rw [if_neg c2, List.getElem?_eq_none (by rw [length_textCells]; omega)]
  cases hq : P.info? elem with
  | none => simp [hq] at hs
  | some i =>
    have hi : i.size = 1 := by simpa [hq] using hs
    simp [Builtin.copy_, run_underlying hu, Builtin.lenOf, Builtin.firstCells, sizeOf, typeInfo, hq]
    rw [hrow _ rfl] at hst'
    have hmin : min s.size 256 = s.size := Nat.min_eq_left hsz
    have hmin2 : s.size.min 256 = s.size := hmin
    rw [hmin] at hst'
    rw [hmin2]
    show ((Sem.run P (storeCells ⟨w.heap.size, 0, none⟩ ((Lib.byteCells s.data.toList).take s.size)) _).andThen fun a w' => Result.ok (goInt (s.size : Int)) w') = _
    rw [hst']
    rfl
theorem zero_block (w : World) : (zeroValue 74).run Try.prog w = .ok (.agg zero256) w := (zero_of_info (P := Try.prog) (t := 74) (v := .agg zero256) (n := 256) (by kernel_rfl)).1 w
set_option maxHeartbeats 1000000 in
theorem fill_any (s : ByteArray) (w : World) (h : s.size ≤ 256) :
    Calls Try.prog 57 #[.string s] w fun e w' => e = .returned (.string (filled s)) ∧ Below w.heap.size w w' := by
  have hzero := zero_block
  have hcopy := copy_fill (P := Try.prog) w 78 9 3 5 74 s Try.underlying78 (by kernel_rfl) h
  have hb : Below w.heap.size w (w.alloc (.cells (textCells 256 s).toArray 74)) := by go_grown
  have hconv := conv_text (P := Try.prog) 78 5 9 Try.underlying78 Try.underlying5 Try.underlying9 (w.alloc (.cells (textCells 256 s).toArray 74)) w.heap.size 0 256 256 (filled s) (filled_size s) (by
    have e := rangeAt_whole (heap_alloc_new w (.cells (textCells 256 s).toArray 74))
    intro j v hv
    have hj : j < 256 := by have := (List.getElem?_eq_some_iff.1 hv).1; simpa using this
    rw [textCells_get _ _ hj, filled_bt s hj] at hv
    exact e j v (by rw [textCells_get _ _ hj]; exact hv))
  go_enter Try.func57, Try.ntmps57
  go_wp2_with fail
  go_returns
  exact ⟨rfl, hb⟩
end Go.Proofs.Ytfcicpcpdklceaa
