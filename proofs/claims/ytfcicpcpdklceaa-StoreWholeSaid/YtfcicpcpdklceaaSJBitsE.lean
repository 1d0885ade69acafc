/- Contracts: Sum, Not, and the reference's. -/
import Derived.Test.YtfcicpcpdklceaaRows
import Derived.Test.YtfcicpcpdklceaaAid
namespace Go.Proofs.Ytfcicpcpdklceaa
set_option maxRecDepth 100000
open Go.ChangeShapes Go.WideShapes Go.ChangeAt Go.RowKit Go.PlainAid

/-- The two halves of a text's sum, behind its first bytes. -/
def sA (s : ByteArray) : Nat → Int | 0 => 1 | k + 1 => (sA s k + bt s k) % 65521
def sB (s : ByteArray) : Nat → Int | 0 => 0 | k + 1 => (sB s k + sA s (k + 1)) % 65521
/-- The sum of a text. -/
def sumZ (s : ByteArray) : Int := 65536 * sB s s.size + sA s s.size
theorem sA_b (s : ByteArray) (k : Nat) : 0 ≤ sA s k ∧ sA s k ≤ 65520 := by
  cases k with
  | zero => simp [sA]
  | succ k => simp only [sA]; omega
theorem sB_b (s : ByteArray) (k : Nat) : 0 ≤ sB s k ∧ sB s k ≤ 65520 := by
  cases k with
  | zero => simp [sB]
  | succ k => simp only [sB]; omega

/-- A text with every bit turned. -/
def notS (s : ByteArray) : ByteArray := strOfNums ((List.range s.size).map fun j => 255 - bt s j)

theorem not_list (s : ByteArray) : (List.range s.size).map (fun j => if j < s.size then 255 - bt s j else bt s j) = (List.range s.size).map fun j => 255 - bt s j :=
  List.map_congr_left fun _ hj => if_pos (List.mem_range.1 hj)
theorem not_list0 (s : ByteArray) : (List.range s.size).map (fun j => if j < s.size then 255 - bt s j else 0) = (List.range s.size).map fun j => 255 - bt s j :=
  List.map_congr_left fun _ hj => if_pos (List.mem_range.1 hj)
set_option maxHeartbeats 400000 in
theorem not_any (s : ByteArray) (w : World) (hs : s.size ≤ maxLen) :
    Calls Try.prog 59 #[.string s] w fun e w' => e = .returned (.string (notS s)) ∧ Below w.heap.size w w' := by
  unfold maxLen at hs
  have HZ := Lib.hid (show notS s = strOfNums ((List.range s.size).map fun j => 255 - bt s j) from rfl)
  have HK := Lib.hid (fun w => Lib.run_convert_string_bytes (P := Try.prog) w 9 78 5 s Try.underlying9 Try.underlying78 Try.underlying5)
  go_enter Try.func59, Try.ntmps59
  go_wp2
  rw [HK.out]
  have hb1 := RowI.ofBytes w 5 s
  generalize Lib.bytesWorld w 5 s = w1 at *
  go_wp2
  go_loopw [10] (fun i wr => ∃ k : Nat, k ≤ s.size ∧ i = .int .i64 k ∧ RowI w s.size (fun j => if j < k then 255 - bt s j else bt s j) wr) (fun i _ => s.size - (intOf i).toNat)
  case atStart => exact ⟨0, Nat.zero_le _, rfl, hb1⟩
  case round =>
    obtain ⟨k, hk, rfl, hi⟩ := hrel
    clear hb1
    by_cases hlt : k < s.size
    · have hc := hi.cells k hlt
      rw [if_neg (Nat.lt_irrefl k)] at hc
      have hf := hi.thawed k hlt
      have hx := u8_not (bt s k) (bt_nonneg s k) (by have := bt_le s k; omega)
      go_wp2
      go_roundw
      case rel => exact ⟨k + 1, by omega, by go_num, by have hh := hi.set (g := fun j => if j < k + 1 then 255 - bt s j else bt s j) hlt (255 - bt s k) (if_pos (by omega)) (fun j _ hj => by by_cases c : j < k <;> simp [c] <;> omega); rw [← hx] at hh; exact hh⟩
      case measure => simp [intOf]; omega
    · obtain rfl : k = s.size := by omega
      have HCS := Lib.hid (row_str hi)
      go_wp2
      rw [run_convert_bytes_arg wr 78 5 Try.underlying78 Try.underlying5 _ 0 _ _ _ (len_range s.size _) HCS.out 9 Try.underlying9]
      go_wp2
      go_returns
      exact ⟨by rw [HZ.out, ← not_list]; rfl, hi.below⟩

theorem infoB : (Try.prog.info? 5).map (fun i => (i.zero, i.size, i.bytes)) = some (some (.int .u8 0), 1, 1) := by kernel_rfl

end Go.Proofs.Ytfcicpcpdklceaa
