/- Contracts of package bitmap, and of its reference: room, bit, Has. -/
import Derived.Test.YtkdcfacpapmgoaaRows
import Derived.Test.YtkdcfacpapmgoaaAid
import Derived.Test.YtkdcfacpapmgoaaShBits
import Derived.Deep.RegionWith
import Derived.BigQuiet
import Derived.Deep.QuietTactic
import Derived.IntWalk
namespace Go.Proofs.Ytkdcfacpapmgoaa
set_option maxRecDepth 100000
open Go.ChangeShapes Go.WideShapes Go.ChangeAt Go.RowKit Go.PlainAid

/-- Halved so many times. -/
def hv (c : Int) : Nat → Int | 0 => c | k + 1 => hv c k / 2
/-- The bit k of a byte. -/
def bitB (c : Int) (k : Nat) : Bool := hv c k % 2 == 1
def p2 : Nat → Int | 0 => 1 | k + 1 => 2 * p2 k
/-- A byte with the bit k so. -/
def setB (c : Int) (k : Nat) (b : Bool) : Int := if bitB c k = b then c else if b then c + p2 k else c - p2 k
theorem hv_b (c : Int) (h0 : 0 ≤ c) (h1 : c ≤ 255) : ∀ k, 0 ≤ hv c k ∧ hv c k ≤ 255
  | 0 => ⟨h0, h1⟩
  | k + 1 => by
    have := hv_b c h0 h1 k
    simp only [hv]
    omega
theorem p2_b : ∀ k : Fin 8, 1 ≤ p2 k.val ∧ p2 k.val ≤ 128 := by decide +kernel
theorem and_all : ∀ z : Fin 256, ∀ k : Fin 8, bits .and .u8 (z.val : Int) (p2 k.val) = if bitB z.val k.val then p2 k.val else 0 := by decide +kernel
theorem or_all : ∀ z : Fin 256, ∀ k : Fin 8, bits .or .u8 (z.val : Int) (p2 k.val) = setB z.val k.val true := by decide +kernel
theorem not_all : ∀ z : Fin 256, ∀ k : Fin 8, bits .andNot .u8 (z.val : Int) (p2 k.val) = setB z.val k.val false := by decide +kernel
theorem set_all : ∀ z : Fin 256, ∀ k : Fin 8, ∀ b : Bool, 0 ≤ setB z.val k.val b ∧ setB z.val k.val b ≤ 255 := by decide +kernel
theorem set_bit : ∀ z : Fin 256, ∀ k j : Fin 8, ∀ b : Bool, bitB (setB z.val k.val b) j.val = if j = k then b else bitB z.val j.val := by decide +kernel
theorem set_back : ∀ z : Fin 256, ∀ k : Fin 8, ∀ b : Bool, setB (setB z.val k.val b) k.val (bitB z.val k.val) = z.val := by decide +kernel
theorem byte_fin {c : Int} (h0 : 0 ≤ c) (h1 : c ≤ 255) : ∃ z : Fin 256, c = z.val := ⟨⟨c.toNat, by omega⟩, by simp only; omega⟩

/-- Room for a number. -/
def roomB (s : ByteArray) (i : Int) : Bool := decide (0 ≤ i) && decide (i / 8 < s.size)
/-- A number in a set. -/
def hasB (s : ByteArray) (i : Int) : Bool := roomB s i && bitB (bt s (i / 8).toNat) (i % 8).toNat
theorem room_neg {s : ByteArray} {i : Int} (h : i < 0) : roomB s i = false := by unfold roomB; rw [decide_eq_false (by omega), Bool.false_and]
theorem room_far {s : ByteArray} {i : Int} (h : s.size ≤ i / 8) : roomB s i = false := by unfold roomB; rw [decide_eq_false (p := i / 8 < s.size) (by omega), Bool.and_false]
theorem room_in {s : ByteArray} {i : Int} (h : 0 ≤ i) (h2 : i / 8 < s.size) : roomB s i = true := by unfold roomB; rw [decide_eq_true h, decide_eq_true h2]; rfl
theorem has_no {s : ByteArray} {i : Int} (h : roomB s i = false) : hasB s i = false := by unfold hasB; rw [h, Bool.false_and]
theorem has_in {s : ByteArray} {i : Int} {j k : Nat} (hj : j < s.size) (hq : i / 8 = j) (hr : i % 8 = k) : hasB s i = bitB (bt s j) k := by
  unfold hasB
  rw [room_in (by omega) (by omega), hq, hr]
  rfl
/-- The ways of a number. -/
theorem ways (s : ByteArray) (i : Int) : i < 0 ∨ (0 ≤ i ∧ s.size ≤ i / 8) ∨ ∃ j k : Nat, j < s.size ∧ k < 8 ∧ 0 ≤ i ∧ i / 8 = j ∧ i % 8 = k := by
  by_cases h : i < 0
  · exact .inl h
  · by_cases h2 : s.size ≤ i / 8
    · exact .inr (.inl ⟨by omega, h2⟩)
    · exact .inr (.inr ⟨(i / 8).toNat, (i % 8).toNat, by omega, by omega, by omega, by omega, by omega⟩)

theorem room_any (s : ByteArray) (i : Int) (w : World) (_hs : s.size ≤ 140737488351232) (b : -9223372036854775808 ≤ i) (c : i ≤ 9223372036854775807) :
    Calls Try.prog 21 #[.string s, .int .i64 i] w fun e w' => e = .returned (.bool (roomB s i)) ∧ w = w' := by
  rcases ways s i with h | ⟨h, h2⟩ | ⟨j, k, hj, hk, h, hq, hr⟩
  · have HR := Lib.hid (room_neg (s := s) h)
    go_enter Try.func21, Try.ntmps21
    go_wp2
    go_returns
    exact ⟨by rw [HR.out]; rfl, rfl⟩
  · have HR := Lib.hid (room_far (s := s) h2)
    have hd : decide (i / 8 < (s.size : Int)) = false := decide_eq_false (by omega)
    go_enter Try.func21, Try.ntmps21
    go_wp2
    go_returns
    exact ⟨by rw [HR.out]; rfl, rfl⟩
  · have HR := Lib.hid (room_in (s := s) h (by omega))
    have h2 : i / 8 < s.size := by omega
    clear hq hr
    go_enter Try.func21, Try.ntmps21
    go_wp2
    go_returns
    exact ⟨by rw [HR.out]; rfl, rfl⟩
theorem bit_any (i : Int) (k : Nat) (w : World) (hk : k < 8) (h : 0 ≤ i) (c : i ≤ 9223372036854775807) (hr : i % 8 = k) :
    Calls Try.prog 23 #[.int .i64 i] w fun e w' => e = .returned (.int .u8 (p2 k)) ∧ w = w' := by
  rcases k with _ | _ | _ | _ | _ | _ | _ | _ | k
  iterate 8
    · first
        | have hr2 : i % 8 = 0 := by omega
        | have hr2 : i % 8 = 1 := by omega
        | have hr2 : i % 8 = 2 := by omega
        | have hr2 : i % 8 = 3 := by omega
        | have hr2 : i % 8 = 4 := by omega
        | have hr2 : i % 8 = 5 := by omega
        | have hr2 : i % 8 = 6 := by omega
        | have hr2 : i % 8 = 7 := by omega
      clear hr
      go_enter Try.func23, Try.ntmps23
      go_wp2
      go_returns
      exact ⟨rfl, rfl⟩
  omega
theorem rbit_any (c : Int) (n : Nat) (w : World) (hn : n < 8) (h0 : 0 ≤ c) (h1 : c ≤ 255) :
    Calls Try.prog 24 #[.int .u8 c, .int .i64 n] w fun e w' => e = .returned (.bool (bitB c n)) ∧ w = w' := by
  have HB := Lib.hid (show bitB c n = (hv c n % 2 == 1) from rfl)
  go_enter Try.func24, Try.ntmps24
  go_wp2
  go_loop [0, 5] (fun x i => ∃ k : Nat, k ≤ n ∧ i = .int .i64 k ∧ x = .int .u8 (hv c k)) (fun _ i => n - (intOf i).toNat)
  case atStart => exact ⟨0, Nat.zero_le _, rfl, rfl⟩
  case round =>
    obtain ⟨k, hk, rfl, rfl⟩ := hrel
    have hb := hv_b c h0 h1 k
    have HV := Lib.hid (show hv c (k + 1) = hv c k / 2 from rfl)
    by_cases hlt : k < n
    · go_wp2
      go_round
      case rel => exact ⟨k + 1, by omega, by go_num, by rw [HV.out]⟩
      case measure => simp [intOf]; omega
    · obtain rfl : k = n := by omega
      go_wp2
      go_returns
      exact ⟨by rw [HB.out]; rfl, rfl⟩
end Go.Proofs.Ytkdcfacpapmgoaa
