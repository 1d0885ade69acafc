/- The chapter's examples of keys. -/
import Derived.Test.YtbfmadafiaofiaaKyD
import Derived.Test.YtbfmadafiaofiaaKyE
import Derived.Laws.Cover1
namespace Go.Proofs.Ytbfmadafiaofiaa
set_option maxRecDepth 100000
open Go.ChangeShapes Go.WideShapes Go.ChangeAt Go.RowKit Go.PlainAid

theorem ex_past : pastS ⟨#[97, 255]⟩ = ⟨#[98]⟩ := by
  have h : pn ⟨#[97, 255]⟩ 2 = 0 + 1 := by decide
  rw [pastS_some h]
  rfl
theorem two_ints (w : World) (x y : Int) (hx : -9223372036854775808 ≤ x ∧ x ≤ 9223372036854775807) (hy : -9223372036854775808 ≤ y ∧ y ≤ 9223372036854775807) :
    IntsOf (w.alloc (.cells #[.int .i64 x, .int .i64 y] 3)) (.slice (some ⟨w.heap.size, 0, none⟩) 2 2) [x, y] := by
  refine .inr ⟨_, 0, 2, rfl, by rw [World.size_alloc]; omega, by simp, by simp, fun i u hu => ?_⟩
  match i, hu with
  | 0, hu =>
    obtain rfl : x = u := by simpa using hu
    exact ⟨hx, by rw [cell_of_row _ _ _ _ _ _ (heap_alloc_new _ _)]; rfl⟩
  | 1, hu =>
    obtain rfl : y = u := by simpa using hu
    exact ⟨hy, by rw [cell_of_row _ _ _ _ _ _ (heap_alloc_new _ _)]; rfl⟩
theorem one_int (w : World) (x : Int) (hx : -9223372036854775808 ≤ x ∧ x ≤ 9223372036854775807) :
    IntsOf (w.alloc (.cells #[.int .i64 x] 3)) (.slice (some ⟨w.heap.size, 0, none⟩) 1 1) [x] := by
  refine .inr ⟨_, 0, 1, rfl, by rw [World.size_alloc]; omega, by simp, by simp, fun i u hu => ?_⟩
  match i, hu with
  | 0, hu =>
    obtain rfl : x = u := by simpa using hu
    exact ⟨hx, by rw [cell_of_row _ _ _ _ _ _ (heap_alloc_new _ _)]; rfl⟩
theorem in3 : InI [1, -1] ∧ InI [1, 0] ∧ InI [1] := by
  refine ⟨?_, ?_, ?_⟩ <;> intro x hx <;> simp at hx <;> omega

set_option maxHeartbeats 800000 in
theorem awake_any (w : World) : Calls Try.prog 10 #[] w fun e w' => e = .returned (.bool true) ∧ Below w.heap.size w w' := by
  have v1 := Lib.hid (show ofV [1, -1] = .tuple #[.string (keyS [1, -1]), .int .i64 0] from rfl)
  have v2 := Lib.hid (show ofV [1, 0] = .tuple #[.string (keyS [1, 0]), .int .i64 0] from rfl)
  have v3 := Lib.hid (show ofV [1] = .tuple #[.string (keyS [1]), .int .i64 0] from rfl)
  have z1 : (keyS [1, -1]).size = 16 := keyS_size _
  have l1 : Op.bytesLess (keyS [1, -1]).toList (keyS [1, 0]).toList = true := by rw [key_less _ _ in3.1 in3.2.1]; rfl
  have l2 : Op.bytesLess (keyS [1]).toList (keyS [1, -1]).toList = true := by rw [key_less _ _ in3.2.2 in3.1]; rfl
  have l3 : Op.bytesLess (keyS [1, -1]).toList (keyS [1]).toList = false := by rw [key_less _ _ in3.1 in3.2.2]; rfl
  have l4 : ((keyS [1, -1]).toList == (keyS [1]).toList) = false := by rw [key_eq _ _ in3.1 in3.2.2]; rfl
  go_enter Try.func10, Try.ntmps10
  go_wp2_with fail
  refine (keyOf_any _ [1, -1] _ (two_ints w 1 (-1) (by omega) (by omega))).mono ?_
  rintro e w1 ⟨rfl, hb1⟩
  rw [v1.out]
  have HB1 : Hid (Below w.heap.size w w1) := (show Below w.heap.size w (w.alloc (.cells #[.int .i64 1, .int .i64 (-1)] 3)) by go_grown).on hb1
  clear hb1
  go_wp2_with fail
  refine (keyOf_any _ [1, 0] _ (two_ints w1 1 0 (by omega) (by omega))).mono ?_
  rintro e w2 ⟨rfl, hb2⟩
  rw [v2.out]
  have HB2 : Hid (Below w.heap.size w w2) := HB1.out.on ((show Below w1.heap.size w1 (w1.alloc (.cells #[.int .i64 1, .int .i64 0] 3)) by go_grown).on hb2)
  clear hb2
  go_wp2_with fail
  refine (keyOf_any _ [1] _ (one_int w2 1 (by omega))).mono ?_
  rintro e w3 ⟨rfl, hb3⟩
  rw [v3.out]
  have HB3 : Hid (Below w.heap.size w w3) := HB2.out.on ((show Below w2.heap.size w2 (w2.alloc (.cells #[.int .i64 1] 3)) by go_grown).on hb3)
  clear hb3
  generalize keyS [1, -1] = k1 at *
  generalize keyS [1, 0] = k2 at *
  generalize keyS [1] = k3 at *
  go_wp2_with fail
  refine (past_any ⟨#[97, 255]⟩ _ (by decide)).mono ?_
  rintro e w4 ⟨rfl, hb4⟩
  rw [ex_past]
  go_wp2
  go_returns
  exact ⟨rfl, HB3.out.on hb4⟩
end Go.Proofs.Ytbfmadafiaofiaa
