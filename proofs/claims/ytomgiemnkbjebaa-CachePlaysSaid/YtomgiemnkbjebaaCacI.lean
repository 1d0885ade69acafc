/- Contracts: no cache, and what no call made; the chapter's example. -/
import Derived.Test.YtomgiemnkbjebaaCacG
namespace Go.Proofs.Ytomgiemnkbjebaa
set_option maxRecDepth 100000
open Go.ChangeShapes Go.WideShapes Go.ChangeAt Go.RowKit Go.PlainAid

namespace KA
/-- A Put whose list is known. -/
theorem put_is {w0 : World} {p : Nat} {most : Nat} {L M : List E} {R : List (Nat × Obj)} {k : Int} {v : ByteArray} (hm : 1 ≤ most) (hm2 : most ≤ 1024) (hl : L.length ≤ most) (g : Int) (b : Bool) (e0 : Int)
    (h1 : (putK most k L).getD 0 = g) (h2 : (putK most k L).isSome = b) (h3 : putE most k L = e0) (h4 : putL most k v L = M) (w : World) (h : CaT w0 p most L R w) :
    Calls Try.prog 16 #[.pointer (some ⟨p, 0, none⟩), .int .i64 k, .string v] w fun e w' => e = .returned (.tuple #[.int .i64 g, .bool b, .int .i64 e0]) ∧ CaT w0 p most M R w' := by
  subst h1 h2 h3 h4
  exact put_any h k v hm hm2 hl
theorem get_is {w0 : World} {p : Nat} {most : Int} {L M : List E} {R : List (Nat × Obj)} {k : Int} (hl : L.length ≤ 4096) (g : ByteArray) (b : Bool)
    (h1 : (getV k L).getD ⟨#[]⟩ = g) (h2 : (getV k L).isSome = b) (h4 : getL k L = M) (w : World) (h : CaT w0 p most L R w) :
    Calls Try.prog 17 #[.pointer (some ⟨p, 0, none⟩), .int .i64 k] w fun e w' => e = .returned (.tuple #[.string g, .bool b]) ∧ CaT w0 p most M R w' := by
  subst h1 h2 h4
  exact get_any h k hl
theorem pin_is {w0 : World} {p : Nat} {most : Int} {L M : List E} {R : List (Nat × Obj)} {k : Int} (hl : L.length ≤ 4096) (hpn : ∀ e ∈ L, e.pins ≤ 1048576) (b : Bool)
    (h1 : decide (posK k L < L.length) = b) (h2 : (if b = true then pinL (posK k L) 1 L else L) = M) (w : World) (h : CaT w0 p most L R w) :
    Calls Try.prog 18 #[.pointer (some ⟨p, 0, none⟩), .int .i64 k] w fun e w' => e = .returned (.bool b) ∧ CaT w0 p most M R w' := by
  subst h1 h2
  exact pin_any h k hl hpn
set_option maxHeartbeats 2000000 in
theorem awake_any (w : World) : Calls Try.prog 15 #[] w fun e w' => e = .returned (.bool true) ∧ Below w.heap.size w w' := by
  have P1 := Lib.hid fun p => put_is (w0 := w) (p := p) (most := 2) (L := []) (M := [⟨1, ⟨#[97]⟩, 0⟩]) (R := []) (k := 1) (v := ⟨#[97]⟩) (by omega) (by omega) (by decide) 0 false 0 (by kernel_rfl) (by kernel_rfl) (by kernel_rfl) (by kernel_rfl)
  have P2 := Lib.hid fun p => put_is (w0 := w) (p := p) (most := 2) (L := [⟨1, ⟨#[97]⟩, 0⟩]) (M := [⟨2, ⟨#[98]⟩, 0⟩, ⟨1, ⟨#[97]⟩, 0⟩]) (R := []) (k := 2) (v := ⟨#[98]⟩) (by omega) (by omega) (by decide) 0 false 0 (by kernel_rfl) (by kernel_rfl) (by kernel_rfl) (by kernel_rfl)
  have P3 := Lib.hid fun p => get_is (w0 := w) (p := p) (most := ((2 : Nat) : Int)) (L := [⟨2, ⟨#[98]⟩, 0⟩, ⟨1, ⟨#[97]⟩, 0⟩]) (M := [⟨1, ⟨#[97]⟩, 0⟩, ⟨2, ⟨#[98]⟩, 0⟩]) (R := []) (k := 1) (by decide) ⟨#[97]⟩ true (by kernel_rfl) (by kernel_rfl) (by kernel_rfl)
  have P4 := Lib.hid fun p => put_is (w0 := w) (p := p) (most := 2) (L := [⟨1, ⟨#[97]⟩, 0⟩, ⟨2, ⟨#[98]⟩, 0⟩]) (M := [⟨3, ⟨#[99]⟩, 0⟩, ⟨1, ⟨#[97]⟩, 0⟩]) (R := []) (k := 3) (v := ⟨#[99]⟩) (by omega) (by omega) (by decide) 2 true 0 (by kernel_rfl) (by kernel_rfl) (by kernel_rfl) (by kernel_rfl)
  have P5 := Lib.hid fun p => pin_is (w0 := w) (p := p) (most := ((2 : Nat) : Int)) (L := [⟨3, ⟨#[99]⟩, 0⟩, ⟨1, ⟨#[97]⟩, 0⟩]) (M := [⟨3, ⟨#[99]⟩, 0⟩, ⟨1, ⟨#[97]⟩, 1⟩]) (R := []) (k := 1) (by decide) (by decide) true (by kernel_rfl) (by kernel_rfl)
  have P6 := Lib.hid fun p => pin_is (w0 := w) (p := p) (most := ((2 : Nat) : Int)) (L := [⟨3, ⟨#[99]⟩, 0⟩, ⟨1, ⟨#[97]⟩, 1⟩]) (M := [⟨3, ⟨#[99]⟩, 1⟩, ⟨1, ⟨#[97]⟩, 1⟩]) (R := []) (k := 3) (by decide) (by decide) true (by kernel_rfl) (by kernel_rfl)
  have P7 := Lib.hid fun p => put_is (w0 := w) (p := p) (most := 2) (L := [⟨3, ⟨#[99]⟩, 1⟩, ⟨1, ⟨#[97]⟩, 1⟩]) (M := [⟨3, ⟨#[99]⟩, 1⟩, ⟨1, ⟨#[97]⟩, 1⟩]) (R := []) (k := 4) (v := ⟨#[100]⟩) (by omega) (by omega) (by decide) 0 false 12 (by kernel_rfl) (by kernel_rfl) (by kernel_rfl) (by kernel_rfl)
  go_enter Try.func15, Try.ntmps15
  go_wp2_with fail
  refine (new_ok 2 (by omega) (by omega) _).mono ?_
  rintro e _ ⟨rfl, rfl⟩
  have H0 := Lib.hid (new_cat w w ((2 : Nat) : Int) [] (Below.refl _ _) (fun _ _ h => by cases h))
  generalize w.alloc (.cells #[.int .i64 ((2 : Nat) : Int), .slice none 0 0] 65) = w1 at *
  have P1 := Lib.hid (P1.out w.heap.size)
  have P2 := Lib.hid (P2.out w.heap.size)
  have P3 := Lib.hid (P3.out w.heap.size)
  have P4 := Lib.hid (P4.out w.heap.size)
  have P5 := Lib.hid (P5.out w.heap.size)
  have P6 := Lib.hid (P6.out w.heap.size)
  have P7 := Lib.hid (P7.out w.heap.size)
  go_wp2_with fail
  refine (P1.out _ H0.out).mono ?_
  rintro e w2 ⟨rfl, h⟩
  have H1 := Lib.hid h
  clear h
  go_wp2_with fail
  refine (P2.out _ H1.out).mono ?_
  rintro e w3 ⟨rfl, h⟩
  have H2 := Lib.hid h
  clear h
  go_wp2_with fail
  refine (P3.out _ H2.out).mono ?_
  rintro e w4 ⟨rfl, h⟩
  have H3 := Lib.hid h
  clear h
  go_wp2_with fail
  refine (P4.out _ H3.out).mono ?_
  rintro e w5 ⟨rfl, h⟩
  have H4 := Lib.hid h
  clear h
  go_wp2_with fail
  refine (P5.out _ H4.out).mono ?_
  rintro e w6 ⟨rfl, h⟩
  have H5 := Lib.hid h
  clear h
  go_wp2_with fail
  refine (P6.out _ H5.out).mono ?_
  rintro e w7 ⟨rfl, h⟩
  have H6 := Lib.hid h
  clear h
  go_wp2_with fail
  refine (P7.out _ H6.out).mono ?_
  rintro e w8 ⟨rfl, h⟩
  have H7 := Lib.hid h
  clear h
  go_wp2
  go_returns
  exact ⟨rfl, H7.out.below⟩
end KA
end Go.Proofs.Ytomgiemnkbjebaa
