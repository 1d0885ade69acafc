/- Contracts: Reverse of eight bytes, Ordered. -/
import Derived.Test.YtbfmadafiaofiaaBitsB
namespace Go.Proofs.Ytbfmadafiaofiaa
open Go.ChangeShapes Go.WideShapes Go.ChangeAt Go.RowKit Go.PlainAid

set_option maxHeartbeats 1000000 in
theorem reverse8 (a0 a1 a2 a3 a4 a5 a6 a7 : Int) (b c : Nat) (w : World)
    (c0 : w.cell? ⟨b, 0, none⟩ = some (.int .u8 a0)) (c1 : w.cell? ⟨b, 1, none⟩ = some (.int .u8 a1)) (c2 : w.cell? ⟨b, 2, none⟩ = some (.int .u8 a2)) (c3 : w.cell? ⟨b, 3, none⟩ = some (.int .u8 a3))
    (c4 : w.cell? ⟨b, 4, none⟩ = some (.int .u8 a4)) (c5 : w.cell? ⟨b, 5, none⟩ = some (.int .u8 a5)) (c6 : w.cell? ⟨b, 6, none⟩ = some (.int .u8 a6)) (c7 : w.cell? ⟨b, 7, none⟩ = some (.int .u8 a7))
    (f0 : w.frozen? ⟨b, 0, none⟩ = false) (f1 : w.frozen? ⟨b, 1, none⟩ = false) (f2 : w.frozen? ⟨b, 2, none⟩ = false) (f3 : w.frozen? ⟨b, 3, none⟩ = false)
    (f4 : w.frozen? ⟨b, 4, none⟩ = false) (f5 : w.frozen? ⟨b, 5, none⟩ = false) (f6 : w.frozen? ⟨b, 6, none⟩ = false) (f7 : w.frozen? ⟨b, 7, none⟩ = false) :
    Calls Try.prog 24 #[.slice (some ⟨b, 0, none⟩) 8 c] w fun e w' => e = .returned (.tuple #[]) ∧ Below b w w' ∧ w'.heap.size = w.heap.size ∧ ∀ i, i < 8 → w'.cell? ⟨b, 0 + i, none⟩ = some (.int .u8 ([a7, a6, a5, a4, a3, a2, a1, a0].getD i 0)) := by
  go_enter Try.func24, Try.ntmps24
  go_wp2
  refine wp_loop_rounds 5 ?_
  rw [rounds_succ]
  go_wp2
  go_region
  all_goals (go_wp2; rw [rounds_succ]; go_wp2)
  all_goals (go_region)
  all_goals (go_wp2; rw [rounds_succ]; go_wp2)
  all_goals (go_region)
  all_goals (go_wp2; rw [rounds_succ]; go_wp2)
  all_goals (go_region)
  all_goals (go_wp2; rw [rounds_succ]; go_wp2)
  go_returns
  refine ⟨rfl, by go_grown, by simp [World.setCell], ?_⟩
  intro i hi
  match i, hi with
  | 0, _ => go_cell | 1, _ => go_cell | 2, _ => go_cell | 3, _ => go_cell | 4, _ => go_cell | 5, _ => go_cell | 6, _ => go_cell | 7, _ => go_cell

/-- The eight bytes of a number with a sign, the highest first, so that they stand in the numbers' order. -/
def h8 (n : Int) : List Int := [n / 72057594037927936, n / 281474976710656 % 256, n / 1099511627776 % 256, n / 4294967296 % 256, n / 16777216 % 256, n / 65536 % 256, n / 256 % 256, n % 256]
def ordS (n : Int) : ByteArray := strOfNums (h8 (n + 9223372036854775808))
theorem h8_length (n : Int) : (h8 n).length = 8 := rfl

set_option maxHeartbeats 400000 in
theorem ordered_any (n : Int) (w : World) (h0 : -9223372036854775808 ≤ n) (h1 : n ≤ 9223372036854775807) :
    Calls Try.prog 18 #[.int .i64 n] w fun e w' => e = .returned (.string (ordS n)) ∧ Below w.heap.size w w' := by
  have hx := u64_flip (IntKind.u64.wrap n) (by rw [IntKind.wrap_u64]; omega) (by rw [IntKind.wrap_u64]; omega)
  rw [show (IntKind.u64.wrap n + 9223372036854775808) % 18446744073709551616 = n + 9223372036854775808 by rw [IntKind.wrap_u64]; omega] at hx
  obtain ⟨u, hu⟩ : ∃ u, u = n + 9223372036854775808 := ⟨_, rfl⟩
  have ho := Lib.hid (show ordS n = strOfNums (h8 u) by rw [hu]; rfl)
  rw [← hu] at hx
  have u0 : 0 ≤ u := by omega
  have u1 : u ≤ 18446744073709551615 := by omega
  clear hu
  go_enter Try.func18, Try.ntmps18
  go_wp2_with (go_call (lay_any u _ u0 u1) as e w' ⟨rfl, hb⟩)
  go_call (reverse8 (u % 256) (u / 256 % 256) (u / 65536 % 256) (u / 16777216 % 256) (u / 4294967296 % 256) (u / 1099511627776 % 256) (u / 281474976710656 % 256) (u / 72057594037927936))
  rintro e w2 ⟨rfl, hb2, hs2, hg2⟩
  have HG := Lib.hid hg2
  have HS := Lib.hid hs2
  clear hg2 hs2
  go_wp2
  rw [run_convert_bytes_arg w2 44 5 Try.underlying44 Try.underlying5 _ 0 8 8 (h8 u) (h8_length u) HG.out 9 Try.underlying9]
  go_wp2
  go_returns
  exact ⟨by rw [ho.out]; rfl, by have hs := hb.size; exact (hb.alloc hs _).trans (hb2.mono hs)⟩
end Go.Proofs.Ytbfmadafiaofiaa
