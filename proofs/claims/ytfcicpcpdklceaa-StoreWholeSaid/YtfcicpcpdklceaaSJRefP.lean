/- Contracts of the reference: Blocks, Texts. -/
import Derived.Test.YtfcicpcpdklceaaSJPack
import Derived.Test.YtfcicpcpdklceaaSJSpec
import Derived.Deep.QuietTactic
namespace Go.Proofs.Ytfcicpcpdklceaa
set_option maxRecDepth 100000
open Go.ChangeShapes Go.WideShapes Go.ChangeAt Go.RowKit Go.PlainAid

set_option maxHeartbeats 400000 in
theorem rblocks_any (n : Nat) (w : World) (hn : n ≤ 1152921504606846976) :
    Calls Try.prog 18 #[.int .i64 (n : Int)] w fun e w' => e = .returned (.int .i64 (blocksN n)) ∧ w = w' := by
  have HB : Hid (blocksN n = n / 64 + 1 + n) := rfl
  have a1 : wrap64 (4 * (n : Int)) = 4 * (n : Int) := by unfold wrap64; omega
  have a2 : wrap64 (4 * (n : Int) + 4) = 4 * (n : Int) + 4 := by unfold wrap64; omega
  go_enter Try.func18, Try.ntmps18
  go_wp2
  go_loop [3] (fun i => ∃ k : Nat, k ≤ n / 64 + 1 ∧ i = .int .i64 k) (fun i => n / 64 + 1 - (intOf i).toNat)
  case atStart => exact ⟨0, Nat.zero_le _, rfl⟩
  case round =>
    obtain ⟨k, hk, rfl⟩ := hrel
    have a3 : wrap64 ((k : Int) * 256) = (k : Int) * 256 := by unfold wrap64; omega
    by_cases hlt : k < n / 64 + 1
    · have hd : decide ((k : Int) * 256 < 4 * (n : Int) + 4) = true := decide_eq_true (by omega)
      have hd' : (k : Int) * 256 < 4 * (n : Int) + 4 := by omega
      go_wp2
      go_round
      case rel => exact ⟨k + 1, by omega, by go_num⟩
      case measure => simp [intOf]; omega
    · have hd : decide ((k : Int) * 256 < 4 * (n : Int) + 4) = false := decide_eq_false (by omega)
      have hd' : ¬ (k : Int) * 256 < 4 * (n : Int) + 4 := by omega
      obtain rfl : k = n / 64 + 1 := by omega
      go_wp2
      go_returns
      exact ⟨ret_i (by rw [HB.out]; simp), rfl⟩
set_option maxHeartbeats 400000 in
theorem texts_nil (w : World) :
    Calls Try.prog 16 #[.slice none 0 0, .slice none 0 0] w fun e w' => e = .returned (.bool true) ∧ w = w' := by
  go_enter Try.func16, Try.ntmps16
  go_wp2
  go_loop [5] (fun i => i = .int .i64 0) (fun _ => 0)
  case atStart => rfl
  case round =>
    subst hrel
    go_wp2
    go_returns
    exact ⟨rfl, rfl⟩
set_option maxHeartbeats 1000000 in
theorem texts_any (ga gb n ca cb : Nat) (T : Nat → ByteArray) (w : World) (ha : ∀ j, j < n → w.cell? ⟨ga, j, none⟩ = some (.string (T j))) (hb : ∀ j, j < n → w.cell? ⟨gb, j, none⟩ = some (.string (T j))) (hn : (n : Int) ≤ 9223372036854775807) :
    Calls Try.prog 16 #[.slice (some ⟨ga, 0, none⟩) n ca, .slice (some ⟨gb, 0, none⟩) n cb] w fun e w' => e = .returned (.bool true) ∧ Below w.heap.size w w' := by
  go_enter Try.func16, Try.ntmps16
  go_wp2_with fail
  go_loopw [5] (fun i wr => ∃ k : Nat, k ≤ n ∧ i = .int .i64 k ∧ Below w.heap.size w wr) (fun i _ => n - (intOf i).toNat)
  case atStart => exact ⟨0, Nat.zero_le _, rfl, Below.refl _ _⟩
  case round =>
    obtain ⟨k, hk, rfl, hB⟩ := hrel
    have HB := Lib.hid hB
    clear hB
    by_cases hlt : k < n
    · have h1 := ha k hlt
      have h2 := hb k hlt
      have c1 := (HB.out.cell (p := ⟨ga, k, none⟩) (World.block_lt_of_cell? w _ h1)).trans h1
      have c2 := (HB.out.cell (p := ⟨gb, k, none⟩) (World.block_lt_of_cell? w _ h2)).trans h2
      clear h1 h2 ha hb
      go_wp2_with fail
      go_quiet (fail)
      have HB2 : Hid (Below w.heap.size w (wr.drewN nq)) := HB.out.trans ⟨rfl, rfl, rfl, Nat.le_refl _, fun _ _ => rfl⟩
      clear HB c1 c2
      go_wp2
      go_roundw
      case rel => exact ⟨k + 1, by omega, by go_num, HB2.out⟩
      case measure => simp [intOf]; omega
    · obtain rfl : k = n := by omega
      clear ha hb
      go_wp2
      go_returns
      exact ⟨rfl, HB.out⟩
/-- One text more in a row of the call's own. -/
theorem row_push {n₀ : Nat} {W : World} {xs : List Value} {v : Value} (hrow : W.ownsRow n₀ 9 1 v xs.length xs) (hn : n₀ ≤ W.heap.size) (hlen : xs.length ≤ 1048576) (T : ByteArray) (m : Nat) (hm : xs.length = m) :
    ∃ g cap w2, (appS #[v, .slice (some ⟨W.heap.size, 0, none⟩) 1 1]).run Try.prog (W.alloc (.cells #[.string T] 9)) = .ok (.slice (some ⟨g, 0, none⟩) (m + 1) cap) w2 ∧
      w2.ownsRow n₀ 9 1 (.slice (some ⟨g, 0, none⟩) (m + 1) cap) (xs ++ [Value.string T]).length (xs ++ [Value.string T]) ∧ Below n₀ W w2 := by
  subst hm
  obtain ⟨i0, hi, hz0, hz1, hz2⟩ := info_parts info_text
  have hq := heap_alloc_new W (.cells #[.string T] 9)
  have hba : Below W.heap.size W (W.alloc (.cells #[.string T] 9)) := by go_grown
  obtain ⟨g, cap, w2, hr, h2, h3, _, _⟩ := run_append_lies (P := Try.prog) (w := W.alloc (.cells #[.string T] 9)) 31 31 n₀ 9 i0 (.string ⟨#[]⟩) 1 16 Try.underlying31 hi hz0 hz1 hz2 rfl (by decide) v xs.length xs (ownsRow_on hrow hba) ⟨W.heap.size, 0, none⟩ 1 1 [.string T] rfl
    (fun j u hu => by
      rcases j with _ | j
      · have : Value.string T = u := by simpa using hu
        rw [← this]
        show (W.alloc (.cells #[.string T] 9)).cell? ⟨W.heap.size, 0, none⟩ = _
        rw [cell_of_row _ _ _ _ _ _ hq]
        rfl
      · simp at hu) (fun u hu => by have : u = .string T := by simpa using hu
                                    rw [this]; rfl) (by decide) (by unfold maxLen; omega) (by omega) (by rw [World.size_alloc]; omega) _ rfl
  refine ⟨g, cap, w2, hr, by rw [List.length_append]; exact h2, (hba.mono hn).grown h3 (by rw [World.size_alloc]; omega) (fun k e => (hrow.lt k e).1)⟩
end Go.Proofs.Ytfcicpcpdklceaa
