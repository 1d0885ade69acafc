/- Contract: a block that has no head. -/
import Derived.Test.YtfcicpcpdklceaaSJHead
namespace Go.Proofs.Ytfcicpcpdklceaa
set_option maxRecDepth 100000
open Go.ChangeShapes Go.WideShapes Go.ChangeAt Go.RowKit Go.PlainAid
open Go.Sort (grow)

theorem text_ne {a b : ByteArray} (h : ¬ a = b) : (a.toList == b.toList) = false := beq_eq_false_iff_ne.2 fun e => h (by
  rw [ByteArray.toList_eq, ByteArray.toList_eq] at e
  exact ByteArray.ext (Array.ext' e))
def zeroHead : Value := .agg #[.int .u64 0, .int .i64 0, .int .i64 0, .int .i64 0]
set_option maxHeartbeats 2000000 in
theorem rhead_no (b : ByteArray) (w : World) (h : ¬ headOk b) (hm : b.size ≤ maxLen) :
    Calls Try.prog 44 #[.string b] w fun e w' => e = .returned (.tuple #[zeroHead, .bool false]) ∧ Below w.heap.size w w' := by
  have q := heap_alloc_new w (.cells #[.int .u64 0, .int .i64 0, .int .i64 0, .int .i64 0] 55)
  have hb0 : Below w.heap.size w (w.alloc (.cells #[.int .u64 0, .int .i64 0, .int .i64 0, .int .i64 0] 55)) := by go_grown
  have hlt0 : w.heap.size < (w.alloc (.cells #[.int .u64 0, .int .i64 0, .int .i64 0, .int .i64 0] 55)).heap.size := by simp
  have HM := Lib.hid hm
  clear hm
  by_cases h40 : 40 ≤ b.size
  · have hn : ¬ notS (b.extract 0 20) = b.extract 20 40 := fun c => h ⟨h40, c⟩
    clear h
    have hb1 : decide ((b.size : Int) < 40) = false := decide_eq_false (by omega)
    have hs1 : ∀ w, (Instr.slice 9 (.string b) (some (.int .i64 20)) (some (.int .i64 40)) none).run Try.prog w = .ok (.string (b.extract 20 40)) w := slice_text b 20 40 (by omega) (by omega)
    go_enter Try.func44, Try.ntmps44
    go_wp2_with fail
    generalize w.alloc (.cells #[.int .u64 0, .int .i64 0, .int .i64 0, .int .i64 0] 55) = W0 at *
    have HB0 := Lib.hid hb0
    have HQ0 := Lib.hid q
    clear hb0 q
    have cN : ∀ d os, Calls Try.prog 59 #[.string (b.extract 0 20)] (grow (redrawn W0 d) os) fun e w'' => e = .returned (.string (notS (b.extract 0 20))) ∧ ∃ p : Regrown, w'' = grow (redrawn W0 p.d) p.os := fun d os =>
      Calls.regrown_of (not_any _ _ (by have := HM.out; rw [ByteArray.size_extract]; unfold maxLen at *; omega))
    have CN := Lib.hid cN
    clear cN
    generalize notS (b.extract 0 20) = T at *
    generalize b.extract 20 40 = T2 at *
    have hq := text_ne hn
    refine wp_region_quiet_below (by kernel_rfl) (by kernel_rfl) ?_
    repeat (go_big_quiet_step (with_reducible exact CN.out _ _))
    refine wpQuiet_nil ?_
    intro _ hw'
    obtain ⟨⟨dq, osq⟩, hw''⟩ := hw'
    subst hw''
    have hb1 := below_regrown W0 dq osq
    have HB := Lib.hid (HB0.out.on hb1)
    have HQ := Lib.hid ((hb1.block w.heap.size hlt0).trans HQ0.out)
    clear CN hb1 HB0 HQ0
    generalize grow (redrawn W0 dq) osq = W at *
    clear hlt0
    obtain ⟨_, _, _, _, y4, y5, y6, y7⟩ := cells4' HQ.out
    go_wp2_with fail
    obtain ⟨x0, x1, x2, x3⟩ := four_read HQ.out (.int .u64 0) (.int .i64 0) (.int .i64 0) (.int .i64 0)
    refine bodyPost_ret (v := .tuple #[zeroHead, .bool false]) (by simp [results, Try.results44, go_sem, x0, x1, x2, x3, zeroHead]) rfl ?_
    exact ⟨rfl, (((HB.out.setCell (p := ⟨w.heap.size, 0, none⟩) (Nat.le_refl _) _).setCell (p := ⟨w.heap.size, 1, none⟩) (Nat.le_refl _) _).setCell (p := ⟨w.heap.size, 2, none⟩) (Nat.le_refl _) _).setCell (p := ⟨w.heap.size, 3, none⟩) (Nat.le_refl _) _⟩
  · clear h
    have hb1 : decide ((b.size : Int) < 40) = true := decide_eq_true (by omega)
    go_enter Try.func44, Try.ntmps44
    go_wp2_with fail
    generalize w.alloc (.cells #[.int .u64 0, .int .i64 0, .int .i64 0, .int .i64 0] 55) = W0 at *
    have HB0 := Lib.hid hb0
    have HQ0 := Lib.hid q
    clear hb0 q
    refine wp_region_quiet_below (by kernel_rfl) (by kernel_rfl) ?_
    repeat (go_big_quiet_step (fail))
    refine wpQuiet_nil ?_
    intro _ hw'
    obtain ⟨⟨dq, osq⟩, hw''⟩ := hw'
    subst hw''
    have hb1 := below_regrown W0 dq osq
    have HB := Lib.hid (HB0.out.on hb1)
    have HQ := Lib.hid ((hb1.block w.heap.size hlt0).trans HQ0.out)
    clear hb1 HB0 HQ0
    generalize grow (redrawn W0 dq) osq = W at *
    clear hlt0
    obtain ⟨_, _, _, _, y4, y5, y6, y7⟩ := cells4' HQ.out
    go_wp2_with fail
    obtain ⟨x0, x1, x2, x3⟩ := four_read HQ.out (.int .u64 0) (.int .i64 0) (.int .i64 0) (.int .i64 0)
    refine bodyPost_ret (v := .tuple #[zeroHead, .bool false]) (by simp [results, Try.results44, go_sem, x0, x1, x2, x3, zeroHead]) rfl ?_
    exact ⟨rfl, (((HB.out.setCell (p := ⟨w.heap.size, 0, none⟩) (Nat.le_refl _) _).setCell (p := ⟨w.heap.size, 1, none⟩) (Nat.le_refl _) _).setCell (p := ⟨w.heap.size, 2, none⟩) (Nat.le_refl _) _).setCell (p := ⟨w.heap.size, 3, none⟩) (Nat.le_refl _) _⟩
end Go.Proofs.Ytfcicpcpdklceaa
