/- Contract: the chapter's examples hold. -/
import Derived.Test.YtpnlpciofmpldaaJPack
import Derived.BigQuiet
import Derived.Deep.QuietTactic
import Derived.Lib.QuietBelow
namespace Go.Proofs.Ytpnlpciofmpldaa
open Go.ChangeShapes Go.WideShapes Go.ChangeAt Go.RowKit Go.PlainAid
open Go.Sort (grow)

def exPage : PageV := ⟨7, ⟨#[97, 98]⟩⟩
theorem ex_head : headT 1 [exPage] = ⟨#[1, 0, 0, 0, 7, 0, 0, 0]⟩ := by kernel_rfl
theorem ex_fill : filled ⟨#[1, 0, 0, 0, 7, 0, 0, 0]⟩ = filled ⟨#[1, 0, 0, 0, 7]⟩ := by kernel_rfl
theorem ex_pack : packT [exPage] = [.string (filled ⟨#[1, 0, 0, 0, 7]⟩), .string (filled ⟨#[97, 98]⟩)] := by
  unfold packT
  rw [show (([exPage].length : Nat) : Int) = 1 from rfl, ex_head]
  show [Value.string (filled (chunkT ⟨#[1, 0, 0, 0, 7, 0, 0, 0]⟩ 0))] ++ pageT [exPage] = _
  rw [show chunkT ⟨#[1, 0, 0, 0, 7, 0, 0, 0]⟩ 0 = ⟨#[1, 0, 0, 0, 7, 0, 0, 0]⟩ by kernel_rfl, ex_fill]
  rfl
theorem row_open {w : World} {base : Nat} {e : TypeId} {v : Value} {n : Nat} {xs : List Value} (h : w.ownsRow base e 1 v n xs) (hn : 0 < n) : ∃ g cap, v = .slice (some ⟨g, 0, none⟩) n cap ∧ g < w.heap.size ∧ ∀ j x, xs[j]? = some x → w.cell? ⟨g, j, none⟩ = some x := by
  obtain ⟨h1, h2⟩ := h
  rcases h2 with ⟨_, h2⟩ | ⟨g, cap, cur, hv, hb, hg, hn2, hc, hsz, ht⟩
  · omega
  · refine ⟨g, cap, hv, heap_lt' hg, fun j x hx => ?_⟩
    have hj : j < n := by
      have := (List.getElem?_eq_some_iff.1 hx).1
      omega
    rw [cell_of_row _ _ _ _ _ _ hg, ← hx, ← ht, Nat.mul_one, List.getElem?_take_of_lt hj, Array.getElem?_toList]
set_option maxHeartbeats 1000000 in
theorem awake_any (w : World) : Calls Try.prog 12 #[] w fun e w' => e = .returned (.bool true) ∧ Below w.heap.size w w' := by
  go_enter Try.func12, Try.ntmps12
  go_wp2_with fail
  have hq := heap_alloc_new w (.cells #[.int .i64 7, .string ⟨#[97, 98]⟩] 56)
  have hb0 : Below w.heap.size w (w.alloc (.cells #[.int .i64 7, .string ⟨#[97, 98]⟩] 56)) := by go_grown
  generalize w.alloc (.cells #[.int .i64 7, .string ⟨#[97, 98]⟩] 56) = W0 at *
  have hpg : PagesIn W0 (.slice (some ⟨w.heap.size, 0, none⟩) 1 1) [exPage] := by
    refine .inr ⟨w.heap.size, 0, 1, rfl, heap_lt' hq, by decide, by decide, fun i x hx => ?_⟩
    rcases i with _ | i
    · obtain rfl : exPage = x := by simpa using hx
      exact ⟨⟨by decide, by decide⟩, rangeAt_whole (cs := [.int .i64 7, .string ⟨#[97, 98]⟩]) hq⟩
    · simp at hx
  refine (pack_ok W0 _ [exPage] hpg (by decide) (fun p hp => by obtain rfl : p = exPage := by simpa using hp
                                                                rfl)).mono ?_
  rintro e w1 ⟨sv, rfl, hrow, hb1⟩
  rw [ex_pack] at hrow
  obtain ⟨g, cap, rfl, hg, hcs⟩ := row_open hrow (by decide)
  have hb2 := hb0.on hb1
  have HB := Lib.hid hb2
  have c0 := hcs 0 _ rfl
  have c1 := hcs 1 _ rfl
  have g0 : ∀ d os, (grow (redrawn w1 d) os).cell? ⟨g, 0, none⟩ = some (.string (filled ⟨#[1, 0, 0, 0, 7]⟩)) := fun d os => cell_regrown c0 d os
  have g1 : ∀ d os, (grow (redrawn w1 d) os).cell? ⟨g, 1, none⟩ = some (.string (filled ⟨#[97, 98]⟩)) := fun d os => cell_regrown c1 d os
  have cA : ∀ d os, Calls Try.prog 26 #[.string ⟨#[1, 0, 0, 0, 7]⟩] (grow (redrawn w1 d) os) fun e w'' => e = .returned (.string (filled ⟨#[1, 0, 0, 0, 7]⟩)) ∧ ∃ p : Regrown, w'' = grow (redrawn w1 p.d) p.os := fun d os => Calls.regrown_of (filled_any _ _ (by decide))
  have cB : ∀ d os, Calls Try.prog 26 #[.string ⟨#[97, 98]⟩] (grow (redrawn w1 d) os) fun e w'' => e = .returned (.string (filled ⟨#[97, 98]⟩)) ∧ ∃ p : Regrown, w'' = grow (redrawn w1 p.d) p.os := fun d os => Calls.regrown_of (filled_any _ _ (by decide))
  have c63 : ∀ d os, Calls Try.prog 16 #[.int .i64 63] (grow (redrawn w1 d) os) fun e w'' => e = .returned (.int .i64 64) ∧ ∃ p : Regrown, w'' = grow (redrawn w1 p.d) p.os := fun d os => Calls.regrown_of ((blocks_any 63 _ (by decide)).mono (by rintro e w' ⟨rfl, rfl⟩; exact ⟨rfl, Below.refl _ _⟩))
  have c64 : ∀ d os, Calls Try.prog 16 #[.int .i64 64] (grow (redrawn w1 d) os) fun e w'' => e = .returned (.int .i64 66) ∧ ∃ p : Regrown, w'' = grow (redrawn w1 p.d) p.os := fun d os => Calls.regrown_of ((blocks_any 64 _ (by decide)).mono (by rintro e w' ⟨rfl, rfl⟩; exact ⟨rfl, Below.refl _ _⟩))
  have CA := Lib.hid cA
  have CB := Lib.hid cB
  have C63 := Lib.hid c63
  have C64 := Lib.hid c64
  generalize filled ⟨#[1, 0, 0, 0, 7]⟩ = F1 at *
  generalize filled ⟨#[97, 98]⟩ = F2 at *
  clear hq hb0 hpg hrow hb1 hcs c0 c1 cA cB c63 c64 hb2 hg
  go_wp2_with fail
  refine wp_region_quiet_below (by kernel_rfl) (by kernel_rfl) ?_
  repeat (go_big_quiet_step (first | (with_reducible exact CA.out _ _) | (with_reducible exact CB.out _ _) | (with_reducible exact C63.out _ _) | (with_reducible exact C64.out _ _)))
  refine wpQuiet_nil ?_
  intro _ hw'
  obtain ⟨⟨dq, osq⟩, hw''⟩ := hw'
  subst hw''
  go_wp2
  go_returns
  exact ⟨rfl, HB.out.on (below_regrown w1 dq osq)⟩
end Go.Proofs.Ytpnlpciofmpldaa
