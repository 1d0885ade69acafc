/- Every head is written as the document says, and of every block the same head is read, or none; and the chapter's examples hold: for all heads and every text. Conditions: none. -/
import Derived.Test.YtpnlpciofmpldaaJRefN
import Derived.Test.YtpnlpciofmpldaaJAwake
import Derived.Test.YtpnlpciofmpldaaJHeadV
import Derived.Test.YtpnlpciofmpldaaLaw
import Derived.BigQuiet
import Derived.Deep.QuietTactic
import Derived.Lib.QuietBelow
import Derived.Deep.DeepCutAuto
import Derived.Deep.CutBlock
namespace Go.Proofs.Ytpnlpciofmpldaa.journalHeads
open Go.ChangeShapes Go.WideShapes Go.ChangeAt Go.RowKit Go.PlainAid
open Go.ChangeMaps (open_string)
open Go.Sort (grow)

theorem own : ownKnob Try.prog.godebug = none := by kernel_rfl
theorem laidOut : laidOutB Try.prog = true := by kernel_rfl

set_option maxRecDepth 100000 in
set_option maxHeartbeats 4000000 in
theorem walk (w : World) (a0 : HeadV) (w0 : a0.Wf) (a1 : ByteArray) (s1 : a1.size ≤ 140737488351232) :
    Calls Try.prog 3 #[.agg a0.cells.toArray, .string a1] w fun e w' => e = .returned (.bool true) ∧ Below w.heap.size w w' := by
  obtain ⟨⟨bs0, cs0⟩, ⟨bu0, cu0⟩, ⟨br0, cr0⟩, ⟨bp0, cp0⟩⟩ := w0
  have u1 := s1
  clear u1
  have bs0' := And.intro bs0 cs0
  clear bs0 cs0 bu0 cu0 br0 cr0 bp0 cp0
  obtain ⟨s, u, r, p⟩ := a0
  simp only at *
  have qa := heap_alloc_new w (.cells #[.int .u64 s, .int .i64 u, .int .i64 r, .int .i64 p] 24)
  have hb0 : Below w.heap.size w (w.alloc (.cells #[.int .u64 s, .int .i64 u, .int .i64 r, .int .i64 p] 24)) := by go_grown
  change Calls Try.prog 3 #[.agg #[.int .u64 s, .int .i64 u, .int .i64 r, .int .i64 p], .string a1] w _
  obtain ⟨q0, q1, q2, q3, okb, hj, hr⟩ := heads_both a1 (by unfold maxLen; omega)
  have HJ := Lib.hid hj
  have HR := Lib.hid hr
  clear hj hr
  go_enter Try.func3, Try.ntmps3
  go_wp2_with fail
  generalize hW0 : w.alloc (.cells #[.int .u64 s, .int .i64 u, .int .i64 r, .int .i64 p] 24) = W0 at *
  refine (HJ.out W0).mono ?_
  rintro e w1 ⟨rfl, hb1⟩
  have hqa := (hb1.block _ (heap_lt' qa)).trans qa
  have hbb := hb0.on hb1
  have HQA := Lib.hid hqa
  have HBB := Lib.hid hbb
  clear hW0 qa hb0 hb1 hqa hbb
  go_wp2_with fail
  have hx2 := heap_alloc_new w1 (.cells #[.int .u64 q0, .int .i64 q1, .int .i64 q2, .int .i64 q3] 25)
  have hb2 : Below w1.heap.size w1 (w1.alloc (.cells #[.int .u64 q0, .int .i64 q1, .int .i64 q2, .int .i64 q3] 25)) := by go_grown
  have hqa2 := (hb2.block _ (heap_lt' HQA.out)).trans HQA.out
  have hbb2 := HBB.out.on hb2
  generalize w1.alloc (.cells #[.int .u64 q0, .int .i64 q1, .int .i64 q2, .int .i64 q3] 25) = W2 at *
  generalize w1.heap.size = bx at *
  refine (HR.out W2).mono ?_
  rintro e w3 ⟨rfl, hb3⟩
  have HX3 := Lib.hid ((hb3.block _ (heap_lt' hx2)).trans hx2)
  have HQA3 := Lib.hid ((hb3.block _ (heap_lt' hqa2)).trans hqa2)
  have HBB3 := Lib.hid (hbb2.on hb3)
  clear hx2 hb2 hqa2 hbb2 hb3 HQA HBB
  go_wp2_with fail
  have hy4 := heap_alloc_new w3 (.cells #[.int .u64 q0, .int .i64 q1, .int .i64 q2, .int .i64 q3] 24)
  have hb4 : Below w3.heap.size w3 (w3.alloc (.cells #[.int .u64 q0, .int .i64 q1, .int .i64 q2, .int .i64 q3] 24)) := by go_grown
  have hx4 := (hb4.block _ (heap_lt' HX3.out)).trans HX3.out
  have hq4 := (hb4.block _ (heap_lt' HQA3.out)).trans HQA3.out
  have HB4 := Lib.hid (HBB3.out.on hb4)
  generalize w3.alloc (.cells #[.int .u64 q0, .int .i64 q1, .int .i64 q2, .int .i64 q3] 24) = W at *
  generalize w3.heap.size = bY at *
  obtain ⟨x0, x1, x2, x3, _⟩ := cells4' hq4
  obtain ⟨y0, y1, y2, y3, _⟩ := cells4' hx4
  obtain ⟨z0, z1, z2, z3, _⟩ := cells4' hy4
  have g0 : ∀ d os, (grow (redrawn W d) os).cell? ⟨w.heap.size, 0, none⟩ = some (.int .u64 s) := fun d os => cell_regrown x0 d os
  have g1 : ∀ d os, (grow (redrawn W d) os).cell? ⟨w.heap.size, 1, none⟩ = some (.int .i64 u) := fun d os => cell_regrown x1 d os
  have g2 : ∀ d os, (grow (redrawn W d) os).cell? ⟨w.heap.size, 2, none⟩ = some (.int .i64 r) := fun d os => cell_regrown x2 d os
  have g3 : ∀ d os, (grow (redrawn W d) os).cell? ⟨w.heap.size, 3, none⟩ = some (.int .i64 p) := fun d os => cell_regrown x3 d os
  have g4 : ∀ d os, (grow (redrawn W d) os).cell? ⟨bx, 0, none⟩ = some (.int .u64 q0) := fun d os => cell_regrown y0 d os
  have g5 : ∀ d os, (grow (redrawn W d) os).cell? ⟨bx, 1, none⟩ = some (.int .i64 q1) := fun d os => cell_regrown y1 d os
  have g6 : ∀ d os, (grow (redrawn W d) os).cell? ⟨bx, 2, none⟩ = some (.int .i64 q2) := fun d os => cell_regrown y2 d os
  have g7 : ∀ d os, (grow (redrawn W d) os).cell? ⟨bx, 3, none⟩ = some (.int .i64 q3) := fun d os => cell_regrown y3 d os
  have h0 : ∀ d os, (grow (redrawn W d) os).cell? ⟨bY, 0, none⟩ = some (.int .u64 q0) := fun d os => cell_regrown z0 d os
  have h1 : ∀ d os, (grow (redrawn W d) os).cell? ⟨bY, 1, none⟩ = some (.int .i64 q1) := fun d os => cell_regrown z1 d os
  have h2 : ∀ d os, (grow (redrawn W d) os).cell? ⟨bY, 2, none⟩ = some (.int .i64 q2) := fun d os => cell_regrown z2 d os
  have h3 : ∀ d os, (grow (redrawn W d) os).cell? ⟨bY, 3, none⟩ = some (.int .i64 q3) := fun d os => cell_regrown z3 d os
  have cA : ∀ d os, Calls Try.prog 10 #[.agg #[.int .u64 s, .int .i64 u, .int .i64 r, .int .i64 p]] (grow (redrawn W d) os) fun e w'' => e = .returned (.agg #[.int .u64 s, .int .i64 u, .int .i64 r, .int .i64 p]) ∧ ∃ p : Regrown, w'' = grow (redrawn W p.d) p.os := fun d os => Calls.regrown_of (of_any s u r p _)
  have cB : ∀ d os, Calls Try.prog 10 #[.agg #[.int .u64 q0, .int .i64 q1, .int .i64 q2, .int .i64 q3]] (grow (redrawn W d) os) fun e w'' => e = .returned (.agg #[.int .u64 q0, .int .i64 q1, .int .i64 q2, .int .i64 q3]) ∧ ∃ p : Regrown, w'' = grow (redrawn W p.d) p.os := fun d os => Calls.regrown_of (of_any q0 q1 q2 q3 _)
  have cX : ∀ d os, Calls Try.prog 9 #[.agg #[.int .u64 s, .int .i64 u, .int .i64 r, .int .i64 p]] (grow (redrawn W d) os) fun e w'' => e = .returned (.string (writeB s u r p)) ∧ ∃ p : Regrown, w'' = grow (redrawn W p.d) p.os := fun d os => Calls.regrown_of (whead_any s u r p _ bs0'.1 bs0'.2)
  have cY : ∀ d os, Calls Try.prog 11 #[.agg #[.int .u64 s, .int .i64 u, .int .i64 r, .int .i64 p]] (grow (redrawn W d) os) fun e w'' => e = .returned (.string (writeB s u r p)) ∧ ∃ p : Regrown, w'' = grow (redrawn W p.d) p.os := fun d os => Calls.regrown_of (rwhead_any s u r p _ bs0'.1 bs0'.2)
  have cW : ∀ d os, Calls Try.prog 12 #[] (grow (redrawn W d) os) fun e w'' => e = .returned (.bool true) ∧ ∃ p : Regrown, w'' = grow (redrawn W p.d) p.os := fun d os => Calls.regrown_of (awake_any _)
  have CA := Lib.hid cA
  have CB := Lib.hid cB
  have CX := Lib.hid cX
  have CY := Lib.hid cY
  have CW := Lib.hid cW
  clear cA cB cX cY cW hy4 hb4 hx4 hq4 x0 x1 x2 x3 y0 y1 y2 y3 z0 z1 z2 z3 HX3 HQA3 HBB3 HJ HR
  generalize writeB s u r p = X at *
  refine wp_region_quiet_below (by kernel_rfl) (by kernel_rfl) ?_
  repeat (go_big_quiet_step (first | (with_reducible exact CA.out _ _) | (with_reducible exact CB.out _ _) | (with_reducible exact CX.out _ _) | (with_reducible exact CY.out _ _) | (with_reducible exact CW.out _ _)))
  refine wpQuiet_nil ?_
  intro _ hw'
  obtain ⟨⟨dq, osq⟩, hw''⟩ := hw'
  subst hw''
  go_wp2
  go_returns
  exact ⟨rfl, HB4.out.on (below_regrown W dq osq)⟩

set_option maxRecDepth 100000 in
theorem lifted (os : Os) (started : os.Started) (H : Type) (enc : TypeId × Value → H) :
    ReturnsInHanded {} Try.checked os 3 .any (Rows.journalHeadsSpec.pre6 enc Try.prog Try.f3 Rows.journalHeadsRow.domain false) (Rows.journalHeadsSpec.post enc Try.prog Try.f3 false true false false) := by
  refine law_lift (C := Try.checked) own started (by kernel_rfl) Try.func3 laidOut (by kernel_rfl) rfl Try.underlying4 rfl
    (fun ds h => match ds, h with | [_, _], _ => rfl)
    (ChangeSpec.witness6 (enc := enc) (C := Try.checked) false ⟨#[], #[.agg (HeadV.cells ⟨0, 0, 0, 0⟩).toArray, .string ByteArray.empty], []⟩ 8 (by kernel_rfl) (by kernel_rfl) (by kernel_rfl) (by kernel_rfl)) ?_
  intro W base args ds ps hval hA hsz
  rw [Try.params3] at hA hval hsz
  obtain ⟨v0, vs0, d0, ds0, p0, q0, hargs, rfl, rfl, h0, r0⟩ := trodAll_cons hA
  obtain ⟨v1, vs1, d1, ds1, p1, q1, rfl, rfl, rfl, h1, r1⟩ := trodAll_cons r0
  obtain ⟨rfl, rfl, rfl⟩ := trodAll_nil r1
  obtain rfl : args = #[v0, v1] := by cases args; simp_all
  obtain ⟨a0, rfl, w0⟩ := head_open (hval 0 24 v0 rfl rfl) h0
  obtain ⟨a1, rfl, rfl, rfl, _⟩ := open_string Try.underlying9 (hval 1 9 v1 rfl rfl) h1
  have s1 : a1.size ≤ 140737488351232 := by
    have := sized_string hsz (j := 1) rfl rfl
    simpa [reachBytes] using this
  exact walk W a0 w0 a1 s1

theorem over : Rows.journalHeadsRow.holds Try.pinned (OpenSpec.ofChange Rows.journalHeadsSpec) :=
  OpenClaim.holds_of_wide 3 Try.f3 rfl rfl rfl rfl rfl rfl rfl ⟨rfl, rfl, rfl, rfl, rfl⟩ rfl rfl rfl rfl rfl (by kernel_rfl) Try.func3 (by kernel_rfl)
    (of_decide_eq_true (by kernel_rfl)) (by unfold Func.isWrapper; first | (rw [if_pos (by decide +kernel)]; kernel_rfl) | (rw [if_neg (by decide +kernel)]; exact ⟨rfl, rfl⟩))
    (fun os started H enc _ => lifted os started H enc)

theorem proved : Rows.JournalHeadsSaid :=
  over
end Go.Proofs.Ytpnlpciofmpldaa.journalHeads
