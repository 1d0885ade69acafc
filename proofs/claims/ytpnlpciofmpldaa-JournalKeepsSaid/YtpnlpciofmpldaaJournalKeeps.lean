/- A head that is written is read, whatever stands behind it; and the chapter's examples hold: for all heads of such numbers and every text. Conditions: none. -/
import Derived.Test.YtpnlpciofmpldaaJSpec
import Derived.Test.YtpnlpciofmpldaaJAwake
import Derived.Test.YtpnlpciofmpldaaLaw
import Derived.BigQuiet
import Derived.Deep.QuietTactic
import Derived.Lib.QuietBelow
import Derived.Deep.DeepCutAuto
import Derived.Deep.CutBlock
namespace Go.Proofs.Ytpnlpciofmpldaa.journalKeeps
open Go.ChangeShapes Go.WideShapes Go.ChangeAt Go.RowKit Go.PlainAid
open Go.ChangeMaps (open_string)
open Go.Sort (grow)

theorem own : ownKnob Try.prog.godebug = none := by kernel_rfl
theorem laidOut : laidOutB Try.prog = true := by kernel_rfl

set_option maxRecDepth 100000 in
set_option maxHeartbeats 2000000 in
theorem walk (w : World) (a0 : Int) (w0 : (Lit.int .u64 a0).wf = true) (a1 : Int) (w1 : (Lit.int .u32 a1).wf = true) (a2 : Int) (w2 : (Lit.int .u32 a2).wf = true) (a3 : Int) (w3 : (Lit.int .u32 a3).wf = true) (a4 : ByteArray) (s4 : a4.size ≤ 140737488351232) :
    Calls Try.prog 5 #[.int .u64 a0, .int .u32 a1, .int .u32 a2, .int .u32 a3, .string a4] w fun e w' => e = .returned (.bool true) ∧ Below w.heap.size w w' := by
  obtain ⟨b0, c0⟩ := bounds_u64 w0
  obtain ⟨b1, c1⟩ := bounds_u32 w1
  obtain ⟨b2, c2⟩ := bounds_u32 w2
  obtain ⟨b3, c3⟩ := bounds_u32 w3
  have u4 := s4
  clear u4
  have q := heap_alloc_new w (.cells #[.int .u64 a0, .int .i64 a1, .int .i64 a2, .int .i64 a3] 25)
  have hb0 : Below w.heap.size w (w.alloc (.cells #[.int .u64 a0, .int .i64 a1, .int .i64 a2, .int .i64 a3] 25)) := by go_grown
  go_enter Try.func5, Try.ntmps5
  go_wp2_with fail
  generalize w.alloc (.cells #[.int .u64 a0, .int .i64 a1, .int .i64 a2, .int .i64 a3] 25) = W0 at *
  refine (whead_any a0 a1 a2 a3 W0 (by omega) (by omega)).mono ?_
  rintro e w1 ⟨rfl, hb1⟩
  have hq1 := (hb1.block _ (heap_lt' q)).trans q
  have hb2 := hb0.on hb1
  obtain ⟨hok, hex⟩ := written_ok (headB a0 a1 a2 a3) a4 (headB_size a0 a1 a2 a3)
  have hfv := (fields_of _ _ hex).trans (head_back a0 a1 a2 a3 (by omega) (by omega))
  rw [show uZ a1 % 4294967296 = a1 by unfold uZ; omega, show uZ a2 % 4294967296 = a2 by unfold uZ; omega, show uZ a3 % 4294967296 = a3 by unfold uZ; omega] at hfv
  have hsz := writeB_size a0 a1 a2 a3
  rw [show headB a0 a1 a2 a3 ++ notS (headB a0 a1 a2 a3) = writeB a0 a1 a2 a3 from rfl] at hok hfv
  generalize writeB a0 a1 a2 a3 = Y at *
  have hcat := fun w => run_string_add_sum (P := Try.prog) w Y a4 (by omega)
  have hsm : (Y ++ a4).size ≤ maxLen := by rw [ByteArray.size_append]; unfold maxLen; omega
  have HR := Lib.hid (fun w => rhead_val (Y ++ a4) w hok hsm)
  have HF := Lib.hid hfv
  have HB := Lib.hid hb2
  have HQ := Lib.hid hq1
  clear q hb0 hb1 hq1 hb2 hok hex hfv hsz hsm
  generalize Y ++ a4 = Z at *
  go_wp2_with fail
  refine (HR.out _).mono ?_
  rintro e w2 ⟨rfl, hb2⟩
  rw [HF.out]
  have hq2 := (hb2.block _ (heap_lt' HQ.out)).trans HQ.out
  have HB2 := Lib.hid (HB.out.on hb2)
  have HQ2 := Lib.hid hq2
  clear hb2 hq2 HQ HB HR HF
  have hlt := heap_lt' HQ2.out
  have hna : w2.heap.size ≠ w.heap.size := by omega
  have hq3 := (Below.heap_alloc w2 (.cells #[.int .u64 a0, .int .i64 a1, .int .i64 a2, .int .i64 a3] 25) _ hlt).trans HQ2.out
  have hq4 := heap_alloc_new w2 (.cells #[.int .u64 a0, .int .i64 a1, .int .i64 a2, .int .i64 a3] 25)
  obtain ⟨x0, x1, x2, x3, _⟩ := cells4' hq3
  obtain ⟨y0, y1, y2, y3, _⟩ := cells4' hq4
  have HB3 : Hid (Below w.heap.size w (w2.alloc (.cells #[.int .u64 a0, .int .i64 a1, .int .i64 a2, .int .i64 a3] 25))) := HB2.out.on (by go_grown)
  clear hlt hq3 hq4
  go_wp2_with fail
  refine (awake_any _).mono ?_
  rintro e w3 ⟨rfl, hb3⟩
  have HB4 := Lib.hid (HB3.out.on hb3)
  clear hb3
  go_wp2
  go_returns
  exact ⟨rfl, HB4.out⟩

set_option maxRecDepth 100000 in
theorem lifted (os : Os) (started : os.Started) (H : Type) (enc : TypeId × Value → H) :
    ReturnsInHanded {} Try.checked os 5 .any (Rows.journalKeepsSpec.pre6 enc Try.prog Try.f5 Rows.journalKeepsRow.domain false) (Rows.journalKeepsSpec.post enc Try.prog Try.f5 false true false false) := by
  refine law_lift (C := Try.checked) own started (by kernel_rfl) Try.func5 laidOut (by kernel_rfl) rfl Try.underlying4 rfl
    (fun ds h => match ds, h with | [_, _, _, _, _], _ => rfl)
    (ChangeSpec.witness6 (enc := enc) (C := Try.checked) false ⟨#[], #[.int .u64 0, .int .u32 0, .int .u32 0, .int .u32 0, .string ByteArray.empty], []⟩ 8 (by kernel_rfl) (by kernel_rfl) (by kernel_rfl) (by kernel_rfl)) ?_
  intro W base args ds ps hval hA hsz
  rw [Try.params5] at hA hval hsz
  obtain ⟨v0, vs0, d0, ds0, p0, q0, hargs, rfl, rfl, h0, r0⟩ := trodAll_cons hA
  obtain ⟨v1, vs1, d1, ds1, p1, q1, rfl, rfl, rfl, h1, r1⟩ := trodAll_cons r0
  obtain ⟨v2, vs2, d2, ds2, p2, q2, rfl, rfl, rfl, h2, r2⟩ := trodAll_cons r1
  obtain ⟨v3, vs3, d3, ds3, p3, q3, rfl, rfl, rfl, h3, r3⟩ := trodAll_cons r2
  obtain ⟨v4, vs4, d4, ds4, p4, q4, rfl, rfl, rfl, h4, r4⟩ := trodAll_cons r3
  obtain ⟨rfl, rfl, rfl⟩ := trodAll_nil r4
  obtain rfl : args = #[v0, v1, v2, v3, v4] := by cases args; simp_all
  obtain ⟨a0, rfl, rfl, rfl, w0⟩ := open_int Try.underlying22 (hval 0 22 v0 rfl rfl) h0
  obtain ⟨a1, rfl, rfl, rfl, w1⟩ := open_int Try.underlying45 (hval 1 45 v1 rfl rfl) h1
  obtain ⟨a2, rfl, rfl, rfl, w2⟩ := open_int Try.underlying45 (hval 2 45 v2 rfl rfl) h2
  obtain ⟨a3, rfl, rfl, rfl, w3⟩ := open_int Try.underlying45 (hval 3 45 v3 rfl rfl) h3
  obtain ⟨a4, rfl, rfl, rfl, _⟩ := open_string Try.underlying9 (hval 4 9 v4 rfl rfl) h4
  have s4 : a4.size ≤ 140737488351232 := by
    have := sized_string hsz (j := 4) rfl rfl
    simpa [reachBytes] using this
  exact walk W a0 w0 a1 w1 a2 w2 a3 w3 a4 s4

theorem over : Rows.journalKeepsRow.holds Try.pinned (OpenSpec.ofChange Rows.journalKeepsSpec) :=
  OpenClaim.holds_of_wide 5 Try.f5 rfl rfl rfl rfl rfl rfl rfl ⟨rfl, rfl, rfl, rfl, rfl⟩ rfl rfl rfl rfl rfl (by kernel_rfl) Try.func5 (by kernel_rfl)
    (of_decide_eq_true (by kernel_rfl)) (by unfold Func.isWrapper; first | (rw [if_pos (by decide +kernel)]; kernel_rfl) | (rw [if_neg (by decide +kernel)]; exact ⟨rfl, rfl⟩))
    (fun os started H enc _ => lifted os started H enc)

theorem proved : Rows.JournalKeepsSaid :=
  over
end Go.Proofs.Ytpnlpciofmpldaa.journalKeeps
