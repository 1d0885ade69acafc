/- The segments of every object's operations are told as the document says, and the chapter's example holds: for every segment (one of more than 80 operations, and one that has unlike operations of one number, are let go). No conditions. -/
import Derived.Test.YtgedlfilhpbfaaaCuS
import Derived.Deep.RegionHeld3
import Derived.Test.YtgedlfilhpbfaaaLaw
import Derived.BigQuiet
import Derived.Deep.QuietTactic
import Derived.Lib.QuietBelow
import Derived.Deep.DeepCutAuto
import Derived.Deep.CutBlock
namespace Go.Proofs.Ytgedlfilhpbfaaa.cutSegments
open Go.ChangeShapes Go.WideShapes Go.ChangeAt Go.RowKit Go.PlainAid
open Go.ChangeMaps (open_string)
open Go.Sort (grow)

theorem own : ownKnob Try.prog.godebug = none := by kernel_rfl
theorem laidOut : laidOutB Try.prog = true := by kernel_rfl
open Cu Go.Shelf Go.Sort
attribute [local go_sem ↓ high] load_op store_o load_s
set_option maxRecDepth 100000 in
set_option maxHeartbeats 4000000 in
theorem walk (w : World) (s0 : Cu.SegV) (u0 : Value) (h0 : OpsOf w u0 s0.ops) :
    Calls Try.prog 4 #[.agg #[.int .i64 s0.obj, .int .i64 s0.kind, u0]] w fun e w' => e = .returned (.bool true) ∧ Below w.heap.size w w' := by
  obtain ⟨ao, ac, rfl⟩ := h0.len
  obtain ⟨b1, hb1⟩ : ∃ b, w.heap.size = b := ⟨_, rfl⟩
  have g1 := heap_alloc_new w (.cells #[.int .i64 s0.obj, .int .i64 s0.kind, .slice ao s0.ops.length ac] 29)
  have hb01 : Below w.heap.size w (w.alloc (.cells #[.int .i64 s0.obj, .int .i64 s0.kind, .slice ao s0.ops.length ac] 29)) := by go_grown
  obtain ⟨W1, hW1⟩ : ∃ W, w.alloc (.cells #[.int .i64 s0.obj, .int .i64 s0.kind, .slice ao s0.ops.length ac] 29) = W := ⟨_, rfl⟩
  rw [hW1] at g1 hb01
  rw [hb1] at g1
  have c2 : W1.cell? ⟨b1, 2, none⟩ = some (.slice ao s0.ops.length ac) := by rw [cell_of_row _ _ _ _ _ _ g1]; rfl
  have H := Lib.hid (h0.on hb01)
  have HG := Lib.hid g1
  have HB1 := Lib.hid hb01
  clear h0 g1 hb01
  by_cases hl : 80 < s0.ops.length
  · have q0 : decide ((s0.ops.length : Int) > 80) = true := decide_eq_true (by omega)
    have q00 : ((80 : Int) < (s0.ops.length : Int)) = True := eq_true (by omega)
    clear hl
    go_enter Try.func4, Try.ntmps4
    go_wp2_with fail
    refine (Cu.awake_any _).mono ?_
    rintro _ w2 ⟨rfl, hb2⟩
    have HB2 := Lib.hid (HB1.out.on hb2)
    clear hb2
    go_wp2_with fail
    go_returns
    exact ⟨rfl, HB2.out⟩
  have q0 : decide ((s0.ops.length : Int) > 80) = false := decide_eq_false (by omega)
  have q00 : ((80 : Int) < (s0.ops.length : Int)) = False := eq_false (by omega)
  have HL0 := Lib.hid (show s0.ops.length ≤ 80 by omega)
  clear hl
  go_enter Try.func4, Try.ntmps4
  go_wp2_with fail
  refine (mixed_any H.out (by have := HL0.out; omega)).mono ?_
  rintro _ w2 ⟨mb, rfl, hb2, hal⟩
  have HB2 := Lib.hid (HB1.out.on hb2)
  have HU := Lib.hid (show ∀ W', Below w2.heap.size w2 W' → OpsOf W' (.slice ao s0.ops.length ac) s0.ops ∧ (loadS 29 (.pointer (some ⟨b1, 0, none⟩))).run Try.prog W' = .ok (.agg #[.int .i64 s0.obj, .int .i64 s0.kind, .slice ao s0.ops.length ac]) W' from fun W' hb => ⟨H.out.on (hb2.on hb), load_seg (p := 0) fun j x hx => by
    rw [cell_of_row _ _ _ _ _ _ (((hb2.on hb).block b1 (heap_inO HG.out)).trans HG.out), Nat.zero_add]
    simpa [segC] using hx⟩)
  have HAL := Lib.hid hal
  clear hb2 hal c2
  cases mb with
  | true =>
    go_wp2_with fail
    refine (Cu.awake_any _).mono ?_
    rintro _ w3 ⟨rfl, hb3⟩
    have HB3 := Lib.hid (HB2.out.on hb3)
    clear hb3
    go_wp2_with fail
    go_returns
    exact ⟨rfl, HB3.out⟩
  | false =>
    have HA := Lib.hid (show Cu.Alike s0.ops from by first | exact HAL.out trivial | exact HAL.out rfl)
    have HD := Lib.hid (Cu.below_drew w2)
    have ld := (HU.out _ HD.out).2
    have HC1 := Lib.hid (segments_any (HU.out _ HD.out).1 (by have := HL0.out; omega))
    go_wp2_with fail
    go_region_held3 (fun w' => (loadS 29 (.pointer (some ⟨b1, 0, none⟩))).run Try.prog w' = .ok (.agg #[.int .i64 s0.obj, .int .i64 s0.kind, .slice ao s0.ops.length ac]) w') (go_keep)
      (first
        | (go_at_call 12
           (with_reducible refine HC1.out.mono ?_)
           rintro e w3 ⟨vA, rfl, ps, S, hm, hs, hcut⟩
           have HB3 := Lib.hid (HD.out.on hm.below)
           have HS3 := Lib.hid hm.segs
           have HQ3 := Lib.hid (And.intro hs hcut)
           have ld3 := (HU.out _ HB3.out).2
           have HC2 := Lib.hid (rsegments_any (HU.out _ HB3.out).1 (by have := HL0.out; omega))
           clear hm hs hcut)
        | (go_at_call 13
           (with_reducible refine HC2.out.mono ?_)
           rintro e w4 ⟨vB, qs, S', rfl, hm, hs, hcut⟩
           have HB4 := Lib.hid (HB3.out.on hm.below)
           have HS4 := Lib.hid (HS3.out.on hm.below)
           have hSS : S = S' := sorted_same HA.out HQ3.out.1 hs
           have HT4 := Lib.hid (show SegsOf w4 vB (ps.map Prod.fst) from by rw [HQ3.out.2, hSS, ← hcut]; exact hm.segs)
           have ld4 := (HU.out _ HB4.out).2
           have HC3 := Lib.hid (same_any HS4.out HT4.out (by rw [HQ3.out.2, List.length_map]; have h1 := cut_few (P := S); have h2 := HQ3.out.1.1.length_eq; have := HL0.out; omega) (fun s hs => by
             rw [HQ3.out.2] at hs
             obtain ⟨c, hc, rfl⟩ := List.mem_map.1 hs
             have h1 := flat_le (S := S) (k := S.length) (c := c) (by rw [List.take_length]; exact hc)
             have h2 := HQ3.out.1.1.length_eq
             have := HL0.out
             simp only [mkS]
             omega))
           clear hm hs hcut hSS)
        | (go_at_call 9
           (with_reducible refine HC3.out.mono ?_)
           rintro e w5 ⟨rfl, hb5⟩
           have HB5 := Lib.hid (HB4.out.on hb5)
           have ld5 := (HU.out _ HB5.out).2
           clear hb5)
        | (go_at_call 8
           (with_reducible refine (Cu.awake_any _).mono ?_)
           rintro e w6 ⟨rfl, hb6⟩
           have HB6 := Lib.hid (HB5.out.on hb6)
           have ld6 := (HU.out _ HB6.out).2
           clear hb6)
        | fail)
    all_goals
      have HE := Lib.hid (HB2.out.on HB6.out)
      go_wp2_with fail
      go_returns
      exact ⟨rfl, HE.out⟩

set_option maxRecDepth 100000 in
theorem lifted (os : Os) (started : os.Started) (H : Type) (enc : TypeId × Value → H) :
    ReturnsInHanded {} Try.checked os 4 .any (Rows.cutSegmentsSpec.pre6 enc Try.prog Try.f4 Rows.cutSegmentsRow.domain false) (Rows.cutSegmentsSpec.post enc Try.prog Try.f4 false true false false) := by
  refine law_lift (C := Try.checked) own started (by kernel_rfl) Try.func4 laidOut (by kernel_rfl) rfl Try.underlying4 rfl
    (fun ds h => match ds, h with | [_], _ => rfl)
    (ChangeSpec.witness6 (enc := enc) (C := Try.checked) false ⟨#[], #[.agg #[.int .i64 0, .int .i64 0, .slice none 0 0]], []⟩ 8 (by kernel_rfl) (by kernel_rfl) (by kernel_rfl) (by kernel_rfl)) ?_
  intro W base args ds ps hval hA hsz
  rw [Try.params4] at hA hval hsz
  obtain ⟨v0, vs0, d0, ds0, p0, q0, hargs, rfl, rfl, h0, r0⟩ := trodAll_cons hA
  obtain ⟨rfl, rfl, rfl⟩ := trodAll_nil r0
  obtain rfl : args = #[v0] := by cases args; simp_all
  obtain ⟨s0, u0, rfl, hl0⟩ := seg_open (hval 0 29 v0 rfl rfl) h0
  exact walk W s0 u0 hl0

theorem over : Rows.cutSegmentsRow.holds Try.pinned (OpenSpec.ofChange Rows.cutSegmentsSpec) :=
  OpenClaim.holds_of_wide 4 Try.f4 rfl rfl rfl rfl rfl rfl rfl ⟨rfl, rfl, rfl, rfl, rfl⟩ rfl rfl rfl rfl rfl (by kernel_rfl) Try.func4 (by kernel_rfl)
    (of_decide_eq_true (by kernel_rfl)) (by unfold Func.isWrapper; first | (rw [if_pos (by decide +kernel)]; kernel_rfl) | (rw [if_neg (by decide +kernel)]; exact ⟨rfl, rfl⟩))
    (fun os started H enc _ => lifted os started H enc)

theorem proved : Rows.CutSegmentsSaid :=
  over
end Go.Proofs.Ytgedlfilhpbfaaa.cutSegments
