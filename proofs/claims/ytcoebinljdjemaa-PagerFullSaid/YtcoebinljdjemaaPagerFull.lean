/- A pager gives out just as many pages as there are, the least first, and then none, till one is taken back, which is then given out; and the chapter's example holds: for every count of pages (of those that the law takes) and every number. Conditions: none. -/
import Derived.Test.YtcoebinljdjemaaGQ
import Derived.Test.YtcoebinljdjemaaLaw
import Derived.BigQuiet
import Derived.Deep.QuietTactic
import Derived.Lib.QuietBelow
import Derived.Deep.DeepCutAuto
import Derived.Deep.CutBlock
namespace Go.Proofs.Ytcoebinljdjemaa.pagerFull
open Go.ChangeShapes Go.WideShapes Go.ChangeAt Go.RowKit Go.PlainAid
open Go.ChangeMaps (open_string)
open Go.Sort (grow)

theorem own : ownKnob Try.prog.godebug = none := by kernel_rfl
theorem laidOut : laidOutB Try.prog = true := by kernel_rfl
set_option maxRecDepth 100000
set_option maxRecDepth 100000 in
set_option maxHeartbeats 4000000 in
theorem walk (w : World) (a0 : Int) (w0 : (Lit.int .u8 a0).wf = true) (a1 : Int) (w1 : (Lit.int .u64 a1).wf = true) :
    Calls Try.prog 4 #[.int .u8 a0, .int .u64 a1] w fun e w' => e = .returned (.bool true) ∧ Below w.heap.size w w' := by
  obtain ⟨b0, c0⟩ := bounds_u8 w0
  obtain ⟨b1, c1⟩ := bounds_u64 w1
  obtain ⟨n, hn⟩ : ∃ n : Nat, a0 % 20 + 3 = (n : Int) := ⟨(a0 % 20 + 3).toNat, by omega⟩
  have hn3 : 3 ≤ n := by omega
  have hn22 : n ≤ 22 := by omega
  go_enter Try.func4, Try.ntmps4
  go_wp2_with fail
  clear hn b0 c0 w0
  refine (begunV_any n w (by omega) (by omega)).mono ?_
  rintro e w1 ⟨pp, p, q, V, rfl, H1⟩
  have HF := Lib.hid (H1.format (by omega) (by omega))
  have hV : ∀ k : Int, 0 ≤ k → k < 2048 → hasB (fmtV V 0) k = decide (k < 2) := fun k a b => fmt_has a b
  clear H1
  go_wp2_with fail
  refine HF.out.mono ?_
  rintro e w2 ⟨rfl, H2⟩
  generalize fmtV V = V1 at *
  have hV1 : ∀ k : Int, 0 ≤ k → k < n → hasB (V1 0) k = decide (k < ((2 : Nat) : Int)) := fun k a b => hV k a (by omega)
  have H2' := Lib.hid H2
  have HV1 := Lib.hid hV1
  clear HF H2 hV hV1
  go_wp2_with fail
  go_loopw [9] (fun i wr => ∃ (k : Nat) (V : Int → ByteArray), 2 ≤ k ∧ k ≤ n ∧ i = .int .i64 k ∧ PV w pp n (2 * k) V [] wr ∧ ∀ x : Int, 0 ≤ x → x < n → hasB (V 0) x = decide (x < (k : Int))) (fun i _ => n - (intOf i).toNat)
  case atStart => exact ⟨2, V1, by omega, by omega, rfl, H2'.out.mono (by omega), HV1.out⟩
  case round =>
    clear H2' HV1
    obtain ⟨k, V2, hk2, hkn, rfl, hP, hV⟩ := hrel
    have hs := hP.size (k := 0) (by omega) (by omega)
    by_cases hlt : k < n
    · have hl := least_first hs (by omega) hV hk2 hlt
      have HA := Lib.hid (hP.alloc (by omega) (by omega) k hl)
      have HG := Lib.hid (given_first hs (by omega) hV hlt)
      clear hP hV hl
      go_wp2_with fail
      refine HA.out.mono ?_
      rintro e w3 ⟨rfl, H3⟩
      generalize givenV V2 k = V3 at *
      have hu : usedN (V3 0) n = k + 1 := by rw [used_first (n := n) (i := k + 1) HG.out n (Nat.le_refl _)]; omega
      have HR := Lib.hid (H3.room (by omega) ((n : Int) - 1 - (k : Int)) (by rw [hu]; omega))
      clear HA H3 hu hs
      go_wp2_with fail
      refine HR.out.mono ?_
      rintro e w4 ⟨rfl, H4⟩
      have H4' := Lib.hid (H4.mono (c' := 2 * (k + 1)) (by omega))
      clear HR H4
      go_wp2
      go_roundw
      case rel => exact ⟨k + 1, V3, by omega, by omega, by go_num, H4'.out, HG.out⟩
      case measure => simp [intOf]; omega
    · obtain rfl : k = n := by omega
      have hall : ∀ x : Int, 0 ≤ x → x < k → hasB (V2 0) x = true := fun x a b => by rw [hV x a b, decide_eq_true b]
      have HN := Lib.hid (hP.alloc_no (by omega) (least_none hall))
      have HAL := Lib.hid hall
      clear hP hV hall hs
      go_wp2_with fail
      refine HN.out.mono ?_
      rintro e w3 ⟨rfl, H3⟩
      have H3' := Lib.hid H3
      clear HN H3
      go_wp2_with fail
      obtain ⟨m, hm, hm2, hmk⟩ : ∃ m : Nat, wrap64 (2 + wrap64 (a1 % ((k : Int) - 2))) = (m : Int) ∧ 2 ≤ m ∧ m < k := by
        have e1 := Int.emod_nonneg a1 (show (k : Int) - 2 ≠ 0 by omega)
        have e2 := Int.emod_lt_of_pos a1 (show 0 < (k : Int) - 2 by omega)
        rw [IntWalk.wrap64_in (a1 % ((k : Int) - 2)) (by omega), IntWalk.wrap64_in _ (by omega)]
        exact ⟨(2 + a1 % ((k : Int) - 2)).toNat, by omega, by omega, by omega⟩
      rw [hm]
      have hFR := H3'.out.free m (by omega) (by omega) (by omega) (by omega) (out_of (by omega) (by omega) (HAL.out m (by omega) (by omega)))
      have s3 := H3'.out.size (k := 0) (by omega) (by omega)
      have hV4 : ∀ x : Int, 0 ≤ x → x < k → hasB (updV V2 0 (withS (V2 0) m false) 0) x = if x = m then false else true := fun x a b => by rw [freed_has s3 (by omega) (by omega), HAL.out x a b]
      have HFR := Lib.hid hFR
      have HV4 := Lib.hid hV4
      clear H3' HAL s3 hV4 hFR hm
      refine HFR.out.mono ?_
      rintro e w4 ⟨rfl, H4⟩
      generalize updV V2 0 (withS (V2 0) m false) = V4 at *
      have s4 := H4.size (k := 0) (by omega) (by omega)
      have hl : Least (V4 0) 2 k m := by
        refine ⟨⟨by omega, by omega, by omega, by rw [s4]; omega, ?_⟩, fun l hl hc => ?_⟩
        · rw [HV4.out m (by omega) (by omega), if_pos rfl]
        · obtain ⟨a, b, c, _, e⟩ := hc
          rw [HV4.out l b c, if_neg (by omega)] at e
          cases e
      have HA := Lib.hid (H4.alloc (by omega) (by omega) m hl)
      clear H4 HFR HV4 hl s4
      go_wp2_with fail
      refine HA.out.mono ?_
      rintro e w5 ⟨rfl, H5⟩
      have HB := Lib.hid H5.below
      clear H5 HA
      go_wp2_with fail
      refine (awake_any _).mono ?_
      rintro e w6 ⟨rfl, hb6⟩
      have HB6 := Lib.hid (HB.out.on hb6)
      clear hb6 HB
      go_wp2
      go_returns
      exact ⟨rfl, HB6.out⟩

set_option maxRecDepth 100000 in
theorem lifted (os : Os) (started : os.Started) (H : Type) (enc : TypeId × Value → H) :
    ReturnsInHanded {} Try.checked os 4 .any (Rows.pagerFullSpec.pre6 enc Try.prog Try.f4 Rows.pagerFullRow.domain false) (Rows.pagerFullSpec.post enc Try.prog Try.f4 false true false false) := by
  refine law_lift (C := Try.checked) own started (by kernel_rfl) Try.func4 laidOut (by kernel_rfl) rfl Try.underlying4 rfl
    (fun ds h => match ds, h with | [_, _], _ => rfl)
    (ChangeSpec.witness6 (enc := enc) (C := Try.checked) false ⟨#[], #[.int .u8 0, .int .u64 0], []⟩ 8 (by kernel_rfl) (by kernel_rfl) (by kernel_rfl) (by kernel_rfl)) ?_
  intro W base args ds ps hval hA hsz
  rw [Try.params4] at hA hval hsz
  obtain ⟨v0, vs0, d0, ds0, p0, q0, hargs, rfl, rfl, h0, r0⟩ := trodAll_cons hA
  obtain ⟨v1, vs1, d1, ds1, p1, q1, rfl, rfl, rfl, h1, r1⟩ := trodAll_cons r0
  obtain ⟨rfl, rfl, rfl⟩ := trodAll_nil r1
  obtain rfl : args = #[v0, v1] := by cases args; simp_all
  obtain ⟨a0, rfl, rfl, rfl, w0⟩ := open_int Try.underlying5 (hval 0 5 v0 rfl rfl) h0
  obtain ⟨a1, rfl, rfl, rfl, w1⟩ := open_int Try.underlying37 (hval 1 37 v1 rfl rfl) h1
  exact walk W a0 w0 a1 w1

theorem over : Rows.pagerFullRow.holds Try.pinned (OpenSpec.ofChange Rows.pagerFullSpec) :=
  OpenClaim.holds_of_wide 4 Try.f4 rfl rfl rfl rfl rfl rfl rfl ⟨rfl, rfl, rfl, rfl, rfl⟩ rfl rfl rfl rfl rfl (by kernel_rfl) Try.func4 (by kernel_rfl)
    (of_decide_eq_true (by kernel_rfl)) (by unfold Func.isWrapper; first | (rw [if_pos (by decide +kernel)]; kernel_rfl) | (rw [if_neg (by decide +kernel)]; exact ⟨rfl, rfl⟩))
    (fun os started H enc _ => lifted os started H enc)

theorem proved : Rows.PagerFullSaid :=
  over
end Go.Proofs.Ytcoebinljdjemaa.pagerFull
