/- A root that is set is told, and others stay: for every number of a tree that is set, every one that is asked for, and every page; and the chapter's example holds. Conditions: none. -/
import Derived.Test.YtcoebinljdjemaaGQ
import Derived.Test.YtcoebinljdjemaaLaw
import Derived.BigQuiet
import Derived.Deep.QuietTactic
import Derived.Lib.QuietBelow
import Derived.Deep.DeepCutAuto
import Derived.Deep.CutBlock
namespace Go.Proofs.Ytcoebinljdjemaa.pagerRoots
open Go.ChangeShapes Go.WideShapes Go.ChangeAt Go.RowKit Go.PlainAid
open Go.ChangeMaps (open_string)
open Go.Sort (grow)

theorem own : ownKnob Try.prog.godebug = none := by kernel_rfl
theorem laidOut : laidOutB Try.prog = true := by kernel_rfl
set_option maxRecDepth 100000
set_option maxRecDepth 100000 in
set_option maxHeartbeats 8000000 in
theorem walk (w : World) (a0 : Int) (w0 : (Lit.int .i64 a0).wf = true) (a1 : Int) (w1 : (Lit.int .i64 a1).wf = true) (a2 : Int) (w2 : (Lit.int .i64 a2).wf = true) :
    Calls Try.prog 5 #[.int .i64 a0, .int .i64 a1, .int .i64 a2] w fun e w' => e = .returned (.bool true) ∧ Below w.heap.size w w' := by
  obtain ⟨b0, c0⟩ := bounds_i64 w0
  obtain ⟨b1, c1⟩ := bounds_i64 w1
  obtain ⟨b2, c2⟩ := bounds_i64 w2
  go_enter Try.func5, Try.ntmps5
  go_wp2_with fail
  refine (begunV_any 9 w (by omega) (by omega)).mono ?_
  rintro e v1 ⟨pp, p, q, V, rfl, H1⟩
  have HF := Lib.hid (H1.format (by omega) (by omega))
  have hV : ∀ k : Int, 0 ≤ k → k < (9 : Nat) → hasB (fmtV V 0) k = decide (k < ((2 : Nat) : Int)) := fun k a b => fmt_has a (by omega)
  have hZ : fmtV V 1 = zeroText := updV_same _ _ _
  clear H1
  go_wp2_with fail
  refine HF.out.mono ?_
  rintro e v2 ⟨rfl, H2⟩
  clear HF
  generalize fmtV V = V1 at *
  have s2 := H2.size (k := 0) (by omega) (by omega)
  have HA := Lib.hid (H2.alloc (by omega) (by omega) 2 (least_first (i := 2) s2 (by omega) hV (by omega) (by omega)))
  have hV2 := given_first s2 (by omega) hV (by omega)
  have hZ2 : givenV V1 2 1 = zeroText := by unfold givenV; rw [updV_other _ _ (by decide), updV_other _ _ (by decide), hZ]
  clear H2 hV hZ
  go_wp2_with fail
  refine HA.out.mono ?_
  rintro e v3 ⟨rfl, H3⟩
  rw [show ((2 : Nat) : Int) = 2 from rfl] at hV2
  generalize givenV V1 2 = V2 at *
  have s3 := H3.size (k := 0) (by omega) (by omega)
  have HA2 := Lib.hid (H3.alloc (by omega) (by omega) 3 (least_first (i := 3) s3 (by omega) hV2 (by omega) (by omega)))
  have hV3 := given_first s3 (by omega) hV2 (by omega)
  have hZ3 : givenV V2 3 1 = zeroText := by unfold givenV; rw [updV_other _ _ (by decide), updV_other _ _ (by decide), hZ2]
  clear H3 HA hV2 hZ2 s2
  go_wp2_with fail
  refine HA2.out.mono ?_
  rintro e v4 ⟨rfl, H4⟩
  rw [show ((2 + 1 : Nat) : Int) = 3 from rfl] at hV3
  generalize givenV V2 3 = V3 at *
  have hV4 : ∀ k : Int, 0 ≤ k → k < (9 : Nat) → hasB (V3 0) k = decide (k < 4) := hV3
  have HS := Lib.hid (H4.setRoot 3 2 (by omega) (by omega) (by omega) (fun _ => out_of (by omega) (by omega) (by rw [hV4 2 (by omega) (by omega)]; rfl)) (by omega) (by omega))
  have hV5 : ∀ k : Int, 0 ≤ k → k < (9 : Nat) → hasB (updV V3 1 (setRoot (V3 1) 3 2) 0) k = decide (k < 4) := fun k a b => by rw [updV_other _ _ (by decide)]; exact hV4 k a b
  have hR5 : ∀ j : Int, 0 ≤ j ∧ j < 16 → rootZ (updV V3 1 (setRoot (V3 1) 3 2) 1) j = if j = 3 then 2 else 0 := fun j hj => by
    rw [updV_same, hZ3, root_set zeroText_size (by omega) hj (by omega), root_zero]
  clear H4 HA2 hV3 hV4 hZ3 s3
  go_wp2_with fail
  refine HS.out.mono ?_
  rintro e v5 ⟨rfl, H5⟩
  clear HS
  generalize updV V3 1 (setRoot (V3 1) 3 2) = V5 at *
  have s5 := H5.size (k := 1) (by omega) (by omega)
  have HR5 := Lib.hid hR5
  clear hR5
  have hE : ∃ (E : Int) (c6 : Nat) (V6 : Int → ByteArray), Calls Try.prog 15 #[.pointer (some ⟨pp, 0, none⟩), .int .i64 a0, .int .i64 a2] v5 (fun e w' => e = .returned (.int .i64 E) ∧ PV w pp 9 c6 V6 [] w') ∧
      (∀ j : Int, 0 ≤ j ∧ j < 16 → rootZ (V6 1) j = if j = a0 ∧ E = 0 then a2 else if j = 3 then 2 else 0) ∧
      ((a0 < 0 ∧ E = 1) ∨ (0 ≤ a0 ∧ 15 < a0 ∧ E = 1) ∨ (0 ≤ a0 ∧ a0 ≤ 15 ∧ E = 6 ∧ a2 ≠ 0 ∧ a2 ≠ 2 ∧ a2 ≠ 3) ∨ (0 ≤ a0 ∧ a0 ≤ 15 ∧ E = 0 ∧ a2 = 0) ∨ (0 ≤ a0 ∧ a0 ≤ 15 ∧ E = 0 ∧ a2 = 2) ∨ (0 ≤ a0 ∧ a0 ≤ 15 ∧ E = 0 ∧ a2 = 3)) := by
    by_cases hi : a0 < 0 ∨ 16 ≤ a0
    · exact ⟨1, _, _, H5.setRoot_arg a0 a2 hi, fun j hj => by rw [HR5.out j hj, if_neg (show ¬ (j = a0 ∧ (1 : Int) = 0) by omega)], by
        rcases Int.lt_or_le a0 0 with h | h
        · exact .inl ⟨h, rfl⟩
        · exact .inr (.inl ⟨h, by omega, rfl⟩)⟩
    · by_cases hk : a2 ≠ 0 ∧ outB (9 : Nat) (V5 0) a2 = false
      · refine ⟨6, _, _, H5.setRoot_none a0 a2 (by omega) (by omega) hk.1 hk.2 b2 c2, fun j hj => by rw [HR5.out j hj, if_neg (show ¬ (j = a0 ∧ (6 : Int) = 0) by omega)], .inr (.inr (.inl ⟨by omega, by omega, rfl, hk.1, fun e => ?_, fun e => ?_⟩))⟩
        · have := hk.2
          rw [e, out_of (by omega) (by omega) (by rw [hV5 2 (by omega) (by omega)]; rfl)] at this
          cases this
        · have := hk.2
          rw [e, out_of (by omega) (by omega) (by rw [hV5 3 (by omega) (by omega)]; rfl)] at this
          cases this
      · have hk2 : a2 ≠ 0 → outB (9 : Nat) (V5 0) a2 = true := fun z => by
          cases h : outB (9 : Nat) (V5 0) a2 with
          | true => rfl
          | false => exact absurd ⟨z, h⟩ hk
        have hv : a2 = 0 ∨ a2 = 2 ∨ a2 = 3 := by
          by_cases z : a2 = 0
          · exact .inl z
          · have := hk2 z
            unfold outB at this
            simp only [Bool.and_eq_true, decide_eq_true_eq] at this
            obtain ⟨⟨p1, p2⟩, p3⟩ := this
            rw [hV5 a2 (by omega) p2] at p3
            have := of_decide_eq_true p3
            omega
        refine ⟨0, _, _, H5.setRoot a0 a2 (by omega) (by omega) (by omega) hk2 b2 c2, fun j hj => ?_, by
          rcases hv with h | h | h
          · exact .inr (.inr (.inr (.inl ⟨by omega, by omega, rfl, h⟩)))
          · exact .inr (.inr (.inr (.inr (.inl ⟨by omega, by omega, rfl, h⟩))))
          · exact .inr (.inr (.inr (.inr (.inr ⟨by omega, by omega, rfl, h⟩))))⟩
        rw [updV_same, root_set s5 (by omega) hj (by omega), HR5.out j hj]
        by_cases e : j = a0
        · rw [if_pos e, if_pos ⟨e, rfl⟩]
        · rw [if_neg e, if_neg (show ¬ (j = a0 ∧ (0 : Int) = 0) from fun h => e h.1)]
  obtain ⟨E, c6, V6, hS, hroot, hcases⟩ := hE
  have HS2 := Lib.hid hS
  have HRT := Lib.hid hroot
  clear hS hroot H5 s5 hV5 HR5
  go_wp2_with fail
  refine HS2.out.mono ?_
  rintro e v6 ⟨rfl, H6⟩
  have H6' := Lib.hid H6
  have HCS := Lib.hid hcases
  clear H6 HS2 hcases
  go_upto_region 9 with fail
  go_cut [56] (fun s56 wx => s56 = .bool false ∧ PV w pp 9 c6 V6 [] wx)
  case first =>
    have h3 : (a0 < 0 ∧ E = 1) ∨ (0 ≤ a0 ∧ 15 < a0 ∧ E = 1) ∨ (0 ≤ a0 ∧ a0 ≤ 15 ∧ E ≠ 1) := by
      rcases HCS.out with ⟨i0, e⟩ | ⟨i0, i1, e⟩ | ⟨i0, i1, e, _⟩ | ⟨i0, i1, e, _⟩ | ⟨i0, i1, e, _⟩ | ⟨i0, i1, e, _⟩
      · exact .inl ⟨i0, e⟩
      · exact .inr (.inl ⟨i0, i1, e⟩)
      all_goals exact .inr (.inr ⟨i0, i1, by rw [e]; decide⟩)
    rcases h3 with ⟨i0, rfl⟩ | ⟨i0, i1, rfl⟩ | ⟨i0, i1, i2⟩
    · have d1 : decide (a0 < 0) = true := by simp; omega
      go_wp2_with fail
      all_goals go_meet
      all_goals exact ⟨rfl, H6'.out⟩
    · have d1 : decide (a0 < 0) = false := by simp; omega
      have d2 : decide (15 < a0) = true := by simp; omega
      go_wp2_with fail
      all_goals go_meet
      all_goals exact ⟨rfl, H6'.out⟩
    · have d1 : decide (a0 < 0) = false := by simp; omega
      have d2 : decide (15 < a0) = false := by simp; omega
      have d3 : (E == 1) = false := by simpa using i2
      clear HRT i2
      go_wp2_with fail
      all_goals go_meet
      all_goals exact ⟨rfl, H6'.out⟩
  case rest =>
    obtain ⟨rfl, H6⟩ := hcut
    clear H6'
    have H6' := Lib.hid H6
    clear H6
    go_upto_region 11 with fail
    go_cut [75] (fun s75 wx => s75 = .bool false ∧ PV w pp 9 c6 V6 [] wx)
    case first =>
      have h5 : E = 1 ∨ (E = 6 ∧ a2 ≠ 0 ∧ a2 ≠ 2 ∧ a2 ≠ 3) ∨ (E = 0 ∧ a2 = 0) ∨ (E = 0 ∧ a2 = 2) ∨ (E = 0 ∧ a2 = 3) := by
        rcases HCS.out with ⟨_, e⟩ | ⟨_, _, e⟩ | ⟨_, _, e, z⟩ | ⟨_, _, e, z⟩ | ⟨_, _, e, z⟩ | ⟨_, _, e, z⟩
        · exact .inl e
        · exact .inl e
        · exact .inr (.inl ⟨e, z⟩)
        · exact .inr (.inr (.inl ⟨e, z⟩))
        · exact .inr (.inr (.inr (.inl ⟨e, z⟩)))
        · exact .inr (.inr (.inr (.inr ⟨e, z⟩)))
      clear HRT HCS
      rcases h5 with rfl | ⟨rfl, z0, z2, z3⟩ | ⟨rfl, rfl⟩ | ⟨rfl, rfl⟩ | ⟨rfl, rfl⟩
      · go_wp2_with fail
        all_goals go_meet
        all_goals exact ⟨rfl, H6'.out⟩
      · have y0 : (a2 == 0) = false := by simpa using z0
        have y2 : (a2 == 2) = false := by simpa using z2
        have y3 : (a2 == 3) = false := by simpa using z3
        go_wp2_with fail
        all_goals go_meet
        all_goals exact ⟨rfl, H6'.out⟩
      all_goals
        go_wp2_with fail
        all_goals go_meet
        all_goals exact ⟨rfl, H6'.out⟩
    case rest =>
      obtain ⟨rfl, H6⟩ := hcut
      obtain ⟨W1, hW1⟩ : ∃ W1 : Int, W1 = if a1 = 3 then 2 else 0 := ⟨_, rfl⟩
      have HW1 := Lib.hid hW1
      obtain ⟨W, hW⟩ : ∃ W : Int, W = if a1 = a0 ∧ E = 0 then a2 else W1 := ⟨_, rfl⟩
      have hR : ∃ r f : Int, (∀ w1, PV w pp 9 c6 V6 [] w1 → Calls Try.prog 16 #[.pointer (some ⟨pp, 0, none⟩), .int .i64 a1] w1 (fun e w' => e = .returned (.tuple #[.int .i64 r, .int .i64 f]) ∧ PV w pp 9 c6 V6 [] w')) ∧
          ((0 ≤ a1 ∧ a1 < 16 ∧ f = 0 ∧ r = W) ∨ (a1 < 0 ∧ f = 1) ∨ (0 ≤ a1 ∧ 16 ≤ a1 ∧ f = 1)) := by
        by_cases hk : 0 ≤ a1 ∧ a1 < 16
        · exact ⟨_, 0, fun w1 h1 => h1.root a1 hk (by omega), .inl ⟨hk.1, hk.2, rfl, by rw [HRT.out a1 hk, hW, hW1]⟩⟩
        · exact ⟨0, 1, fun w1 h1 => h1.root_no a1 (by omega), by
            rcases Int.lt_or_le a1 0 with h | h
            · exact .inr (.inl ⟨h, rfl⟩)
            · exact .inr (.inr ⟨h, by omega, rfl⟩)⟩
      obtain ⟨r, f, hr, hrf⟩ := hR
      have HR := Lib.hid (hr _ H6)
      have HF2 := Lib.hid hrf
      have HW := Lib.hid hW
      clear hr hrf hW hW1 H6 H6' HRT HCS
      go_wp2_with fail
      refine HR.out.mono ?_
      rintro e v7 ⟨rfl, H7⟩
      have HB := Lib.hid H7.below
      clear H7 HR
      go_upto_if 83 with fail
      go_cut [17] (fun s17 wx => s17 = .int .i64 W1 ∧ Below w.heap.size w wx)
      case first =>
        by_cases k3 : a1 = 3
        · have q3 : (a1 == 3) = true := by simpa using k3
          have K3 := Lib.hid k3
          clear HW HF2 k3
          go_wp2_with fail
          all_goals go_meet
          all_goals exact ⟨by rw [HW1.out, if_pos K3.out], HB.out⟩
        · have q3 : (a1 == 3) = false := by simpa using k3
          have K3 := Lib.hid k3
          clear HW HF2 k3
          go_wp2_with fail
          all_goals go_meet
          all_goals exact ⟨by rw [HW1.out, if_neg K3.out], HB.out⟩
      case rest =>
        obtain ⟨rfl, hBx⟩ := hcut
        clear HB
        have HB := Lib.hid hBx
        clear hBx
        go_upto_region 17 with fail
        obtain ⟨b4, hb4⟩ : ∃ b4 : Bool, b4 = decide (a1 = a0 ∧ E = 0) := ⟨_, rfl⟩
        have HB4 := Lib.hid hb4
        clear hb4
        go_cut [91] (fun s91 wx => s91 = .bool b4 ∧ Below w.heap.size w wx)
        case first =>
          by_cases k4 : a1 = a0
          · have q4 : (a1 == a0) = true := by simpa using k4
            have q5 : decide (a1 = a0 ∧ E = 0) = (E == 0) := by
              by_cases z : E = 0
              · rw [decide_eq_true ⟨k4, z⟩]; exact (by simpa using z : (E == 0) = true).symm
              · rw [decide_eq_false (fun h => z h.2)]; exact (by simpa using z : (E == 0) = false).symm
            have Q5 := Lib.hid (HB4.out.trans q5)
            clear HW HF2 k4 q5
            go_wp2_with fail
            all_goals go_meet
            all_goals exact ⟨by rw [Q5.out], HB.out⟩
          · have q4 : (a1 == a0) = false := by simpa using k4
            have Q5 := Lib.hid (HB4.out.trans (decide_eq_false (fun h => k4 h.1)))
            clear HW HF2 k4
            go_wp2_with fail
            all_goals go_meet
            all_goals exact ⟨by rw [Q5.out], HB.out⟩
        case rest =>
          obtain ⟨rfl, hBx⟩ := hcut
          clear HB
          have HB := Lib.hid hBx
          clear hBx
          go_upto_if 91 with fail
          go_cut [17] (fun s17 wx => s17 = .int .i64 W ∧ Below w.heap.size w wx)
          case first =>
            by_cases k4 : a1 = a0 ∧ E = 0
            · have q4 : b4 = true := HB4.out.trans (decide_eq_true k4)
              have hW := HW.out
              rw [if_pos k4] at hW
              have HWW := Lib.hid hW
              subst q4
              clear HW HF2 k4 hW
              go_wp2_with fail
              all_goals go_meet
              all_goals exact ⟨by rw [HWW.out], HB.out⟩
            · have q4 : b4 = false := HB4.out.trans (decide_eq_false k4)
              have hW := HW.out
              rw [if_neg k4] at hW
              have HWW := Lib.hid hW
              subst q4
              clear HW HF2 k4 hW
              go_wp2_with fail
              all_goals go_meet
              all_goals exact ⟨by rw [HWW.out], HB.out⟩
          case rest =>
            obtain ⟨rfl, hBx⟩ := hcut
            clear HB
            have HB := Lib.hid hBx
            clear hBx
            have hf := HF2.out
            clear HW HF2
            rcases hf with ⟨k0, k1, rfl, rfl⟩ | ⟨k0, rfl⟩ | ⟨k0, k1, rfl⟩
            · have q1 : decide (0 ≤ a1) = true := by simp; omega
              have q2 : decide (a1 < 16) = true := by simp; omega
              go_wp2_with fail
              refine (awake_any _).mono ?_
              rintro e v8 ⟨rfl, hb8⟩
              have HB8 := Lib.hid (HB.out.on hb8)
              clear hb8 HB
              go_wp2
              go_returns
              exact ⟨rfl, HB8.out⟩
            · have q1 : decide (0 ≤ a1) = false := by simp; omega
              go_wp2_with fail
              refine (awake_any _).mono ?_
              rintro e v8 ⟨rfl, hb8⟩
              have HB8 := Lib.hid (HB.out.on hb8)
              clear hb8 HB
              go_wp2
              go_returns
              exact ⟨rfl, HB8.out⟩
            · have q1 : decide (0 ≤ a1) = true := by simp; omega
              have q2 : decide (a1 < 16) = false := by simp; omega
              go_wp2_with fail
              refine (awake_any _).mono ?_
              rintro e v8 ⟨rfl, hb8⟩
              have HB8 := Lib.hid (HB.out.on hb8)
              clear hb8 HB
              go_wp2
              go_returns
              exact ⟨rfl, HB8.out⟩

set_option maxRecDepth 100000 in
theorem lifted (os : Os) (started : os.Started) (H : Type) (enc : TypeId × Value → H) :
    ReturnsInHanded {} Try.checked os 5 .any (Rows.pagerRootsSpec.pre6 enc Try.prog Try.f5 Rows.pagerRootsRow.domain false) (Rows.pagerRootsSpec.post enc Try.prog Try.f5 false true false false) := by
  refine law_lift (C := Try.checked) own started (by kernel_rfl) Try.func5 laidOut (by kernel_rfl) rfl Try.underlying4 rfl
    (fun ds h => match ds, h with | [_, _, _], _ => rfl)
    (ChangeSpec.witness6 (enc := enc) (C := Try.checked) false ⟨#[], #[.int .i64 0, .int .i64 0, .int .i64 0], []⟩ 8 (by kernel_rfl) (by kernel_rfl) (by kernel_rfl) (by kernel_rfl)) ?_
  intro W base args ds ps hval hA hsz
  rw [Try.params5] at hA hval hsz
  obtain ⟨v0, vs0, d0, ds0, p0, q0, hargs, rfl, rfl, h0, r0⟩ := trodAll_cons hA
  obtain ⟨v1, vs1, d1, ds1, p1, q1, rfl, rfl, rfl, h1, r1⟩ := trodAll_cons r0
  obtain ⟨v2, vs2, d2, ds2, p2, q2, rfl, rfl, rfl, h2, r2⟩ := trodAll_cons r1
  obtain ⟨rfl, rfl, rfl⟩ := trodAll_nil r2
  obtain rfl : args = #[v0, v1, v2] := by cases args; simp_all
  obtain ⟨a0, rfl, rfl, rfl, w0⟩ := open_int Try.underlying3 (hval 0 3 v0 rfl rfl) h0
  obtain ⟨a1, rfl, rfl, rfl, w1⟩ := open_int Try.underlying3 (hval 1 3 v1 rfl rfl) h1
  obtain ⟨a2, rfl, rfl, rfl, w2⟩ := open_int Try.underlying3 (hval 2 3 v2 rfl rfl) h2
  exact walk W a0 w0 a1 w1 a2 w2

theorem over : Rows.pagerRootsRow.holds Try.pinned (OpenSpec.ofChange Rows.pagerRootsSpec) :=
  OpenClaim.holds_of_wide 5 Try.f5 rfl rfl rfl rfl rfl rfl rfl ⟨rfl, rfl, rfl, rfl, rfl⟩ rfl rfl rfl rfl rfl (by kernel_rfl) Try.func5 (by kernel_rfl)
    (of_decide_eq_true (by kernel_rfl)) (by unfold Func.isWrapper; first | (rw [if_pos (by decide +kernel)]; kernel_rfl) | (rw [if_neg (by decide +kernel)]; exact ⟨rfl, rfl⟩))
    (fun os started H enc _ => lifted os started H enc)

theorem proved : Rows.PagerRootsSaid :=
  over
end Go.Proofs.Ytcoebinljdjemaa.pagerRoots
