/- Two edits of different operations come to the same history in both orders, and both orders are let, or none; and the chapter's example holds: for every history that may be (other lists are let go) and every two edits. Conditions: the package-level variable op.rules starts as the program's text lays it (tied). -/
import Derived.Test.YtpjnmokofdldmaaDoorHtG
import Derived.Test.YtpjnmokofdldmaaDoorHtP
import Derived.Test.YtpjnmokofdldmaaDoorLaw
import Derived.Test.YtpjnmokofdldmaaDoorLawL
import Derived.Test.YtpjnmokofdldmaaDoorCards
import Derived.Test.YtpjnmokofdldmaaDoorTie
import Derived.SevenTiedAt
import Derived.BigQuiet
import Derived.Deep.QuietTactic
import Derived.Lib.QuietBelow
import Derived.Deep.DeepCutAuto
import Derived.Deep.CutBlock
namespace Go.Proofs.YtpjnmokofdldmaaDoor.histTwo
open Go.ChangeShapes Go.WideShapes Go.ChangeAt Go.RowKit Go.PlainAid
open Go.ChangeMaps (open_string)
open Go.Sort (grow)

theorem own : ownKnob Tryd.prog.godebug = none := by kernel_rfl
theorem laidOut : laidOutB Tryd.prog = true := by kernel_rfl
attribute [local go_sem ↓ high] load_op store_o load_ed
theorem let_is {l L : List OpV} {k : Int} {e : OpV} {x y : Option OpV} {c : Int} (h : appL l k e = (L, x, y, c)) (hc : c = 0) : Hs.Let HL updZ l k e L x y := Hs.apply_let HL updZ (by rw [← hc]; exact h)
/-- Both orders. -/
theorem two_ways {l A B C D : List OpV} {k1 k2 : Int} {e1 e2 : OpV} {x1 y1 x2 y2 x3 y3 x4 y4 : Option OpV} {g h : Int} (hv : Hs.Valid HL l) (h1 : Hs.Let HL updZ l k1 e1 A x1 y1) (h2 : Hs.Let HL updZ l k2 e2 B x2 y2) (hne : e1.id ≠ e2.id)
    (hC : appL A k2 e2 = (C, x3, y3, g)) (hD : appL B k1 e1 = (D, x4, y4, h)) : (g = 0 ∧ h = 0 ∧ C = D) ∨ (g ≠ 0 ∧ h ≠ 0) := by
  have hrA := h1.rise hv.rise
  have hrB := h2.rise hv.rise
  by_cases hg : g = 0
  · obtain ⟨D', w, n, h4, rfl⟩ := Hs.let_two upd_keep hv h1 h2 hne (let_is hC hg)
    have := Hs.let_apply HL updZ hrB h4
    rw [show Hs.applyL HL updZ B k1 e1 = appL B k1 e1 from rfl, hD] at this
    simp only [Prod.mk.injEq] at this
    exact .inl ⟨hg, this.2.2.2, this.1.symm⟩
  · refine .inr ⟨hg, fun hh => ?_⟩
    obtain ⟨C', w, n, h4, rfl⟩ := Hs.let_two upd_keep hv h2 h1 (fun c => hne c.symm) (let_is hD hh)
    have := Hs.let_apply HL updZ hrA h4
    rw [show Hs.applyL HL updZ A k2 e2 = appL A k2 e2 from rfl, hC] at this
    simp only [Prod.mk.injEq] at this
    exact hg this.2.2.2
set_option maxRecDepth 100000 in
set_option maxHeartbeats 8000000 in
theorem walk (w : World) (v0 : Value) (l0 : List OpV) (h0 : OpsOf w v0 l0) (k1 : Int) (o1 : OpV) (w1 : o1.Wf) (k2 : Int) (o2 : OpV) (w2 : o2.Wf) (hL0 : RulesAt w) :
    Calls Tryd.prog 6 #[v0, Value.agg #[Value.int .i64 k1, Value.int .i64 o1.id, Value.int .i64 o1.proc, Value.int .i64 o1.obj, Value.int .i64 o1.kind, Value.int .i64 o1.meth, Value.int .i64 o1.arg, Value.int .i64 o1.sec, Value.bool o1.done, Value.int .i64 o1.res, Value.int .i64 o1.inv, Value.int .i64 o1.ret], Value.agg #[Value.int .i64 k2, Value.int .i64 o2.id, Value.int .i64 o2.proc, Value.int .i64 o2.obj, Value.int .i64 o2.kind, Value.int .i64 o2.meth, Value.int .i64 o2.arg, Value.int .i64 o2.sec, Value.bool o2.done, Value.int .i64 o2.res, Value.int .i64 o2.inv, Value.int .i64 o2.ret]] w fun e w' => e = .returned (.bool true) ∧ Below w.heap.size w w' := by
  have u1 := w1
  clear u1
  have u2 := w2
  clear u2
  obtain ⟨ao, ac, rfl⟩ := h0.len
  have hb0 : Below w.heap.size w (w.alloc (.cells #[Value.int .i64 k1, Value.int .i64 o1.id, Value.int .i64 o1.proc, Value.int .i64 o1.obj, Value.int .i64 o1.kind, Value.int .i64 o1.meth, Value.int .i64 o1.arg, Value.int .i64 o1.sec, Value.bool o1.done, Value.int .i64 o1.res, Value.int .i64 o1.inv, Value.int .i64 o1.ret] 36)) := by go_grown
  have hE0 := EdAt.box w k1 o1
  have z0 : (w.alloc (.cells #[Value.int .i64 k1, Value.int .i64 o1.id, Value.int .i64 o1.proc, Value.int .i64 o1.obj, Value.int .i64 o1.kind, Value.int .i64 o1.meth, Value.int .i64 o1.arg, Value.int .i64 o1.sec, Value.bool o1.done, Value.int .i64 o1.res, Value.int .i64 o1.inv, Value.int .i64 o1.ret] 36)).heap.size = w.heap.size + 1 := World.size_alloc _ _
  obtain ⟨W0, hW0⟩ : ∃ W, w.alloc (.cells #[Value.int .i64 k1, Value.int .i64 o1.id, Value.int .i64 o1.proc, Value.int .i64 o1.obj, Value.int .i64 o1.kind, Value.int .i64 o1.meth, Value.int .i64 o1.arg, Value.int .i64 o1.sec, Value.bool o1.done, Value.int .i64 o1.res, Value.int .i64 o1.inv, Value.int .i64 o1.ret] 36) = W := ⟨_, rfl⟩
  rw [hW0] at hb0 hE0 z0
  have hb1 : Below W0.heap.size W0 (W0.alloc (.cells #[Value.int .i64 k2, Value.int .i64 o2.id, Value.int .i64 o2.proc, Value.int .i64 o2.obj, Value.int .i64 o2.kind, Value.int .i64 o2.meth, Value.int .i64 o2.arg, Value.int .i64 o2.sec, Value.bool o2.done, Value.int .i64 o2.res, Value.int .i64 o2.inv, Value.int .i64 o2.ret] 36)) := by go_grown
  have hF0 := EdAt.box W0 k2 o2
  obtain ⟨W1, hW1⟩ : ∃ W, W0.alloc (.cells #[Value.int .i64 k2, Value.int .i64 o2.id, Value.int .i64 o2.proc, Value.int .i64 o2.obj, Value.int .i64 o2.kind, Value.int .i64 o2.meth, Value.int .i64 o2.arg, Value.int .i64 o2.sec, Value.bool o2.done, Value.int .i64 o2.res, Value.int .i64 o2.inv, Value.int .i64 o2.ret] 36) = W := ⟨_, rfl⟩
  rw [hW1] at hb1 hF0
  rw [z0] at hF0
  have hB := hb0.on hb1
  have H := Lib.hid (h0.on hB)
  have HB := Lib.hid hB
  have HR := Lib.hid (hL0.on hB)
  have HE := Lib.hid (hE0.on hb1)
  have HF := Lib.hid hF0
  have HW := Lib.hid (And.intro w1 w2)
  clear h0 hL0 hb0 hb1 hB hE0 hF0 w1 w2
  by_cases hl : 80 < l0.length
  · have q0 : decide ((l0.length : Int) > 80) = true := decide_eq_true (by omega)
    have q00 : ((80 : Int) < (l0.length : Int)) = True := eq_true (by omega)
    have q01 : decide (80 < l0.length) = true := decide_eq_true hl
    clear hl
    go_enter Tryd.func6, Tryd.ntmps6
    go_wp2_with fail
    refine (awake_any _ HR.out).mono ?_
    rintro _ w2 ⟨rfl, hb2⟩
    have HB2 := Lib.hid (HB.out.on hb2)
    clear hb2
    go_wp2_with fail
    go_returns
    exact ⟨rfl, HB2.out⟩
  have q0 : decide ((l0.length : Int) > 80) = false := decide_eq_false (by omega)
  have q00 : ((80 : Int) < (l0.length : Int)) = False := eq_false (by omega)
  have q01 : decide (80 < l0.length) = false := decide_eq_false hl
  have HL0 := Lib.hid (show l0.length ≤ 80 by omega)
  clear hl
  obtain ⟨z, hz⟩ : ∃ z, Hs.checkL HL l0 = z := ⟨_, rfl⟩
  have HZ := Lib.hid hz
  clear hz
  go_enter Tryd.func6, Tryd.ntmps6
  go_wp2_with fail
  clear hW0 hW1 z0
  refine (hrcheck_any H.out (by have := HL0.out; omega)).mono ?_
  rintro _ w2 ⟨rfl, hb2⟩
  rw [HZ.out]
  have H2 := Lib.hid (H.out.on hb2)
  have HB2 := Lib.hid (HB.out.on hb2)
  have HR2 := Lib.hid (HR.out.on hb2)
  have HE2 := Lib.hid (HE.out.on hb2)
  have HF2 := Lib.hid (HF.out.on hb2)
  clear hb2
  by_cases hz0 : z = 0
  case neg =>
    have q5 : (z != 0) = true := bne_iff_ne.2 hz0
    clear hz0
    go_wp2_with fail
    refine (awake_any _ HR2.out).mono ?_
    rintro _ w3 ⟨rfl, hb3⟩
    have HB3 := Lib.hid (HB2.out.on hb3)
    clear hb3
    go_wp2_with fail
    go_returns
    exact ⟨rfl, HB3.out⟩
  subst hz0
  have HV := Lib.hid ((Hs.check_ok HL).1 HZ.out)
  obtain ⟨_, ci1, _⟩ := HE2.out.cell
  obtain ⟨_, ci2, _⟩ := HF2.out.cell
  by_cases hid : o1.id = o2.id
  · have q5 : (o1.id == o2.id) = true := beq_iff_eq.2 hid
    clear hid
    go_wp2_with fail
    refine (awake_any _ HR2.out).mono ?_
    rintro _ w3 ⟨rfl, hb3⟩
    have HB3 := Lib.hid (HB2.out.on hb3)
    clear hb3
    go_wp2_with fail
    go_returns
    exact ⟨rfl, HB3.out⟩
  have q5 : (o1.id == o2.id) = false := beq_eq_false_iff_ne.2 hid
  have HID := Lib.hid hid
  clear hid
  have le2 := HE2.out.load
  obtain ⟨r, hr⟩ : ∃ r, appL l0 k1 o1 = r := ⟨_, rfl⟩
  have HRR := Lib.hid hr
  clear hr
  go_wp2_with fail
  refine (apply_any H2.out HV.out.rise HW.out.1 (by have := HL0.out; omega) HR2.out).mono ?_
  rintro _ w3 ⟨v3, rfl, hn3, hb3⟩
  rw [HRR.out] at hn3 ⊢
  obtain ⟨A, x, y, c⟩ := r
  obtain ⟨ox, hox⟩ : ∃ o, optV x = o := ⟨_, rfl⟩
  obtain ⟨oy, hoy⟩ : ∃ o, optV y = o := ⟨_, rfl⟩
  obtain ⟨W5, W6, W7, W8, e5, e6, e7, s7, s8, _, _, hb8⟩ := two_res w3 ox oy
  have hb38 := hb3.on hb8
  have HA8 := Lib.hid (OpsOf.on hn3.1 hb8)
  have H8 := Lib.hid (H2.out.on hb38)
  have HB8 := Lib.hid (HB2.out.on hb38)
  have HR8 := Lib.hid (HR2.out.on hb38)
  have HE8 := Lib.hid (HE2.out.on hb38)
  have HF8 := Lib.hid (HF2.out.on hb38)
  clear le2 ci1 ci2 q5 hn3 hb3 hb8 hb38
  dsimp only at HA8 ⊢
  rw [hox, hoy]
  clear hox hoy
  have le8 := HF8.out.load
  obtain ⟨r, hr⟩ : ∃ r, appL l0 k2 o2 = r := ⟨_, rfl⟩
  have HSS := Lib.hid hr
  clear hr
  go_wp2_with fail
  clear e5 e6 e7 s7 s8
  refine (apply_any H8.out HV.out.rise HW.out.2 (by have := HL0.out; omega) HR8.out).mono ?_
  rintro _ w9 ⟨v9, rfl, hn9, hb9⟩
  rw [HSS.out] at hn9 ⊢
  obtain ⟨B, x2, y2, d⟩ := r
  obtain ⟨ox, hox⟩ : ∃ o, optV x2 = o := ⟨_, rfl⟩
  obtain ⟨oy, hoy⟩ : ∃ o, optV y2 = o := ⟨_, rfl⟩
  obtain ⟨Wa, Wb, Wc, Wd, e5, e6, e7, s7, s8, _, _, hbd⟩ := two_res w9 ox oy
  have hb9d := hb9.on hbd
  have HBd := Lib.hid (OpsOf.on hn9.1 hbd)
  have HAd := Lib.hid (HA8.out.on hb9d)
  have HB9 := Lib.hid (HB8.out.on hb9d)
  have HR9 := Lib.hid (HR8.out.on hb9d)
  have HE9 := Lib.hid (HE8.out.on hb9d)
  have HF9 := Lib.hid (HF8.out.on hb9d)
  clear le8 hn9 hb9 hbd hb9d
  dsimp only at HBd ⊢
  rw [hox, hoy]
  clear hox hoy
  by_cases hc : c = 0
  case neg =>
    have q5 : (c != 0) = true := bne_iff_ne.2 hc
    clear hc
    go_wp2_with fail
    refine (awake_any _ HR9.out).mono ?_
    rintro _ we ⟨rfl, hbe⟩
    have HBe := Lib.hid (HB9.out.on hbe)
    clear hbe
    go_wp2_with fail
    go_returns
    exact ⟨rfl, HBe.out⟩
  by_cases hd : d = 0
  case neg =>
    have q4 : (c != 0) = false := by rw [hc]; rfl
    have q5 : (d != 0) = true := bne_iff_ne.2 hd
    clear hc hd
    go_wp2_with fail
    refine (awake_any _ HR9.out).mono ?_
    rintro _ we ⟨rfl, hbe⟩
    have HBe := Lib.hid (HB9.out.on hbe)
    clear hbe
    go_wp2_with fail
    go_returns
    exact ⟨rfl, HBe.out⟩
  have HL1 := Lib.hid (let_is HRR.out hc)
  have HL2 := Lib.hid (let_is HSS.out hd)
  subst hc hd
  have HVA := Lib.hid (HL1.out.valid upd_keep HV.out)
  have HVB := Lib.hid (HL2.out.valid upd_keep HV.out)
  obtain ⟨r, hr⟩ : ∃ r, appL A k2 o2 = r := ⟨_, rfl⟩
  have HTT := Lib.hid hr
  clear hr
  have le9 := HF9.out.load
  go_wp2_with fail
  clear e5 e6 e7 s7 s8 le9
  refine (apply_any HAd.out HVA.out.rise HW.out.2 (by have := HVA.out.few; omega) HR9.out).mono ?_
  rintro _ we ⟨ve, rfl, hne, hbe⟩
  rw [HTT.out] at hne ⊢
  obtain ⟨C, x3, y3, g⟩ := r
  obtain ⟨ox, hox⟩ : ∃ o, optV x3 = o := ⟨_, rfl⟩
  obtain ⟨oy, hoy⟩ : ∃ o, optV y3 = o := ⟨_, rfl⟩
  obtain ⟨Wf, Wg, Wh, Wi, e5, e6, e7, s7, s8, _, _, hbi⟩ := two_res we ox oy
  have hbei := hbe.on hbi
  have HCi := Lib.hid (OpsOf.on hne.1 hbi)
  have HBi := Lib.hid (HBd.out.on hbei)
  have HBBi := Lib.hid (HB9.out.on hbei)
  have HRi := Lib.hid (HR9.out.on hbei)
  have HEi := Lib.hid (HE9.out.on hbei)
  clear hne hbe hbi hbei
  dsimp only at HCi ⊢
  rw [hox, hoy]
  clear hox hoy
  obtain ⟨r, hr⟩ : ∃ r, appL B k1 o1 = r := ⟨_, rfl⟩
  have HUU := Lib.hid hr
  clear hr
  have lei := HEi.out.load
  go_wp2_with fail
  clear e5 e6 e7 s7 s8 lei
  refine (apply_any HBi.out HVB.out.rise HW.out.1 (by have := HVB.out.few; omega) HRi.out).mono ?_
  rintro _ wj ⟨vj, rfl, hnj, hbj⟩
  rw [HUU.out] at hnj ⊢
  obtain ⟨D, x4, y4, hh⟩ := r
  obtain ⟨ox, hox⟩ : ∃ o, optV x4 = o := ⟨_, rfl⟩
  obtain ⟨oy, hoy⟩ : ∃ o, optV y4 = o := ⟨_, rfl⟩
  obtain ⟨Wk, Wl, Wm, Wn, e5, e6, e7, s7, s8, _, _, hbn⟩ := two_res wj ox oy
  have hbjn := hbj.on hbn
  have HDn := Lib.hid (OpsOf.on hnj.1 hbn)
  have HCn := Lib.hid (HCi.out.on hbjn)
  have HBn := Lib.hid (HBBi.out.on hbjn)
  have HRn := Lib.hid (HRi.out.on hbjn)
  clear hnj hbj hbn hbjn
  dsimp only at HDn ⊢
  rw [hox, hoy]
  clear hox hoy
  rcases two_ways HV.out HL1.out HL2.out HID.out HTT.out HUU.out with ⟨rfl, rfl, rfl⟩ | ⟨hg, hh0⟩
  · have HCL := Lib.hid (show C.length ≤ 64 from ((let_is HTT.out rfl).valid upd_keep HVA.out).few)
    go_wp2_with fail
    refine (rops_any HCn.out HDn.out (by have := HCL.out; omega)).mono ?_
    rintro _ wo ⟨rfl, hbo⟩
    have HBo := Lib.hid (HBn.out.on hbo)
    have HRo := Lib.hid (HRn.out.on hbo)
    clear hbo
    go_wp2_with fail
    refine (awake_any _ HRo.out).mono ?_
    rintro _ wp ⟨rfl, hbp⟩
    have HBp := Lib.hid (HBo.out.on hbp)
    clear hbp
    go_wp2_with fail
    go_returns
    exact ⟨rfl, HBp.out⟩
  · have q5 : (g != 0) = true := bne_iff_ne.2 hg
    have q6 : (g == 0) = false := beq_eq_false_iff_ne.2 hg
    have q7 : (hh == 0) = false := beq_eq_false_iff_ne.2 hh0
    clear hg hh0
    go_wp2_with fail
    refine (awake_any _ HRn.out).mono ?_
    rintro _ wo ⟨rfl, hbo⟩
    have HBo := Lib.hid (HBn.out.on hbo)
    clear hbo
    go_wp2_with fail
    go_returns
    exact ⟨rfl, HBo.out⟩

set_option maxRecDepth 100000 in
theorem door_met (os : Os) (args : Array Value) : laidMetH Tryd.prog Rows.histTwoRow.laid ((World.doorLaid Tryd.prog 400 os).forCall (fun _ _ => 0) ⟨#[], args, []⟩).memory :=
  laidMetH_of_parts3 (fuel := 8) (laidMet_of_run' 8 (by kernel_rfl) (by kernel_rfl)) (by kernel_rfl) (by kernel_rfl)
set_option maxRecDepth 100000 in
theorem lifted (os : Os) (started : os.Started) (H : Type) (enc : TypeId × Value → H) :
    ReturnsInHanded {} Tryd.checked os 6 .any (fun w args => (Rows.histTwoSpec.pre enc Tryd.prog Tryd.f6 [] false w args ∧ laidMetH Tryd.prog Rows.histTwoRow.laid w) ∧ sizedMet enc Tryd.prog Tryd.f6 (OpenSpec.ofChange Rows.histTwoSpec) false w args) (Rows.histTwoSpec.post enc Tryd.prog Tryd.f6 false true false false) := by
  refine law_lift_laid (C := Tryd.checked) own started (by kernel_rfl) Tryd.func6 laidOut (by kernel_rfl) rfl Tryd.underlying4 rfl
    (fun ds h => match ds, h with | [_, _, _], _ => rfl)
    (ChangeSpec.witness_shaped (enc := enc) (C := Tryd.checked) (os := os) (X := fun w _ => laidMetH Tryd.prog Rows.histTwoRow.laid w) false (World.doorLaid Tryd.prog 400 os) #[.slice none 0 0, .agg #[.int .i64 0, .int .i64 0, .int .i64 0, .int .i64 0, .int .i64 0, .int .i64 0, .int .i64 0, .int .i64 0, .bool false, .int .i64 0, .int .i64 0, .int .i64 0], .agg #[.int .i64 0, .int .i64 0, .int .i64 0, .int .i64 0, .int .i64 0, .int .i64 0, .int .i64 0, .int .i64 0, .bool false, .int .i64 0, .int .i64 0, .int .i64 0]] 8 rfl (World.shaped_of_RefB (by kernel_rfl) (by kernel_rfl)) (by kernel_rfl) (by kernel_rfl) (by kernel_rfl) (door_met os _)) ?_
  intro W base args ds ps hval hA hsz hL
  rw [Tryd.params6] at hA hval hsz
  obtain ⟨v0, vs0, d0, ds0, p0, q0, hargs, rfl, rfl, h0, r0⟩ := trodAll_cons hA
  obtain ⟨v1, vs1, d1, ds1, p1, q1, rfl, rfl, rfl, h1, r1⟩ := trodAll_cons r0
  obtain ⟨v2, vs2, d2, ds2, p2, q2, rfl, rfl, rfl, h2, r2⟩ := trodAll_cons r1
  obtain ⟨rfl, rfl, rfl⟩ := trodAll_nil r2
  obtain rfl : args = #[v0, v1, v2] := by cases args; simp_all
  obtain ⟨l0, hl0, _⟩ := ops_open (hval 0 22 v0 rfl rfl) h0
  obtain ⟨k1, o1, rfl, w1⟩ := ed_open (hval 1 36 v1 rfl rfl) h1
  obtain ⟨k2, o2, rfl, w2⟩ := ed_open (hval 2 36 v2 rfl rfl) h2
  exact walk W v0 l0 hl0 k1 o1 w1 k2 o2 w2 (rules_of_laid (by kernel_rfl) (by simp [Rows.histTwoRow]) hL)

theorem over : Rows.histTwoRow.holds Tryd.pinned (OpenSpec.ofChange Rows.histTwoSpec) :=
  OpenClaim.holds_of_wide 6 Tryd.f6 rfl rfl rfl rfl rfl rfl rfl ⟨rfl, rfl, rfl, rfl, rfl⟩ rfl rfl rfl rfl rfl (by kernel_rfl) Tryd.func6 (by kernel_rfl)
    (of_decide_eq_true (by kernel_rfl)) (by unfold Func.isWrapper; first | (rw [if_pos (by decide +kernel)]; kernel_rfl) | (rw [if_neg (by decide +kernel)]; exact ⟨rfl, rfl⟩))
    (fun os started H enc _ => lifted os started H enc)

theorem proved : Rows.HistTwoCardSaid :=
  Claim7.holds_tied_plain_at (c := Rows.histTwoRow) .later [] [.data] true _ _ over (fun _ h => by cases h) (by kernel_rfl) (fun _ h => by cases h) histTwo_row_tie rfl ⟨rfl, rfl⟩ (by kernel_rfl) rfl
    (fun f fn hf hfn => by
      obtain rfl : f = 6 := Option.some.inj ((show Tryd.prog.funcNamed "annalist/annalistlaw12.HistTwo" = some 6 by kernel_rfl).symm.trans hf) |>.symm
      obtain rfl : fn = Tryd.f6 := (Option.some.inj (Tryd.func6.symm.trans hfn)).symm
      exact ⟨by kernel_rfl, fun j t ht => by
        have hall : (Tryd.f6.params.toList.all fun u => !Tryd.prog.wantsStandIn u) = true := by kernel_rfl
        have hm : t ∈ Tryd.f6.params.toList := by simpa using Array.mem_of_getElem? ht
        exact (show Tryd.prog.wantsStandIn t = false by simpa using List.all_eq_true.1 hall t hm)⟩)
    (by kernel_rfl)
end Go.Proofs.YtpjnmokofdldmaaDoor.histTwo
