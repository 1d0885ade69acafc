/- Behind any edits (the first 120) a history may be, an edit that is refused tells nothing, and the chapter's example holds: for every list of edits. Conditions: the package-level variable op.rules starts as the program's text lays it (tied). -/
import Derived.Test.YtpjnmokofdldmaaDoorHtG
import Derived.Test.YtpjnmokofdldmaaDoorHtP
import Derived.Test.YtpjnmokofdldmaaDoorLaw
import Derived.Test.YtpjnmokofdldmaaDoorLawL
import Derived.Test.YtpjnmokofdldmaaDoorCards
import Derived.Test.YtpjnmokofdldmaaDoorTie
import Derived.SevenTiedAt
import Derived.BigQuiet
import Derived.Deep.QuietTactic
import Derived.Lib.QuietBelow
import Derived.Deep.DeepCutAuto
import Derived.Deep.CutBlock
namespace Go.Proofs.YtpjnmokofdldmaaDoor.histSound
open Go.ChangeShapes Go.WideShapes Go.ChangeAt Go.RowKit Go.PlainAid
open Go.ChangeMaps (open_string)
open Go.Sort (grow)

theorem own : ownKnob Tryd.prog.godebug = none := by kernel_rfl
theorem laidOut : laidOutB Tryd.prog = true := by kernel_rfl
attribute [local go_sem ↓ high] load_op store_o load_ed
set_option maxRecDepth 100000 in
set_option maxHeartbeats 8000000 in
theorem walk (w : World) (v0 : Value) (l0 : List (Int × OpV)) (h0 : EdsOf w v0 l0) (hL0 : RulesAt w) :
    Calls Tryd.prog 4 #[v0] w fun e w' => e = .returned (.bool true) ∧ Below w.heap.size w w' := by
  obtain ⟨ao, ac, rfl⟩ := h0.len
  have H := Lib.hid h0
  have HR := Lib.hid hL0
  clear h0 hL0
  go_enter Tryd.func4, Tryd.ntmps4
  go_wp2_with fail
  go_loopw [3, 4] (fun s3 s4 wr => ∃ (k : Nat) (L : List OpV), s4 = .int .i64 k ∧ k ≤ l0.length ∧ k ≤ 120 ∧ Hid (OpsOf wr s3 L ∧ Hs.Valid HL L ∧ Below w.heap.size w wr)) (fun _ s4 _ => l0.length - (intOf s4).toNat)
  case atStart => exact ⟨0, [], rfl, Nat.zero_le _, Nat.zero_le _, Lib.hid ⟨(news_nil 0 w).1, ⟨Nat.zero_le _, by simp, by simp, by simp⟩, Below.refl _ _⟩⟩
  case round =>
    obtain ⟨k, L, rfl, hk, hk2, HI⟩ := hrel
    by_cases hkl : k < l0.length
    case neg =>
      have q1 : decide ((k : Int) < (l0.length : Int)) = false := decide_eq_false (by omega)
      have q2 : ((k : Int) < (l0.length : Int)) = False := eq_false (by omega)
      have q3 : (k < l0.length) = False := eq_false hkl
      have q4 : decide (k < l0.length) = false := decide_eq_false hkl
      clear hk hk2 hkl
      go_wp2_with fail
      refine (awake_any _ (HR.out.on HI.out.2.2)).mono ?_
      rintro _ w2 ⟨rfl, hb2⟩
      have HB2 := Lib.hid (HI.out.2.2.on hb2)
      clear hb2
      go_wp2_with fail
      go_returns
      exact ⟨rfl, HB2.out⟩
    have q1 : decide ((k : Int) < (l0.length : Int)) = true := decide_eq_true (by omega)
    have q2 : (k : Int) < (l0.length : Int) := by omega
    have q4 : decide (k < l0.length) = true := decide_eq_true hkl
    by_cases hk120 : k < 120
    case neg =>
      have p1 : decide ((k : Int) < 120) = false := decide_eq_false (by omega)
      have p2 : ((k : Int) < 120) = False := eq_false (by omega)
      have p3 : (k < 120) = False := eq_false hk120
      have p4 : decide (k < 120) = false := decide_eq_false hk120
      clear hk hk2 hk120
      go_wp2_with fail
      refine (awake_any _ (HR.out.on HI.out.2.2)).mono ?_
      rintro _ w2 ⟨rfl, hb2⟩
      have HB2 := Lib.hid (HI.out.2.2.on hb2)
      clear hb2
      go_wp2_with fail
      go_returns
      exact ⟨rfl, HB2.out⟩
    have p1 : decide ((k : Int) < 120) = true := decide_eq_true (by omega)
    have p4 : decide (k < 120) = true := decide_eq_true hk120
    have p5 : IntKind.i64.wrap ((k : Int) + 1) = (k : Int) + 1 := IntWalk.i64_in _ (by omega)
    obtain ⟨e, he⟩ : ∃ e, l0[k]? = some e := ⟨_, List.getElem?_eq_getElem hkl⟩
    obtain ⟨b, p, cap, hv, hld⟩ := eds_load H.out he
    have e0 : ao = some ⟨b, p, none⟩ := by cases hv; rfl
    subst e0
    have le := hld wr HI.out.2.2
    have HEW := Lib.hid (H.out.2 e (List.mem_of_getElem? he))
    have HK := Lib.hid (And.intro hkl hk120)
    obtain ⟨oL, cL, hs3⟩ := HI.out.1.len
    subst hs3
    clear hv hld he hk hk2 hkl hk120
    obtain ⟨r, hr⟩ : ∃ r, appL L e.1 e.2 = r := ⟨_, rfl⟩
    have HRR := Lib.hid hr
    clear hr
    go_wp2_with fail
    refine (apply_any HI.out.1 HI.out.2.1.rise HEW.out (by have := HI.out.2.1.few; omega) (HR.out.on HI.out.2.2)).mono ?_
    rintro _ w2 ⟨v2, rfl, hn2, hb2⟩
    rw [HRR.out] at hn2 ⊢
    have HB2 := Lib.hid (HI.out.2.2.on hb2)
    obtain ⟨L2, x, y, c⟩ := r
    obtain ⟨ox, hox⟩ : ∃ o, optV x = o := ⟨_, rfl⟩
    obtain ⟨oy, hoy⟩ : ∃ o, optV y = o := ⟨_, rfl⟩
    obtain ⟨W5, W6, W7, W8, e5, e6, e7, s7, s8, qa, qb, hb8⟩ := two_res w2 ox oy
    have HN8 := Lib.hid (OpsOf.on hn2.1 hb8)
    have HB8 := Lib.hid (HB2.out.on hb8)
    have HBW := Lib.hid (hb2.on hb8)
    have la := qa.load
    have lb := qb.load
    clear le hn2 hb2 hb8 qa qb
    dsimp only at HN8 ⊢
    rw [hox, hoy]
    obtain ⟨o2, c2, hv2⟩ := HN8.out.len
    subst hv2
    by_cases hc : c = 0
    · have hlet := Hs.apply_let HL updZ (show Hs.applyL HL updZ L e.1 e.2 = (L2, x, y, 0) by rw [← hc]; exact HRR.out)
      have HV2 := Lib.hid (hlet.valid upd_keep HI.out.2.1)
      have HZ2 := Lib.hid ((Hs.check_ok HL).2 HV2.out)
      subst hc
      clear hlet hox hoy
      go_wp2_with fail
      refine (hrcheck_any HN8.out (by have := HV2.out.few; omega)).mono ?_
      rintro _ w9 ⟨rfl, hb9⟩
      rw [HZ2.out]
      have HN9 := Lib.hid (HN8.out.on hb9)
      have HB9 := Lib.hid (HB8.out.on hb9)
      clear hb9 e5 e6 e7 s7 s8 la lb
      go_wp2_with fail
      go_roundw
      case measure => have := HK.out; simp [intOf]; omega
      case rel => exact ⟨k + 1, L2, by simp, HK.out.1, HK.out.2, Lib.hid ⟨HN9.out, HV2.out, HB9.out⟩⟩
    · have hbad := Hs.apply_bad HL updZ (l := L) (k := e.1) (e := e.2) (by rw [show Hs.applyL HL updZ L e.1 e.2 = (L2, x, y, c) from HRR.out]; exact hc)
      rw [show Hs.applyL HL updZ L e.1 e.2 = (L2, x, y, c) from HRR.out] at hbad
      have hL2 : L2 = [] := congrArg (·.1) hbad
      have hx2 : x = none := congrArg (·.2.1) hbad
      have hy2 : y = none := congrArg (·.2.2.1) hbad
      subst hL2 hx2 hy2
      obtain rfl : ox = zeroV := hox.symm
      obtain rfl : oy = zeroV := hoy.symm
      dsimp only [zeroV] at la lb s7 s8 ⊢
      have q5 : (c != 0) = true := bne_iff_ne.2 hc
      clear hbad hox hoy hc
      go_wp2_with fail
      go_roundw
      case measure => have := HK.out; simp [intOf]; omega
      case rel => exact ⟨k + 1, L, by simp, HK.out.1, HK.out.2, Lib.hid ⟨(HI.out.1.on (show Below wr.heap.size wr W8 from HBW.out)), HI.out.2.1, HB8.out⟩⟩

set_option maxRecDepth 100000 in
theorem door_met (os : Os) (args : Array Value) : laidMetH Tryd.prog Rows.histSoundRow.laid ((World.doorLaid Tryd.prog 400 os).forCall (fun _ _ => 0) ⟨#[], args, []⟩).memory :=
  laidMetH_of_parts3 (fuel := 8) (laidMet_of_run' 8 (by kernel_rfl) (by kernel_rfl)) (by kernel_rfl) (by kernel_rfl)
set_option maxRecDepth 100000 in
theorem lifted (os : Os) (started : os.Started) (H : Type) (enc : TypeId × Value → H) :
    ReturnsInHanded {} Tryd.checked os 4 .any (fun w args => (Rows.histSoundSpec.pre enc Tryd.prog Tryd.f4 [] false w args ∧ laidMetH Tryd.prog Rows.histSoundRow.laid w) ∧ sizedMet enc Tryd.prog Tryd.f4 (OpenSpec.ofChange Rows.histSoundSpec) false w args) (Rows.histSoundSpec.post enc Tryd.prog Tryd.f4 false true false false) := by
  refine law_lift_laid (C := Tryd.checked) own started (by kernel_rfl) Tryd.func4 laidOut (by kernel_rfl) rfl Tryd.underlying4 rfl
    (fun ds h => match ds, h with | [_], _ => rfl)
    (ChangeSpec.witness_shaped (enc := enc) (C := Tryd.checked) (os := os) (X := fun w _ => laidMetH Tryd.prog Rows.histSoundRow.laid w) false (World.doorLaid Tryd.prog 400 os) #[.slice none 0 0] 8 rfl (World.shaped_of_RefB (by kernel_rfl) (by kernel_rfl)) (by kernel_rfl) (by kernel_rfl) (by kernel_rfl) (door_met os _)) ?_
  intro W base args ds ps hval hA hsz hL
  rw [Tryd.params4] at hA hval hsz
  obtain ⟨v0, vs0, d0, ds0, p0, q0, hargs, rfl, rfl, h0, r0⟩ := trodAll_cons hA
  obtain ⟨rfl, rfl, rfl⟩ := trodAll_nil r0
  obtain rfl : args = #[v0] := by cases args; simp_all
  obtain ⟨l0, hl0⟩ := eds_open (hval 0 32 v0 rfl rfl) h0
  exact walk W v0 l0 hl0 (rules_of_laid (by kernel_rfl) (by simp [Rows.histSoundRow]) hL)

theorem over : Rows.histSoundRow.holds Tryd.pinned (OpenSpec.ofChange Rows.histSoundSpec) :=
  OpenClaim.holds_of_wide 4 Tryd.f4 rfl rfl rfl rfl rfl rfl rfl ⟨rfl, rfl, rfl, rfl, rfl⟩ rfl rfl rfl rfl rfl (by kernel_rfl) Tryd.func4 (by kernel_rfl)
    (of_decide_eq_true (by kernel_rfl)) (by unfold Func.isWrapper; first | (rw [if_pos (by decide +kernel)]; kernel_rfl) | (rw [if_neg (by decide +kernel)]; exact ⟨rfl, rfl⟩))
    (fun os started H enc _ => lifted os started H enc)

theorem proved : Rows.HistSoundCardSaid :=
  Claim7.holds_tied_plain_at (c := Rows.histSoundRow) .later [] [.data] true _ _ over (fun _ h => by cases h) (by kernel_rfl) (fun _ h => by cases h) histSound_row_tie rfl ⟨rfl, rfl⟩ (by kernel_rfl) rfl
    (fun f fn hf hfn => by
      obtain rfl : f = 4 := Option.some.inj ((show Tryd.prog.funcNamed "annalist/annalistlaw12.HistSound" = some 4 by kernel_rfl).symm.trans hf) |>.symm
      obtain rfl : fn = Tryd.f4 := (Option.some.inj (Tryd.func4.symm.trans hfn)).symm
      exact ⟨by kernel_rfl, fun j t ht => by
        have hall : (Tryd.f4.params.toList.all fun u => !Tryd.prog.wantsStandIn u) = true := by kernel_rfl
        have hm : t ∈ Tryd.f4.params.toList := by simpa using Array.mem_of_getElem? ht
        exact (show Tryd.prog.wantsStandIn t = false by simpa using List.all_eq_true.1 hall t hm)⟩)
    (by kernel_rfl)
end Go.Proofs.YtpjnmokofdldmaaDoor.histSound
