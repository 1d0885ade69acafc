/- A tree whose pages others wrote, if it is sound, gives records by rising keys, each of which is got and as it may be put; nothing else ever happens to who looks; and the chapter's example holds: for every two lists of acts and pages. Conditions: none. -/
import Derived.Test.YtkdhlofcdcnjgaaGreatBK
import Derived.Test.YtkdhlofcdcnjgaaGreatBH
import Derived.Test.YtkdhlofcdcnjgaaGreatBD
import Derived.Test.YtkdhlofcdcnjgaaGreatBG
import Derived.StillTailTactics
import Derived.Test.YtkdhlofcdcnjgaaGreatLaw
import Derived.BigQuiet
import Derived.Deep.QuietTactic
import Derived.Lib.QuietBelow
import Derived.Deep.DeepCutAuto
import Derived.Deep.CutBlock
namespace Go.Proofs.YtkdhlofcdcnjgaaGreat.btreeRaw
open Go.ChangeShapes Go.WideShapes Go.ChangeAt Go.RowKit Go.PlainAid
open Go.ChangeMaps (open_string)
open Go.Sort (grow)

theorem own : ownKnob Tryz.prog.godebug = none := by kernel_rfl
theorem laidOut : laidOutB Tryz.prog = true := by kernel_rfl
set_option maxRecDepth 100000
set_option maxRecDepth 100000 in
set_option maxHeartbeats 8000000 in
theorem walk (w : World) (v0 : Value) (l0 : List ActV) (h0 : ActsIn w v0 l0) (v1 : Value) (l1 : List PageV) (h1 : PagesIn w v1 l1) (n1 : l1.length ≤ 1152921504606846976) :
    Calls Tryz.prog 3 #[v0, v1] w fun e w' => e = .returned (.bool true) ∧ Below w.heap.size w w' := by
  obtain ⟨a0, cp0, rfl⟩ : ∃ a cap, v0 = .slice a l0.length cap := by
    rcases h0 with ⟨hl, ao, cap, hv⟩ | ⟨b, o, cap, hv, _⟩
    · exact ⟨ao, cap, by rw [hv, hl]; rfl⟩
    · exact ⟨_, _, hv⟩
  obtain ⟨a1, cp1, rfl⟩ : ∃ a cap, v1 = .slice a l1.length cap := by
    rcases h1 with ⟨hl, ao, cap, hv⟩ | ⟨b, o, cap, hv, _⟩
    · exact ⟨ao, cap, by rw [hv, hl]; rfl⟩
    · exact ⟨_, _, hv⟩
  have HA0 := Lib.hid h0
  have HA1 := Lib.hid h1
  have HN1 := Lib.hid n1
  clear h0 h1 n1 HN1
  have HB := Lib.hid (begun8_any 60 w (by omega) (by omega))
  go_enter Tryz.func3, Tryz.ntmps3
  go_wp2_with fail
  refine HB.out.mono ?_
  rintro e w1 ⟨pp, p, V1, rfl, H1⟩
  have HO := Lib.hid (opened_any (i := 0) H1 (by omega) (by decide))
  clear HB H1
  go_wp2_with fail
  refine HO.out.mono ?_
  rintro e w2 ⟨tb, rfl, H2⟩
  have HP := Lib.hid H2
  clear HO H2
  go_upto_block 0 with (fail)
  go_cut [8] (fun s10 wx => ∃ (k : Nat) (V : Int → ByteArray), k ≤ 40 ∧ PV w pp 60 (2 + 2000 * k) V [(tb, treeO pp 0)] wx)
  case first =>
   go_wp2_with fail
   go_loopw [8] (fun i wr => ∃ (k : Nat) (V : Int → ByteArray), k ≤ l0.length ∧ k ≤ 40 ∧ i = .int .i64 k ∧ PV w pp 60 (2 + 2000 * k) V [(tb, treeO pp 0)] wr) (fun i _ => 40 - (intOf i).toNat)
   case atStart => exact ⟨0, _, Nat.zero_le _, Nat.zero_le _, rfl, HP.out⟩
   case round =>
    clear HP
    obtain ⟨k, V, hk, hk40, rfl, hP⟩ := hrel
    have HP := Lib.hid hP
    have hbel : Below w.heap.size w wr := hP.below
    clear hP
    by_cases hgo : k < l0.length ∧ k < 40
    · obtain ⟨hlt, h40⟩ := hgo
      obtain ⟨x, hx⟩ : ∃ x, l0[k]? = some x := ⟨_, List.getElem?_eq_getElem hlt⟩
      obtain ⟨bb, oo, cap2, hvv, hbl, _, hlm, hr⟩ : ∃ b o cap, Value.slice a0 l0.length cp0 = .slice (some ⟨b, o, none⟩) l0.length cap ∧ b < w.heap.size ∧ 0 < l0.length ∧ (l0.length : Int) ≤ 9223372036854775807 ∧ ∀ i x, l0[i]? = some x → x.Wf ∧ w.rangeAt b (o + i * 3) x.cells := by
        rcases HA0.out with ⟨hl, _⟩ | hh
        · rw [hl] at hlt; exact absurd hlt (by simp)
        · exact hh
      cases hvv
      have hxw := (hr k x hx).1
      have hrg := rangeAt_keep (hr k x hx).2 (hbel.block bb hbl)
      have e0 : wr.cell? ⟨bb, oo + k * 3, none⟩ = some (.int .i64 x.kind) := hrg 0 _ rfl
      have e1 : wr.cell? ⟨bb, oo + k * 3 + 1, none⟩ = some (.string x.key) := hrg 1 _ rfl
      have e2 : wr.cell? ⟨bb, oo + k * 3 + 2, none⟩ = some (.string x.val) := hrg 2 _ rfl
      have HX : Hid (∀ wz, Below wr.heap.size wr wz → wz.cell? ⟨bb, oo + k * 3, none⟩ = some (.int .i64 x.kind) ∧ wz.cell? ⟨bb, oo + k * 3 + 1, none⟩ = some (.string x.key) ∧ wz.cell? ⟨bb, oo + k * 3 + 2, none⟩ = some (.string x.val)) := Lib.hid fun wz hz => by
        have hrg2 := rangeAt_keep (hr k x hx).2 ((hz.block bb (Nat.lt_of_lt_of_le hbl hbel.size)).trans (hbel.block bb hbl))
        exact ⟨hrg2 0 _ rfl, hrg2 1 _ rfl, hrg2 2 _ rfl⟩
      clear hr hrg hx hxw hbel
      by_cases hdo : x.kind = 0
      · have d0 : (x.kind == 0) = true := by simpa using hdo
        have HLG := Lib.hid (long_any x wr)
        clear hdo
        obtain ⟨bo, hbo⟩ : ∃ bo, longB x = bo := ⟨_, rfl⟩
        rw [hbo] at HLG
        clear hbo
        cases bo with
        | false =>
          go_wp2_with fail
          refine HLG.out.mono ?_
          rintro e w5 ⟨rfl, hb5⟩
          have H5 := HP.out.on hb5
          have HD := Lib.hid (tput_any (i := 0) H5.drew List.mem_cons_self (by omega) (by decide) (by omega) x.key x.val)
          clear e0 e1 e2
          obtain ⟨e0, e1, e2⟩ := HX.out w5 hb5
          clear HLG HP H5 hb5 HX
          go_wp2_with fail
          go_still_tail 11, (by kernel_rfl)
          go_wp2_with fail
          refine HD.out.mono ?_
          rintro e w6 ⟨V6, z6, rfl, _, h6⟩
          have H6 := Lib.hid h6
          clear h6 HD e0 e1 e2
          go_wp2
          go_roundw
          case rel => exact ⟨k + 1, V6, by omega, by omega, by go_num, by rw [show 2 + 2000 * (k + 1) = 2 + 2000 * k + 2000 by omega]; exact H6.out⟩
          case measure => simp [intOf]; omega
        | true =>
          go_wp2_with fail
          refine HLG.out.mono ?_
          rintro e w5 ⟨rfl, hb5⟩
          have H5 := Lib.hid ((HP.out.on hb5).mono (c' := 2 + 2000 * (k + 1)) (by omega))
          clear e0 e1 e2 HLG hb5 HX
          go_wp2
          go_roundw
          case rel => exact ⟨k + 1, V, by omega, by omega, by go_num, H5.out⟩
          case measure => simp [intOf]; omega
      · have d0 : (x.kind == 0) = false := by simpa using hdo
        clear hdo HX
        go_wp2
        go_roundw
        case rel => exact ⟨k + 1, V, by omega, by omega, by go_num, HP.out.mono (by omega)⟩
        case measure => simp [intOf]; omega
    · have hstop : (k < l0.length ∧ decide ((k : Int) < 40) = false) ∨ ¬ k < l0.length := by
        by_cases h : k < l0.length
        · exact .inl ⟨h, by simp; omega⟩
        · exact .inr h
      clear hgo hbel
      rcases hstop with ⟨hs1, hs2⟩ | hs1
      all_goals
        go_wp2_with fail
        go_meet
        exact ⟨k, V, hk40, HP.out⟩
  case rest =>
   obtain ⟨k, V, hk40, hP⟩ := hcut
   clear HP
   have HP := Lib.hid (hP.mono (c' := 100000) (by omega))
   clear hP hk40
   go_upto_block 2 with (fail)
   go_cut [9] (fun s12 wx => ∃ (k : Nat) (V : Int → ByteArray), k ≤ 10 ∧ PV w pp 60 (100000 + k) V [(tb, treeO pp 0)] wx)
   case first =>
    go_wp2_with fail
    go_loopw [9] (fun i wr => ∃ (k : Nat) (V : Int → ByteArray), k ≤ l1.length ∧ k ≤ 10 ∧ i = .int .i64 k ∧ PV w pp 60 (100000 + k) V [(tb, treeO pp 0)] wr) (fun i _ => 10 - (intOf i).toNat)
    case atStart => exact ⟨0, _, Nat.zero_le _, Nat.zero_le _, rfl, HP.out⟩
    case round =>
     clear HP
     obtain ⟨k, V, hk, hk10, rfl, hP⟩ := hrel
     have HP := Lib.hid hP
     have hbel : Below w.heap.size w wr := hP.below
     clear hP
     by_cases hgo : k < l1.length ∧ k < 10
     · obtain ⟨hlt, h10⟩ := hgo
       obtain ⟨x, hx⟩ : ∃ x, l1[k]? = some x := ⟨_, List.getElem?_eq_getElem hlt⟩
       obtain ⟨bb, oo, cap2, hvv, hbl, _, hlm, hr⟩ : ∃ b o cap, Value.slice a1 l1.length cp1 = .slice (some ⟨b, o, none⟩) l1.length cap ∧ b < w.heap.size ∧ 0 < l1.length ∧ (l1.length : Int) ≤ 9223372036854775807 ∧ ∀ i x, l1[i]? = some x → x.Wf ∧ w.rangeAt b (o + i * 2) x.cells := by
         rcases HA1.out with ⟨hl, _⟩ | hh
         · rw [hl] at hlt; exact absurd hlt (by simp)
         · exact hh
       cases hvv
       have hxw := (hr k x hx).1
       have hrg := rangeAt_keep (hr k x hx).2 (hbel.block bb hbl)
       have e0 : wr.cell? ⟨bb, oo + k * 2, none⟩ = some (.int .i64 x.at_) := hrg 0 _ rfl
       have e1 : wr.cell? ⟨bb, oo + k * 2 + 1, none⟩ = some (.string x.data) := hrg 1 _ rfl
       have HXW := Lib.hid hxw
       clear hr hrg hx hxw hbel
       by_cases hdo : x.data.size ≤ 2000
       · have d2 : decide ((x.data.size : Int) ≤ 2000) = true := by simp; omega
         have HD := Lib.hid (HP.out.drew.setAny x.at_ x.data HXW.out.at_.1 HXW.out.at_.2 (by omega) hdo (by omega))
         clear HXW HP hdo
         go_wp2_with fail
         go_still_tail 11, (by kernel_rfl)
         go_wp2_with fail
         refine HD.out.mono ?_
         rintro e w5 ⟨V5, z5, rfl, _, h5⟩
         have H5 := Lib.hid h5
         clear h5 HD e0 e1
         go_wp2
         go_roundw
         case rel => exact ⟨k + 1, V5, by omega, by omega, by go_num, H5.out⟩
         case measure => simp [intOf]; omega
       · have d2 : decide ((x.data.size : Int) ≤ 2000) = false := by simp; omega
         clear HXW hdo
         go_wp2
         go_roundw
         case rel => exact ⟨k + 1, V, by omega, by omega, by go_num, HP.out.mono (by omega)⟩
         case measure => simp [intOf]; omega
     · have hstop : (k < l1.length ∧ decide ((k : Int) < 10) = false) ∨ ¬ k < l1.length := by
         by_cases h : k < l1.length
         · exact .inl ⟨h, by simp; omega⟩
         · exact .inr h
       clear hgo hbel
       rcases hstop with ⟨hs1, hs2⟩ | hs1
       all_goals
         go_wp2_with fail
         go_meet
         exact ⟨k, V, hk10, HP.out⟩
   case rest =>
    obtain ⟨k, V, hk10, hP⟩ := hcut
    clear HP
    have HP := Lib.hid (hP.mono (c' := 200000) (by omega))
    clear hP hk10
    have HS := Lib.hid (sound_any (i := 0) HP.out List.mem_cons_self (by omega) (by decide))
    clear HP
    go_wp2_with fail
    refine HS.out.mono ?_
    rintro e w3 ⟨rfl, H3⟩
    have HG := Lib.hid (some_any (i := 0) ⟨#[]⟩ (by decide) 3000 (by decide) H3 List.mem_cons_self (by omega) (by decide))
    clear HS H3
    go_wp2_with fail
    refine HG.out.mono ?_
    rintro e w4 ⟨lv, Y, rfl, hrow, H4⟩
    obtain ⟨ll, hll⟩ : ∃ ll, (fromL ⟨#[]⟩ (visA V 60 0 ⟨#[]⟩)).take (3000 : Int).toNat = ll := ⟨_, rfl⟩
    rw [hll] at hrow
    have hsz : ll.length ≤ 3000 := by rw [← hll]; exact Nat.le_trans (List.length_take_le _ _) (by decide)
    have hraw : soundB V 60 0 = true → RawL V 60 0 ll := fun h => by rw [← hll]; exact (raw_of h).take _
    obtain ⟨ao, cap, rfl, hrd⟩ := hrow.rd H4
    have HRAW := Lib.hid hraw
    have HSZ := Lib.hid hsz
    have HROW := Lib.hid hrow
    have HPG := Lib.hid (pages_any (i := 0) H4 (List.mem_append_right _ List.mem_cons_self) (by omega) (by decide))
    clear HG H4 hll hraw hsz hrow hrd
    go_wp2_with fail
    refine HPG.out.mono ?_
    rintro e w5 ⟨⟨pv, rfl⟩, H5⟩
    have HDP := Lib.hid (depth_any (i := 0) H5 (List.mem_append_right _ List.mem_cons_self) (by omega) (by decide))
    clear HPG H5
    go_wp2_with fail
    refine HDP.out.mono ?_
    rintro e w6 ⟨⟨dz, rfl⟩, H6⟩
    have HP := Lib.hid H6
    clear HDP H6
    cases hsd : soundB V 60 0 with
    | false =>
      have HBL := Lib.hid HP.out.below
      clear HP
      go_wp2_with fail
      refine (awake8_any _).mono ?_
      rintro e w7 ⟨rfl, hb7⟩
      have HB7 := Lib.hid (HBL.out.on hb7)
      clear hb7 HBL
      go_wp2
      go_returns
      exact ⟨rfl, HB7.out⟩
    | true =>
      have HR := Lib.hid (HRAW.out hsd)
      clear HRAW hsd
      go_wp2_with fail
      go_loopw [12] (fun i wr => ∃ k : Nat, k ≤ ll.length ∧ i = .int .i64 k ∧ PV w pp 60 200000 V (Y ++ [(tb, treeO pp 0)]) wr) (fun i _ => 3000 - (intOf i).toNat)
      case atStart => exact ⟨0, Nat.zero_le _, rfl, HP.out⟩
      case round =>
        clear HP
        obtain ⟨k, hk, rfl, hP⟩ := hrel
        by_cases hlt : k < ll.length
        · obtain ⟨x, hx⟩ : ∃ x, ll[k]? = some x := ⟨_, List.getElem?_eq_getElem hlt⟩
          have hxm := List.mem_of_getElem? hx
          obtain ⟨y, q1, q2, q3⟩ := HR.out.got x hxm
          obtain ⟨k1, k2, k3⟩ := HR.out.ok x hxm
          have f0 := text_zero k1
          have f1 : decide ((32 : Int) < x.key.size) = false := decide_eq_false (by omega)
          have f2 : decide ((80 : Int) < x.val.size) = false := decide_eq_false (by omega)
          have HG := Lib.hid (tget_any (i := 0) hP (List.mem_append_right _ List.mem_cons_self) (by omega) (by decide) x.key)
          have hcell : ∀ wz, PV w pp 60 200000 V (Y ++ [(tb, treeO pp 0)]) wz → ∃ g o, ao = some ⟨g, o, none⟩ ∧ ∀ (i : Nat) (p : Pr), ll[i]? = some p → wz.cell? ⟨g, o + i * 2, none⟩ = some (.string p.key) ∧ wz.cell? ⟨g, o + i * 2 + 1, none⟩ = some (.string p.val) := fun wz hz => by
            obtain ⟨ao', cap', he, hrd⟩ := HROW.out.rd hz
            cases he
            rcases hrd with h | ⟨g, o, h1, _, h2⟩
            · rw [h] at hlt; exact absurd hlt (by simp)
            · exact ⟨g, o, h1, h2⟩
          obtain ⟨g, o, rfl, hc⟩ := hcell wr hP
          have HC : Hid (∀ wz, PV w pp 60 200000 V (Y ++ [(tb, treeO pp 0)]) wz → ∀ (i : Nat) (p : Pr), ll[i]? = some p → wz.cell? ⟨g, o + i * 2, none⟩ = some (.string p.key) ∧ wz.cell? ⟨g, o + i * 2 + 1, none⟩ = some (.string p.val)) := Lib.hid fun wz hz => by
            obtain ⟨g', o', he, h⟩ := hcell wz hz
            cases he
            exact h
          have e0 := (hc k x hx).1
          have HX := Lib.hid hx
          have HQ := Lib.hid (And.intro q1 (And.intro q2 q3))
          clear hcell hc hx hxm q1 q2 q3 k1 k2 k3 hP
          cases k with
          | zero =>
            simp only [Nat.zero_mul, Nat.add_zero] at e0
            go_wp2_with fail
            refine HG.out.mono ?_
            rintro e w7 ⟨⟨s, z, rfl, hsz⟩, H7⟩
            obtain ⟨rfl, rfl⟩ := hsz y x HQ.out.1 HQ.out.2.1 HQ.out.2.2
            clear e0 HG hsz
            obtain ⟨e0, e1⟩ := HC.out w7 H7 0 x HX.out
            have HP := Lib.hid H7
            clear H7
            simp only [Nat.zero_mul, Nat.add_zero] at e0 e1
            go_wp2_with fail
            go_quiet (fail)
            go_wp2
            go_roundw
            case rel => exact ⟨1, by omega, by go_num, HP.out.on ⟨rfl, rfl, rfl, Nat.le_refl _, fun _ _ => rfl⟩⟩
            case measure => simp [intOf]
          | succ m =>
            obtain ⟨u, hu⟩ : ∃ u, ll[m]? = some u := ⟨_, List.getElem?_eq_getElem (by omega)⟩
            have g0 : Op.bytesLess u.key.toList x.key.toList = true := HR.out.srt m (m + 1) u x (by omega) hu HX.out
            have HU := Lib.hid hu
            clear hu
            go_wp2_with fail
            refine HG.out.mono ?_
            rintro e w7 ⟨⟨s, z, rfl, hsz⟩, H7⟩
            obtain ⟨rfl, rfl⟩ := hsz y x HQ.out.1 HQ.out.2.1 HQ.out.2.2
            clear e0 HG hsz
            obtain ⟨e0, e1⟩ := HC.out w7 H7 (m + 1) x HX.out
            obtain ⟨e2, _⟩ := HC.out w7 H7 m u HU.out
            have HP := Lib.hid H7
            clear H7
            have hm3 := HSZ.out
            have i1 : (0 : Int) ≤ (m : Int) + 1 := by omega
            have i2 : (m : Int) + 1 < (ll.length : Int) := by omega
            have i3 : decide ((0 : Int) < (m : Int) + 1) = true := decide_eq_true (by omega)
            have i4 : (0 : Int) ≤ (m : Int) := by omega
            have i5 : (m : Int) < (ll.length : Int) := by omega
            have i6 : IntKind.i64.wrap (m : Int) = (m : Int) := IntWalk.i64_in _ (by omega)
            have i7 : IntKind.i64.wrap ((m : Int) + 1 - 1) = (m : Int) := by rw [Int.add_sub_cancel]; exact i6
            go_wp2_with fail
            go_quiet (fail)
            go_wp2
            go_roundw
            case rel => exact ⟨m + 1 + 1, by omega, by go_num, HP.out.on ⟨rfl, rfl, rfl, Nat.le_refl _, fun _ _ => rfl⟩⟩
            case measure => simp [intOf]; have := HSZ.out; omega
        · have HBL := Lib.hid hP.below
          clear hP HR
          go_wp2_with fail
          refine (awake8_any _).mono ?_
          rintro e w7 ⟨rfl, hb7⟩
          have HB7 := Lib.hid (HBL.out.on hb7)
          clear hb7 HBL
          go_wp2
          go_returns
          exact ⟨rfl, HB7.out⟩

set_option maxRecDepth 100000 in
theorem lifted (os : Os) (started : os.Started) (H : Type) (enc : TypeId × Value → H) :
    ReturnsInHanded {} Tryz.checked os 3 .any (Rows.btreeRawSpec.pre6 enc Tryz.prog Tryz.f3 Rows.btreeRawRow.domain false) (Rows.btreeRawSpec.post enc Tryz.prog Tryz.f3 false true false false) := by
  refine law_lift (C := Tryz.checked) own started (by kernel_rfl) Tryz.func3 laidOut (by kernel_rfl) rfl Tryz.underlying4 rfl
    (fun ds h => match ds, h with | [_, _], _ => rfl)
    (ChangeSpec.witness6 (enc := enc) (C := Tryz.checked) false ⟨#[], #[.slice none 0 0, .slice none 0 0], []⟩ 8 (by kernel_rfl) (by kernel_rfl) (by kernel_rfl) (by kernel_rfl)) ?_
  intro W base args ds ps hval hA hsz
  rw [Tryz.params3] at hA hval hsz
  obtain ⟨v0, vs0, d0, ds0, p0, q0, hargs, rfl, rfl, h0, r0⟩ := trodAll_cons hA
  obtain ⟨v1, vs1, d1, ds1, p1, q1, rfl, rfl, rfl, h1, r1⟩ := trodAll_cons r0
  obtain ⟨rfl, rfl, rfl⟩ := trodAll_nil r1
  obtain rfl : args = #[v0, v1] := by cases args; simp_all
  obtain ⟨l0, hl0⟩ := acts_open (hval 0 22 v0 rfl rfl) h0
  obtain ⟨l1, hl1, hz1⟩ := pages_open (hval 1 23 v1 rfl rfl) h1
  have n1 : l1.length ≤ 1152921504606846976 := by
    rcases hz1 with rfl | ⟨el, rest, rfl, hel⟩
    · exact Nat.zero_le _
    · have this : (el.length + rest.length) * Tryz.prog.bytesOf 36 ≤ reachBytes := sized_slice hsz (j := 1) rfl rfl Tryz.underlying23
      have h24 : Tryz.prog.bytesOf 36 = 24 := by kernel_rfl
      rw [h24] at this
      simp only [reachBytes] at this
      omega
  exact walk W v0 l0 hl0 v1 l1 hl1 n1

theorem over : Rows.btreeRawRow.holds Tryz.pinned (OpenSpec.ofChange Rows.btreeRawSpec) :=
  OpenClaim.holds_of_wide 3 Tryz.f3 rfl rfl rfl rfl rfl rfl rfl ⟨rfl, rfl, rfl, rfl, rfl⟩ rfl rfl rfl rfl rfl (by kernel_rfl) Tryz.func3 (by kernel_rfl)
    (of_decide_eq_true (by kernel_rfl)) (by unfold Func.isWrapper; first | (rw [if_pos (by decide +kernel)]; kernel_rfl) | (rw [if_neg (by decide +kernel)]; exact ⟨rfl, rfl⟩))
    (fun os started H enc _ => lifted os started H enc)

theorem proved : Rows.BtreeRawSaid :=
  over
end Go.Proofs.YtkdhlofcdcnjgaaGreat.btreeRaw
