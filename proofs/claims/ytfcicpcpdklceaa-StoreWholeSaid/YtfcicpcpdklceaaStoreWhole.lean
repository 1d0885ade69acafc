/- Whenever the power goes, and whatever a crash keeps and tears, in opening, too, the disk of a store has all pages of the transaction that was being committed, or none, and all, if that ended without an error; and the chapter's example holds: for every two lists of pages and every list of crashes. Conditions: none. -/
import Derived.Test.YtfcicpcpdklceaaSOpen
import Derived.Test.YtfcicpcpdklceaaSPages
import Derived.Test.YtfcicpcpdklceaaSBlow
import Derived.Test.YtfcicpcpdklceaaLaw
import Derived.BigQuiet
import Derived.Deep.QuietTactic
import Derived.Lib.QuietBelow
import Derived.Deep.DeepCutAuto
import Derived.Deep.CutBlock
namespace Go.Proofs.Ytfcicpcpdklceaa.storeWhole
open Go.ChangeShapes Go.WideShapes Go.ChangeAt Go.RowKit Go.PlainAid
open Go.ChangeMaps (open_string)
open Go.Sort (grow)

theorem own : ownKnob Try.prog.godebug = none := by kernel_rfl
theorem laidOut : laidOutB Try.prog = true := by kernel_rfl
set_option maxRecDepth 100000
set_option maxRecDepth 100000 in
set_option maxHeartbeats 8000000 in
theorem walk (w : World) (v0 : Value) (l0 : List PageV) (h0 : PagesIn w v0 l0) (n0 : l0.length ≤ 1152921504606846976) (v1 : Value) (l1 : List PageV) (h1 : PagesIn w v1 l1) (n1 : l1.length ≤ 1152921504606846976) (v2 : Value) (l2 : List BlowV) (h2 : BlowsIn w v2 l2) :
    Calls Try.prog 3 #[v0, v1, v2] w fun e w' => e = .returned (.bool true) ∧ Below w.heap.size w w' := by
  have hstr := formatted_strong 24 9 (by omega) (by omega) (by omega)
  have hB := begun_any 24 9 w (by omega) (by omega) (by omega)
  have hroom : (firstHd 24 9).room = 9 := rfl
  have hpages : (firstHd 24 9).pages = 13 := by show min _ _ = _; omega
  have hseq : (firstHd 24 9).seq = 2 := rfl
  have hdn := formatted_n 24 9 (by omega)
  have hplain : Plain (firstHd 24 9) := ⟨by rw [hroom]; omega, by rw [hpages]; omega, by rw [hpages]; omega⟩
  generalize formatted (newD 24) 9 = d at *
  generalize firstHd 24 9 = h at *
  have hT : TxOk h (writesT h noPages (l0.take 30)) := writesT_ok _ (noPages_ok h)
  generalize hTT : writesT h noPages (l0.take 30) = T at *
  have HTT := Lib.hid hTT
  have HSt := Lib.hid hstr
  have HB := Lib.hid hB
  have HR := Lib.hid hroom
  have HP := Lib.hid hpages
  have HSQ := Lib.hid hseq
  have HDN := Lib.hid hdn
  have HPL := Lib.hid hplain
  have HT := Lib.hid hT
  have HPI0 := Lib.hid h0
  have HPI1 := Lib.hid h1
  have HBL := Lib.hid h2
  obtain ⟨a2, cp2, rfl⟩ : ∃ a cap, v2 = .slice a l2.length cap := by
    rcases h2 with ⟨hl, ao, cap, hv⟩ | ⟨b, o, cap, hv, _⟩
    · exact ⟨ao, cap, by rw [hv, hl]; rfl⟩
    · exact ⟨_, _, hv⟩
  clear hstr hB hroom hpages hseq hdn hplain hT hTT h0 h1 h2
  go_enter Try.func3, Try.ntmps3
  go_wp2_with fail
  refine HB.out.mono ?_
  rintro e w1 ⟨p, q, bm, rfl, H1⟩
  have H1' := Lib.hid H1
  clear H1
  go_wp2_with fail
  refine (writes_any H1'.out v0 l0 HPI0.out (by omega) (by omega)).mono ?_
  rintro e w2 ⟨rfl, H2⟩
  rw [HTT.out] at H2
  have H2' := Lib.hid H2
  clear H2
  go_wp2_with fail
  refine (commit_first H2'.out HSt.out HPL.out HT.out (by omega) (by rw [HSQ.out]; omega)).mono ?_
  rintro e w3 ⟨E1, d1, h1, o1, rfl, S1, M1, H3, hdn1⟩
  have hpg1 : h1.pages = 13 := by rw [M1.pages]; exact HP.out
  have hrm1 : h1.room = 9 := by rw [M1.room]; exact HR.out
  have hsq1 : h1.seq ≤ 4 := by have := M1.seq; rwa [HSQ.out] at this
  have P1 := M1.plain HPL.out
  have hwf1 := S1.set.wf P1 (by omega)
  have HS1 := Lib.hid S1
  have HP1 := Lib.hid P1
  have HWF1 := Lib.hid hwf1
  have HPG1 := Lib.hid hpg1
  have HRM1 := Lib.hid hrm1
  have HDN1 := Lib.hid (show d1.n = 24 from hdn1.trans HDN.out)
  have hT1 : TxOk h1 (writesT h1 noPages (l1.take 30)) := writesT_ok _ (noPages_ok h1)
  have H3' := Lib.hid H3
  clear S1 P1 hwf1 hpg1 hrm1 H3 hdn1 M1 HSt HPL HT HP HSQ HTT HR HDN HB H1' H2'
  go_wp2_with fail
  refine (all_any H3'.out HWF1.out HP1.out.pages HS1.out.set.free.2 HS1.out.set.n).mono ?_
  rintro e w4 ⟨v4, x4, rfl, ht4, _, H4, _⟩
  rw [HPG1.out, pages_of (Z := fun k => d1.last (2 + 9 + k)) HRM1.out (fun _ _ => rfl)] at ht4
  have H4' := Lib.hid H4
  have HT4 := Lib.hid ht4
  clear H4 ht4
  go_wp2_with fail
  refine (writes_any H4'.out v1 l1 HPI1.out (by omega) (by omega)).mono ?_
  rintro e w5 ⟨rfl, H5⟩
  generalize hTn : writesT h1 noPages (l1.take 30) = Tn at *
  have HT1 := Lib.hid hT1
  have H5' := Lib.hid H5
  clear H5 hTn hT1
  go_wp2_with fail
  refine (all_any H5'.out HWF1.out HP1.out.pages HS1.out.set.free.2 HS1.out.set.n).mono ?_
  rintro e w6 ⟨v6, x6, rfl, ht6, _, H6, _⟩
  rw [HPG1.out] at ht6
  have H6' := Lib.hid H6
  have HT6 : Hid (TextsR v6 [x6] ((List.range 13).map fun k : Nat => pageS d1 h1 Tn (k : Int))) := Lib.hid ht6
  clear H6 ht6
  obtain ⟨g4, c4, hv4, _⟩ := HT4.out.open (w := w6) (fun y hy => by rw [List.mem_singleton] at hy; subst hy; exact H6'.out.mem (List.mem_cons_of_mem _ List.mem_cons_self))
  obtain ⟨g6, c6, hv6, _⟩ := HT6.out.open (w := w6) (fun y hy => by rw [List.mem_singleton] at hy; subst hy; exact H6'.out.mem List.mem_cons_self)
  rw [List.length_map, List.length_range] at hv4 hv6
  subst hv4 hv6
  have hne4 := texts_ne g4 13 c4
  have hne6 := texts_ne g6 13 c6
  have heq4 := texts_eq g4 13 c4
  have heq6 := texts_eq g6 13 c6
  by_cases hz : l2.length = 0
  · have hz1 : ((l2.length : Int) == 0) = true := by rw [hz]; rfl
    have HB6 := Lib.hid H6'.out.below
    clear hz
    go_wp2_with fail
    refine (awake_any _).mono ?_
    rintro e w7 ⟨rfl, hb7⟩
    have HB7 := Lib.hid (HB6.out.on hb7)
    clear hb7
    go_wp2
    go_returns
    exact ⟨rfl, HB7.out⟩
  · have hz1 : ((l2.length : Int) == 0) = false := by rw [beq_eq_false_iff_ne]; omega
    obtain ⟨x0, hx0⟩ : ∃ x, l2[0]? = some x := ⟨_, List.getElem?_eq_getElem (by omega)⟩
    obtain ⟨bb, oo, cap2, hvv, hbl, _, hlm, hr⟩ : ∃ b o cap, Value.slice a2 l2.length cp2 = .slice (some ⟨b, o, none⟩) l2.length cap ∧ b < w.heap.size ∧ 0 < l2.length ∧ (l2.length : Int) ≤ 9223372036854775807 ∧ ∀ i x, l2[i]? = some x → x.Wf ∧ w.rangeAt b (o + i * 4) x.cells := by
      rcases HBL.out with ⟨hl, _⟩ | hh
      · rw [hl] at hz; exact absurd rfl hz
      · exact hh
    cases hvv
    have HRG := Lib.hid (fun (w' : World) (hb : Below w.heap.size w w') i x (hx : l2[i]? = some x) => (And.intro (hr i x hx).1 (rangeAt_keep (hr i x hx).2 (hb.block bb hbl))))
    obtain ⟨hw0, hr0⟩ := HRG.out w6 H6'.out.below 0 x0 hx0
    have e0 := hr0 0 _ rfl
    rw [Nat.zero_mul, Nat.add_zero] at e0
    have HW0 := Lib.hid hw0
    have hlm0 : (0 : Int) < (l2.length : Int) := by omega
    clear hr0 hr hx0 hw0 HBL
    go_wp2_with fail
    refine (slimit_any H6'.out x0.limit HW0.out.limit.1 HW0.out.limit.2).mono ?_
    rintro e w7 ⟨rfl, H7⟩
    have H7' := Lib.hid H7
    clear H7 e0
    go_wp2_with fail
    refine (commit_limit x0.limit H7'.out HS1.out HP1.out HT1.out (by omega) (by omega) (by rw [HRM1.out]; omega)).mono ?_
    rintro e w8 ⟨E, d8, rfl, H8, hl8, hs8, hE0, hE12⟩
    rw [HRM1.out, HPG1.out, HDN1.out] at hs8 hE0 hE12
    have H8' := Lib.hid H8
    have HL8 := Lib.hid hl8
    generalize hX : (fun k => d1.last (2 + 9 + k)) = X at *
    generalize hY : (fun k : Nat => pageS d1 h1 Tn (k : Int)) = Y at *
    clear H8 hl8 hX hY H7' H3' H4' H5' H6' HS1 HP1 HWF1 HPG1 HRM1 HDN1 HT1 hsq1
    have hcase : (∃ A B : Nat → ByteArray, (∀ m t c, St3 24 9 13 A B (d8.crash m t c)) ∧ ((E = 12 ∧ A = X ∧ B = X) ∨ (E = 0 ∧ A = Y ∧ B = Y) ∨ (E ≠ 12 ∧ E ≠ 0 ∧ A = X ∧ B = Y))) := by
      by_cases z12 : E = 12
      · exact ⟨X, X, fun m t c => .inl (hE12 z12 m t c), .inl ⟨z12, rfl, rfl⟩⟩
      · by_cases z0 : E = 0
        · exact ⟨Y, Y, fun m t c => .inl (hE0 z0 m t c), .inr (.inl ⟨z0, rfl, rfl⟩)⟩
        · exact ⟨X, Y, hs8, .inr (.inr ⟨z12, z0, rfl, rfl⟩)⟩
    obtain ⟨A, B, hst, hEE⟩ := hcase
    have HST := Lib.hid hst
    clear hst hs8 hE0 hE12
    have HFIN : ∃ (vw : Value) (WL : List ByteArray), ((E = 12 ∧ vw = .slice (some ⟨g4, 0, none⟩) 13 c4) ∨ (E ≠ 12 ∧ vw = .slice (some ⟨g6, 0, none⟩) 13 c6)) ∧ TextsR vw [x6, x4] WL ∧ WL.length = 13 ∧ ∀ Z : Nat → ByteArray, (Z = A ∨ Z = B) → (List.range 13).map Z = WL ∨ (E ≠ 0 ∧ (List.range 13).map Z = (List.range 13).map X) := by
      rcases hEE with ⟨z, rfl, rfl⟩ | ⟨z, rfl, rfl⟩ | ⟨z, z', rfl, rfl⟩
      · exact ⟨_, _, .inl ⟨z, rfl⟩, HT4.out.mono (by simp), by simp, fun Z hZ => .inl (by rcases hZ with rfl | rfl <;> rfl)⟩
      · exact ⟨_, _, .inr ⟨by omega, rfl⟩, HT6.out.mono (by simp), by simp, fun Z hZ => .inl (by rcases hZ with rfl | rfl <;> rfl)⟩
      · exact ⟨_, _, .inr ⟨z, rfl⟩, HT6.out.mono (by simp), by simp, fun Z hZ => by
          rcases hZ with rfl | rfl
          · exact .inr ⟨z', rfl⟩
          · exact .inl rfl⟩
    clear hEE
    obtain ⟨vw, WL, hvw, htw, hwl, hfin⟩ := HFIN
    have HTW := Lib.hid htw
    have HWL := Lib.hid hwl
    have HFN := Lib.hid hfin
    clear htw hwl hfin
    have hsplit : (E = 12 ∧ vw = .slice (some ⟨g4, 0, none⟩) 13 c4) ∨ (E = 0 ∧ vw = .slice (some ⟨g6, 0, none⟩) 13 c6) ∨ (E ≠ 12 ∧ E ≠ 0 ∧ vw = .slice (some ⟨g6, 0, none⟩) 13 c6) := by
      rcases hvw with h | ⟨h, h'⟩
      · exact .inl h
      · by_cases z0 : E = 0
        · exact .inr (.inl ⟨z0, h'⟩)
        · exact .inr (.inr ⟨h, z0, h'⟩)
    clear hvw
    rcases hsplit with ⟨rfl, rfl⟩ | ⟨rfl, rfl⟩ | ⟨z12, z0, rfl⟩
    rotate_left 2
    · have t12 : (E == 12) = false := by rw [beq_eq_false_iff_ne]; exact z12
      have t0 : (E == 0) = false := by rw [beq_eq_false_iff_ne]; exact z0
      have HZ0 := Lib.hid z0
      clear z12 z0
      go_wp2_with fail
      go_loopw [13] (fun i wr => ∃ (k : Nat) (d' : D), k ≤ l2.length ∧ k ≤ 8 ∧ i = .int .i64 k ∧ OwnL w p d' [x6, x4] wr ∧ d'.late.length ≤ 10000 ∧ ∀ m t c, St3 24 9 13 A B (d'.crash m t c)) (fun i _ => 8 - (intOf i).toNat)
      case atStart => exact ⟨0, d8, by omega, by omega, rfl, H8'.out, HL8.out, HST.out⟩
      case round =>
        clear HST HL8 H8'
        obtain ⟨k, d', hk, hk8, rfl, hO, hL, hS⟩ := hrel
        have HO := Lib.hid hO
        have HLt := Lib.hid hL
        have HSt3 := Lib.hid hS
        clear hO hL hS
        by_cases hgo : k < l2.length ∧ k < 8
        · obtain ⟨hlt, hlt8⟩ := hgo
          obtain ⟨x, hx⟩ : ∃ x, l2[k]? = some x := ⟨_, List.getElem?_eq_getElem hlt⟩
          obtain ⟨hwx, hrx⟩ := HRG.out wr HO.out.below k x hx
          have e1 := hrx 1 _ rfl
          have e2 := hrx 2 _ rfl
          have e3 := hrx 3 _ rfl
          have HWX := Lib.hid hwx
          have d1' : (0 : Int) ≤ (k : Int) := by omega
          have d2' : (k : Int) < (l2.length : Int) := by omega
          have HC := Lib.hid (fun (w1 : World) (b : Below wr.heap.size wr w1) => q_crash (HO.out.on b) x.mask x.torn x.cut (by have := HLt.out; omega) hwx.mask.1 hwx.mask.2 hwx.torn.1 hwx.torn.2 hwx.cut.1 hwx.cut.2)
          clear hrx hx hwx
          go_wp2_with fail
          go_still_tail 16, (by kernel_rfl)
          change wpList _ _ _ _ _ wr.drew
          have HC2 := Lib.hid (HC.out wr.drew (by go_grown))
          clear HC e1 e2 e3
          generalize wr.drew = w9 at *
          go_wp2_with fail
          ((with_reducible refine HC2.out.mono ?_); rintro e w10 ⟨rfl, H10⟩)
          have H10' := Lib.hid H10
          have HS10 := Lib.hid (HSt3.out x.mask x.torn x.cut)
          have hf10 : (d'.crash x.mask x.torn x.cut).free ∧ (d'.crash x.mask x.torn x.cut).late = [] := ⟨⟨rfl, rfl⟩, rfl⟩
          have HF10 := Lib.hid hf10
          clear H10 hf10 HC2 HSt3 HLt HO
          generalize d'.crash x.mask x.torn x.cut = d10 at *
          by_cases hnx : k + 1 < l2.length
          · have hd1 : decide (k + 1 < l2.length) = true := by simpa using hnx
            have hd2 : decide ((k : Int) + 1 < (l2.length : Int)) = true := by simp; omega
            obtain ⟨y, hy⟩ : ∃ y, l2[k + 1]? = some y := ⟨_, List.getElem?_eq_getElem hnx⟩
            obtain ⟨hwy, hry⟩ := HRG.out w10 H10'.out.below (k + 1) y hy
            have e0 := hry 0 _ rfl
            rw [Nat.add_zero] at e0
            have HWY := Lib.hid hwy
            have d3' : (0 : Int) ≤ (k : Int) + 1 := by omega
            have d4' : (k : Int) + 1 < (l2.length : Int) := by omega
            have d5' : ((k : Int) + 1).toNat = k + 1 := by omega
            clear hry hy hwy
            go_wp2_with fail
            refine (q_limit H10'.out y.limit HWY.out.limit.1 HWY.out.limit.2).mono ?_
            rintro e w11 ⟨rfl, H11⟩
            have H11' := Lib.hid H11
            clear H11 e0
            go_wp2_with fail
            refine (open_lim H11'.out (limited_fr HF10.out.1 y.limit) HF10.out.1.2 HS10.out).mono ?_
            rintro e w12 ⟨v12, E12, d12, rfl, H12, hl12, hs12⟩
            have HFN2 := Lib.hid (And.intro H12 (And.intro hl12 hs12))
            clear H12 hl12 hs12 H11' H10' HS10 HF10 d5'
            go_wp2
            go_roundw
            case rel => exact ⟨k + 1, d12, by omega, by omega, by go_num, HFN2.out⟩
            case measure => simp [intOf]; omega
          · have hd1 : decide (k + 1 < l2.length) = false := by simpa using hnx
            have hd2 : decide ((k : Int) + 1 < (l2.length : Int)) = false := by simp; omega
            go_wp2
            go_roundw
            case rel => exact ⟨k + 1, d10, by omega, by omega, by go_num, H10'.out, by rw [HF10.out.2]; simp, fun m t c => HS10.out.crash m t c⟩
            case measure => simp [intOf]; omega
        · have hcrash := q_crash HO.out 0 0 0 (by have := HLt.out; omega) (by omega) (by omega) (by omega) (by omega) (by omega) (by omega)
          have HCr := Lib.hid hcrash
          have HS9 := Lib.hid (HSt3.out 0 0 0)
          clear hcrash HO HLt HSt3
          have hstop : (k < l2.length ∧ k = 8) ∨ ¬ k < l2.length := by omega
          rcases hstop with ⟨hs1, rfl⟩ | hs1
          all_goals
            go_wp2_with fail
            refine HCr.out.mono ?_
            rintro e w9 ⟨rfl, H9⟩
            have H9' := Lib.hid H9
            clear H9
            go_wp2_with fail
            refine (open_free H9'.out HS9.out).mono ?_
            intro e w10 hop
            have hopz : ∃ Z, (Z = A ∨ Z = B) ∧ OpenedZ w p 24 9 13 Z [x6, x4] e w10 := by
              rcases hop with hh | hh
              · exact ⟨_, .inl rfl, hh⟩
              · exact ⟨_, .inr rfl, hh⟩
            obtain ⟨Z, hZ, qq, bq, d10, h10, rfl, H10, hdk10, _, hwf10, hpg10, hrm10, hz10, hn10, _⟩ := hopz
            have hpz10 := pages_of (d := d10) (h := h10) hrm10 hz10
            have H10' := Lib.hid H10
            have HWF10 := Lib.hid hwf10
            have HPG10 := Lib.hid hpg10
            have HPZ10 := Lib.hid hpz10
            have HN10 := Lib.hid (show 2 + h10.room + h10.pages ≤ d10.n by rw [hrm10, hpg10]; exact hn10)
            have HDK10 := Lib.hid hdk10
            have HZ := Lib.hid hZ
            clear hop H10 hdk10 hwf10 hpg10 hrm10 hz10 hn10 hpz10 hZ H9' HS9 HCr
            go_wp2_with fail
            refine (all_any H10'.out HWF10.out (by rw [HPG10.out]; omega) HDK10.out HN10.out).mono ?_
            rintro e w11 ⟨v11, x11, rfl, ht11, _, H11, _⟩
            rw [HPG10.out, HPZ10.out] at ht11
            obtain ⟨g11, c11, hv11, _⟩ := ht11.open (w := w11) (fun y hy => by rw [List.mem_singleton] at hy; subst hy; exact H11.mem List.mem_cons_self)
            rw [List.length_map, List.length_range] at hv11
            subst hv11
            have hne11 := texts_ne g11 13 c11
            have HT11 := Lib.hid ht11
            have H11' := Lib.hid H11
            clear ht11 H11 H10'
            by_cases hEq : (List.range 13).map Z = WL
            · have hcall := textsB_any (R := [x11, x6, x4]) (HT11.out.mono (by simp)) (HTW.out.mono (by simp)) (by rw [HWL.out]; simp) (by simp) w11 (fun y hy => H11'.out.mem hy)
              rw [decide_eq_true hEq] at hcall
              have HCall := Lib.hid hcall
              clear hcall hEq
              go_wp2_with fail
              refine HCall.out.mono ?_
              rintro e w12 ⟨rfl, hb12⟩
              have HB12 := Lib.hid (H11'.out.below.on hb12)
              clear hb12
              go_wp2_with fail
              refine (awake_any w12).mono ?_
              rintro e w13 ⟨rfl, hb13⟩
              have HB13 := Lib.hid (HB12.out.on hb13)
              clear hb13
              go_wp2
              go_returns
              exact ⟨rfl, HB13.out⟩
            · have hcall := textsB_any (R := [x11, x6, x4]) (HT11.out.mono (by simp)) (HTW.out.mono (by simp)) (by rw [HWL.out]; simp) (by simp) w11 (fun y hy => H11'.out.mem hy)
              rw [decide_eq_false hEq] at hcall
              have HCall := Lib.hid hcall
              obtain ⟨hEne, hEq2⟩ := (HFN.out Z HZ.out).resolve_left hEq
              clear hcall hEq
              have HE2 := Lib.hid hEq2
              clear hEq2 hEne
              go_wp2_with fail
              refine HCall.out.mono ?_
              rintro e w12 ⟨rfl, hb12⟩
              have H12' := Lib.hid (H11'.out.on hb12)
              clear hb12
              have hcall2 := textsB_any (R := [x11, x6, x4]) (HT11.out.mono (by simp)) (HT4.out.mono (by simp)) (by simp) (by simp) w12 (fun y hy => H12'.out.mem hy)
              rw [decide_eq_true HE2.out] at hcall2
              have HCall2 := Lib.hid hcall2
              clear hcall2
              go_wp2_with fail
              refine HCall2.out.mono ?_
              rintro e w13 ⟨rfl, hb13⟩
              have HB13 := Lib.hid (H12'.out.below.on hb13)
              clear hb13
              go_wp2_with fail
              refine (awake_any w13).mono ?_
              rintro e w14 ⟨rfl, hb14⟩
              have HB14 := Lib.hid (HB13.out.on hb14)
              clear hb14
              go_wp2
              go_returns
              exact ⟨rfl, HB14.out⟩
    · go_wp2_with fail
      go_loopw [13] (fun i wr => ∃ (k : Nat) (d' : D), k ≤ l2.length ∧ k ≤ 8 ∧ i = .int .i64 k ∧ OwnL w p d' [x6, x4] wr ∧ d'.late.length ≤ 10000 ∧ ∀ m t c, St3 24 9 13 A B (d'.crash m t c)) (fun i _ => 8 - (intOf i).toNat)
      case atStart => exact ⟨0, d8, by omega, by omega, rfl, H8'.out, HL8.out, HST.out⟩
      case round =>
        clear HST HL8 H8'
        obtain ⟨k, d', hk, hk8, rfl, hO, hL, hS⟩ := hrel
        have HO := Lib.hid hO
        have HLt := Lib.hid hL
        have HSt3 := Lib.hid hS
        clear hO hL hS
        by_cases hgo : k < l2.length ∧ k < 8
        · obtain ⟨hlt, hlt8⟩ := hgo
          obtain ⟨x, hx⟩ : ∃ x, l2[k]? = some x := ⟨_, List.getElem?_eq_getElem hlt⟩
          obtain ⟨hwx, hrx⟩ := HRG.out wr HO.out.below k x hx
          have e1 := hrx 1 _ rfl
          have e2 := hrx 2 _ rfl
          have e3 := hrx 3 _ rfl
          have HWX := Lib.hid hwx
          have d1' : (0 : Int) ≤ (k : Int) := by omega
          have d2' : (k : Int) < (l2.length : Int) := by omega
          have HC := Lib.hid (fun (w1 : World) (b : Below wr.heap.size wr w1) => q_crash (HO.out.on b) x.mask x.torn x.cut (by have := HLt.out; omega) hwx.mask.1 hwx.mask.2 hwx.torn.1 hwx.torn.2 hwx.cut.1 hwx.cut.2)
          clear hrx hx hwx
          go_wp2_with fail
          go_still_tail 16, (by kernel_rfl)
          change wpList _ _ _ _ _ wr.drew
          have HC2 := Lib.hid (HC.out wr.drew (by go_grown))
          clear HC e1 e2 e3
          generalize wr.drew = w9 at *
          go_wp2_with fail
          ((with_reducible refine HC2.out.mono ?_); rintro e w10 ⟨rfl, H10⟩)
          have H10' := Lib.hid H10
          have HS10 := Lib.hid (HSt3.out x.mask x.torn x.cut)
          have hf10 : (d'.crash x.mask x.torn x.cut).free ∧ (d'.crash x.mask x.torn x.cut).late = [] := ⟨⟨rfl, rfl⟩, rfl⟩
          have HF10 := Lib.hid hf10
          clear H10 hf10 HC2 HSt3 HLt HO
          generalize d'.crash x.mask x.torn x.cut = d10 at *
          by_cases hnx : k + 1 < l2.length
          · have hd1 : decide (k + 1 < l2.length) = true := by simpa using hnx
            have hd2 : decide ((k : Int) + 1 < (l2.length : Int)) = true := by simp; omega
            obtain ⟨y, hy⟩ : ∃ y, l2[k + 1]? = some y := ⟨_, List.getElem?_eq_getElem hnx⟩
            obtain ⟨hwy, hry⟩ := HRG.out w10 H10'.out.below (k + 1) y hy
            have e0 := hry 0 _ rfl
            rw [Nat.add_zero] at e0
            have HWY := Lib.hid hwy
            have d3' : (0 : Int) ≤ (k : Int) + 1 := by omega
            have d4' : (k : Int) + 1 < (l2.length : Int) := by omega
            have d5' : ((k : Int) + 1).toNat = k + 1 := by omega
            clear hry hy hwy
            go_wp2_with fail
            refine (q_limit H10'.out y.limit HWY.out.limit.1 HWY.out.limit.2).mono ?_
            rintro e w11 ⟨rfl, H11⟩
            have H11' := Lib.hid H11
            clear H11 e0
            go_wp2_with fail
            refine (open_lim H11'.out (limited_fr HF10.out.1 y.limit) HF10.out.1.2 HS10.out).mono ?_
            rintro e w12 ⟨v12, E12, d12, rfl, H12, hl12, hs12⟩
            have HFN2 := Lib.hid (And.intro H12 (And.intro hl12 hs12))
            clear H12 hl12 hs12 H11' H10' HS10 HF10 d5'
            go_wp2
            go_roundw
            case rel => exact ⟨k + 1, d12, by omega, by omega, by go_num, HFN2.out⟩
            case measure => simp [intOf]; omega
          · have hd1 : decide (k + 1 < l2.length) = false := by simpa using hnx
            have hd2 : decide ((k : Int) + 1 < (l2.length : Int)) = false := by simp; omega
            go_wp2
            go_roundw
            case rel => exact ⟨k + 1, d10, by omega, by omega, by go_num, H10'.out, by rw [HF10.out.2]; simp, fun m t c => HS10.out.crash m t c⟩
            case measure => simp [intOf]; omega
        · have hcrash := q_crash HO.out 0 0 0 (by have := HLt.out; omega) (by omega) (by omega) (by omega) (by omega) (by omega) (by omega)
          have HCr := Lib.hid hcrash
          have HS9 := Lib.hid (HSt3.out 0 0 0)
          clear hcrash HO HLt HSt3
          have hstop : (k < l2.length ∧ k = 8) ∨ ¬ k < l2.length := by omega
          rcases hstop with ⟨hs1, rfl⟩ | hs1
          all_goals
            go_wp2_with fail
            refine HCr.out.mono ?_
            rintro e w9 ⟨rfl, H9⟩
            have H9' := Lib.hid H9
            clear H9
            go_wp2_with fail
            refine (open_free H9'.out HS9.out).mono ?_
            intro e w10 hop
            have hopz : ∃ Z, (Z = A ∨ Z = B) ∧ OpenedZ w p 24 9 13 Z [x6, x4] e w10 := by
              rcases hop with hh | hh
              · exact ⟨_, .inl rfl, hh⟩
              · exact ⟨_, .inr rfl, hh⟩
            obtain ⟨Z, hZ, qq, bq, d10, h10, rfl, H10, hdk10, _, hwf10, hpg10, hrm10, hz10, hn10, _⟩ := hopz
            have hpz10 := pages_of (d := d10) (h := h10) hrm10 hz10
            have H10' := Lib.hid H10
            have HWF10 := Lib.hid hwf10
            have HPG10 := Lib.hid hpg10
            have HPZ10 := Lib.hid hpz10
            have HN10 := Lib.hid (show 2 + h10.room + h10.pages ≤ d10.n by rw [hrm10, hpg10]; exact hn10)
            have HDK10 := Lib.hid hdk10
            have HZ := Lib.hid hZ
            clear hop H10 hdk10 hwf10 hpg10 hrm10 hz10 hn10 hpz10 hZ H9' HS9 HCr
            go_wp2_with fail
            refine (all_any H10'.out HWF10.out (by rw [HPG10.out]; omega) HDK10.out HN10.out).mono ?_
            rintro e w11 ⟨v11, x11, rfl, ht11, _, H11, _⟩
            rw [HPG10.out, HPZ10.out] at ht11
            obtain ⟨g11, c11, hv11, _⟩ := ht11.open (w := w11) (fun y hy => by rw [List.mem_singleton] at hy; subst hy; exact H11.mem List.mem_cons_self)
            rw [List.length_map, List.length_range] at hv11
            subst hv11
            have hne11 := texts_ne g11 13 c11
            have HT11 := Lib.hid ht11
            have H11' := Lib.hid H11
            clear ht11 H11 H10'
            by_cases hEq : (List.range 13).map Z = WL
            · have hcall := textsB_any (R := [x11, x6, x4]) (HT11.out.mono (by simp)) (HTW.out.mono (by simp)) (by rw [HWL.out]; simp) (by simp) w11 (fun y hy => H11'.out.mem hy)
              rw [decide_eq_true hEq] at hcall
              have HCall := Lib.hid hcall
              clear hcall hEq
              go_wp2_with fail
              refine HCall.out.mono ?_
              rintro e w12 ⟨rfl, hb12⟩
              have HB12 := Lib.hid (H11'.out.below.on hb12)
              clear hb12
              go_wp2_with fail
              refine (awake_any w12).mono ?_
              rintro e w13 ⟨rfl, hb13⟩
              have HB13 := Lib.hid (HB12.out.on hb13)
              clear hb13
              go_wp2
              go_returns
              exact ⟨rfl, HB13.out⟩
            · have hcall := textsB_any (R := [x11, x6, x4]) (HT11.out.mono (by simp)) (HTW.out.mono (by simp)) (by rw [HWL.out]; simp) (by simp) w11 (fun y hy => H11'.out.mem hy)
              rw [decide_eq_false hEq] at hcall
              have HCall := Lib.hid hcall
              obtain ⟨hEne, hEq2⟩ := (HFN.out Z HZ.out).resolve_left hEq
              clear hcall hEq
              have HE2 := Lib.hid hEq2
              clear hEq2 hEne
              go_wp2_with fail
              refine HCall.out.mono ?_
              rintro e w12 ⟨rfl, hb12⟩
              have H12' := Lib.hid (H11'.out.on hb12)
              clear hb12
              have hcall2 := textsB_any (R := [x11, x6, x4]) (HT11.out.mono (by simp)) (HT4.out.mono (by simp)) (by simp) (by simp) w12 (fun y hy => H12'.out.mem hy)
              rw [decide_eq_true HE2.out] at hcall2
              have HCall2 := Lib.hid hcall2
              clear hcall2
              go_wp2_with fail
              refine HCall2.out.mono ?_
              rintro e w13 ⟨rfl, hb13⟩
              have HB13 := Lib.hid (H12'.out.below.on hb13)
              clear hb13
              go_wp2_with fail
              refine (awake_any w13).mono ?_
              rintro e w14 ⟨rfl, hb14⟩
              have HB14 := Lib.hid (HB13.out.on hb14)
              clear hb14
              go_wp2
              go_returns
              exact ⟨rfl, HB14.out⟩
    · go_wp2_with fail
      go_loopw [13] (fun i wr => ∃ (k : Nat) (d' : D), k ≤ l2.length ∧ k ≤ 8 ∧ i = .int .i64 k ∧ OwnL w p d' [x6, x4] wr ∧ d'.late.length ≤ 10000 ∧ ∀ m t c, St3 24 9 13 A B (d'.crash m t c)) (fun i _ => 8 - (intOf i).toNat)
      case atStart => exact ⟨0, d8, by omega, by omega, rfl, H8'.out, HL8.out, HST.out⟩
      case round =>
        clear HST HL8 H8'
        obtain ⟨k, d', hk, hk8, rfl, hO, hL, hS⟩ := hrel
        have HO := Lib.hid hO
        have HLt := Lib.hid hL
        have HSt3 := Lib.hid hS
        clear hO hL hS
        by_cases hgo : k < l2.length ∧ k < 8
        · obtain ⟨hlt, hlt8⟩ := hgo
          obtain ⟨x, hx⟩ : ∃ x, l2[k]? = some x := ⟨_, List.getElem?_eq_getElem hlt⟩
          obtain ⟨hwx, hrx⟩ := HRG.out wr HO.out.below k x hx
          have e1 := hrx 1 _ rfl
          have e2 := hrx 2 _ rfl
          have e3 := hrx 3 _ rfl
          have HWX := Lib.hid hwx
          have d1' : (0 : Int) ≤ (k : Int) := by omega
          have d2' : (k : Int) < (l2.length : Int) := by omega
          have HC := Lib.hid (fun (w1 : World) (b : Below wr.heap.size wr w1) => q_crash (HO.out.on b) x.mask x.torn x.cut (by have := HLt.out; omega) hwx.mask.1 hwx.mask.2 hwx.torn.1 hwx.torn.2 hwx.cut.1 hwx.cut.2)
          clear hrx hx hwx
          go_wp2_with fail
          go_still_tail 16, (by kernel_rfl)
          change wpList _ _ _ _ _ wr.drew
          have HC2 := Lib.hid (HC.out wr.drew (by go_grown))
          clear HC e1 e2 e3
          generalize wr.drew = w9 at *
          go_wp2_with fail
          ((with_reducible refine HC2.out.mono ?_); rintro e w10 ⟨rfl, H10⟩)
          have H10' := Lib.hid H10
          have HS10 := Lib.hid (HSt3.out x.mask x.torn x.cut)
          have hf10 : (d'.crash x.mask x.torn x.cut).free ∧ (d'.crash x.mask x.torn x.cut).late = [] := ⟨⟨rfl, rfl⟩, rfl⟩
          have HF10 := Lib.hid hf10
          clear H10 hf10 HC2 HSt3 HLt HO
          generalize d'.crash x.mask x.torn x.cut = d10 at *
          by_cases hnx : k + 1 < l2.length
          · have hd1 : decide (k + 1 < l2.length) = true := by simpa using hnx
            have hd2 : decide ((k : Int) + 1 < (l2.length : Int)) = true := by simp; omega
            obtain ⟨y, hy⟩ : ∃ y, l2[k + 1]? = some y := ⟨_, List.getElem?_eq_getElem hnx⟩
            obtain ⟨hwy, hry⟩ := HRG.out w10 H10'.out.below (k + 1) y hy
            have e0 := hry 0 _ rfl
            rw [Nat.add_zero] at e0
            have HWY := Lib.hid hwy
            have d3' : (0 : Int) ≤ (k : Int) + 1 := by omega
            have d4' : (k : Int) + 1 < (l2.length : Int) := by omega
            have d5' : ((k : Int) + 1).toNat = k + 1 := by omega
            clear hry hy hwy
            go_wp2_with fail
            refine (q_limit H10'.out y.limit HWY.out.limit.1 HWY.out.limit.2).mono ?_
            rintro e w11 ⟨rfl, H11⟩
            have H11' := Lib.hid H11
            clear H11 e0
            go_wp2_with fail
            refine (open_lim H11'.out (limited_fr HF10.out.1 y.limit) HF10.out.1.2 HS10.out).mono ?_
            rintro e w12 ⟨v12, E12, d12, rfl, H12, hl12, hs12⟩
            have HFN2 := Lib.hid (And.intro H12 (And.intro hl12 hs12))
            clear H12 hl12 hs12 H11' H10' HS10 HF10 d5'
            go_wp2
            go_roundw
            case rel => exact ⟨k + 1, d12, by omega, by omega, by go_num, HFN2.out⟩
            case measure => simp [intOf]; omega
          · have hd1 : decide (k + 1 < l2.length) = false := by simpa using hnx
            have hd2 : decide ((k : Int) + 1 < (l2.length : Int)) = false := by simp; omega
            go_wp2
            go_roundw
            case rel => exact ⟨k + 1, d10, by omega, by omega, by go_num, H10'.out, by rw [HF10.out.2]; simp, fun m t c => HS10.out.crash m t c⟩
            case measure => simp [intOf]; omega
        · have hcrash := q_crash HO.out 0 0 0 (by have := HLt.out; omega) (by omega) (by omega) (by omega) (by omega) (by omega) (by omega)
          have HCr := Lib.hid hcrash
          have HS9 := Lib.hid (HSt3.out 0 0 0)
          clear hcrash HO HLt HSt3
          have hstop : (k < l2.length ∧ k = 8) ∨ ¬ k < l2.length := by omega
          rcases hstop with ⟨hs1, rfl⟩ | hs1
          all_goals
            go_wp2_with fail
            refine HCr.out.mono ?_
            rintro e w9 ⟨rfl, H9⟩
            have H9' := Lib.hid H9
            clear H9
            go_wp2_with fail
            refine (open_free H9'.out HS9.out).mono ?_
            intro e w10 hop
            have hopz : ∃ Z, (Z = A ∨ Z = B) ∧ OpenedZ w p 24 9 13 Z [x6, x4] e w10 := by
              rcases hop with hh | hh
              · exact ⟨_, .inl rfl, hh⟩
              · exact ⟨_, .inr rfl, hh⟩
            obtain ⟨Z, hZ, qq, bq, d10, h10, rfl, H10, hdk10, _, hwf10, hpg10, hrm10, hz10, hn10, _⟩ := hopz
            have hpz10 := pages_of (d := d10) (h := h10) hrm10 hz10
            have H10' := Lib.hid H10
            have HWF10 := Lib.hid hwf10
            have HPG10 := Lib.hid hpg10
            have HPZ10 := Lib.hid hpz10
            have HN10 := Lib.hid (show 2 + h10.room + h10.pages ≤ d10.n by rw [hrm10, hpg10]; exact hn10)
            have HDK10 := Lib.hid hdk10
            have HZ := Lib.hid hZ
            clear hop H10 hdk10 hwf10 hpg10 hrm10 hz10 hn10 hpz10 hZ H9' HS9 HCr
            go_wp2_with fail
            refine (all_any H10'.out HWF10.out (by rw [HPG10.out]; omega) HDK10.out HN10.out).mono ?_
            rintro e w11 ⟨v11, x11, rfl, ht11, _, H11, _⟩
            rw [HPG10.out, HPZ10.out] at ht11
            obtain ⟨g11, c11, hv11, _⟩ := ht11.open (w := w11) (fun y hy => by rw [List.mem_singleton] at hy; subst hy; exact H11.mem List.mem_cons_self)
            rw [List.length_map, List.length_range] at hv11
            subst hv11
            have hne11 := texts_ne g11 13 c11
            have HT11 := Lib.hid ht11
            have H11' := Lib.hid H11
            clear ht11 H11 H10'
            by_cases hEq : (List.range 13).map Z = WL
            · have hcall := textsB_any (R := [x11, x6, x4]) (HT11.out.mono (by simp)) (HTW.out.mono (by simp)) (by rw [HWL.out]; simp) (by simp) w11 (fun y hy => H11'.out.mem hy)
              rw [decide_eq_true hEq] at hcall
              have HCall := Lib.hid hcall
              clear hcall hEq
              go_wp2_with fail
              refine HCall.out.mono ?_
              rintro e w12 ⟨rfl, hb12⟩
              have HB12 := Lib.hid (H11'.out.below.on hb12)
              clear hb12
              go_wp2_with fail
              refine (awake_any w12).mono ?_
              rintro e w13 ⟨rfl, hb13⟩
              have HB13 := Lib.hid (HB12.out.on hb13)
              clear hb13
              go_wp2
              go_returns
              exact ⟨rfl, HB13.out⟩
            · have hcall := textsB_any (R := [x11, x6, x4]) (HT11.out.mono (by simp)) (HTW.out.mono (by simp)) (by rw [HWL.out]; simp) (by simp) w11 (fun y hy => H11'.out.mem hy)
              rw [decide_eq_false hEq] at hcall
              have HCall := Lib.hid hcall
              obtain ⟨hEne, hEq2⟩ := (HFN.out Z HZ.out).resolve_left hEq
              clear hcall hEq
              exact absurd rfl hEne

set_option maxRecDepth 100000 in
theorem lifted (os : Os) (started : os.Started) (H : Type) (enc : TypeId × Value → H) :
    ReturnsInHanded {} Try.checked os 3 .any (Rows.storeWholeSpec.pre6 enc Try.prog Try.f3 Rows.storeWholeRow.domain false) (Rows.storeWholeSpec.post enc Try.prog Try.f3 false true false false) := by
  refine law_lift (C := Try.checked) own started (by kernel_rfl) Try.func3 laidOut (by kernel_rfl) rfl Try.underlying4 rfl
    (fun ds h => match ds, h with | [_, _, _], _ => rfl)
    (ChangeSpec.witness6 (enc := enc) (C := Try.checked) false ⟨#[], #[.slice none 0 0, .slice none 0 0, .slice none 0 0], []⟩ 8 (by kernel_rfl) (by kernel_rfl) (by kernel_rfl) (by kernel_rfl)) ?_
  intro W base args ds ps hval hA hsz
  rw [Try.params3] at hA hval hsz
  obtain ⟨v0, vs0, d0, ds0, p0, q0, hargs, rfl, rfl, h0, r0⟩ := trodAll_cons hA
  obtain ⟨v1, vs1, d1, ds1, p1, q1, rfl, rfl, rfl, h1, r1⟩ := trodAll_cons r0
  obtain ⟨v2, vs2, d2, ds2, p2, q2, rfl, rfl, rfl, h2, r2⟩ := trodAll_cons r1
  obtain ⟨rfl, rfl, rfl⟩ := trodAll_nil r2
  obtain rfl : args = #[v0, v1, v2] := by cases args; simp_all
  obtain ⟨l0, hl0, hz0⟩ := pages_open (hval 0 22 v0 rfl rfl) h0
  have n0 : l0.length ≤ 1152921504606846976 := by
    rcases hz0 with rfl | ⟨el, rest, rfl, hel⟩
    · exact Nat.zero_le _
    · have this : (el.length + rest.length) * Try.prog.bytesOf 49 ≤ reachBytes := sized_slice hsz (j := 0) rfl rfl Try.underlying22
      have h24 : Try.prog.bytesOf 49 = 24 := by kernel_rfl
      rw [h24] at this
      simp only [reachBytes] at this
      omega
  obtain ⟨l1, hl1, hz1⟩ := pages_open (hval 1 22 v1 rfl rfl) h1
  have n1 : l1.length ≤ 1152921504606846976 := by
    rcases hz1 with rfl | ⟨el, rest, rfl, hel⟩
    · exact Nat.zero_le _
    · have this : (el.length + rest.length) * Try.prog.bytesOf 49 ≤ reachBytes := sized_slice hsz (j := 1) rfl rfl Try.underlying22
      have h24 : Try.prog.bytesOf 49 = 24 := by kernel_rfl
      rw [h24] at this
      simp only [reachBytes] at this
      omega
  obtain ⟨l2, hl2⟩ := blows_open (hval 2 23 v2 rfl rfl) h2
  exact walk W v0 l0 hl0 n0 v1 l1 hl1 n1 v2 l2 hl2

theorem over : Rows.storeWholeRow.holds Try.pinned (OpenSpec.ofChange Rows.storeWholeSpec) :=
  OpenClaim.holds_of_wide 3 Try.f3 rfl rfl rfl rfl rfl rfl rfl ⟨rfl, rfl, rfl, rfl, rfl⟩ rfl rfl rfl rfl rfl (by kernel_rfl) Try.func3 (by kernel_rfl)
    (of_decide_eq_true (by kernel_rfl)) (by unfold Func.isWrapper; first | (rw [if_pos (by decide +kernel)]; kernel_rfl) | (rw [if_neg (by decide +kernel)]; exact ⟨rfl, rfl⟩))
    (fun os started H enc _ => lifted os started H enc)

theorem proved : Rows.StoreWholeSaid :=
  over
end Go.Proofs.Ytfcicpcpdklceaa.storeWhole
