/- A store that is opened again is the same, behind every crash, and opening it behind a clean end writes nothing; and the chapter's example holds: for every list of pages and every two crashes. Conditions: none. -/
import Derived.Test.YtfcicpcpdklceaaSOpen
import Derived.Test.YtfcicpcpdklceaaSPages
import Derived.Test.YtfcicpcpdklceaaSBlow
import Derived.Test.YtfcicpcpdklceaaLaw
import Derived.BigQuiet
import Derived.Deep.QuietTactic
import Derived.Lib.QuietBelow
import Derived.Deep.DeepCutAuto
import Derived.Deep.CutBlock
namespace Go.Proofs.Ytfcicpcpdklceaa.storeAgain
open Go.ChangeShapes Go.WideShapes Go.ChangeAt Go.RowKit Go.PlainAid
open Go.ChangeMaps (open_string)
open Go.Sort (grow)

theorem own : ownKnob Try.prog.godebug = none := by kernel_rfl
theorem laidOut : laidOutB Try.prog = true := by kernel_rfl
set_option maxRecDepth 100000
set_option maxRecDepth 100000 in
set_option maxHeartbeats 4000000 in
theorem walk (w : World) (v0 : Value) (l0 : List PageV) (h0 : PagesIn w v0 l0) (n0 : l0.length ≤ 1152921504606846976) (a1 : BlowV) (w1 : a1.Wf) (a2 : BlowV) (w2 : a2.Wf) :
    Calls Try.prog 4 #[v0, .agg a1.cells.toArray, .agg a2.cells.toArray] w fun e w' => e = .returned (.bool true) ∧ Below w.heap.size w w' := by
  obtain ⟨⟨bl1, cl1⟩, ⟨bm1, cm1⟩, ⟨bt1, ct1⟩, ⟨bc1, cc1⟩⟩ := w1
  obtain ⟨⟨bl2, cl2⟩, ⟨bm2, cm2⟩, ⟨bt2, ct2⟩, ⟨bc2, cc2⟩⟩ := w2
  have hstr := formatted_strong 24 9 (by omega) (by omega) (by omega)
  have hroom : (firstHd 24 9).room = 9 := rfl
  have hpages : (firstHd 24 9).pages = 13 := by show min _ _ = _; omega
  have hseq : (firstHd 24 9).seq = 2 := rfl
  have hdn := formatted_n 24 9 (by omega)
  have hplain : Plain (firstHd 24 9) := ⟨by rw [hroom]; omega, by rw [hpages]; omega, by rw [hpages]; omega⟩
  have hb0 : Below w.heap.size w ((w.alloc (.cells a1.cells.toArray 37)).alloc (.cells a2.cells.toArray 37)) := by go_grown
  have q1 := heap_alloc2_old w (.cells a1.cells.toArray 37) (.cells a2.cells.toArray 37)
  have q2 := heap_alloc2_new w (.cells a1.cells.toArray 37) (.cells a2.cells.toArray 37)
  have hsz0 : w.heap.size + 1 < ((w.alloc (.cells a1.cells.toArray 37)).alloc (.cells a2.cells.toArray 37)).heap.size := by simp
  have HPI := Lib.hid (h0.on hb0)
  clear h0
  go_enter Try.func4, Try.ntmps4
  go_wp2_with fail
  generalize (w.alloc (.cells a1.cells.toArray 37)).alloc (.cells a2.cells.toArray 37) = W at *
  have hB := begun_any 24 9 W (by omega) (by omega) (by omega)
  generalize formatted (newD 24) 9 = d at *
  generalize firstHd 24 9 = h at *
  have hT : TxOk h (writesT h noPages (l0.take 30)) := writesT_ok _ (noPages_ok h)
  generalize hTT : writesT h noPages (l0.take 30) = T at *
  have k1 := four_cells q1
  have k2 := four_cells q2
  have HK1 := Lib.hid k1
  have HK2 := Lib.hid k2
  have HTT := Lib.hid hTT
  have HSt := Lib.hid hstr
  have HB := Lib.hid hB
  have HR := Lib.hid hroom
  have HP := Lib.hid hpages
  have HSQ := Lib.hid hseq
  have HDN := Lib.hid hdn
  have HPL := Lib.hid hplain
  have HT := Lib.hid hT
  have HB0 := Lib.hid hb0
  clear hstr hB hroom hpages hseq hdn hplain hT hTT q1 q2 k1 k2 hb0
  refine HB.out.mono ?_
  rintro e w1 ⟨p, q, bm, rfl, H1⟩
  have H1' := Lib.hid H1
  clear H1
  go_wp2_with fail
  refine (writes_any H1'.out v0 l0 HPI.out (by omega) (by omega)).mono ?_
  rintro e w2 ⟨rfl, H2⟩
  rw [HTT.out] at H2
  have H2' := Lib.hid H2
  obtain ⟨y0, y1, y2, y3⟩ := HK1.out _ H2.below
  clear H2 y1 y2 y3
  go_wp2_with fail
  refine (slimit_any H2'.out a1.limit bl1 cl1).mono ?_
  rintro e w3 ⟨rfl, H3⟩
  have H3' := Lib.hid H3
  clear H3 y0
  go_wp2_with fail
  refine (commit_limit a1.limit H3'.out HSt.out HPL.out HT.out (by omega) (by rw [HSQ.out]; omega) (by rw [HR.out]; omega)).mono ?_
  rintro e w4 ⟨E, d4, rfl, H4, hl4, hs4, _, _⟩
  rw [HR.out, HP.out, HDN.out] at hs4
  have H4' := Lib.hid H4
  have HS4 := Lib.hid hs4
  obtain ⟨y0, y1, y2, y3⟩ := HK1.out _ H4.below
  clear H4 hs4 y0
  go_wp2_with fail
  refine (q_crash H4'.out a1.mask a1.torn a1.cut (by omega) bm1 cm1 bt1 ct1 bc1 cc1).mono ?_
  rintro e w5 ⟨rfl, H5⟩
  have H5' := Lib.hid H5
  have HS5 := Lib.hid (HS4.out a1.mask a1.torn a1.cut)
  clear H5 y1 y2 y3 hl4
  go_wp2_with fail
  refine (open_free H5'.out HS5.out).mono ?_
  intro e w6 hop
  have hopz : ∃ Z, OpenedZ W p 24 9 13 Z [] e w6 := by
    rcases hop with hh | hh
    · exact ⟨_, hh⟩
    · exact ⟨_, hh⟩
  obtain ⟨Z, qq, bb, d6, h6, rfl, H6, hdk6, ok6, hwf6, hpg6, hrm6, hz6, hn6, hlt6⟩ := hopz
  have hpz := pages_of (d := d6) (h := h6) hrm6 hz6
  have H6' := Lib.hid H6
  have HOK6 := Lib.hid ok6
  have HWF6 := Lib.hid hwf6
  have HPG6 := Lib.hid hpg6
  have HPZ := Lib.hid hpz
  have HN6 := Lib.hid (show 2 + h6.room + h6.pages ≤ d6.n by rw [hrm6, hpg6]; exact hn6)
  have HDK6 := Lib.hid hdk6
  clear hop H6 hdk6 ok6 hwf6 hz6 hn6 hpz hrm6 H1' H2' H3' H4' H5' HB HS4 HS5
  go_wp2_with fail
  refine (all_any H6'.out HWF6.out (by rw [HPG6.out]; omega) HDK6.out HN6.out).mono ?_
  rintro e w7 ⟨v7, x7, rfl, ht7, _, H7, _⟩
  rw [HPG6.out, HPZ.out] at ht7
  have HT7 := Lib.hid ht7
  have H7' := Lib.hid H7
  obtain ⟨y0, y1, y2, y3⟩ := HK2.out _ H7.below
  clear ht7 H7 y0 hpg6
  go_wp2_with fail
  refine (q_crash H7'.out.own a2.mask a2.torn a2.cut (by omega) bm2 cm2 bt2 ct2 bc2 cc2).mono ?_
  rintro e w8 ⟨rfl, H8⟩
  have ok8 := HOK6.out.crash a2.mask a2.torn a2.cut
  rw [fr_crash] at ok8
  have H8' := Lib.hid H8
  have HOK8 := Lib.hid ok8
  have hfr8 : (d6.crash a2.mask a2.torn a2.cut).free := ⟨rfl, rfl⟩
  have HFR8 := Lib.hid hfr8
  clear H8 ok8 hfr8 y1 y2 y3
  generalize d6.crash a2.mask a2.torn a2.cut = d8 at *
  go_wp2_with fail
  refine (q_limit H8'.out 0 (by omega) (by omega)).mono ?_
  rintro e w9 ⟨rfl, H9⟩
  have H9' := Lib.hid H9
  clear H9
  go_wp2_with fail
  refine (open_ok H9'.out (limited_fr HFR8.out 0) HFR8.out.2 HOK8.out).mono ?_
  rintro e w10 ⟨q3, b3, d10, h10, rfl, H10, hdk10, _, hwf10, hpg10, hrm10, hz10, hn10, _⟩
  have hpz10 := pages_of (d := d10) (h := h10) hrm10 hz10
  have H10' := Lib.hid H10
  have HWF10 := Lib.hid hwf10
  have HPG10 := Lib.hid hpg10
  have HPZ10 := Lib.hid hpz10
  have HN10 := Lib.hid (show 2 + h10.room + h10.pages ≤ d10.n by rw [hrm10, hpg10]; exact hn10)
  have HDK10 := Lib.hid hdk10
  clear H10 hdk10 hwf10 hpg10 hrm10 hz10 hn10 hpz10
  obtain ⟨g7, c7, hv7, _⟩ := HT7.out.open (w := w10) (fun y hy => by rw [List.mem_singleton] at hy; subst hy; exact H10'.out.mem List.mem_cons_self)
  rw [hv7] at HT7
  subst hv7
  have hne := texts_ne g7 13 c7
  rw [show ((List.range 13).map Z).length = 13 by simp]
  go_wp2_with fail
  refine (all_any H10'.out HWF10.out (by rw [HPG10.out]; omega) HDK10.out HN10.out).mono ?_
  rintro e w11 ⟨v11, x11, rfl, ht11, _, H11, _⟩
  rw [HPG10.out, HPZ10.out] at ht11
  have HT11 := Lib.hid ht11
  have H11' := Lib.hid H11
  clear ht11 H11
  go_wp2_with fail
  refine (textsB_any (R := [x11, x7]) (HT7.out.mono (by simp)) (HT11.out.mono (by simp)) rfl (by simp) w11 (fun y hy => H11'.out.mem hy)).mono ?_
  rintro e w12 ⟨rfl, hb12⟩
  have HB12 := Lib.hid ((HB0.out.on H11'.out.below).on hb12)
  clear hb12
  rw [decide_eq_true rfl]
  go_wp2_with fail
  refine (awake_any w12).mono ?_
  rintro e w13 ⟨rfl, hb13⟩
  have HB13 := Lib.hid (HB12.out.on hb13)
  clear hb13
  go_wp2
  go_returns
  exact ⟨rfl, HB13.out⟩

set_option maxRecDepth 100000 in
theorem lifted (os : Os) (started : os.Started) (H : Type) (enc : TypeId × Value → H) :
    ReturnsInHanded {} Try.checked os 4 .any (Rows.storeAgainSpec.pre6 enc Try.prog Try.f4 Rows.storeAgainRow.domain false) (Rows.storeAgainSpec.post enc Try.prog Try.f4 false true false false) := by
  refine law_lift (C := Try.checked) own started (by kernel_rfl) Try.func4 laidOut (by kernel_rfl) rfl Try.underlying4 rfl
    (fun ds h => match ds, h with | [_, _, _], _ => rfl)
    (ChangeSpec.witness6 (enc := enc) (C := Try.checked) false ⟨#[], #[.slice none 0 0, .agg (BlowV.cells ⟨0, 0, 0, 0⟩).toArray, .agg (BlowV.cells ⟨0, 0, 0, 0⟩).toArray], []⟩ 8 (by kernel_rfl) (by kernel_rfl) (by kernel_rfl) (by kernel_rfl)) ?_
  intro W base args ds ps hval hA hsz
  rw [Try.params4] at hA hval hsz
  obtain ⟨v0, vs0, d0, ds0, p0, q0, hargs, rfl, rfl, h0, r0⟩ := trodAll_cons hA
  obtain ⟨v1, vs1, d1, ds1, p1, q1, rfl, rfl, rfl, h1, r1⟩ := trodAll_cons r0
  obtain ⟨v2, vs2, d2, ds2, p2, q2, rfl, rfl, rfl, h2, r2⟩ := trodAll_cons r1
  obtain ⟨rfl, rfl, rfl⟩ := trodAll_nil r2
  obtain rfl : args = #[v0, v1, v2] := by cases args; simp_all
  obtain ⟨l0, hl0, hz0⟩ := pages_open (hval 0 22 v0 rfl rfl) h0
  have n0 : l0.length ≤ 1152921504606846976 := by
    rcases hz0 with rfl | ⟨el, rest, rfl, hel⟩
    · exact Nat.zero_le _
    · have this : (el.length + rest.length) * Try.prog.bytesOf 49 ≤ reachBytes := sized_slice hsz (j := 0) rfl rfl Try.underlying22
      have h24 : Try.prog.bytesOf 49 = 24 := by kernel_rfl
      rw [h24] at this
      simp only [reachBytes] at this
      omega
  obtain ⟨a1, rfl, w1⟩ := blow_open (hval 1 37 v1 rfl rfl) h1
  obtain ⟨a2, rfl, w2⟩ := blow_open (hval 2 37 v2 rfl rfl) h2
  exact walk W v0 l0 hl0 n0 a1 w1 a2 w2

theorem over : Rows.storeAgainRow.holds Try.pinned (OpenSpec.ofChange Rows.storeAgainSpec) :=
  OpenClaim.holds_of_wide 4 Try.f4 rfl rfl rfl rfl rfl rfl rfl ⟨rfl, rfl, rfl, rfl, rfl⟩ rfl rfl rfl rfl rfl (by kernel_rfl) Try.func4 (by kernel_rfl)
    (of_decide_eq_true (by kernel_rfl)) (by unfold Func.isWrapper; first | (rw [if_pos (by decide +kernel)]; kernel_rfl) | (rw [if_neg (by decide +kernel)]; exact ⟨rfl, rfl⟩))
    (fun os started H enc _ => lifted os started H enc)

theorem proved : Rows.StoreAgainSaid :=
  over
end Go.Proofs.Ytfcicpcpdklceaa.storeAgain
