/- A transaction that is given up leaves every page of a store as it was, and within it every page is what was written last; and the chapter's example holds: for every two lists of pages. Conditions: none. -/
import Derived.Test.YtfcicpcpdklceaaSY
import Derived.Test.YtfcicpcpdklceaaSPages
import Derived.Test.YtfcicpcpdklceaaLaw
import Derived.BigQuiet
import Derived.Deep.QuietTactic
import Derived.Lib.QuietBelow
import Derived.Deep.DeepCutAuto
import Derived.Deep.CutBlock
namespace Go.Proofs.Ytfcicpcpdklceaa.storeBack
open Go.ChangeShapes Go.WideShapes Go.ChangeAt Go.RowKit Go.PlainAid
open Go.ChangeMaps (open_string)
open Go.Sort (grow)

theorem own : ownKnob Try.prog.godebug = none := by kernel_rfl
theorem laidOut : laidOutB Try.prog = true := by kernel_rfl
set_option maxRecDepth 100000
attribute [local go_sem ↓ high] app_text
set_option maxRecDepth 100000 in
set_option maxHeartbeats 4000000 in
theorem walk (w : World) (v0 : Value) (l0 : List PageV) (h0 : PagesIn w v0 l0) (n0 : l0.length ≤ 1152921504606846976) (v1 : Value) (l1 : List PageV) (h1 : PagesIn w v1 l1) (n1 : l1.length ≤ 1152921504606846976) :
    Calls Try.prog 6 #[v0, v1] w fun e w' => e = .returned (.bool true) ∧ Below w.heap.size w w' := by
  have hset := formatted_settled 40 30 (by omega) (by omega) (by omega)
  have hB := begun_any 40 30 w (by omega) (by omega) (by omega)
  have hroom : (firstHd 40 30).room = 30 := rfl
  have hpages : (firstHd 40 30).pages = 8 := by show min _ _ = _; omega
  have hseq : (firstHd 40 30).seq = 2 := rfl
  have hplain : Plain (firstHd 40 30) := ⟨by rw [hroom]; omega, by rw [hpages]; omega, by rw [hpages]; omega⟩
  generalize formatted (newD 40) 30 = d at *
  generalize firstHd 40 30 = h at *
  have hT : TxOk h (writesT h noPages (l0.take 30)) := writesT_ok _ (noPages_ok h)
  generalize hTT : writesT h noPages (l0.take 30) = T at *
  have HTT := Lib.hid hTT
  have HSet := Lib.hid hset
  have HB := Lib.hid hB
  have HP := Lib.hid hpages
  have HSQ := Lib.hid hseq
  have HPL := Lib.hid hplain
  have HT := Lib.hid hT
  have HPI0 := Lib.hid h0
  have HPI1 := Lib.hid h1
  clear hset hB hroom hpages hseq hplain hT h0 h1 hTT
  go_enter Try.func6, Try.ntmps6
  go_wp2_with fail
  refine HB.out.mono ?_
  rintro e w1 ⟨p, q, bm, rfl, H1⟩
  have H1' := Lib.hid H1
  clear H1
  go_wp2_with fail
  refine (writes_any H1'.out v0 l0 HPI0.out (by omega) (by omega)).mono ?_
  rintro e w2 ⟨rfl, H2⟩
  rw [HTT.out] at H2
  have H2' := Lib.hid H2
  clear H2
  go_wp2_with fail
  refine (commit_done H2'.out HSet.out HPL.out HT.out (by omega) (by rw [HSQ.out]; omega)).mono ?_
  rintro e w3 ⟨E, d1, h1, o1, rfl, S1, M1, H3, hdn, _⟩
  have hpg : h1.pages = 8 := by rw [M1.pages]; exact HP.out
  have P1 := M1.plain HPL.out
  have hwf := S1.wf P1 (by have := M1.seq; rw [HSQ.out] at this; omega)
  have hsq : h1.seq ≤ 4 := by have := M1.seq; rwa [HSQ.out] at this
  have HS1 := Lib.hid S1
  have HP1 := Lib.hid P1
  have HWF := Lib.hid hwf
  have HPG := Lib.hid hpg
  have H3' := Lib.hid H3
  have hT1 : TxOk h1 (writesT h1 noPages (l1.take 30)) := writesT_ok _ (noPages_ok h1)
  clear S1 P1 hwf hpg H3 hdn M1 HSet HPL HT HP HSQ H1' H2' HB
  go_wp2_with fail
  refine (all_any H3'.out HWF.out HP1.out.pages HS1.out.free.2 HS1.out.n).mono ?_
  rintro e w4 ⟨v4, x4, rfl, ht4, hx4, H4, _⟩
  rw [HPG.out] at ht4
  have H4' := Lib.hid H4
  have HT4 := Lib.hid ht4
  clear H4 ht4
  go_wp2_with fail
  refine (writes_any H4'.out v1 l1 HPI1.out (by omega) (by omega)).mono ?_
  rintro e w5 ⟨rfl, H5⟩
  have H5' := Lib.hid H5
  clear H5
  obtain ⟨g4, c4, hv4, hcs4⟩ := HT4.out.open (w := w5) (fun y hy => by rw [List.mem_singleton] at hy; subst hy; exact H5'.out.mem List.mem_cons_self)
  rw [pages_length] at hv4
  subst hv4
  have hg4 : g4 < w5.heap.size := World.block_lt_of_cell? w5 _ (hcs4 0 _ (List.getElem?_eq_getElem (by rw [pages_length]; omega)))
  obtain ⟨g2, cap2, cur0, w6, happ, hg2, hgb2, hcur2, hb6⟩ := append_texts (cap := c4) hcs4 hg4 (by rw [pages_length]; omega) (by rw [pages_length]; omega)
  rw [pages_length] at happ hcur2
  have hx4g : ∀ y ∈ [x4], y.1 ≠ g2 := fun y hy => by
    rw [List.mem_singleton] at hy; subst hy
    have := heap_lt (H5'.out.mem List.mem_cons_self)
    omega
  have hw0g : w.heap.size ≤ g2 := Nat.le_trans H5'.out.below.size hg2
  have H6' := Lib.hid (H5'.out.add hb6 hg2 hgb2)
  have HC0 := Lib.hid hcur2
  have HX4 := Lib.hid hx4g
  clear hcs4 hg4 hgb2 hcur2 hb6 hg2 H3' H4' H5' hx4g
  go_wp2_with fail
  have HT1 := Lib.hid hT1
  clear happ hT1
  generalize hTn : writesT h1 noPages (l1.take 30) = Tn at *
  have HTn := Lib.hid hTn
  clear hTn
  obtain ⟨a1, cp1, rfl⟩ : ∃ a cap, v1 = .slice a l1.length cap := by
    rcases HPI1.out with ⟨hl, ao, cap, hv⟩ | ⟨b, o, cap, hv, _⟩
    · exact ⟨ao, cap, by rw [hv, hl]; rfl⟩
    · exact ⟨_, _, hv⟩
  go_loopw [9] (fun i wr => ∃ (k : Nat) (cur : Array Value), k ≤ l1.length ∧ k ≤ 30 ∧ i = .int .i64 k ∧ cur.toList.take 8 = (pages d1 h1 (writesT h1 noPages (l1.take k)) 8).map Value.string ∧ StT w p q bm (0 + 30 + 30) d1 h1 Tn false ((g2, .cells cur 9 (0, 0)) :: [x4]) wr) (fun i _ => 30 - (intOf i).toNat)
  case atStart => exact ⟨0, cur0, Nat.zero_le _, by omega, rfl, HC0.out, H6'.out⟩
  case round =>
    clear HC0 H6'
    obtain ⟨k, cur, hk, hk2, rfl, hC, hH⟩ := hrel
    have HH := Lib.hid hH
    have HC := Lib.hid hC
    clear hH hC
    by_cases hlt : k < l1.length
    · by_cases h30 : k < 30
      · obtain ⟨x, hx⟩ : ∃ x, l1[k]? = some x := ⟨_, List.getElem?_eq_getElem hlt⟩
        rcases HPI1.out.on HH.out.below with ⟨rfl, _⟩ | ⟨b, o, cap', hvv, hbl, _, _, hr⟩
        · simp at hlt
        · cases hvv
          obtain ⟨hxw, hxr⟩ := hr k x hx
          have e0 := hxr 0 _ rfl
          have e1 := hxr 1 _ rfl
          rw [Nat.add_zero] at e0
          have hx2 : l1.take (k + 1) = l1.take k ++ [x] := by rw [List.take_add_one, hx]; rfl
          have HTk := Lib.hid hx2
          have hdl := hxw.data
          have hda := hxw.at_
          unfold maxLen at hdl
          have d1' : (0 : Int) ≤ (k : Int) := by omega
          have d2' : (k : Int) < (l1.length : Int) := by omega
          have hpgg := HPG.out
          clear hr hxr hx hxw hx2
          by_cases hok : x.at_ < 0 ∨ 8 ≤ x.at_ ∨ 256 < x.data.size
          · have hs := swriteT_same h1 (writesT h1 noPages (l1.take k)) x.at_ x.data (by omega)
            have HS := Lib.hid hs
            clear hs
            have hfin : ∃ (k' : Nat) (cur' : Array Value), k' ≤ l1.length ∧ k' ≤ 30 ∧ Value.int .i64 ((k : Int) + 1) = .int .i64 k' ∧ cur'.toList.take 8 = (pages d1 h1 (writesT h1 noPages (l1.take k')) 8).map Value.string ∧ StT w p q bm (0 + 30 + 30) d1 h1 Tn false ((g2, .cells cur' 9 (0, 0)) :: [x4]) wr :=
              ⟨k + 1, cur, by omega, by omega, by go_num, by rw [HTk.out, writesT_snoc, HS.out]; exact HC.out, HH.out⟩
            have HFN := Lib.hid hfin
            clear hfin hpgg
            rcases Int.lt_or_le x.at_ 0 with c | c
            · have t1 : decide ((0 : Int) ≤ x.at_) = false := by simp; omega
              clear hok
              go_wp2
              go_roundw
              case rel => exact HFN.out
              case measure => simp [intOf]; omega
            · have t1 : decide ((0 : Int) ≤ x.at_) = true := by simp; omega
              by_cases c8 : 8 ≤ x.at_
              · have t2 : decide (x.at_ < 8) = false := by simp; omega
                clear hok
                go_wp2
                go_roundw
                case rel => exact HFN.out
                case measure => simp [intOf]; omega
              · have t2 : decide (x.at_ < 8) = true := by simp; omega
                have t3 : decide ((x.data.size : Int) ≤ 256) = false := by simp; omega
                clear hok
                go_wp2
                go_roundw
                case rel => exact HFN.out
                case measure => simp [intOf]; omega
          · obtain ⟨j, hj⟩ : ∃ j : Nat, x.at_ = (j : Int) := ⟨x.at_.toNat, by omega⟩
            have hj8 : j < 8 := by omega
            have hds : x.data.size ≤ 256 := by omega
            have hps := pages_set d1 h1 (writesT h1 noPages (l1.take k)) j x.data 8 (by omega) hds
            rw [← hj] at hps
            have hcl : (cur.setIfInBounds j (.string (filled x.data))).toList.take 8 = (pages d1 h1 (writesT h1 noPages (l1.take (k + 1))) 8).map Value.string := by
              rw [HTk.out, writesT_snoc, hps, Array.toList_setIfInBounds, List.take_set, HC.out, List.map_set]
            have HCL := Lib.hid hcl
            rw [hj] at e0
            have hg2w := HH.out.mem (x := (g2, .cells cur 9 (0, 0))) List.mem_cons_self
            have hold : ∃ s, wr.cell? ⟨g2, j, none⟩ = some (.string s) := by
              have hget : (pages d1 h1 (writesT h1 noPages (l1.take k)) 8)[j]? = some ((pages d1 h1 (writesT h1 noPages (l1.take k)) 8)[j]'(by rw [pages_length]; omega)) := List.getElem?_eq_getElem _
              exact ⟨_, row_cell hg2w HC.out hj8 hget⟩
            obtain ⟨so, hso⟩ := hold
            have hfz : wr.frozen? ⟨g2, j, none⟩ = false := frozen_of_row _ _ _ _ _ hg2w
            have hgl := heap_lt' hg2w
            have CF := Lib.hid (fun w => filled_any x.data w hds)
            have t3 : decide ((x.data.size : Int) ≤ 256) = true := by simp; omega
            have t2 : decide ((j : Int) < 8) = true := by simp; omega
            have j0 : (0 : Int) ≤ (j : Int) := by omega
            have j8 : (j : Int) < 8 := by omega
            clear hok hpgg hda hdl hps hcl hg2w hj
            go_wp2_with fail
            go_region_law (first
              | (go_simp; (with_reducible refine (CF.out _).mono ?_); rintro e w7 ⟨rfl, hb7⟩; have hb7' : Below wr.heap.size wr w7 := (show Below wr.heap.size wr wr.drew by go_grown).on hb7; have y0 := (hb7'.cell (p := ⟨b, o + k * 2, none⟩) hbl).trans e0; have y1 := (hb7'.cell (p := ⟨b, o + k * 2 + 1, none⟩) hbl).trans e1; have y2 := (hb7'.cell (p := ⟨g2, j, none⟩) hgl).trans hso; have y3 := (hb7'.frozen (p := ⟨g2, j, none⟩) hgl).trans hfz; have HB7 := Lib.hid hb7'; clear hb7 hb7')
              | fail)
            all_goals
              have HN := Lib.hid ((HH.out.on HB7.out).setR hw0g HX4.out j (.string (filled x.data)))
              generalize w7.setCell ⟨g2, j, none⟩ (.string (filled x.data)) = W8 at *
              go_wp2
              go_roundw
              case rel => exact ⟨k + 1, _, by omega, by omega, by go_num, HCL.out, HN.out⟩
              case measure => simp [intOf]; omega
      · obtain rfl : k = 30 := by omega
        have HTE := Lib.hid HTn.out
        have HTX : Hid (TextsR (.slice (some ⟨g2, 0, none⟩) 8 cap2) [(g2, .cells cur 9 (0, 0))] (pages d1 h1 Tn 8)) := Lib.hid ⟨g2, cap2, cur, by rw [pages_length], List.mem_singleton.2 rfl, by rw [pages_length, HC.out, HTE.out]⟩
        clear HC HTE
        go_wp2_with fail
        refine (all_any HH.out HWF.out HP1.out.pages HS1.out.free.2 HS1.out.n).mono ?_
        rintro e w7 ⟨v7, x7, rfl, ht7, _, H7, _⟩
        rw [HPG.out] at ht7
        have H7' := Lib.hid H7
        have HT7 := Lib.hid ht7
        clear H7 ht7
        go_wp2_with fail
        refine (textsB_any (R := [x7, (g2, .cells cur 9 (0, 0)), x4]) (HT7.out.mono (by simp)) (HTX.out.mono (by simp)) (by simp only [pages_length]) (by simp only [pages_length]; omega) w7 (fun y hy => H7'.out.mem hy)).mono ?_
        rintro e w8 ⟨rfl, hb8⟩
        have H8' := Lib.hid (H7'.out.on hb8)
        clear hb8
        rw [decide_eq_true rfl]
        go_wp2_with fail
        refine (sback_any H8'.out).mono ?_
        rintro e w9 ⟨rfl, H9, _⟩
        have H9' := Lib.hid H9
        clear H9
        go_wp2_with fail
        refine (all_any H9'.out HWF.out HP1.out.pages HS1.out.free.2 HS1.out.n).mono ?_
        rintro e w10 ⟨v10, x10, rfl, ht10, _, H10, _⟩
        rw [HPG.out] at ht10
        have H10' := Lib.hid H10
        have HT10 := Lib.hid ht10
        clear H10 ht10
        go_wp2_with fail
        refine (textsB_any (R := [x10, x7, (g2, .cells cur 9 (0, 0)), x4]) (HT10.out.mono (by simp)) (HT4.out.mono (by simp)) (by simp only [pages_length]) (by simp only [pages_length]; omega) w10 (fun y hy => H10'.out.mem hy)).mono ?_
        rintro e w11 ⟨rfl, hb11⟩
        have H11' := Lib.hid (H10'.out.on hb11)
        clear hb11
        rw [decide_eq_true rfl]
        go_wp2_with fail
        refine (commit_done H11'.out HS1.out HP1.out (noPages_ok h1) (by omega) (by omega)).mono ?_
        rintro e w12 ⟨E2, d2, h2, o2, rfl, S2, M2, H12, _, hE2⟩
        rcases hE2 with ⟨rfl, hcont⟩ | ⟨_, _, _, hbad⟩
        rotate_left 1
        · exact absurd rfl hbad
        have hpe := pages_eq (h' := h2) M2.room (n := h1.pages) hcont
        have hpg2 : h2.pages = 8 := by rw [M2.pages]; exact HPG.out
        rw [HPG.out] at hpe
        have P2 := M2.plain HP1.out
        have hwf2 := S2.wf P2 (by have := M2.seq; omega)
        have HS2 := Lib.hid S2
        have HPE := Lib.hid hpe
        have HPG2 := Lib.hid hpg2
        have HP2 := Lib.hid P2
        have HWF2 := Lib.hid hwf2
        have H12' := Lib.hid H12
        clear S2 M2 H12 hpe hpg2 P2 hwf2 hcont
        go_wp2_with fail
        refine (all_any H12'.out HWF2.out HP2.out.pages HS2.out.free.2 HS2.out.n).mono ?_
        rintro e w13 ⟨v13, x13, rfl, ht13, _, H13, _⟩
        rw [HPG2.out, HPE.out] at ht13
        have H13' := Lib.hid H13
        have HT13 := Lib.hid ht13
        clear H13 ht13
        go_wp2_with fail
        refine (textsB_any (R := [x13, x10, x7, (g2, .cells cur 9 (0, 0)), x4]) (HT13.out.mono (by simp)) (HT4.out.mono (by simp)) (by simp only [pages_length]) (by simp only [pages_length]; omega) w13 (fun y hy => H13'.out.mem hy)).mono ?_
        rintro e w14 ⟨rfl, hb14⟩
        have HB14 := Lib.hid (H13'.out.below.on hb14)
        clear hb14
        rw [decide_eq_true rfl]
        go_wp2_with fail
        refine (awake_any w14).mono ?_
        rintro e w15 ⟨rfl, hb15⟩
        have HB15 := Lib.hid (HB14.out.on hb15)
        clear hb15
        go_wp2
        go_returns
        exact ⟨rfl, HB15.out⟩
    · obtain rfl : k = l1.length := by omega
      have hte : writesT h1 noPages (l1.take l1.length) = Tn := by rw [← HTn.out, List.take_of_length_le (by omega), List.take_of_length_le (by omega)]
      have HTE := Lib.hid hte
      clear hte
      have HTX : Hid (TextsR (.slice (some ⟨g2, 0, none⟩) 8 cap2) [(g2, .cells cur 9 (0, 0))] (pages d1 h1 Tn 8)) := Lib.hid ⟨g2, cap2, cur, by rw [pages_length], List.mem_singleton.2 rfl, by rw [pages_length, HC.out, HTE.out]⟩
      clear HC HTE
      go_wp2_with fail
      refine (all_any HH.out HWF.out HP1.out.pages HS1.out.free.2 HS1.out.n).mono ?_
      rintro e w7 ⟨v7, x7, rfl, ht7, _, H7, _⟩
      rw [HPG.out] at ht7
      have H7' := Lib.hid H7
      have HT7 := Lib.hid ht7
      clear H7 ht7
      go_wp2_with fail
      refine (textsB_any (R := [x7, (g2, .cells cur 9 (0, 0)), x4]) (HT7.out.mono (by simp)) (HTX.out.mono (by simp)) (by simp only [pages_length]) (by simp only [pages_length]; omega) w7 (fun y hy => H7'.out.mem hy)).mono ?_
      rintro e w8 ⟨rfl, hb8⟩
      have H8' := Lib.hid (H7'.out.on hb8)
      clear hb8
      rw [decide_eq_true rfl]
      go_wp2_with fail
      refine (sback_any H8'.out).mono ?_
      rintro e w9 ⟨rfl, H9, _⟩
      have H9' := Lib.hid H9
      clear H9
      go_wp2_with fail
      refine (all_any H9'.out HWF.out HP1.out.pages HS1.out.free.2 HS1.out.n).mono ?_
      rintro e w10 ⟨v10, x10, rfl, ht10, _, H10, _⟩
      rw [HPG.out] at ht10
      have H10' := Lib.hid H10
      have HT10 := Lib.hid ht10
      clear H10 ht10
      go_wp2_with fail
      refine (textsB_any (R := [x10, x7, (g2, .cells cur 9 (0, 0)), x4]) (HT10.out.mono (by simp)) (HT4.out.mono (by simp)) (by simp only [pages_length]) (by simp only [pages_length]; omega) w10 (fun y hy => H10'.out.mem hy)).mono ?_
      rintro e w11 ⟨rfl, hb11⟩
      have H11' := Lib.hid (H10'.out.on hb11)
      clear hb11
      rw [decide_eq_true rfl]
      go_wp2_with fail
      refine (commit_done H11'.out HS1.out HP1.out (noPages_ok h1) (by omega) (by omega)).mono ?_
      rintro e w12 ⟨E2, d2, h2, o2, rfl, S2, M2, H12, _, hE2⟩
      rcases hE2 with ⟨rfl, hcont⟩ | ⟨_, _, _, hbad⟩
      rotate_left 1
      · exact absurd rfl hbad
      have hpe := pages_eq (h' := h2) M2.room (n := h1.pages) hcont
      have hpg2 : h2.pages = 8 := by rw [M2.pages]; exact HPG.out
      rw [HPG.out] at hpe
      have P2 := M2.plain HP1.out
      have hwf2 := S2.wf P2 (by have := M2.seq; omega)
      have HS2 := Lib.hid S2
      have HPE := Lib.hid hpe
      have HPG2 := Lib.hid hpg2
      have HP2 := Lib.hid P2
      have HWF2 := Lib.hid hwf2
      have H12' := Lib.hid H12
      clear S2 M2 H12 hpe hpg2 P2 hwf2 hcont
      go_wp2_with fail
      refine (all_any H12'.out HWF2.out HP2.out.pages HS2.out.free.2 HS2.out.n).mono ?_
      rintro e w13 ⟨v13, x13, rfl, ht13, _, H13, _⟩
      rw [HPG2.out, HPE.out] at ht13
      have H13' := Lib.hid H13
      have HT13 := Lib.hid ht13
      clear H13 ht13
      go_wp2_with fail
      refine (textsB_any (R := [x13, x10, x7, (g2, .cells cur 9 (0, 0)), x4]) (HT13.out.mono (by simp)) (HT4.out.mono (by simp)) (by simp only [pages_length]) (by simp only [pages_length]; omega) w13 (fun y hy => H13'.out.mem hy)).mono ?_
      rintro e w14 ⟨rfl, hb14⟩
      have HB14 := Lib.hid (H13'.out.below.on hb14)
      clear hb14
      rw [decide_eq_true rfl]
      go_wp2_with fail
      refine (awake_any w14).mono ?_
      rintro e w15 ⟨rfl, hb15⟩
      have HB15 := Lib.hid (HB14.out.on hb15)
      clear hb15
      go_wp2
      go_returns
      exact ⟨rfl, HB15.out⟩

set_option maxRecDepth 100000 in
theorem lifted (os : Os) (started : os.Started) (H : Type) (enc : TypeId × Value → H) :
    ReturnsInHanded {} Try.checked os 6 .any (Rows.storeBackSpec.pre6 enc Try.prog Try.f6 Rows.storeBackRow.domain false) (Rows.storeBackSpec.post enc Try.prog Try.f6 false true false false) := by
  refine law_lift (C := Try.checked) own started (by kernel_rfl) Try.func6 laidOut (by kernel_rfl) rfl Try.underlying4 rfl
    (fun ds h => match ds, h with | [_, _], _ => rfl)
    (ChangeSpec.witness6 (enc := enc) (C := Try.checked) false ⟨#[], #[.slice none 0 0, .slice none 0 0], []⟩ 8 (by kernel_rfl) (by kernel_rfl) (by kernel_rfl) (by kernel_rfl)) ?_
  intro W base args ds ps hval hA hsz
  rw [Try.params6] at hA hval hsz
  obtain ⟨v0, vs0, d0, ds0, p0, q0, hargs, rfl, rfl, h0, r0⟩ := trodAll_cons hA
  obtain ⟨v1, vs1, d1, ds1, p1, q1, rfl, rfl, rfl, h1, r1⟩ := trodAll_cons r0
  obtain ⟨rfl, rfl, rfl⟩ := trodAll_nil r1
  obtain rfl : args = #[v0, v1] := by cases args; simp_all
  obtain ⟨l0, hl0, hz0⟩ := pages_open (hval 0 22 v0 rfl rfl) h0
  have n0 : l0.length ≤ 1152921504606846976 := by
    rcases hz0 with rfl | ⟨el, rest, rfl, hel⟩
    · exact Nat.zero_le _
    · have this : (el.length + rest.length) * Try.prog.bytesOf 49 ≤ reachBytes := sized_slice hsz (j := 0) rfl rfl Try.underlying22
      have h24 : Try.prog.bytesOf 49 = 24 := by kernel_rfl
      rw [h24] at this
      simp only [reachBytes] at this
      omega
  obtain ⟨l1, hl1, hz1⟩ := pages_open (hval 1 22 v1 rfl rfl) h1
  have n1 : l1.length ≤ 1152921504606846976 := by
    rcases hz1 with rfl | ⟨el, rest, rfl, hel⟩
    · exact Nat.zero_le _
    · have this : (el.length + rest.length) * Try.prog.bytesOf 49 ≤ reachBytes := sized_slice hsz (j := 1) rfl rfl Try.underlying22
      have h24 : Try.prog.bytesOf 49 = 24 := by kernel_rfl
      rw [h24] at this
      simp only [reachBytes] at this
      omega
  exact walk W v0 l0 hl0 n0 v1 l1 hl1 n1

theorem over : Rows.storeBackRow.holds Try.pinned (OpenSpec.ofChange Rows.storeBackSpec) :=
  OpenClaim.holds_of_wide 6 Try.f6 rfl rfl rfl rfl rfl rfl rfl ⟨rfl, rfl, rfl, rfl, rfl⟩ rfl rfl rfl rfl rfl (by kernel_rfl) Try.func6 (by kernel_rfl)
    (of_decide_eq_true (by kernel_rfl)) (by unfold Func.isWrapper; first | (rw [if_pos (by decide +kernel)]; kernel_rfl) | (rw [if_neg (by decide +kernel)]; exact ⟨rfl, rfl⟩))
    (fun os started H enc _ => lifted os started H enc)

theorem proved : Rows.StoreBackSaid :=
  over
end Go.Proofs.Ytfcicpcpdklceaa.storeBack
