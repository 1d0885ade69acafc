/- Contract of the reference's Check. -/
import Derived.Test.YtgedlfilhpbfaaaOpE
import Derived.Test.YtgedlfilhpbfaaaOpR
namespace Go.Proofs.Ytgedlfilhpbfaaa
set_option maxRecDepth 100000
open Go.ChangeShapes Go.WideShapes Go.ChangeAt Go.RowKit Go.PlainAid

theorem store_row_new (w : World) (c : Array Value) (hc : c.size = 4) (x0 x1 x2 x3 : Int) :
    (storeS 49 (.pointer (some ⟨w.heap.size, 0, none⟩)) (.agg #[.int .i64 x0, .int .i64 x1, .int .i64 x2, .int .i64 x3])).run Try.prog (w.alloc (.cells c 49)) = .ok () (w.alloc (.cells #[.int .i64 x0, .int .i64 x1, .int .i64 x2, .int .i64 x3] 49)) := by
  rw [store_row (heap_alloc_new w _) hc, setRow_alloc]
  rfl
theorem zero_is (n : Int) : (n == 0) = inB n 0 0 := by
  rw [Bool.eq_iff_iff, inB_iff, beq_iff_eq]
  omega
theorem arg_yes {n : Int} {b : Prop} [Decidable b] (h : b) : argB n (decide b) = inB n 0 1073741824 := by rw [decide_eq_true h]; rfl
theorem arg_no {n : Int} {b : Prop} [Decidable b] (h : ¬ b) : argB n (decide b) = inB n 0 0 := by rw [decide_eq_false h]; exact zero_is n
theorem rule_mem {k m : Int} {r : RowV} (h : ruleOf k m = some r) : r ∈ tab := List.mem_of_find?_eq_some h
theorem timedB_no {o : OpV} (h : o.done = false) : timedB o = (inB o.inv 0 1099511627776 && (o.ret == 0)) := by unfold timedB; rw [h]; rfl
theorem timedB_yes {o : OpV} (h : o.done = true) : timedB o = (inB o.inv 0 1099511627776 && (decide (o.inv < o.ret) && decide (o.ret ≤ 1099511627776))) := by unfold timedB; rw [h]; rfl
theorem beq_yes {n : Int} (h : n = 0) : (n == 0) = true := by rw [h]; rfl
theorem beq_no {n : Int} (h : ¬ n = 0) : (n == 0) = false := beq_eq_false_iff_ne.2 h
attribute [local go_sem ↓ high] store_w
set_option maxHeartbeats 4000000 in
theorem rcheck_any (o : OpV) (w : World) : Calls Try.prog 25 #[Value.agg #[Value.int .i64 o.id, Value.int .i64 o.proc, Value.int .i64 o.obj, Value.int .i64 o.kind, Value.int .i64 o.meth, Value.int .i64 o.arg, Value.int .i64 o.sec, Value.bool o.done, Value.int .i64 o.res, Value.int .i64 o.inv, Value.int .i64 o.ret]] w fun e w' => e = .returned (.int .i64 (checkZ o)) ∧ Below w.heap.size w w' := by
  have HB := Lib.hid (show Below w.heap.size w (w.alloc (.cells #[Value.int .i64 o.id, Value.int .i64 o.proc, Value.int .i64 o.obj, Value.int .i64 o.kind, Value.int .i64 o.meth, Value.int .i64 o.arg, Value.int .i64 o.sec, Value.bool o.done, Value.int .i64 o.res, Value.int .i64 o.inv, Value.int .i64 o.ret] 35)) by go_grown)
  obtain ⟨p1, h1⟩ : ∃ b, inB o.id 1 1073741824 = b := ⟨_, rfl⟩
  obtain ⟨p2, h2⟩ : ∃ b, inB o.proc 0 1023 = b := ⟨_, rfl⟩
  obtain ⟨p3, h3⟩ : ∃ b, inB o.obj 0 1023 = b := ⟨_, rfl⟩
  have hn := Lib.hid (show namedB o = (p1 && p2 && p3) by unfold namedB; rw [h1, h2, h3])
  have P1 := Lib.hid h1
  have P2 := Lib.hid h2
  have P3 := Lib.hid h3
  clear h1 h2 h3
  go_enter Try.func25, Try.ntmps25
  go_wp2_with fail
  refine (between_any _ _ _ _).mono ?_
  rintro _ _ ⟨rfl, rfl⟩
  rw [P1.out]
  cases p1
  · go_wp2_with fail
    go_returns
    exact ⟨by rw [check_30 hn.out]; rfl, HB.out⟩
  go_wp2_with fail
  refine (between_any _ _ _ _).mono ?_
  rintro _ _ ⟨rfl, rfl⟩
  rw [P2.out]
  cases p2
  · go_wp2_with fail
    go_returns
    exact ⟨by rw [check_30 hn.out]; rfl, HB.out⟩
  go_wp2_with fail
  refine (between_any _ _ _ _).mono ?_
  rintro _ _ ⟨rfl, rfl⟩
  rw [P3.out]
  cases p3
  · go_wp2_with fail
    go_returns
    exact ⟨by rw [check_30 hn.out]; rfl, HB.out⟩
  cases hr : ruleOf o.kind o.meth with
  | none =>
    have hz := Lib.hid (ruled_none hr)
    have HF := Lib.hid (show rfoundV (ruleOf o.kind o.meth) = .tuple #[.agg #[.int .i64 0, .int .i64 0, .int .i64 0, .int .i64 0], .bool false] by rw [hr]; rfl)
    clear hr
    go_wp2_with fail
    refine (rfind10_any o.kind o.meth _).mono ?_
    rintro _ w2 ⟨rfl, hb⟩
    rw [HF.out]
    have hs := store_row_new w2 #[.int .i64 0, .int .i64 0, .int .i64 0, .int .i64 0] rfl 0 0 0 0
    have HB2 := Lib.hid (HB.out.on hb)
    clear hb
    go_wp2_with fail
    go_returns
    exact ⟨by rw [check_33 hn.out hz.out]; rfl, HB2.out.alloc HB2.out.size _⟩
  | some r =>
    have hz := Lib.hid (ruled_some hr)
    have HF := Lib.hid (show rfoundV (ruleOf o.kind o.meth) = .tuple #[.agg #[.int .i64 r.kind, .int .i64 r.meth, .int .i64 r.needs, .int .i64 r.how], .bool true] by rw [hr]; rfl)
    have HA := Lib.hid (ans_row (rule_mem hr) o.res)
    clear hr
    go_wp2_with fail
    refine (rfind10_any o.kind o.meth _).mono ?_
    rintro _ w2 ⟨rfl, hb⟩
    rw [HF.out]
    have hs := store_row_new w2 #[.int .i64 0, .int .i64 0, .int .i64 0, .int .i64 0] rfl r.kind r.meth r.needs r.how
    have hq := heap_alloc_new w2 (.cells #[.int .i64 r.kind, .int .i64 r.meth, .int .i64 r.needs, .int .i64 r.how] 49)
    have hb3 := hb.alloc hb.size (.cells #[.int .i64 r.kind, .int .i64 r.meth, .int .i64 r.needs, .int .i64 r.how] 49)
    obtain ⟨W3, hW3⟩ : ∃ W3, w2.alloc (.cells #[.int .i64 r.kind, .int .i64 r.meth, .int .i64 r.needs, .int .i64 r.how] 49) = W3 := ⟨_, rfl⟩
    rw [hW3] at hs hq hb3
    have HB3 := Lib.hid (HB.out.on hb3)
    obtain ⟨_, _, _, _, _, k5, k6, k7, k8, k9, k10⟩ := ((OpAt.box w o).on hb3).cell
    have r2 : W3.cell? ⟨w2.heap.size, 2, none⟩ = some (.int .i64 r.needs) := by rw [cell_of_row _ _ _ _ _ _ hq]; rfl
    have r3 : W3.cell? ⟨w2.heap.size, 3, none⟩ = some (.int .i64 r.how) := by rw [cell_of_row _ _ _ _ _ _ hq]; rfl
    clear hb hq hb3 hW3
    by_cases c1 : 1 ≤ r.needs
    · have A1 := Lib.hid (arg_yes (n := o.arg) c1)
      by_cases c2 : 2 ≤ r.needs
      · have A2 := Lib.hid (arg_yes (n := o.sec) c2)
        obtain ⟨b1, h1⟩ : ∃ b, inB o.arg 0 1073741824 = b := ⟨_, rfl⟩
        obtain ⟨b2, h2⟩ : ∃ b, inB o.sec 0 1073741824 = b := ⟨_, rfl⟩
        have HM := Lib.hid (show fitB o r = (b1 && b2 && resB o r.low r.high) by unfold fitB; rw [A1.out, A2.out, h1, h2])
        have H1 := Lib.hid h1
        have H2 := Lib.hid h2
        clear h1 h2
        go_wp2_with fail
        refine (between_any _ _ _ _).mono ?_
        rintro _ _ ⟨rfl, rfl⟩
        rw [H1.out]
        cases b1
        · go_wp2_with fail
          go_returns
          exact ⟨by rw [check_33 hn.out (hz.out.trans HM.out)]; rfl, HB3.out⟩
        go_wp2_with fail
        refine (between_any _ _ _ _).mono ?_
        rintro _ _ ⟨rfl, rfl⟩
        rw [H2.out]
        cases b2
        · go_wp2_with fail
          go_returns
          exact ⟨by rw [check_33 hn.out (hz.out.trans HM.out)]; rfl, HB3.out⟩
        obtain ⟨t1, ht1⟩ : ∃ b, inB o.inv 0 1099511627776 = b := ⟨_, rfl⟩
        have T1 := Lib.hid ht1
        clear ht1
        cases hd : o.done
        · have HR := Lib.hid (resB_no hd r.low r.high)
          have HT := Lib.hid (timedB_no hd)
          rw [hd] at k7
          clear hd
          by_cases c0 : o.res = 0
          · have C0 := Lib.hid (beq_yes c0)
            have HU := Lib.hid (show ruledB o = true by rw [hz.out, HM.out, HR.out, C0.out]; rfl)
            rw [c0] at k8
            clear c0
            go_wp2_with fail
            refine (between_any _ _ _ _).mono ?_
            rintro _ _ ⟨rfl, rfl⟩
            rw [T1.out]
            cases t1
            · go_wp2_with fail
              go_returns
              exact ⟨by rw [check_31 hn.out HU.out (by rw [HT.out, T1.out]; rfl)]; rfl, HB3.out⟩
            · by_cases c1 : o.ret = 0
              · have C1 := Lib.hid (beq_yes c1)
                rw [c1] at k10
                clear c1
                go_wp2_with fail
                go_returns
                exact ⟨by rw [check_0 hn.out HU.out (by rw [HT.out, T1.out, C1.out]; rfl)]; rfl, HB3.out⟩
              · have C1 := Lib.hid (beq_no c1)
                have c1' : (o.ret == 0) = false := C1.out
                go_wp2_with fail
                go_returns
                exact ⟨by rw [check_31 hn.out HU.out (by rw [HT.out, T1.out, C1.out]; rfl)]; rfl, HB3.out⟩
          · have C0 := Lib.hid (beq_no c0)
            have c0' : (o.res == 0) = false := C0.out
            go_wp2_with fail
            go_returns
            exact ⟨by rw [check_33 hn.out (by rw [hz.out, HM.out, HR.out, C0.out]; rfl)]; rfl, HB3.out⟩
        · have HR := Lib.hid (resB_yes hd r.low r.high)
          have HT := Lib.hid (timedB_yes hd)
          rw [hd] at k7
          clear hd
          obtain ⟨b3, h3⟩ : ∃ b, inB o.res r.low r.high = b := ⟨_, rfl⟩
          have H3 := Lib.hid h3
          clear h3
          go_wp2_with fail
          refine (answer_any _ _ _).mono ?_
          rintro _ _ ⟨rfl, rfl⟩
          rw [HA.out, H3.out]
          cases b3
          · go_wp2_with fail
            go_returns
            exact ⟨by rw [check_33 hn.out (by rw [hz.out, HM.out, HR.out, H3.out]; rfl)]; rfl, HB3.out⟩
          have HU := Lib.hid (show ruledB o = true by rw [hz.out, HM.out, HR.out, H3.out]; rfl)
          go_wp2_with fail
          refine (between_any _ _ _ _).mono ?_
          rintro _ _ ⟨rfl, rfl⟩
          rw [T1.out]
          cases t1
          · go_wp2_with fail
            go_returns
            exact ⟨by rw [check_31 hn.out HU.out (by rw [HT.out, T1.out]; rfl)]; rfl, HB3.out⟩
          by_cases c1 : o.inv < o.ret
          · have C1 := Lib.hid (decide_eq_true c1)
            have c1' : ¬ o.ret ≤ o.inv := by omega
            by_cases c2 : o.ret ≤ 1099511627776
            · have C2 := Lib.hid (decide_eq_true c2)
              have c2' : ¬ 1099511627776 < o.ret := by omega
              go_wp2_with fail
              go_returns
              exact ⟨by rw [check_0 hn.out HU.out (by rw [HT.out, T1.out, C1.out, C2.out]; rfl)]; rfl, HB3.out⟩
            · have C2 := Lib.hid (decide_eq_false c2)
              have c2' : 1099511627776 < o.ret := by omega
              go_wp2_with fail
              go_returns
              exact ⟨by rw [check_31 hn.out HU.out (by rw [HT.out, T1.out, C1.out, C2.out]; rfl)]; rfl, HB3.out⟩
          · have C1 := Lib.hid (decide_eq_false c1)
            have c1' : o.ret ≤ o.inv := by omega
            go_wp2_with fail
            go_returns
            exact ⟨by rw [check_31 hn.out HU.out (by rw [HT.out, T1.out, C1.out]; rfl)]; rfl, HB3.out⟩
      · have A2 := Lib.hid (arg_no (n := o.sec) c2)
        obtain ⟨b1, h1⟩ : ∃ b, inB o.arg 0 1073741824 = b := ⟨_, rfl⟩
        obtain ⟨b2, h2⟩ : ∃ b, inB o.sec 0 0 = b := ⟨_, rfl⟩
        have HM := Lib.hid (show fitB o r = (b1 && b2 && resB o r.low r.high) by unfold fitB; rw [A1.out, A2.out, h1, h2])
        have H1 := Lib.hid h1
        have H2 := Lib.hid h2
        clear h1 h2
        go_wp2_with fail
        refine (between_any _ _ _ _).mono ?_
        rintro _ _ ⟨rfl, rfl⟩
        rw [H1.out]
        cases b1
        · go_wp2_with fail
          go_returns
          exact ⟨by rw [check_33 hn.out (hz.out.trans HM.out)]; rfl, HB3.out⟩
        go_wp2_with fail
        refine (between_any _ _ _ _).mono ?_
        rintro _ _ ⟨rfl, rfl⟩
        rw [H2.out]
        cases b2
        · go_wp2_with fail
          go_returns
          exact ⟨by rw [check_33 hn.out (hz.out.trans HM.out)]; rfl, HB3.out⟩
        obtain ⟨t1, ht1⟩ : ∃ b, inB o.inv 0 1099511627776 = b := ⟨_, rfl⟩
        have T1 := Lib.hid ht1
        clear ht1
        cases hd : o.done
        · have HR := Lib.hid (resB_no hd r.low r.high)
          have HT := Lib.hid (timedB_no hd)
          rw [hd] at k7
          clear hd
          by_cases c0 : o.res = 0
          · have C0 := Lib.hid (beq_yes c0)
            have HU := Lib.hid (show ruledB o = true by rw [hz.out, HM.out, HR.out, C0.out]; rfl)
            rw [c0] at k8
            clear c0
            go_wp2_with fail
            refine (between_any _ _ _ _).mono ?_
            rintro _ _ ⟨rfl, rfl⟩
            rw [T1.out]
            cases t1
            · go_wp2_with fail
              go_returns
              exact ⟨by rw [check_31 hn.out HU.out (by rw [HT.out, T1.out]; rfl)]; rfl, HB3.out⟩
            · by_cases c1 : o.ret = 0
              · have C1 := Lib.hid (beq_yes c1)
                rw [c1] at k10
                clear c1
                go_wp2_with fail
                go_returns
                exact ⟨by rw [check_0 hn.out HU.out (by rw [HT.out, T1.out, C1.out]; rfl)]; rfl, HB3.out⟩
              · have C1 := Lib.hid (beq_no c1)
                have c1' : (o.ret == 0) = false := C1.out
                go_wp2_with fail
                go_returns
                exact ⟨by rw [check_31 hn.out HU.out (by rw [HT.out, T1.out, C1.out]; rfl)]; rfl, HB3.out⟩
          · have C0 := Lib.hid (beq_no c0)
            have c0' : (o.res == 0) = false := C0.out
            go_wp2_with fail
            go_returns
            exact ⟨by rw [check_33 hn.out (by rw [hz.out, HM.out, HR.out, C0.out]; rfl)]; rfl, HB3.out⟩
        · have HR := Lib.hid (resB_yes hd r.low r.high)
          have HT := Lib.hid (timedB_yes hd)
          rw [hd] at k7
          clear hd
          obtain ⟨b3, h3⟩ : ∃ b, inB o.res r.low r.high = b := ⟨_, rfl⟩
          have H3 := Lib.hid h3
          clear h3
          go_wp2_with fail
          refine (answer_any _ _ _).mono ?_
          rintro _ _ ⟨rfl, rfl⟩
          rw [HA.out, H3.out]
          cases b3
          · go_wp2_with fail
            go_returns
            exact ⟨by rw [check_33 hn.out (by rw [hz.out, HM.out, HR.out, H3.out]; rfl)]; rfl, HB3.out⟩
          have HU := Lib.hid (show ruledB o = true by rw [hz.out, HM.out, HR.out, H3.out]; rfl)
          go_wp2_with fail
          refine (between_any _ _ _ _).mono ?_
          rintro _ _ ⟨rfl, rfl⟩
          rw [T1.out]
          cases t1
          · go_wp2_with fail
            go_returns
            exact ⟨by rw [check_31 hn.out HU.out (by rw [HT.out, T1.out]; rfl)]; rfl, HB3.out⟩
          by_cases c1 : o.inv < o.ret
          · have C1 := Lib.hid (decide_eq_true c1)
            have c1' : ¬ o.ret ≤ o.inv := by omega
            by_cases c2 : o.ret ≤ 1099511627776
            · have C2 := Lib.hid (decide_eq_true c2)
              have c2' : ¬ 1099511627776 < o.ret := by omega
              go_wp2_with fail
              go_returns
              exact ⟨by rw [check_0 hn.out HU.out (by rw [HT.out, T1.out, C1.out, C2.out]; rfl)]; rfl, HB3.out⟩
            · have C2 := Lib.hid (decide_eq_false c2)
              have c2' : 1099511627776 < o.ret := by omega
              go_wp2_with fail
              go_returns
              exact ⟨by rw [check_31 hn.out HU.out (by rw [HT.out, T1.out, C1.out, C2.out]; rfl)]; rfl, HB3.out⟩
          · have C1 := Lib.hid (decide_eq_false c1)
            have c1' : o.ret ≤ o.inv := by omega
            go_wp2_with fail
            go_returns
            exact ⟨by rw [check_31 hn.out HU.out (by rw [HT.out, T1.out, C1.out]; rfl)]; rfl, HB3.out⟩
    · have A1 := Lib.hid (arg_no (n := o.arg) c1)
      by_cases c2 : 2 ≤ r.needs
      · have A2 := Lib.hid (arg_yes (n := o.sec) c2)
        exact absurd (Int.le_trans (by decide) c2) c1
      · have A2 := Lib.hid (arg_no (n := o.sec) c2)
        obtain ⟨b1, h1⟩ : ∃ b, inB o.arg 0 0 = b := ⟨_, rfl⟩
        obtain ⟨b2, h2⟩ : ∃ b, inB o.sec 0 0 = b := ⟨_, rfl⟩
        have HM := Lib.hid (show fitB o r = (b1 && b2 && resB o r.low r.high) by unfold fitB; rw [A1.out, A2.out, h1, h2])
        have H1 := Lib.hid h1
        have H2 := Lib.hid h2
        clear h1 h2
        go_wp2_with fail
        refine (between_any _ _ _ _).mono ?_
        rintro _ _ ⟨rfl, rfl⟩
        rw [H1.out]
        cases b1
        · go_wp2_with fail
          go_returns
          exact ⟨by rw [check_33 hn.out (hz.out.trans HM.out)]; rfl, HB3.out⟩
        go_wp2_with fail
        refine (between_any _ _ _ _).mono ?_
        rintro _ _ ⟨rfl, rfl⟩
        rw [H2.out]
        cases b2
        · go_wp2_with fail
          go_returns
          exact ⟨by rw [check_33 hn.out (hz.out.trans HM.out)]; rfl, HB3.out⟩
        obtain ⟨t1, ht1⟩ : ∃ b, inB o.inv 0 1099511627776 = b := ⟨_, rfl⟩
        have T1 := Lib.hid ht1
        clear ht1
        cases hd : o.done
        · have HR := Lib.hid (resB_no hd r.low r.high)
          have HT := Lib.hid (timedB_no hd)
          rw [hd] at k7
          clear hd
          by_cases c0 : o.res = 0
          · have C0 := Lib.hid (beq_yes c0)
            have HU := Lib.hid (show ruledB o = true by rw [hz.out, HM.out, HR.out, C0.out]; rfl)
            rw [c0] at k8
            clear c0
            go_wp2_with fail
            refine (between_any _ _ _ _).mono ?_
            rintro _ _ ⟨rfl, rfl⟩
            rw [T1.out]
            cases t1
            · go_wp2_with fail
              go_returns
              exact ⟨by rw [check_31 hn.out HU.out (by rw [HT.out, T1.out]; rfl)]; rfl, HB3.out⟩
            · by_cases c1 : o.ret = 0
              · have C1 := Lib.hid (beq_yes c1)
                rw [c1] at k10
                clear c1
                go_wp2_with fail
                go_returns
                exact ⟨by rw [check_0 hn.out HU.out (by rw [HT.out, T1.out, C1.out]; rfl)]; rfl, HB3.out⟩
              · have C1 := Lib.hid (beq_no c1)
                have c1' : (o.ret == 0) = false := C1.out
                go_wp2_with fail
                go_returns
                exact ⟨by rw [check_31 hn.out HU.out (by rw [HT.out, T1.out, C1.out]; rfl)]; rfl, HB3.out⟩
          · have C0 := Lib.hid (beq_no c0)
            have c0' : (o.res == 0) = false := C0.out
            go_wp2_with fail
            go_returns
            exact ⟨by rw [check_33 hn.out (by rw [hz.out, HM.out, HR.out, C0.out]; rfl)]; rfl, HB3.out⟩
        · have HR := Lib.hid (resB_yes hd r.low r.high)
          have HT := Lib.hid (timedB_yes hd)
          rw [hd] at k7
          clear hd
          obtain ⟨b3, h3⟩ : ∃ b, inB o.res r.low r.high = b := ⟨_, rfl⟩
          have H3 := Lib.hid h3
          clear h3
          go_wp2_with fail
          refine (answer_any _ _ _).mono ?_
          rintro _ _ ⟨rfl, rfl⟩
          rw [HA.out, H3.out]
          cases b3
          · go_wp2_with fail
            go_returns
            exact ⟨by rw [check_33 hn.out (by rw [hz.out, HM.out, HR.out, H3.out]; rfl)]; rfl, HB3.out⟩
          have HU := Lib.hid (show ruledB o = true by rw [hz.out, HM.out, HR.out, H3.out]; rfl)
          go_wp2_with fail
          refine (between_any _ _ _ _).mono ?_
          rintro _ _ ⟨rfl, rfl⟩
          rw [T1.out]
          cases t1
          · go_wp2_with fail
            go_returns
            exact ⟨by rw [check_31 hn.out HU.out (by rw [HT.out, T1.out]; rfl)]; rfl, HB3.out⟩
          by_cases c1 : o.inv < o.ret
          · have C1 := Lib.hid (decide_eq_true c1)
            have c1' : ¬ o.ret ≤ o.inv := by omega
            by_cases c2 : o.ret ≤ 1099511627776
            · have C2 := Lib.hid (decide_eq_true c2)
              have c2' : ¬ 1099511627776 < o.ret := by omega
              go_wp2_with fail
              go_returns
              exact ⟨by rw [check_0 hn.out HU.out (by rw [HT.out, T1.out, C1.out, C2.out]; rfl)]; rfl, HB3.out⟩
            · have C2 := Lib.hid (decide_eq_false c2)
              have c2' : 1099511627776 < o.ret := by omega
              go_wp2_with fail
              go_returns
              exact ⟨by rw [check_31 hn.out HU.out (by rw [HT.out, T1.out, C1.out, C2.out]; rfl)]; rfl, HB3.out⟩
          · have C1 := Lib.hid (decide_eq_false c1)
            have c1' : o.ret ≤ o.inv := by omega
            go_wp2_with fail
            go_returns
            exact ⟨by rw [check_31 hn.out HU.out (by rw [HT.out, T1.out, C1.out]; rfl)]; rfl, HB3.out⟩
end Go.Proofs.Ytgedlfilhpbfaaa
