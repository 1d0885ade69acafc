/- Package model: contracts of queues and stacks. Package model: contracts of do, step, Do, Step. Package model: contracts of Runs, First; lists of operations in memory. -/
import Derived.Test.YtppjmmdiglnkfaaQak
import Derived.Test.YtppjmmdiglnkfaaQal
import Derived.Deep.RegionWith
namespace Go.Proofs.Ytppjmmdiglnkfaa
set_option maxRecDepth 100000
open Go.ChangeShapes Go.WideShapes Go.ChangeAt Go.RowKit Go.PlainAid Go.Deep

attribute [local go_sem ↓ high] app_intI
set_option maxHeartbeats 2000000 in
theorem queue_any (o : OpV) (ho : o.Wf) {n₀ : Nat} {v : Value} {L : List Int} {w : World} (h : OwnI n₀ w v L) (hn : n₀ ≤ w.heap.size) (hl : L.length ≤ 17592186044414) : Calls Try.prog 115 #[v, Value.agg #[Value.int .i64 o.id, Value.int .i64 o.proc, Value.int .i64 o.obj, Value.int .i64 o.kind, Value.int .i64 o.meth, Value.int .i64 o.arg, Value.int .i64 o.sec, Value.bool o.done, Value.int .i64 o.res, Value.int .i64 o.inv, Value.int .i64 o.ret]] w (AnsC n₀ v w (queC o L)) := by
  have HB : Below w.heap.size w (w.alloc (.cells #[Value.int .i64 o.id, Value.int .i64 o.proc, Value.int .i64 o.obj, Value.int .i64 o.kind, Value.int .i64 o.meth, Value.int .i64 o.arg, Value.int .i64 o.sec, Value.bool o.done, Value.int .i64 o.res, Value.int .i64 o.inv, Value.int .i64 o.ret] 43)) := by go_grown
  have hop := (OpAt.box w o).cell
  have h1 := h.on HB
  obtain ⟨W1, hW1⟩ : ∃ W1, w.alloc (.cells #[Value.int .i64 o.id, Value.int .i64 o.proc, Value.int .i64 o.obj, Value.int .i64 o.kind, Value.int .i64 o.meth, Value.int .i64 o.arg, Value.int .i64 o.sec, Value.bool o.done, Value.int .i64 o.res, Value.int .i64 o.inv, Value.int .i64 o.ret] 43) = W1 := ⟨_, rfl⟩
  rw [hW1] at hop HB h1
  have hn1 : n₀ ≤ W1.heap.size := Nat.le_trans hn HB.size
  have HO := Lib.hid h1
  have HM := Lib.hid (Mine.of (v := v) HB)
  have HN := Lib.hid (And.intro hn1 ho)
  obtain ⟨_, k1, _, _, k4, k5, k6, _⟩ := hop
  clear HB h hn hn1 ho
  by_cases m6 : o.meth = 6
  · rw [m6] at k4
    have HA := Lib.hid (show queC o L = (L ++ [o.arg], 0, true) by simp [queC, m6])
    obtain ⟨v2, W2, hr, ho2, hm2⟩ := own_push h1 HN.out.1 hl o.arg HN.out.2.arg
    have HO2 := Lib.hid ho2
    have HM2 := Lib.hid (HM.out.trans hm2)
    clear m6 h1 ho2 hm2
    go_enter Try.func115, Try.ntmps115
    go_wp2
    go_returns
    exact AnsC.eq HA.out HO2.out HM2.out
  · have q6 : (o.meth == 6) = false := beq_eq_false_iff_ne.2 m6
    have HL := Lib.hid hl
    clear hl
    by_cases m7 : o.meth = 7
    · rw [m7] at k4
      cases L with
      | nil =>
        have HA := Lib.hid (show queC o [] = ([], -1, true) by simp [queC, m7])
        obtain ⟨ao, cap, rfl⟩ := h1.len
        clear m7 h1
        go_enter Try.func115, Try.ntmps115
        go_wp2
        go_returns
        exact AnsC.eq HA.out (OwnI.nil _ _ none) HM.out
      | cons x r =>
        have HA := Lib.hid (show queC o (x :: r) = (r, x, true) by simp [queC, m7])
        obtain ⟨g, p, cap, rfl, hcap, hx, ht, ht1⟩ := h1.tail
        have hlen : ((r.length + 1 : Nat) : Int) ≠ 0 := by omega
        have HT := Lib.hid (And.intro ht ht1)
        have qe : (((r.length : Int) + 1) == 0) = false := beq_eq_false_iff_ne.2 (by omega)
        clear m7 h1 ht ht1 hlen
        go_enter Try.func115, Try.ntmps115
        go_wp2
        go_region
        all_goals go_wp2
        · go_returns
          have hh := ‹cap = 1›
          subst hh
          exact AnsC.eq HA.out (HT.out.2 rfl).drew HM.out.drew
        · go_returns
          exact AnsC.eq HA.out HT.out.1.drew HM.out.drew
    · have q7 : (o.meth == 7) = false := beq_eq_false_iff_ne.2 m7
      have HA := Lib.hid (show queC o L = ([], 0, false) by simp [queC, noA, m6, m7])
      clear m6 m7
      go_enter Try.func115, Try.ntmps115
      go_wp2
      go_returns
      exact AnsC.eq HA.out (OwnI.nil _ _ none) HM.out
set_option maxHeartbeats 2000000 in
theorem stack_any (o : OpV) (ho : o.Wf) {n₀ : Nat} {v : Value} {L : List Int} {w : World} (h : OwnI n₀ w v L) (hn : n₀ ≤ w.heap.size) (hl : L.length ≤ 17592186044414) : Calls Try.prog 116 #[v, Value.agg #[Value.int .i64 o.id, Value.int .i64 o.proc, Value.int .i64 o.obj, Value.int .i64 o.kind, Value.int .i64 o.meth, Value.int .i64 o.arg, Value.int .i64 o.sec, Value.bool o.done, Value.int .i64 o.res, Value.int .i64 o.inv, Value.int .i64 o.ret]] w (AnsC n₀ v w (stkC o L)) := by
  have HB : Below w.heap.size w (w.alloc (.cells #[Value.int .i64 o.id, Value.int .i64 o.proc, Value.int .i64 o.obj, Value.int .i64 o.kind, Value.int .i64 o.meth, Value.int .i64 o.arg, Value.int .i64 o.sec, Value.bool o.done, Value.int .i64 o.res, Value.int .i64 o.inv, Value.int .i64 o.ret] 43)) := by go_grown
  have hop := (OpAt.box w o).cell
  have h1 := h.on HB
  obtain ⟨W1, hW1⟩ : ∃ W1, w.alloc (.cells #[Value.int .i64 o.id, Value.int .i64 o.proc, Value.int .i64 o.obj, Value.int .i64 o.kind, Value.int .i64 o.meth, Value.int .i64 o.arg, Value.int .i64 o.sec, Value.bool o.done, Value.int .i64 o.res, Value.int .i64 o.inv, Value.int .i64 o.ret] 43) = W1 := ⟨_, rfl⟩
  rw [hW1] at hop HB h1
  have hn1 : n₀ ≤ W1.heap.size := Nat.le_trans hn HB.size
  have HO := Lib.hid h1
  have HM := Lib.hid (Mine.of (v := v) HB)
  have HN := Lib.hid (And.intro hn1 ho)
  obtain ⟨_, k1, _, _, k4, k5, k6, _⟩ := hop
  clear HB h hn hn1 ho
  by_cases m8 : o.meth = 8
  · rw [m8] at k4
    have HA := Lib.hid (show stkC o L = (L ++ [o.arg], 0, true) by simp [stkC, m8])
    obtain ⟨v2, W2, hr, ho2, hm2⟩ := own_push h1 HN.out.1 hl o.arg HN.out.2.arg
    have HO2 := Lib.hid ho2
    have HM2 := Lib.hid (HM.out.trans hm2)
    clear m8 h1 ho2 hm2
    go_enter Try.func116, Try.ntmps116
    go_wp2
    go_returns
    exact AnsC.eq HA.out HO2.out HM2.out
  · have q8 : (o.meth == 8) = false := beq_eq_false_iff_ne.2 m8
    have HL := Lib.hid hl
    clear hl
    by_cases m9 : o.meth = 9
    · rw [m9] at k4
      rcases List.eq_nil_or_concat L with rfl | ⟨r, x, rfl⟩
      · have HA := Lib.hid (show stkC o [] = ([], -1, true) by simp [stkC, m9])
        obtain ⟨ao, cap, rfl⟩ := h1.len
        clear m9 h1
        go_enter Try.func116, Try.ntmps116
        go_wp2
        go_returns
        exact AnsC.eq HA.out (OwnI.nil _ _ none) HM.out
      · rw [List.concat_eq_append] at *
        have HA := Lib.hid (show stkC o (r ++ [x]) = (r, x, true) by simp [stkC, m9])
        obtain ⟨g, p, cap, rfl, hcap, hx, ht⟩ := h1.front
        have HT := Lib.hid ht
        have hw : wrap64 (r.length : Int) = (r.length : Int) := by unfold wrap64; have hb := HL.out; simp at hb; omega
        have qe : (((r.length : Int) + 1) == 0) = false := beq_eq_false_iff_ne.2 (by omega)
        clear m9 h1 ht
        go_enter Try.func116, Try.ntmps116
        go_wp2
        go_region
        go_wp2
        go_returns
        exact AnsC.eq HA.out HT.out.drew HM.out.drew
    · have q9 : (o.meth == 9) = false := beq_eq_false_iff_ne.2 m9
      have HA := Lib.hid (show stkC o L = ([], 0, false) by simp [stkC, noA, m8, m9])
      clear m8 m9
      go_enter Try.func116, Try.ntmps116
      go_wp2
      go_returns
      exact AnsC.eq HA.out (OwnI.nil _ _ none) HM.out
end Go.Proofs.Ytppjmmdiglnkfaa
namespace Go.Proofs.Ytppjmmdiglnkfaa
set_option maxRecDepth 100000
open Go.ChangeShapes Go.WideShapes Go.ChangeAt Go.RowKit Go.PlainAid Go.Deep

theorem load_cells {w : World} {b p : Nat} {o : OpV} (h : ∀ (j : Nat) (u : Value), (#[Value.int .i64 o.id, Value.int .i64 o.proc, Value.int .i64 o.obj, Value.int .i64 o.kind, Value.int .i64 o.meth, Value.int .i64 o.arg, Value.int .i64 o.sec, Value.bool o.done, Value.int .i64 o.res, Value.int .i64 o.inv, Value.int .i64 o.ret].toList)[j]? = some u → w.cell? ⟨b, p + j, none⟩ = some u) : (loadS 43 (.pointer (some ⟨b, p, none⟩))).run Try.prog w = .ok (Value.agg #[Value.int .i64 o.id, Value.int .i64 o.proc, Value.int .i64 o.obj, Value.int .i64 o.kind, Value.int .i64 o.meth, Value.int .i64 o.arg, Value.int .i64 o.sec, Value.bool o.done, Value.int .i64 o.res, Value.int .i64 o.inv, Value.int .i64 o.ret]) w :=
  loadMany_range (P := Try.prog) (t := 43) #[Value.int .i64 o.id, Value.int .i64 o.proc, Value.int .i64 o.obj, Value.int .i64 o.kind, Value.int .i64 o.meth, Value.int .i64 o.arg, Value.int .i64 o.sec, Value.bool o.done, Value.int .i64 o.res, Value.int .i64 o.inv, Value.int .i64 o.ret].toList _ h Try.underlying43 (by kernel_rfl) (by kernel_rfl)
attribute [local go_sem ↓ high] load_op
noncomputable def doC (o : OpV) (L : List Int) : Ans := if o.kind = 1 then regC o L else if o.kind = 2 then ctrC o L else if o.kind = 3 then queC o L else if o.kind = 4 then stkC o L else if o.kind = 5 then setC o L else if o.kind = 6 then mtxC o L else noA
set_option maxHeartbeats 4000000 in
theorem do_any (o : OpV) (ho : o.Wf) {n₀ : Nat} {v : Value} {L : List Int} {w : World} (h : OwnI n₀ w v L) (hn : n₀ ≤ w.heap.size) (hl : L.length ≤ 17592186044414) : Calls Try.prog 94 #[v, Value.agg #[Value.int .i64 o.id, Value.int .i64 o.proc, Value.int .i64 o.obj, Value.int .i64 o.kind, Value.int .i64 o.meth, Value.int .i64 o.arg, Value.int .i64 o.sec, Value.bool o.done, Value.int .i64 o.res, Value.int .i64 o.inv, Value.int .i64 o.ret]] w (AnsC n₀ v w (doC o L)) := by
  have HB : Below w.heap.size w (w.alloc (.cells #[Value.int .i64 o.id, Value.int .i64 o.proc, Value.int .i64 o.obj, Value.int .i64 o.kind, Value.int .i64 o.meth, Value.int .i64 o.arg, Value.int .i64 o.sec, Value.bool o.done, Value.int .i64 o.res, Value.int .i64 o.inv, Value.int .i64 o.ret] 43)) := by go_grown
  have hop := OpAt.box w o
  have h1 := h.on HB
  obtain ⟨W1, hW1⟩ : ∃ W1, w.alloc (.cells #[Value.int .i64 o.id, Value.int .i64 o.proc, Value.int .i64 o.obj, Value.int .i64 o.kind, Value.int .i64 o.meth, Value.int .i64 o.arg, Value.int .i64 o.sec, Value.bool o.done, Value.int .i64 o.res, Value.int .i64 o.inv, Value.int .i64 o.ret] 43) = W1 := ⟨_, rfl⟩
  rw [hW1] at hop HB h1
  have hn1 : n₀ ≤ W1.heap.size := Nat.le_trans hn HB.size
  have HO := Lib.hid h1
  have HM := Lib.hid (Mine.of (v := v) HB)
  have HN := Lib.hid (And.intro hn1 ho)
  have HP := Lib.hid hop
  have HL := Lib.hid hl
  have l1 := hop.load
  obtain ⟨_, _, _, k3, _⟩ := hop.cell
  clear HB h hn hn1 ho h1 hop hl
  by_cases c1 : o.kind = 1
  · rw [c1] at k3
    have HA := Lib.hid (show doC o L = regC o L by simp only [doC, if_pos c1])
    clear c1
    go_enter Try.func94, Try.ntmps94
    go_wp2_with fail
    refine (register_any o HN.out.2 HO.out HN.out.1).mono ?_
    rintro _ w2 ⟨v2, rfl, ho2, hm2⟩
    have HO2 := Lib.hid ho2
    have HM2 := Lib.hid (HM.out.trans hm2)
    clear ho2 hm2 l1 k3
    go_wp2_with fail
    go_returns
    exact AnsC.eq HA.out HO2.out HM2.out
  · have q1 : (o.kind == 1) = false := beq_eq_false_iff_ne.2 c1
    by_cases c2 : o.kind = 2
    · rw [c2] at k3
      have HA := Lib.hid (show doC o L = ctrC o L by simp only [doC, if_neg c1, if_pos c2])
      clear c1 c2
      go_enter Try.func94, Try.ntmps94
      go_wp2_with fail
      refine (counter_any o HN.out.2 HO.out HN.out.1).mono ?_
      rintro _ w2 ⟨v2, rfl, ho2, hm2⟩
      have HO2 := Lib.hid ho2
      have HM2 := Lib.hid (HM.out.trans hm2)
      clear ho2 hm2 l1 k3
      go_wp2_with fail
      go_returns
      exact AnsC.eq HA.out HO2.out HM2.out
    · have q2 : (o.kind == 2) = false := beq_eq_false_iff_ne.2 c2
      by_cases c3 : o.kind = 3
      · rw [c3] at k3
        have HA := Lib.hid (show doC o L = queC o L by simp only [doC, if_neg c1, if_neg c2, if_pos c3])
        clear c1 c2 c3
        go_enter Try.func94, Try.ntmps94
        go_wp2_with fail
        refine (queue_any o HN.out.2 HO.out HN.out.1 HL.out).mono ?_
        rintro _ w2 ⟨v2, rfl, ho2, hm2⟩
        have HO2 := Lib.hid ho2
        have HM2 := Lib.hid (HM.out.trans hm2)
        clear ho2 hm2 l1 k3
        go_wp2_with fail
        go_returns
        exact AnsC.eq HA.out HO2.out HM2.out
      · have q3 : (o.kind == 3) = false := beq_eq_false_iff_ne.2 c3
        by_cases c4 : o.kind = 4
        · rw [c4] at k3
          have HA := Lib.hid (show doC o L = stkC o L by simp only [doC, if_neg c1, if_neg c2, if_neg c3, if_pos c4])
          clear c1 c2 c3 c4
          go_enter Try.func94, Try.ntmps94
          go_wp2_with fail
          refine (stack_any o HN.out.2 HO.out HN.out.1 HL.out).mono ?_
          rintro _ w2 ⟨v2, rfl, ho2, hm2⟩
          have HO2 := Lib.hid ho2
          have HM2 := Lib.hid (HM.out.trans hm2)
          clear ho2 hm2 l1 k3
          go_wp2_with fail
          go_returns
          exact AnsC.eq HA.out HO2.out HM2.out
        · have q4 : (o.kind == 4) = false := beq_eq_false_iff_ne.2 c4
          by_cases c5 : o.kind = 5
          · rw [c5] at k3
            have HA := Lib.hid (show doC o L = setC o L by simp only [doC, if_neg c1, if_neg c2, if_neg c3, if_neg c4, if_pos c5])
            clear c1 c2 c3 c4 c5
            go_enter Try.func94, Try.ntmps94
            go_wp2_with fail
            refine (set_any o HN.out.2 HO.out HN.out.1 HL.out).mono ?_
            rintro _ w2 ⟨v2, rfl, ho2, hm2⟩
            have HO2 := Lib.hid ho2
            have HM2 := Lib.hid (HM.out.trans hm2)
            clear ho2 hm2 l1 k3
            go_wp2_with fail
            go_returns
            exact AnsC.eq HA.out HO2.out HM2.out
          · have q5 : (o.kind == 5) = false := beq_eq_false_iff_ne.2 c5
            by_cases c6 : o.kind = 6
            · rw [c6] at k3
              have HA := Lib.hid (show doC o L = mtxC o L by simp only [doC, if_neg c1, if_neg c2, if_neg c3, if_neg c4, if_neg c5, if_pos c6])
              clear c1 c2 c3 c4 c5 c6
              go_enter Try.func94, Try.ntmps94
              go_wp2_with fail
              refine (mutex_any o HN.out.2 HO.out HN.out.1).mono ?_
              rintro _ w2 ⟨v2, rfl, ho2, hm2⟩
              have HO2 := Lib.hid ho2
              have HM2 := Lib.hid (HM.out.trans hm2)
              clear ho2 hm2 l1 k3
              go_wp2_with fail
              go_returns
              exact AnsC.eq HA.out HO2.out HM2.out
            · have q6 : (o.kind == 6) = false := beq_eq_false_iff_ne.2 c6
              have HA := Lib.hid (show doC o L = ([], 0, false) by simp only [doC, if_neg c1, if_neg c2, if_neg c3, if_neg c4, if_neg c5, if_neg c6]; rfl)
              clear c1 c2 c3 c4 c5 c6
              go_enter Try.func94, Try.ntmps94
              go_wp2_with fail
              go_returns
              exact AnsC.eq HA.out (OwnI.nil _ _ none) HM.out
/-- What a step leaves: the state, and whether it could be done so. -/
noncomputable def stepC (o : OpV) (L : List Int) : List Int × Bool := if (doC o L).2.2 = true ∧ (o.done = true → (doC o L).2.1 = o.res) then ((doC o L).1, true) else ([], false)
def StepC (n₀ : Nat) (v : Value) (w : World) (A : List Int × Bool) (e : Ending) (w' : World) : Prop := ∃ v', e = .returned (.tuple #[v', .bool A.2]) ∧ OwnI n₀ w' v' A.1 ∧ Mine v w w'
theorem StepC.eq {n₀ : Nat} {v : Value} {w w' : World} {A : List Int × Bool} {L : List Int} {b : Bool} (hA : A = (L, b)) {v' : Value} (ho : OwnI n₀ w' v' L) (hm : Mine v w w') : StepC n₀ v w A (.returned (.tuple #[v', .bool b])) w' := by
  subst hA
  exact ⟨v', rfl, ho, hm⟩
set_option maxHeartbeats 4000000 in
theorem step_any (o : OpV) (ho : o.Wf) {n₀ : Nat} {v : Value} {L : List Int} {w : World} (h : OwnI n₀ w v L) (hn : n₀ ≤ w.heap.size) (hl : L.length ≤ 17592186044414) : Calls Try.prog 79 #[v, Value.agg #[Value.int .i64 o.id, Value.int .i64 o.proc, Value.int .i64 o.obj, Value.int .i64 o.kind, Value.int .i64 o.meth, Value.int .i64 o.arg, Value.int .i64 o.sec, Value.bool o.done, Value.int .i64 o.res, Value.int .i64 o.inv, Value.int .i64 o.ret]] w (StepC n₀ v w (stepC o L)) := by
  have HB : Below w.heap.size w (w.alloc (.cells #[Value.int .i64 o.id, Value.int .i64 o.proc, Value.int .i64 o.obj, Value.int .i64 o.kind, Value.int .i64 o.meth, Value.int .i64 o.arg, Value.int .i64 o.sec, Value.bool o.done, Value.int .i64 o.res, Value.int .i64 o.inv, Value.int .i64 o.ret] 43)) := by go_grown
  have hop := OpAt.box w o
  have h1 := h.on HB
  obtain ⟨W1, hW1⟩ : ∃ W1, w.alloc (.cells #[Value.int .i64 o.id, Value.int .i64 o.proc, Value.int .i64 o.obj, Value.int .i64 o.kind, Value.int .i64 o.meth, Value.int .i64 o.arg, Value.int .i64 o.sec, Value.bool o.done, Value.int .i64 o.res, Value.int .i64 o.inv, Value.int .i64 o.ret] 43) = W1 := ⟨_, rfl⟩
  rw [hW1] at hop HB h1
  have hn1 : n₀ ≤ W1.heap.size := Nat.le_trans hn HB.size
  have HO := Lib.hid h1
  have HM := Lib.hid (Mine.of (v := v) HB)
  have HN := Lib.hid (And.intro hn1 ho)
  have HP := Lib.hid hop
  have HL := Lib.hid hl
  have l1 := hop.load
  clear HB h hn hn1 ho h1 hop hl
  rcases hA : doC o L with ⟨L', n, b⟩
  have HA := Lib.hid hA
  clear hA
  go_enter Try.func79, Try.ntmps79
  go_wp2_with fail
  refine (do_any o HN.out.2 HO.out HN.out.1 HL.out).mono ?_
  rintro _ w2 ⟨v2, rfl, ho2, hm2⟩
  have HP2 := Lib.hid (hm2.ops HO.out HP.out)
  have HM2 := Lib.hid (HM.out.trans hm2)
  rw [HA.out] at ho2 ⊢
  have HO2 := Lib.hid ho2
  obtain ⟨_, _, _, _, _, _, _, k7, k8, _⟩ := HP2.out.cell
  clear ho2 hm2 l1
  cases b
  · have HS := Lib.hid (show stepC o L = ([], false) by unfold stepC; rw [HA.out]; exact if_neg (fun c => by cases c.1))
    go_wp2_with fail
    go_returns
    exact StepC.eq HS.out (OwnI.nil _ _ none) HM2.out
  · cases hd : o.done
    · have HS := Lib.hid (show stepC o L = (L', true) by unfold stepC; rw [HA.out]; exact if_pos ⟨rfl, fun c => by rw [hd] at c; cases c⟩)
      rw [hd] at k7
      clear hd
      go_wp2_with fail
      go_returns
      exact StepC.eq HS.out HO2.out HM2.out
    · by_cases e : n = o.res
      · have HS := Lib.hid (show stepC o L = (L', true) by unfold stepC; rw [HA.out]; exact if_pos ⟨rfl, fun _ => e⟩)
        have q : (n != o.res) = false := by rw [e]; simp
        rw [hd] at k7
        clear hd e
        go_wp2_with fail
        go_returns
        exact StepC.eq HS.out HO2.out HM2.out
      · have HS := Lib.hid (show stepC o L = ([], false) by unfold stepC; rw [HA.out]; exact if_neg (fun c => e (c.2 hd)))
        have q : (n != o.res) = true := bne_iff_ne.2 e
        rw [hd] at k7
        clear hd e
        go_wp2_with fail
        go_returns
        exact StepC.eq HS.out (OwnI.nil _ _ none) HM2.out
theorem _root_.Go.RowKit.Below.on' {w a b : World} {n : Nat} (h : Below w.heap.size w a) (k : Below w.heap.size a b) (hn : n ≤ w.heap.size) : Below n w b := (h.trans k).mono hn
set_option maxHeartbeats 4000000 in
theorem mstep_any (o : OpV) (ho : o.Wf) {v : Value} {L : List Int} {w : World} (h : IntsOf w v L) (hl : L.length ≤ 17592186044414) : Calls Try.prog 100 #[v, Value.agg #[Value.int .i64 o.id, Value.int .i64 o.proc, Value.int .i64 o.obj, Value.int .i64 o.kind, Value.int .i64 o.meth, Value.int .i64 o.arg, Value.int .i64 o.sec, Value.bool o.done, Value.int .i64 o.res, Value.int .i64 o.inv, Value.int .i64 o.ret]] w (fun e w' => ∃ v', e = .returned (.tuple #[v', .bool (stepC o L).2]) ∧ OwnI w.heap.size w' v' (stepC o L).1 ∧ Below w.heap.size w w') := by
  have HB : Below w.heap.size w (w.alloc (.cells #[Value.int .i64 o.id, Value.int .i64 o.proc, Value.int .i64 o.obj, Value.int .i64 o.kind, Value.int .i64 o.meth, Value.int .i64 o.arg, Value.int .i64 o.sec, Value.bool o.done, Value.int .i64 o.res, Value.int .i64 o.inv, Value.int .i64 o.ret] 43)) := by go_grown
  have hop := OpAt.box w o
  have h1 := h.on HB
  obtain ⟨W1, hW1⟩ : ∃ W1, w.alloc (.cells #[Value.int .i64 o.id, Value.int .i64 o.proc, Value.int .i64 o.obj, Value.int .i64 o.kind, Value.int .i64 o.meth, Value.int .i64 o.arg, Value.int .i64 o.sec, Value.bool o.done, Value.int .i64 o.res, Value.int .i64 o.inv, Value.int .i64 o.ret] 43) = W1 := ⟨_, rfl⟩
  rw [hW1] at hop HB h1
  have HO := Lib.hid h1
  have HB1 := Lib.hid HB
  have HW := Lib.hid ho
  have HP := Lib.hid hop
  have HL := Lib.hid hl
  have l1 := hop.load
  have l1d : (loadS 43 (.pointer (some ⟨w.heap.size, 0, none⟩))).run Try.prog W1.drew = .ok (Value.agg #[Value.int .i64 o.id, Value.int .i64 o.proc, Value.int .i64 o.obj, Value.int .i64 o.kind, Value.int .i64 o.meth, Value.int .i64 o.arg, Value.int .i64 o.sec, Value.bool o.done, Value.int .i64 o.res, Value.int .i64 o.inv, Value.int .i64 o.ret]) W1.drew := OpAt.load (w := W1.drew) hop
  clear HB h ho h1 hop hl
  go_enter Try.func100, Try.ntmps100
  go_wp2_with fail
  go_region_with (first
    | (go_at_call 78; refine (clonei_any _ L _ (HO.out.on (Below.refl _ _).drew) (by have := HL.out; omega)).mono ?_; rintro _ w2 ⟨v2, rfl, ho2, hb2⟩; have l2 := ((show OpAt W1.drew w.heap.size o from HP.out).on hb2).load; have HO2 := Lib.hid ho2; have HB2 := Lib.hid hb2; clear ho2 hb2)
    | (go_at_call 79; refine (step_any o HW.out HO2.out HB2.out.size HL.out).mono ?_; rintro _ w3 ⟨v3, rfl, ho3, hm3⟩; have HO3 := Lib.hid ho3; have HB3 := Lib.hid (HB1.out.trans (((Below.refl _ _).drew.on HB2.out).on' (hm3.below HO2.out HB2.out.size) HB1.out.size)); clear ho3 hm3))
  all_goals go_wp2
  all_goals go_returns
  all_goals exact ⟨_, rfl, HO3.out.base HB1.out.size, HB3.out⟩
end Go.Proofs.Ytppjmmdiglnkfaa
namespace Go.Proofs.Ytppjmmdiglnkfaa
set_option maxRecDepth 100000
open Go.ChangeShapes Go.WideShapes Go.ChangeAt Go.RowKit Go.PlainAid Go.Deep

attribute [local go_sem ↓ high] load_op
attribute [local go_sem ↓ high] store_o
/-- Steps, one after the other. -/
noncomputable def runsC : List OpV → List Int → List Int × Bool
  | [], L => (L, true)
  | o :: r, L => if (stepC o L).2 = true then runsC r (stepC o L).1 else ([], false)
theorem runsC_yes {o : OpV} {r : List OpV} {L L' : List Int} (h : stepC o L = (L', true)) : runsC (o :: r) L = runsC r L' := by rw [runsC, h]; rfl
theorem runsC_no {o : OpV} {r : List OpV} {L L' : List Int} (h : stepC o L = (L', false)) : runsC (o :: r) L = ([], false) := by rw [runsC, h]; rfl
theorem doC_len (o : OpV) (L : List Int) : (doC o L).1.length ≤ L.length + 1 := by
  unfold doC
  split
  · unfold regC noA; split <;> (repeat' split) <;> simp
  split
  · unfold ctrC noA; split <;> (repeat' split) <;> simp
  split
  · unfold queC noA; split <;> (repeat' split) <;> (try simp) <;> omega
  split
  · unfold stkC noA; split <;> (repeat' split) <;> (try simp) <;> omega
  split
  · unfold setC noA
    have h1 : (insL L o.arg).length = L.length + 1 := by unfold insL; exact ins_len List.countP_le_length _
    have h2 : (delL L o.arg).length ≤ L.length + 1 := by unfold delL; rw [List.length_append, List.length_take, List.length_drop]; omega
    split <;> (repeat' split) <;> (try simp) <;> (try omega)
  split
  · unfold mtxC noA; split <;> (repeat' split) <;> simp
  · simp [noA]
theorem stepC_len (o : OpV) (L : List Int) : (stepC o L).1.length ≤ L.length + 1 := by
  unfold stepC
  split
  · exact doC_len o L
  · simp
theorem drop_get {α : Type} {l : List α} {k : Nat} {x : α} (h : l[k]? = some x) : l.drop k = x :: l.drop (k + 1) := by
  obtain ⟨hk, rfl⟩ := List.getElem?_eq_some_iff.1 h
  exact List.drop_eq_getElem_cons hk
def firstC (k : Int) : List Int := if k = 1 ∨ k = 2 then [0] else []
theorem rfirst_any (k : Int) (w : World) : Calls Try.prog 10 #[.int .i64 k] w fun e w' => ∃ v', e = .returned v' ∧ IntsOf w' v' (firstC k) ∧ Below w.heap.size w w' := by
  by_cases c1 : k = 1
  · have HA := Lib.hid (show firstC k = [0] by simp [firstC, c1])
    subst c1
    go_enter Try.func10, Try.ntmps10
    go_wp2_with fail
    go_returns
    exact ⟨_, rfl, by rw [HA.out]; exact (OwnI.fresh w (Nat.le_refl _) 0 (by omega)).reads, by go_grown⟩
  · have q1 : (k == 1) = false := beq_eq_false_iff_ne.2 c1
    by_cases c2 : k = 2
    · have HA := Lib.hid (show firstC k = [0] by simp [firstC, c2])
      subst c2
      clear c1 q1
      go_enter Try.func10, Try.ntmps10
      go_wp2_with fail
      go_returns
      exact ⟨_, rfl, by rw [HA.out]; exact (OwnI.fresh w (Nat.le_refl _) 0 (by omega)).reads, by go_grown⟩
    · have q2 : (k == 2) = false := beq_eq_false_iff_ne.2 c2
      have HA := Lib.hid (show firstC k = [] by simp [firstC, c1, c2])
      clear c1 c2
      go_enter Try.func10, Try.ntmps10
      go_wp2_with fail
      go_returns
      exact ⟨_, rfl, by rw [HA.out]; exact .inl ⟨rfl, none, 0, rfl⟩, by go_grown⟩
end Go.Proofs.Ytppjmmdiglnkfaa
