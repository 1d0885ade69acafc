/- Package model: contracts of queues and stacks. -/
import Derived.Test.YtpooekmogfkkjaaSMoC
namespace Go.Proofs.Ytpooekmogfkkjaa
set_option maxRecDepth 100000
open Go.ChangeShapes Go.WideShapes Go.ChangeAt Go.RowKit Go.PlainAid Go.Deep

attribute [local go_sem ↓ high] app_intI
set_option maxHeartbeats 2000000 in
theorem queue_any (o : OpV) (ho : o.Wf) {n₀ : Nat} {v : Value} {L : List Int} {w : World} (h : OwnI n₀ w v L) (hn : n₀ ≤ w.heap.size) (hl : L.length ≤ 17592186044414) : Calls Try.prog 93 #[v, Value.agg #[Value.int .i64 o.id, Value.int .i64 o.proc, Value.int .i64 o.obj, Value.int .i64 o.kind, Value.int .i64 o.meth, Value.int .i64 o.arg, Value.int .i64 o.sec, Value.bool o.done, Value.int .i64 o.res, Value.int .i64 o.inv, Value.int .i64 o.ret]] w (AnsC n₀ v w (queC o L)) := by
  have HB : Below w.heap.size w (w.alloc (.cells #[Value.int .i64 o.id, Value.int .i64 o.proc, Value.int .i64 o.obj, Value.int .i64 o.kind, Value.int .i64 o.meth, Value.int .i64 o.arg, Value.int .i64 o.sec, Value.bool o.done, Value.int .i64 o.res, Value.int .i64 o.inv, Value.int .i64 o.ret] 77)) := by go_grown
  have hop := (OpAt.box w o).cell
  have h1 := h.on HB
  obtain ⟨W1, hW1⟩ : ∃ W1, w.alloc (.cells #[Value.int .i64 o.id, Value.int .i64 o.proc, Value.int .i64 o.obj, Value.int .i64 o.kind, Value.int .i64 o.meth, Value.int .i64 o.arg, Value.int .i64 o.sec, Value.bool o.done, Value.int .i64 o.res, Value.int .i64 o.inv, Value.int .i64 o.ret] 77) = W1 := ⟨_, rfl⟩
  rw [hW1] at hop HB h1
  have hn1 : n₀ ≤ W1.heap.size := Nat.le_trans hn HB.size
  have HO := Lib.hid h1
  have HM := Lib.hid (Mine.of (v := v) HB)
  have HN := Lib.hid (And.intro hn1 ho)
  obtain ⟨_, k1, _, _, k4, k5, k6, _⟩ := hop
  clear HB h hn hn1 ho
  by_cases m6 : o.meth = 6
  · rw [m6] at k4
    have HA := Lib.hid (show queC o L = (L ++ [o.arg], 0, true) by simp [queC, m6])
    obtain ⟨v2, W2, hr, ho2, hm2⟩ := own_push h1 HN.out.1 hl o.arg HN.out.2.arg
    have HO2 := Lib.hid ho2
    have HM2 := Lib.hid (HM.out.trans hm2)
    clear m6 h1 ho2 hm2
    go_enter Try.func93, Try.ntmps93
    go_wp2
    go_returns
    exact AnsC.eq HA.out HO2.out HM2.out
  · have q6 : (o.meth == 6) = false := beq_eq_false_iff_ne.2 m6
    have HL := Lib.hid hl
    clear hl
    by_cases m7 : o.meth = 7
    · rw [m7] at k4
      cases L with
      | nil =>
        have HA := Lib.hid (show queC o [] = ([], -1, true) by simp [queC, m7])
        obtain ⟨ao, cap, rfl⟩ := h1.len
        clear m7 h1
        go_enter Try.func93, Try.ntmps93
        go_wp2
        go_returns
        exact AnsC.eq HA.out (OwnI.nil _ _ none) HM.out
      | cons x r =>
        have HA := Lib.hid (show queC o (x :: r) = (r, x, true) by simp [queC, m7])
        obtain ⟨g, p, cap, rfl, hcap, hx, ht, ht1⟩ := h1.tail
        have hlen : ((r.length + 1 : Nat) : Int) ≠ 0 := by omega
        have HT := Lib.hid (And.intro ht ht1)
        have qe : (((r.length : Int) + 1) == 0) = false := beq_eq_false_iff_ne.2 (by omega)
        clear m7 h1 ht ht1 hlen
        go_enter Try.func93, Try.ntmps93
        go_wp2
        go_region
        all_goals go_wp2
        · go_returns
          have hh := ‹cap = 1›
          subst hh
          exact AnsC.eq HA.out (HT.out.2 rfl).drew HM.out.drew
        · go_returns
          exact AnsC.eq HA.out HT.out.1.drew HM.out.drew
    · have q7 : (o.meth == 7) = false := beq_eq_false_iff_ne.2 m7
      have HA := Lib.hid (show queC o L = ([], 0, false) by simp [queC, noA, m6, m7])
      clear m6 m7
      go_enter Try.func93, Try.ntmps93
      go_wp2
      go_returns
      exact AnsC.eq HA.out (OwnI.nil _ _ none) HM.out
set_option maxHeartbeats 2000000 in
theorem stack_any (o : OpV) (ho : o.Wf) {n₀ : Nat} {v : Value} {L : List Int} {w : World} (h : OwnI n₀ w v L) (hn : n₀ ≤ w.heap.size) (hl : L.length ≤ 17592186044414) : Calls Try.prog 94 #[v, Value.agg #[Value.int .i64 o.id, Value.int .i64 o.proc, Value.int .i64 o.obj, Value.int .i64 o.kind, Value.int .i64 o.meth, Value.int .i64 o.arg, Value.int .i64 o.sec, Value.bool o.done, Value.int .i64 o.res, Value.int .i64 o.inv, Value.int .i64 o.ret]] w (AnsC n₀ v w (stkC o L)) := by
  have HB : Below w.heap.size w (w.alloc (.cells #[Value.int .i64 o.id, Value.int .i64 o.proc, Value.int .i64 o.obj, Value.int .i64 o.kind, Value.int .i64 o.meth, Value.int .i64 o.arg, Value.int .i64 o.sec, Value.bool o.done, Value.int .i64 o.res, Value.int .i64 o.inv, Value.int .i64 o.ret] 77)) := by go_grown
  have hop := (OpAt.box w o).cell
  have h1 := h.on HB
  obtain ⟨W1, hW1⟩ : ∃ W1, w.alloc (.cells #[Value.int .i64 o.id, Value.int .i64 o.proc, Value.int .i64 o.obj, Value.int .i64 o.kind, Value.int .i64 o.meth, Value.int .i64 o.arg, Value.int .i64 o.sec, Value.bool o.done, Value.int .i64 o.res, Value.int .i64 o.inv, Value.int .i64 o.ret] 77) = W1 := ⟨_, rfl⟩
  rw [hW1] at hop HB h1
  have hn1 : n₀ ≤ W1.heap.size := Nat.le_trans hn HB.size
  have HO := Lib.hid h1
  have HM := Lib.hid (Mine.of (v := v) HB)
  have HN := Lib.hid (And.intro hn1 ho)
  obtain ⟨_, k1, _, _, k4, k5, k6, _⟩ := hop
  clear HB h hn hn1 ho
  by_cases m8 : o.meth = 8
  · rw [m8] at k4
    have HA := Lib.hid (show stkC o L = (L ++ [o.arg], 0, true) by simp [stkC, m8])
    obtain ⟨v2, W2, hr, ho2, hm2⟩ := own_push h1 HN.out.1 hl o.arg HN.out.2.arg
    have HO2 := Lib.hid ho2
    have HM2 := Lib.hid (HM.out.trans hm2)
    clear m8 h1 ho2 hm2
    go_enter Try.func94, Try.ntmps94
    go_wp2
    go_returns
    exact AnsC.eq HA.out HO2.out HM2.out
  · have q8 : (o.meth == 8) = false := beq_eq_false_iff_ne.2 m8
    have HL := Lib.hid hl
    clear hl
    by_cases m9 : o.meth = 9
    · rw [m9] at k4
      rcases List.eq_nil_or_concat L with rfl | ⟨r, x, rfl⟩
      · have HA := Lib.hid (show stkC o [] = ([], -1, true) by simp [stkC, m9])
        obtain ⟨ao, cap, rfl⟩ := h1.len
        clear m9 h1
        go_enter Try.func94, Try.ntmps94
        go_wp2
        go_returns
        exact AnsC.eq HA.out (OwnI.nil _ _ none) HM.out
      · rw [List.concat_eq_append] at *
        have HA := Lib.hid (show stkC o (r ++ [x]) = (r, x, true) by simp [stkC, m9])
        obtain ⟨g, p, cap, rfl, hcap, hx, ht⟩ := h1.front
        have HT := Lib.hid ht
        have hw : wrap64 (r.length : Int) = (r.length : Int) := by unfold wrap64; have hb := HL.out; simp at hb; omega
        have qe : (((r.length : Int) + 1) == 0) = false := beq_eq_false_iff_ne.2 (by omega)
        clear m9 h1 ht
        go_enter Try.func94, Try.ntmps94
        go_wp2
        go_region
        go_wp2
        go_returns
        exact AnsC.eq HA.out HT.out.drew HM.out.drew
    · have q9 : (o.meth == 9) = false := beq_eq_false_iff_ne.2 m9
      have HA := Lib.hid (show stkC o L = ([], 0, false) by simp [stkC, noA, m8, m9])
      clear m8 m9
      go_enter Try.func94, Try.ntmps94
      go_wp2
      go_returns
      exact AnsC.eq HA.out (OwnI.nil _ _ none) HM.out
end Go.Proofs.Ytpooekmogfkkjaa
