/- Package model: contracts of number, mutex, set. -/
import Derived.Test.YtpooekmogfkkjaaSMoE
namespace Go.Proofs.Ytpooekmogfkkjaa
set_option maxRecDepth 100000
open Go.ChangeShapes Go.WideShapes Go.ChangeAt Go.RowKit Go.PlainAid Go.Deep

theorem mnumber_any (b : Bool) (w : World) : Calls Try.prog 99 #[.bool b] w fun e w' => e = .returned (.int .i64 (b2i b)) ∧ w' = w := by
  cases b
  · go_enter Try.func99, Try.ntmps99
    go_wp2
    go_returns
    exact ⟨rfl, rfl⟩
  · go_enter Try.func99, Try.ntmps99
    go_wp2
    go_returns
    exact ⟨rfl, rfl⟩
set_option maxHeartbeats 2000000 in
theorem mutex_any (o : OpV) (ho : o.Wf) {n₀ : Nat} {v : Value} {L : List Int} {w : World} (h : OwnI n₀ w v L) (hn : n₀ ≤ w.heap.size) : Calls Try.prog 96 #[v, Value.agg #[Value.int .i64 o.id, Value.int .i64 o.proc, Value.int .i64 o.obj, Value.int .i64 o.kind, Value.int .i64 o.meth, Value.int .i64 o.arg, Value.int .i64 o.sec, Value.bool o.done, Value.int .i64 o.res, Value.int .i64 o.inv, Value.int .i64 o.ret]] w (AnsC n₀ v w (mtxC o L)) := by
  have HB : Below w.heap.size w (w.alloc (.cells #[Value.int .i64 o.id, Value.int .i64 o.proc, Value.int .i64 o.obj, Value.int .i64 o.kind, Value.int .i64 o.meth, Value.int .i64 o.arg, Value.int .i64 o.sec, Value.bool o.done, Value.int .i64 o.res, Value.int .i64 o.inv, Value.int .i64 o.ret] 77)) := by go_grown
  have hop := OpAt.box w o
  have h1 := h.on HB
  obtain ⟨W1, hW1⟩ : ∃ W1, w.alloc (.cells #[Value.int .i64 o.id, Value.int .i64 o.proc, Value.int .i64 o.obj, Value.int .i64 o.kind, Value.int .i64 o.meth, Value.int .i64 o.arg, Value.int .i64 o.sec, Value.bool o.done, Value.int .i64 o.res, Value.int .i64 o.inv, Value.int .i64 o.ret] 77) = W1 := ⟨_, rfl⟩
  rw [hW1] at hop HB h1
  have hn1 : n₀ ≤ W1.heap.size := Nat.le_trans hn HB.size
  have HO := Lib.hid h1
  have HM := Lib.hid (Mine.of (v := v) HB)
  have HN := Lib.hid (And.intro hn1 ho)
  obtain ⟨_, k1, _, _, k4, _⟩ := hop.cell
  clear HB h hn hn1 ho hop
  by_cases m13 : o.meth = 13
  · rw [m13] at k4
    by_cases hl : L = []
    · subst hl
      have HA := Lib.hid (show mtxC o [] = ([o.proc], 0, true) by simp [mtxC, m13])
      obtain ⟨ao, cap, rfl⟩ := h1.len
      clear m13 h1
      go_enter Try.func96, Try.ntmps96
      go_wp2
      go_returns
      exact AnsC.eq HA.out (OwnI.fresh _ HN.out.1 _ HN.out.2.proc) (HM.out.alloc _)
    · have HA := Lib.hid (show mtxC o L = ([], 0, false) by simp [mtxC, noA, m13, hl])
      have hp : L.length ≠ 0 := fun e => hl (List.length_eq_zero_iff.1 e)
      have q0 : ((L.length : Int) == 0) = false := beq_eq_false_iff_ne.2 (by omega)
      obtain ⟨ao, cap, rfl⟩ := h1.len
      clear m13 h1 hl hp
      go_enter Try.func96, Try.ntmps96
      go_wp2
      go_quiet (fail)
      go_wp2
      go_returns
      exact AnsC.eq HA.out (OwnI.nil _ _ none) (HM.out.on (below_drewN _ _))
  · have q13 : (o.meth == 13) = false := beq_eq_false_iff_ne.2 m13
    by_cases m14 : o.meth = 14
    · rw [m14] at k4
      by_cases hl : L.length = 1
      · obtain ⟨x, rfl⟩ := List.length_eq_one_iff.1 hl
        obtain ⟨g, p, cap, rfl, hx⟩ := h1.one
        clear hl h1
        by_cases e : x = o.proc
        · have HA := Lib.hid (show mtxC o [x] = ([], 0, true) by simp [mtxC, m14, e])
          have q : (x == o.proc) = true := beq_iff_eq.2 e
          clear m13 m14 e q13
          go_enter Try.func96, Try.ntmps96
          go_wp2
          go_quiet (fail)
          go_wp2
          go_returns
          exact AnsC.eq HA.out (OwnI.nil _ _ none) (HM.out.on (below_drewN _ _))
        · have HA := Lib.hid (show mtxC o [x] = ([], 0, false) by simp [mtxC, noA, m14, e])
          have q : (x == o.proc) = false := beq_eq_false_iff_ne.2 e
          clear m13 m14 e q13
          go_enter Try.func96, Try.ntmps96
          go_wp2
          go_quiet (fail)
          go_wp2
          go_returns
          exact AnsC.eq HA.out (OwnI.nil _ _ none) (HM.out.on (below_drewN _ _))
      · have q1 : ((L.length : Int) == 1) = false := beq_eq_false_iff_ne.2 (by omega)
        have HA := Lib.hid (show mtxC o L = ([], 0, false) by
          have : L ≠ [o.proc] := fun e => hl (by rw [e]; rfl)
          simp [mtxC, noA, m13, this])
        obtain ⟨ao, cap, rfl⟩ := h1.len
        clear m13 m14 h1 hl q13
        go_enter Try.func96, Try.ntmps96
        go_wp2
        go_quiet (fail)
        go_wp2
        go_returns
        exact AnsC.eq HA.out (OwnI.nil _ _ none) (HM.out.on (below_drewN _ _))
    · have q14 : (o.meth == 14) = false := beq_eq_false_iff_ne.2 m14
      have HA := Lib.hid (show mtxC o L = ([], 0, false) by simp [mtxC, noA, m13, m14])
      obtain ⟨ao, cap, rfl⟩ := h1.len
      clear m13 m14 h1
      go_enter Try.func96, Try.ntmps96
      go_wp2
      go_quiet (fail)
      go_wp2
      go_returns
      exact AnsC.eq HA.out (OwnI.nil _ _ none) (HM.out.on (below_drewN _ _))
def insL (L : List Int) (x : Int) : List Int := L.take (L.countP (· < x)) ++ x :: L.drop (L.countP (· < x))
def delL (L : List Int) (x : Int) : List Int := L.take (L.countP (· < x)) ++ L.drop (L.countP (· < x) + 1)
noncomputable def setC (o : OpV) (L : List Int) : Ans := if risesB L = true then (if o.meth = 12 then (L, b2i (L.contains o.arg), true) else if o.meth = 10 then (if L.contains o.arg = true then (L, 0, true) else (insL L o.arg, 1, true)) else if o.meth = 11 then (if L.contains o.arg = true then (delL L o.arg, 1, true) else (L, 0, true)) else noA) else noA
theorem count_lt {L : List Int} {x : Int} (h : L.contains x = true) : L.countP (· < x) < L.length := by
  rcases Nat.lt_or_eq_of_le (List.countP_le_length (p := (· < x)) (l := L)) with c | c
  · exact c
  · have := List.countP_eq_length.1 c x (by simpa using h)
    simp at this
theorem delete_any' {n₀ : Nat} {w : World} {v : Value} {L : List Int} (h : OwnI n₀ w v L) (j : Nat) (hj : j < L.length) :
    Calls Try.prog 101 #[v, .int .i64 j, .int .i64 ((j : Int) + 1)] w fun e w' => ∃ v', e = .returned v' ∧ OwnI n₀ w' v' (L.take j ++ L.drop (j + 1)) ∧ Mine v w w' := delete_any h j hj
set_option maxHeartbeats 2000000 in
theorem set_any (o : OpV) (ho : o.Wf) {n₀ : Nat} {v : Value} {L : List Int} {w : World} (h : OwnI n₀ w v L) (hn : n₀ ≤ w.heap.size) (hl : L.length ≤ 17592186044414) : Calls Try.prog 95 #[v, Value.agg #[Value.int .i64 o.id, Value.int .i64 o.proc, Value.int .i64 o.obj, Value.int .i64 o.kind, Value.int .i64 o.meth, Value.int .i64 o.arg, Value.int .i64 o.sec, Value.bool o.done, Value.int .i64 o.res, Value.int .i64 o.inv, Value.int .i64 o.ret]] w (AnsC n₀ v w (setC o L)) := by
  have HB : Below w.heap.size w (w.alloc (.cells #[Value.int .i64 o.id, Value.int .i64 o.proc, Value.int .i64 o.obj, Value.int .i64 o.kind, Value.int .i64 o.meth, Value.int .i64 o.arg, Value.int .i64 o.sec, Value.bool o.done, Value.int .i64 o.res, Value.int .i64 o.inv, Value.int .i64 o.ret] 77)) := by go_grown
  have hop := OpAt.box w o
  have h1 := h.on HB
  obtain ⟨W1, hW1⟩ : ∃ W1, w.alloc (.cells #[Value.int .i64 o.id, Value.int .i64 o.proc, Value.int .i64 o.obj, Value.int .i64 o.kind, Value.int .i64 o.meth, Value.int .i64 o.arg, Value.int .i64 o.sec, Value.bool o.done, Value.int .i64 o.res, Value.int .i64 o.inv, Value.int .i64 o.ret] 77) = W1 := ⟨_, rfl⟩
  rw [hW1] at hop HB h1
  have hn1 : n₀ ≤ W1.heap.size := Nat.le_trans hn HB.size
  have HO := Lib.hid h1
  have HM := Lib.hid (Mine.of (v := v) HB)
  have HN := Lib.hid (And.intro hn1 ho)
  have HP := Lib.hid hop
  have HL := Lib.hid hl
  clear HB h hn hn1 ho h1 hop hl
  cases hR : risesB L with
  | false =>
    have HA := Lib.hid (show setC o L = ([], 0, false) by simp [setC, noA, hR])
    have HR := Lib.hid hR
    clear hR
    go_enter Try.func95, Try.ntmps95
    go_wp2_with fail
    refine (rises_any v L _ HO.out.reads).mono ?_
    rintro _ w2 ⟨rfl, hb2⟩
    rw [HR.out]
    go_wp2_with fail
    go_returns
    exact AnsC.eq HA.out (OwnI.nil _ _ none) (HM.out.on hb2)
  | true =>
    have HQ := Lib.hid (show L.Pairwise (· < ·) by
      by_cases c : Rise L
      · exact rise_pair c
      · rw [risesB_no c] at hR; cases hR)
    obtain ⟨b, hb⟩ : ∃ b, L.contains o.arg = b := ⟨_, rfl⟩
    obtain ⟨j, hj⟩ : ∃ j, L.countP (· < o.arg) = j := ⟨_, rfl⟩
    have hjl : j ≤ L.length := by rw [← hj]; exact List.countP_le_length
    have HJ := Lib.hid (And.intro hjl (show b = true → j < L.length from fun e => by rw [← hj]; exact count_lt (hb.trans e)))
    have H12 : Hid (o.meth = 12 → setC o L = (L, b2i b, true)) := fun m => by simp only [setC, hR, m, hb]; rfl
    have H10t : Hid (o.meth = 10 → b = true → setC o L = (L, 0, true)) := fun m e => by simp only [setC, hR, m, hb, e]; rfl
    have H10f : Hid (o.meth = 10 → b = false → setC o L = (L.take j ++ o.arg :: L.drop j, 1, true)) := fun m e => by simp only [setC, hR, m, hb, e, insL, hj]; rfl
    have H11t : Hid (o.meth = 11 → b = true → setC o L = (L.take j ++ L.drop (j + 1), 1, true)) := fun m e => by simp only [setC, hR, m, hb, e, delL, hj]; rfl
    have H11f : Hid (o.meth = 11 → b = false → setC o L = (L, 0, true)) := fun m e => by simp only [setC, hR, m, hb, e]; rfl
    have HZ : Hid (o.meth ≠ 12 → o.meth ≠ 10 → o.meth ≠ 11 → setC o L = ([], 0, false)) := fun a1 a2 a3 => by simp only [setC, hR, if_neg a1, if_neg a2, if_neg a3]; rfl
    have HR := Lib.hid hR
    have Hb := Lib.hid hb
    have Hj := Lib.hid hj
    clear hR hb hj hjl
    go_enter Try.func95, Try.ntmps95
    go_wp2_with fail
    refine (rises_any v L _ HO.out.reads).mono ?_
    rintro _ w2 ⟨rfl, hb2⟩
    rw [HR.out]
    have HO2 := Lib.hid (HO.out.on hb2)
    have HM2 := Lib.hid (HM.out.on hb2)
    have HN2 := Lib.hid (Nat.le_trans HN.out.1 hb2.size)
    have HP2 := Lib.hid (HP.out.on hb2)
    obtain ⟨_, _, _, _, k4, k5, _⟩ := HP2.out.cell
    clear hb2
    go_wp2_with fail
    refine (bsearch_any v L o.arg _ HO2.out.reads HQ.out (by have := HL.out; omega)).mono ?_
    rintro _ w3 ⟨rfl, hb3⟩
    rw [Hb.out, Hj.out]
    have HO3 := Lib.hid (HO2.out.on hb3)
    have HM3 := Lib.hid (HM2.out.on hb3)
    have HN3 := Lib.hid (Nat.le_trans HN2.out hb3.size)
    have HP3 := Lib.hid (HP2.out.on hb3)
    clear hb3 k4 k5
    obtain ⟨_, _, _, _, k4, k5, _⟩ := HP3.out.cell
    by_cases m12 : o.meth = 12
    · have HA := Lib.hid (H12.out m12)
      rw [m12] at k4
      clear m12
      go_wp2_with fail
      refine (mnumber_any _ _).mono ?_
      rintro _ _ ⟨rfl, rfl⟩
      go_wp2_with fail
      go_returns
      exact AnsC.eq HA.out HO3.out HM3.out
    · have q12 : (o.meth == 12) = false := beq_eq_false_iff_ne.2 m12
      by_cases m10 : o.meth = 10
      · rw [m10] at k4
        cases b
        · have HA := Lib.hid (H10f.out m10 rfl)
          clear m10 m12 q12
          go_wp2_with fail
          refine (insert_any HO3.out HN3.out HL.out o.arg HN.out.2.arg j HJ.out.1).mono ?_
          rintro _ w4 ⟨v4, rfl, ho4, hm4⟩
          have HO4 := Lib.hid ho4
          have HM4 := Lib.hid (HM3.out.trans hm4)
          clear ho4 hm4 k4 k5
          go_wp2_with fail
          refine (mnumber_any _ _).mono ?_
          rintro _ _ ⟨rfl, rfl⟩
          go_wp2_with fail
          go_returns
          exact AnsC.eq HA.out HO4.out HM4.out
        · have HA := Lib.hid (H10t.out m10 rfl)
          clear m10 m12 q12
          go_wp2_with fail
          refine (mnumber_any _ _).mono ?_
          rintro _ _ ⟨rfl, rfl⟩
          go_wp2_with fail
          go_returns
          exact AnsC.eq HA.out HO3.out HM3.out
      · have q10 : (o.meth == 10) = false := beq_eq_false_iff_ne.2 m10
        by_cases m11 : o.meth = 11
        · rw [m11] at k4
          cases b
          · have HA := Lib.hid (H11f.out m11 rfl)
            clear m10 m12 q12 q10 m11
            go_wp2_with fail
            refine (mnumber_any _ _).mono ?_
            rintro _ _ ⟨rfl, rfl⟩
            go_wp2_with fail
            go_returns
            exact AnsC.eq HA.out HO3.out HM3.out
          · have HA := Lib.hid (H11t.out m11 rfl)
            have hw : IntKind.i64.wrap ((j : Int) + 1) = (j : Int) + 1 := IntWalk.i64_in _ (by have := HJ.out.1; have := HL.out; omega)
            clear m10 m12 q12 q10 m11
            go_wp2_with fail
            refine (delete_any' HO3.out j (HJ.out.2 (by simp))).mono ?_
            rintro _ w4 ⟨v4, rfl, ho4, hm4⟩
            have HO4 := Lib.hid ho4
            have HM4 := Lib.hid (HM3.out.trans hm4)
            clear ho4 hm4 k4 k5 hw
            go_wp2_with fail
            refine (mnumber_any _ _).mono ?_
            rintro _ _ ⟨rfl, rfl⟩
            go_wp2_with fail
            go_returns
            exact AnsC.eq HA.out HO4.out HM4.out
        · have q11 : (o.meth == 11) = false := beq_eq_false_iff_ne.2 m11
          have HA := Lib.hid (HZ.out m12 m10 m11)
          clear m10 m12 m11
          go_wp2_with fail
          go_returns
          exact AnsC.eq HA.out (OwnI.nil _ _ none) HM3.out
end Go.Proofs.Ytpooekmogfkkjaa
