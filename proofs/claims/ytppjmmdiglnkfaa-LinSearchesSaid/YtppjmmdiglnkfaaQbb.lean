/- The reference's Do: numbers, mutexes, other kinds. -/
import Derived.Test.YtppjmmdiglnkfaaQaz
namespace Go.Proofs.Ytppjmmdiglnkfaa
set_option maxRecDepth 100000
open Go.ChangeShapes Go.WideShapes Go.ChangeAt Go.RowKit Go.PlainAid Go.Deep

attribute [local go_sem ↓ high] store_d load_op
set_option maxHeartbeats 8000000 in
theorem rdo1_any (o : OpV) (ho : o.Wf) {v : Value} {L : List Int} {w : World} (h : IntsOf w v L) (hcp : CapOk v) (hk : o.kind = 1) : Calls Try.prog 80 #[v, Value.agg #[Value.int .i64 o.id, Value.int .i64 o.proc, Value.int .i64 o.obj, Value.int .i64 o.kind, Value.int .i64 o.meth, Value.int .i64 o.arg, Value.int .i64 o.sec, Value.bool o.done, Value.int .i64 o.res, Value.int .i64 o.inv, Value.int .i64 o.ret]] w (RDone (doC o L) w v) := by
  have hS := StR.start w o
  obtain ⟨W1, hW1⟩ : ∃ W1, (w.alloc (.cells #[Value.int .i64 o.id, Value.int .i64 o.proc, Value.int .i64 o.obj, Value.int .i64 o.kind, Value.int .i64 o.meth, Value.int .i64 o.arg, Value.int .i64 o.sec, Value.bool o.done, Value.int .i64 o.res, Value.int .i64 o.inv, Value.int .i64 o.ret] 43)).alloc (.cells #[.slice none 0 0, .int .i64 0, .bool false] 143) = W1 := ⟨_, rfl⟩
  rw [hW1] at hS
  have HS := Lib.hid hS
  have HO := Lib.hid (And.intro h hcp)
  have HH := Lib.hid ho
  obtain ⟨_, _, _, k3, k4, _⟩ := hS.hp.cell
  rw [hk] at k3
  have HKK := Lib.hid hk
  clear hS h hcp ho
  have HK := Lib.hid (show doC o L = regC o L by simp [doC, hk])
  clear hk
  rcases hA : regC o L with ⟨L', n, b⟩
  have HA0 := Lib.hid hA
  have HA := Lib.hid (HK.out.trans hA)
  clear hA
  go_enter Try.func80, Try.ntmps80
  go_wp2_with fail
  go_quiet (fail)
  clear k3 k4
  have HS2 := Lib.hid (HS.out.on (below_drewN W1 nq))
  obtain ⟨W2, hW2⟩ : ∃ W, W1.drewN nq = W := ⟨_, rfl⟩
  rw [hW2] at HS2 ⊢
  clear hW2
  have l2 := HS2.out.hp.load
  obtain ⟨_, k1, _, _, _, k5, _⟩ := HS2.out.hp.cell
  clear k1 k5
  go_wp2_with fail
  refine (rreg_any o HH.out HKK.out (HO.out.1.on HS2.out.hb) HO.out.2).mono ?_
  rintro _ w3 ⟨v3, rfl, hv3, hb3⟩
  have HS3 := Lib.hid (HS2.out.on hb3)
  rw [HA0.out] at hv3 ⊢
  have hv4 : ((IntsOf w v3 L' ∧ CapOk v3 ∧ SameB v v3) ∨ OwnI (w.heap.size + 2) w3 v3 L') := by
    rcases hv3 with ⟨rfl, e⟩ | c
    · exact .inl ⟨by rw [show L' = L from e]; exact HO.out.1, HO.out.2, ⟨.inl rfl, Nat.le_refl _⟩⟩
    · exact .inr (c.base HS2.out.hs)
  obtain ⟨ao3, cap3, hl3⟩ : ∃ ao cap, v3 = .slice ao L'.length cap := by
    rcases hv4 with c | c
    · obtain ⟨ao, cap, h, _⟩ := c.1.parts
      exact ⟨ao, cap, h⟩
    · exact c.len
  have HV := Lib.hid hv4
  clear hv3 hv4
  subst hl3
  obtain ⟨W9, hst, hd⟩ := done_store (wr := w3) (b := w.heap.size + 1) HS3.out.hz (.slice ao3 L'.length cap3) n b rfl
  have r0 := hd.c0
  have r1 := hd.c1
  have r2 := hd.c2
  have HD := Lib.hid hd
  clear hd hb3 l2
  go_wp2_with fail
  refine bodyPost_ret (v := .agg #[.slice ao3 L'.length cap3, .int .i64 (n), .bool b]) (by simp [results, Try.results80, go_sem, r0, r1, r2]) rfl ?_
  exact rdone_end HA.out (HS3.out) HD.out HV.out
set_option maxHeartbeats 8000000 in
theorem rdo2_any (o : OpV) (ho : o.Wf) {v : Value} {L : List Int} {w : World} (h : IntsOf w v L) (hcp : CapOk v) (hk : o.kind = 2) : Calls Try.prog 80 #[v, Value.agg #[Value.int .i64 o.id, Value.int .i64 o.proc, Value.int .i64 o.obj, Value.int .i64 o.kind, Value.int .i64 o.meth, Value.int .i64 o.arg, Value.int .i64 o.sec, Value.bool o.done, Value.int .i64 o.res, Value.int .i64 o.inv, Value.int .i64 o.ret]] w (RDone (doC o L) w v) := by
  have hS := StR.start w o
  obtain ⟨W1, hW1⟩ : ∃ W1, (w.alloc (.cells #[Value.int .i64 o.id, Value.int .i64 o.proc, Value.int .i64 o.obj, Value.int .i64 o.kind, Value.int .i64 o.meth, Value.int .i64 o.arg, Value.int .i64 o.sec, Value.bool o.done, Value.int .i64 o.res, Value.int .i64 o.inv, Value.int .i64 o.ret] 43)).alloc (.cells #[.slice none 0 0, .int .i64 0, .bool false] 143) = W1 := ⟨_, rfl⟩
  rw [hW1] at hS
  have HS := Lib.hid hS
  have HO := Lib.hid (And.intro h hcp)
  have HH := Lib.hid ho
  obtain ⟨_, _, _, k3, k4, _⟩ := hS.hp.cell
  rw [hk] at k3
  have HKK := Lib.hid hk
  clear hS h hcp ho
  have HK := Lib.hid (show doC o L = ctrC o L by simp [doC, hk])
  clear hk
  rcases hA : ctrC o L with ⟨L', n, b⟩
  have HA0 := Lib.hid hA
  have HA := Lib.hid (HK.out.trans hA)
  clear hA
  go_enter Try.func80, Try.ntmps80
  go_wp2_with fail
  go_quiet (fail)
  clear k3 k4
  have HS2 := Lib.hid (HS.out.on (below_drewN W1 nq))
  obtain ⟨W2, hW2⟩ : ∃ W, W1.drewN nq = W := ⟨_, rfl⟩
  rw [hW2] at HS2 ⊢
  clear hW2
  have l2 := HS2.out.hp.load
  obtain ⟨_, k1, _, _, _, k5, _⟩ := HS2.out.hp.cell
  clear k1 k5
  go_wp2_with fail
  refine (rctr_any o HH.out HKK.out (HO.out.1.on HS2.out.hb) HO.out.2).mono ?_
  rintro _ w3 ⟨v3, rfl, hv3, hb3⟩
  have HS3 := Lib.hid (HS2.out.on hb3)
  rw [HA0.out] at hv3 ⊢
  have hv4 : ((IntsOf w v3 L' ∧ CapOk v3 ∧ SameB v v3) ∨ OwnI (w.heap.size + 2) w3 v3 L') := by
    rcases hv3 with ⟨rfl, e⟩ | c
    · exact .inl ⟨by rw [show L' = L from e]; exact HO.out.1, HO.out.2, ⟨.inl rfl, Nat.le_refl _⟩⟩
    · exact .inr (c.base HS2.out.hs)
  obtain ⟨ao3, cap3, hl3⟩ : ∃ ao cap, v3 = .slice ao L'.length cap := by
    rcases hv4 with c | c
    · obtain ⟨ao, cap, h, _⟩ := c.1.parts
      exact ⟨ao, cap, h⟩
    · exact c.len
  have HV := Lib.hid hv4
  clear hv3 hv4
  subst hl3
  obtain ⟨W9, hst, hd⟩ := done_store (wr := w3) (b := w.heap.size + 1) HS3.out.hz (.slice ao3 L'.length cap3) n b rfl
  have r0 := hd.c0
  have r1 := hd.c1
  have r2 := hd.c2
  have HD := Lib.hid hd
  clear hd hb3 l2
  go_wp2_with fail
  refine bodyPost_ret (v := .agg #[.slice ao3 L'.length cap3, .int .i64 (n), .bool b]) (by simp [results, Try.results80, go_sem, r0, r1, r2]) rfl ?_
  exact rdone_end HA.out (HS3.out) HD.out HV.out
set_option maxHeartbeats 8000000 in
theorem rmtx_any (o : OpV) (ho : o.Wf) {v : Value} {L : List Int} {w : World} (h : IntsOf w v L) (hcp : CapOk v) (hk : o.kind = 6) : Calls Try.prog 80 #[v, Value.agg #[Value.int .i64 o.id, Value.int .i64 o.proc, Value.int .i64 o.obj, Value.int .i64 o.kind, Value.int .i64 o.meth, Value.int .i64 o.arg, Value.int .i64 o.sec, Value.bool o.done, Value.int .i64 o.res, Value.int .i64 o.inv, Value.int .i64 o.ret]] w (RDone (doC o L) w v) := by
  have hS := StR.start w o
  obtain ⟨W1, hW1⟩ : ∃ W1, (w.alloc (.cells #[Value.int .i64 o.id, Value.int .i64 o.proc, Value.int .i64 o.obj, Value.int .i64 o.kind, Value.int .i64 o.meth, Value.int .i64 o.arg, Value.int .i64 o.sec, Value.bool o.done, Value.int .i64 o.res, Value.int .i64 o.inv, Value.int .i64 o.ret] 43)).alloc (.cells #[.slice none 0 0, .int .i64 0, .bool false] 143) = W1 := ⟨_, rfl⟩
  rw [hW1] at hS
  have HS := Lib.hid hS
  have HO := Lib.hid (And.intro h hcp)
  have HH := Lib.hid ho
  obtain ⟨_, _, _, k3, k4, _⟩ := hS.hp.cell
  rw [hk] at k3
  clear hS h hcp ho
  have HK := Lib.hid (show doC o L = mtxC o L by simp [doC, hk])
  have HI := Lib.hid (HO.out.1.on HS.out.hb)
  clear hk
  by_cases m13 : o.meth = 13
  · rw [m13] at k4
    by_cases hl : L = []
    · subst hl
      have HA := Lib.hid (show doC o [] = ([o.proc], 0, true) by rw [HK.out]; simp [mtxC, m13])
      obtain ⟨ao, cap, rfl, _⟩ := HI.out.parts
      clear m13
      go_enter Try.func80, Try.ntmps80
      go_wp2_with fail
      go_quiet (fail)
      clear k3 k4
      have HS2 := Lib.hid (HS.out.on (below_drewN W1 nq))
      obtain ⟨W2, hW2⟩ : ∃ W, W1.drewN nq = W := ⟨_, rfl⟩
      rw [hW2] at HS2 ⊢
      clear hW2
      have l2 := HS2.out.hp.load
      obtain ⟨_, k1, _, _, _, k5, _⟩ := HS2.out.hp.cell
      obtain ⟨W9, hst, hd⟩ := done_store (wr := W2.alloc (.cells #[.int .i64 o.proc] 3)) (b := w.heap.size + 1) (HS2.out.on (by go_grown)).hz (.slice (some ⟨W2.heap.size, 0, none⟩) 1 1) (0) true rfl
      have r0 := hd.c0
      have r1 := hd.c1
      have r2 := hd.c2
      have HD := Lib.hid hd
      clear hd
      go_wp2_with fail
      refine bodyPost_ret (v := .agg #[.slice (some ⟨W2.heap.size, 0, none⟩) 1 1, .int .i64 (0), .bool true]) (by simp [results, Try.results80, go_sem, r0, r1, r2]) rfl ?_
      exact rdone_end HA.out (HS2.out.on (by go_grown)) HD.out (.inr (OwnI.fresh W2 HS2.out.hs _ HH.out.proc))
    · have HA := Lib.hid (show doC o L = ([], 0, false) by rw [HK.out]; simp [mtxC, noA, m13, hl])
      have hp : L.length ≠ 0 := fun e => hl (List.length_eq_zero_iff.1 e)
      have q0 : ((L.length : Int) == 0) = false := beq_eq_false_iff_ne.2 (by omega)
      obtain ⟨ao, cap, rfl, _⟩ := HI.out.parts
      clear m13 hl hp
      go_enter Try.func80, Try.ntmps80
      go_wp2_with fail
      go_quiet (fail)
      clear k3 k4
      have HS2 := Lib.hid (HS.out.on (below_drewN W1 nq))
      obtain ⟨W2, hW2⟩ : ∃ W, W1.drewN nq = W := ⟨_, rfl⟩
      rw [hW2] at HS2 ⊢
      clear hW2
      have l2 := HS2.out.hp.load
      obtain ⟨_, k1, _, _, _, k5, _⟩ := HS2.out.hp.cell
      go_wp2_with fail
      go_quiet (fail)
      have HS3 := Lib.hid (HS2.out.on (below_drewN W2 nq))
      obtain ⟨W3, hW3⟩ : ∃ W, W2.drewN nq = W := ⟨_, rfl⟩
      rw [hW3] at HS3 ⊢
      clear hW3
      obtain ⟨W9, hst, hd⟩ := done_store (wr := W3) (b := w.heap.size + 1) (HS3.out).hz (.slice none 0 0) (0) false rfl
      have r0 := hd.c0
      have r1 := hd.c1
      have r2 := hd.c2
      have HD := Lib.hid hd
      clear hd
      go_wp2_with fail
      refine bodyPost_ret (v := .agg #[.slice none 0 0, .int .i64 (0), .bool false]) (by simp [results, Try.results80, go_sem, r0, r1, r2]) rfl ?_
      exact rdone_end HA.out (HS3.out) HD.out (.inl ⟨IntsOf.nil _ _ _, CapOk.mk (Nat.le_refl _), ⟨by first | exact .inl rfl | exact .inr rfl, by first | exact Nat.le_refl _ | exact Nat.zero_le _ | (simp [slen]; done) | (simp [slen] <;> omega)⟩⟩)
  · have q13 : (o.meth == 13) = false := beq_eq_false_iff_ne.2 m13
    by_cases m14 : o.meth = 14
    · rw [m14] at k4
      by_cases hl : L.length = 1
      · obtain ⟨x, rfl⟩ := List.length_eq_one_iff.1 hl
        obtain ⟨g, p, cap, rfl, hx⟩ := HO.out.1.one
        have hxb := World.block_lt_of_cell? w _ hx
        have HX : Hid (∀ W, Below w.heap.size w W → W.cell? ⟨g, p, none⟩ = some (.int .i64 x)) := fun W hb => (hb.cell (p := ⟨g, p, none⟩) hxb).trans hx
        clear hl hx hxb
        by_cases e : x = o.proc
        · have HA := Lib.hid (show doC o [x] = ([], 0, true) by rw [HK.out]; simp [mtxC, m14, e])
          have q : (x == o.proc) = true := beq_iff_eq.2 e
          clear m13 m14 e q13
          go_enter Try.func80, Try.ntmps80
          go_wp2_with fail
          go_quiet (fail)
          clear k3 k4
          have HS2 := Lib.hid (HS.out.on (below_drewN W1 nq))
          obtain ⟨W2, hW2⟩ : ∃ W, W1.drewN nq = W := ⟨_, rfl⟩
          rw [hW2] at HS2 ⊢
          clear hW2
          have l2 := HS2.out.hp.load
          obtain ⟨_, k1, _, _, _, k5, _⟩ := HS2.out.hp.cell
          have c0 := HX.out W2 HS2.out.hb
          clear k5 l2
          go_wp2_with fail
          go_quiet (fail)
          have HS3 := Lib.hid (HS2.out.on (below_drewN W2 nq))
          obtain ⟨W3, hW3⟩ : ∃ W, W2.drewN nq = W := ⟨_, rfl⟩
          rw [hW3] at HS3 ⊢
          clear hW3
          obtain ⟨W9, hst, hd⟩ := done_store (wr := W3) (b := w.heap.size + 1) (HS3.out).hz (.slice none 0 0) (0) true rfl
          have r0 := hd.c0
          have r1 := hd.c1
          have r2 := hd.c2
          have HD := Lib.hid hd
          clear hd
          go_wp2_with fail
          refine bodyPost_ret (v := .agg #[.slice none 0 0, .int .i64 (0), .bool true]) (by simp [results, Try.results80, go_sem, r0, r1, r2]) rfl ?_
          exact rdone_end HA.out (HS3.out) HD.out (.inl ⟨IntsOf.nil _ _ _, CapOk.mk (Nat.le_refl _), ⟨by first | exact .inl rfl | exact .inr rfl, by first | exact Nat.le_refl _ | exact Nat.zero_le _ | (simp [slen]; done) | (simp [slen] <;> omega)⟩⟩)
        · have HA := Lib.hid (show doC o [x] = ([], 0, false) by rw [HK.out]; simp [mtxC, noA, m14, e])
          have q : (x == o.proc) = false := beq_eq_false_iff_ne.2 e
          clear m13 m14 e q13
          go_enter Try.func80, Try.ntmps80
          go_wp2_with fail
          go_quiet (fail)
          clear k3 k4
          have HS2 := Lib.hid (HS.out.on (below_drewN W1 nq))
          obtain ⟨W2, hW2⟩ : ∃ W, W1.drewN nq = W := ⟨_, rfl⟩
          rw [hW2] at HS2 ⊢
          clear hW2
          have l2 := HS2.out.hp.load
          obtain ⟨_, k1, _, _, _, k5, _⟩ := HS2.out.hp.cell
          have c0 := HX.out W2 HS2.out.hb
          clear k5 l2
          go_wp2_with fail
          go_quiet (fail)
          have HS3 := Lib.hid (HS2.out.on (below_drewN W2 nq))
          obtain ⟨W3, hW3⟩ : ∃ W, W2.drewN nq = W := ⟨_, rfl⟩
          rw [hW3] at HS3 ⊢
          clear hW3
          obtain ⟨W9, hst, hd⟩ := done_store (wr := W3) (b := w.heap.size + 1) (HS3.out).hz (.slice none 0 0) (0) false rfl
          have r0 := hd.c0
          have r1 := hd.c1
          have r2 := hd.c2
          have HD := Lib.hid hd
          clear hd
          go_wp2_with fail
          refine bodyPost_ret (v := .agg #[.slice none 0 0, .int .i64 (0), .bool false]) (by simp [results, Try.results80, go_sem, r0, r1, r2]) rfl ?_
          exact rdone_end HA.out (HS3.out) HD.out (.inl ⟨IntsOf.nil _ _ _, CapOk.mk (Nat.le_refl _), ⟨by first | exact .inl rfl | exact .inr rfl, by first | exact Nat.le_refl _ | exact Nat.zero_le _ | (simp [slen]; done) | (simp [slen] <;> omega)⟩⟩)
      · have q1 : ((L.length : Int) == 1) = false := beq_eq_false_iff_ne.2 (by omega)
        have HA := Lib.hid (show doC o L = ([], 0, false) by
          have : L ≠ [o.proc] := fun e => hl (by rw [e]; rfl)
          rw [HK.out]
          simp [mtxC, noA, m13, this])
        obtain ⟨ao, cap, rfl, _⟩ := HI.out.parts
        clear m13 m14 hl q13
        go_enter Try.func80, Try.ntmps80
        go_wp2_with fail
        go_quiet (fail)
        clear k3 k4
        have HS2 := Lib.hid (HS.out.on (below_drewN W1 nq))
        obtain ⟨W2, hW2⟩ : ∃ W, W1.drewN nq = W := ⟨_, rfl⟩
        rw [hW2] at HS2 ⊢
        clear hW2
        have l2 := HS2.out.hp.load
        obtain ⟨_, k1, _, _, _, k5, _⟩ := HS2.out.hp.cell
        clear k5 l2
        go_wp2_with fail
        go_quiet (fail)
        have HS3 := Lib.hid (HS2.out.on (below_drewN W2 nq))
        obtain ⟨W3, hW3⟩ : ∃ W, W2.drewN nq = W := ⟨_, rfl⟩
        rw [hW3] at HS3 ⊢
        clear hW3
        obtain ⟨W9, hst, hd⟩ := done_store (wr := W3) (b := w.heap.size + 1) (HS3.out).hz (.slice none 0 0) (0) false rfl
        have r0 := hd.c0
        have r1 := hd.c1
        have r2 := hd.c2
        have HD := Lib.hid hd
        clear hd
        go_wp2_with fail
        refine bodyPost_ret (v := .agg #[.slice none 0 0, .int .i64 (0), .bool false]) (by simp [results, Try.results80, go_sem, r0, r1, r2]) rfl ?_
        exact rdone_end HA.out (HS3.out) HD.out (.inl ⟨IntsOf.nil _ _ _, CapOk.mk (Nat.le_refl _), ⟨by first | exact .inl rfl | exact .inr rfl, by first | exact Nat.le_refl _ | exact Nat.zero_le _ | (simp [slen]; done) | (simp [slen] <;> omega)⟩⟩)
    · have q14 : (o.meth == 14) = false := beq_eq_false_iff_ne.2 m14
      have HA := Lib.hid (show doC o L = ([], 0, false) by rw [HK.out]; simp [mtxC, noA, m13, m14])
      obtain ⟨ao, cap, rfl, _⟩ := HI.out.parts
      clear m13 m14
      go_enter Try.func80, Try.ntmps80
      go_wp2_with fail
      go_quiet (fail)
      clear k3 k4
      have HS2 := Lib.hid (HS.out.on (below_drewN W1 nq))
      obtain ⟨W2, hW2⟩ : ∃ W, W1.drewN nq = W := ⟨_, rfl⟩
      rw [hW2] at HS2 ⊢
      clear hW2
      have l2 := HS2.out.hp.load
      obtain ⟨_, k1, _, _, _, k5, _⟩ := HS2.out.hp.cell
      clear k5 l2
      go_wp2_with fail
      go_quiet (fail)
      have HS3 := Lib.hid (HS2.out.on (below_drewN W2 nq))
      obtain ⟨W3, hW3⟩ : ∃ W, W2.drewN nq = W := ⟨_, rfl⟩
      rw [hW3] at HS3 ⊢
      clear hW3
      obtain ⟨W9, hst, hd⟩ := done_store (wr := W3) (b := w.heap.size + 1) (HS3.out).hz (.slice none 0 0) (0) false rfl
      have r0 := hd.c0
      have r1 := hd.c1
      have r2 := hd.c2
      have HD := Lib.hid hd
      clear hd
      go_wp2_with fail
      refine bodyPost_ret (v := .agg #[.slice none 0 0, .int .i64 (0), .bool false]) (by simp [results, Try.results80, go_sem, r0, r1, r2]) rfl ?_
      exact rdone_end HA.out (HS3.out) HD.out (.inl ⟨IntsOf.nil _ _ _, CapOk.mk (Nat.le_refl _), ⟨by first | exact .inl rfl | exact .inr rfl, by first | exact Nat.le_refl _ | exact Nat.zero_le _ | (simp [slen]; done) | (simp [slen] <;> omega)⟩⟩)
set_option maxHeartbeats 8000000 in
theorem rother_any (o : OpV) (ho : o.Wf) {v : Value} {L : List Int} {w : World} (h : IntsOf w v L) (hcp : CapOk v) (h1 : o.kind ≠ 1) (h2 : o.kind ≠ 2) (h3 : o.kind ≠ 3) (h4 : o.kind ≠ 4) (h5 : o.kind ≠ 5) (h6 : o.kind ≠ 6) : Calls Try.prog 80 #[v, Value.agg #[Value.int .i64 o.id, Value.int .i64 o.proc, Value.int .i64 o.obj, Value.int .i64 o.kind, Value.int .i64 o.meth, Value.int .i64 o.arg, Value.int .i64 o.sec, Value.bool o.done, Value.int .i64 o.res, Value.int .i64 o.inv, Value.int .i64 o.ret]] w (RDone (doC o L) w v) := by
  have hS := StR.start w o
  obtain ⟨W1, hW1⟩ : ∃ W1, (w.alloc (.cells #[Value.int .i64 o.id, Value.int .i64 o.proc, Value.int .i64 o.obj, Value.int .i64 o.kind, Value.int .i64 o.meth, Value.int .i64 o.arg, Value.int .i64 o.sec, Value.bool o.done, Value.int .i64 o.res, Value.int .i64 o.inv, Value.int .i64 o.ret] 43)).alloc (.cells #[.slice none 0 0, .int .i64 0, .bool false] 143) = W1 := ⟨_, rfl⟩
  rw [hW1] at hS
  have HS := Lib.hid hS
  have HO := Lib.hid (And.intro h hcp)
  have HH := Lib.hid ho
  obtain ⟨_, _, _, k3, k4, _⟩ := hS.hp.cell
  clear hS h hcp ho
  have HA := Lib.hid (show doC o L = ([], 0, false) by simp [doC, noA, h1, h2, h3, h4, h5, h6])
  have q1 : (o.kind == 1) = false := beq_eq_false_iff_ne.2 h1
  have q2 : (o.kind == 2) = false := beq_eq_false_iff_ne.2 h2
  have q3 : (o.kind == 3) = false := beq_eq_false_iff_ne.2 h3
  have q4 : (o.kind == 4) = false := beq_eq_false_iff_ne.2 h4
  have q5 : (o.kind == 5) = false := beq_eq_false_iff_ne.2 h5
  have q6 : (o.kind == 6) = false := beq_eq_false_iff_ne.2 h6
  have q5n : (o.kind != 5) = true := bne_iff_ne.2 h5
  obtain ⟨ao, cap, rfl, _⟩ := HO.out.1.parts
  clear h1 h2 h3 h4 h5 h6
  go_enter Try.func80, Try.ntmps80
  go_wp2_with fail
  go_quiet (fail)
  clear k3 k4
  have HS2 := Lib.hid (HS.out.on (below_drewN W1 nq))
  obtain ⟨W2, hW2⟩ : ∃ W, W1.drewN nq = W := ⟨_, rfl⟩
  rw [hW2] at HS2 ⊢
  clear hW2
  have l2 := HS2.out.hp.load
  obtain ⟨_, k1, _, _, _, k5, _⟩ := HS2.out.hp.cell
  clear k5 l2
  go_wp2_with fail
  go_quiet (fail)
  have HS3 := Lib.hid (HS2.out.on (below_drewN W2 nq))
  obtain ⟨W3, hW3⟩ : ∃ W, W2.drewN nq = W := ⟨_, rfl⟩
  rw [hW3] at HS3 ⊢
  clear hW3
  obtain ⟨W9, hst, hd⟩ := done_store (wr := W3) (b := w.heap.size + 1) (HS3.out).hz (.slice none 0 0) (0) false rfl
  have r0 := hd.c0
  have r1 := hd.c1
  have r2 := hd.c2
  have HD := Lib.hid hd
  clear hd
  go_wp2_with fail
  refine bodyPost_ret (v := .agg #[.slice none 0 0, .int .i64 (0), .bool false]) (by simp [results, Try.results80, go_sem, r0, r1, r2]) rfl ?_
  exact rdone_end HA.out (HS3.out) HD.out (.inl ⟨IntsOf.nil _ _ _, CapOk.mk (Nat.le_refl _), ⟨by first | exact .inl rfl | exact .inr rfl, by first | exact Nat.le_refl _ | exact Nat.zero_le _ | (simp [slen]; done) | (simp [slen] <;> omega)⟩⟩)
end Go.Proofs.Ytppjmmdiglnkfaa
