/- The reference's Do: queues and stacks. -/
import Derived.Test.YtppjmmdiglnkfaaQaz
namespace Go.Proofs.Ytppjmmdiglnkfaa
set_option maxRecDepth 100000
open Go.ChangeShapes Go.WideShapes Go.ChangeAt Go.RowKit Go.PlainAid Go.Deep

attribute [local go_sem ↓ high] store_d load_op
set_option maxHeartbeats 8000000 in
theorem rque_any (o : OpV) (ho : o.Wf) {v : Value} {L : List Int} {w : World} (h : IntsOf w v L) (hcp : CapOk v) (hk : o.kind = 3) (hl : L.length ≤ 17592186044413) : Calls Try.prog 80 #[v, Value.agg #[Value.int .i64 o.id, Value.int .i64 o.proc, Value.int .i64 o.obj, Value.int .i64 o.kind, Value.int .i64 o.meth, Value.int .i64 o.arg, Value.int .i64 o.sec, Value.bool o.done, Value.int .i64 o.res, Value.int .i64 o.inv, Value.int .i64 o.ret]] w (RDone (doC o L) w v) := by
  have hS := StR.start w o
  obtain ⟨W1, hW1⟩ : ∃ W1, (w.alloc (.cells #[Value.int .i64 o.id, Value.int .i64 o.proc, Value.int .i64 o.obj, Value.int .i64 o.kind, Value.int .i64 o.meth, Value.int .i64 o.arg, Value.int .i64 o.sec, Value.bool o.done, Value.int .i64 o.res, Value.int .i64 o.inv, Value.int .i64 o.ret] 43)).alloc (.cells #[.slice none 0 0, .int .i64 0, .bool false] 143) = W1 := ⟨_, rfl⟩
  rw [hW1] at hS
  have HS := Lib.hid hS
  have HO := Lib.hid (And.intro h hcp)
  have HH := Lib.hid ho
  obtain ⟨_, _, _, k3, k4, _⟩ := hS.hp.cell
  rw [hk] at k3
  clear hS h hcp ho
  have HK := Lib.hid (show doC o L = queC o L by simp [doC, hk])
  have HL := Lib.hid hl
  clear hk hl
  have HI := Lib.hid (HO.out.1.on HS.out.hb)
  by_cases m6 : o.meth = 6
  · rw [m6] at k4
    have HA := Lib.hid (show doC o L = (L ++ [o.arg], 0, true) by rw [HK.out]; simp [queC, m6])
    clear m6
    go_enter Try.func80, Try.ntmps80
    go_wp2_with fail
    go_quiet (fail)
    clear k3 k4
    have HS2 := Lib.hid (HS.out.on (below_drewN W1 nq))
    obtain ⟨W2, hW2⟩ : ∃ W, W1.drewN nq = W := ⟨_, rfl⟩
    rw [hW2] at HS2 ⊢
    clear hW2
    have l2 := HS2.out.hp.load
    obtain ⟨_, k1, _, _, _, k5, _⟩ := HS2.out.hp.cell
    have HI2 := Lib.hid (HO.out.1.on HS2.out.hb)
    have HS2d := Lib.hid (HS2.out.on (Below.refl _ _).drew)
    have k5d : W2.drew.cell? ⟨w.heap.size, 5, none⟩ = some (.int .i64 o.arg) := k5
    have k5e : (W2.alloc (.cells #[] 3)).cell? ⟨w.heap.size, 5, none⟩ = some (.int .i64 o.arg) := (HS2.out.on (show Below W2.heap.size W2 (W2.alloc (.cells #[] 3)) by go_grown)).hp.cell.2.2.2.2.2.1
    have HEX : Hid (((W2.alloc (.cells #[] 3)).alloc (.cells #[.int .i64 o.arg] 3)).heap[W2.heap.size + 1]? = some (.cells #[.int .i64 o.arg] 3 (0, 0))) := by
      have := heap_alloc_new (W2.alloc (.cells #[] 3)) (.cells #[.int .i64 o.arg] 3)
      rw [World.size_alloc] at this
      exact this
    have HXE : Hid (((W2.alloc (.cells #[.int .i64 o.arg] 3)).alloc (.cells #[] 3)).heap[W2.heap.size]? = some (.cells #[.int .i64 o.arg] 3 (0, 0))) := (heap_alloc_old (W2.alloc (.cells #[.int .i64 o.arg] 3)) (.cells #[] 3) (by simp)).trans (heap_alloc_new W2 (.cells #[.int .i64 o.arg] 3))
    clear k1 l2
    go_wp2_with fail
    go_region_law (first
      | ((refine step_app_ex (first_app (e := _) (L := L) (HI2.out.on (by go_grown)) (by have := HL.out; omega)) (by rfl) (.tmp 35) (.tmp 36) (by rfl) (by rfl) (by rfl) (by rfl) ?_); rintro v1 W4 ⟨ho1, hb1⟩; have HO1 := Lib.hid ho1; have HB1 := Lib.hid hb1; have HS4 := Lib.hid ((HS2.out.on (show Below W2.heap.size W2 _ by go_grown)).on hb1); have k5' : W4.cell? ⟨w.heap.size, 5, none⟩ = some (.int .i64 o.arg) := HS4.out.hp.cell.2.2.2.2.2.1; clear ho1 hb1)
      | ((refine step_app_ex (own_pushB (n₀ := w.heap.size + 2) ((HO1.out.base (by have := HS2.out.hs; simp; omega)).on (by go_grown)) (by have := HS4.out.hs; simp; omega) (by have := HL.out; omega) o.arg HH.out.arg (heap_alloc_new W4 _)) (by rfl) (.tmp 37) (.tmp 40) (by rfl) (by rfl) (by rfl) (by rfl) ?_); rintro v2 W5 ⟨ho2, hm2⟩; obtain ⟨ao2, cap2, hv2⟩ := ho2.len; rw [List.length_append, List.length_singleton] at hv2; subst hv2; have HO2 := Lib.hid ho2; have HS5 := Lib.hid ((HS4.out.on (show Below W4.heap.size W4 _ by go_grown)).below2 (hm2.below ((HO1.out.base (by have := HS2.out.hs; simp; omega)).on (by go_grown)) (by have := HS4.out.hs; simp; omega))); obtain ⟨W9, hst, hd⟩ := done_store HS5.out.hz (.slice ao2 (L.length + 1) cap2) 0 true rfl; have r0 := hd.c0; have r1 := hd.c1; have r2 := hd.c2; have HD := Lib.hid hd; clear hd ho2 hm2)
      | ((refine step_app_ex (own_pushB (n₀ := w.heap.size + 2) (HO1.out.base (by have := HS2.out.hs; simp; omega)) (by have := HS4.out.hs; simp; omega) (by have := HL.out; omega) o.arg HH.out.arg ((HB1.out.block (W2.heap.size + 1) (by simp)).trans HEX.out)) (by rfl) (.tmp 37) (.tmp 40) (by rfl) (by rfl) (by rfl) (by rfl) ?_); rintro v2 W5 ⟨ho2, hm2⟩; obtain ⟨ao2, cap2, hv2⟩ := ho2.len; rw [List.length_append, List.length_singleton] at hv2; subst hv2; have HO2 := Lib.hid ho2; have HS5 := Lib.hid ((HS4.out.on (show Below W4.heap.size W4 _ by go_grown)).below2 (hm2.below (HO1.out.base (by have := HS2.out.hs; simp; omega)) (by have := HS4.out.hs; simp; omega))); obtain ⟨W9, hst, hd⟩ := done_store HS5.out.hz (.slice ao2 (L.length + 1) cap2) 0 true rfl; have r0 := hd.c0; have r1 := hd.c1; have r2 := hd.c2; have HD := Lib.hid hd; clear hd ho2 hm2)
      | ((refine step_app_ex (own_pushB (n₀ := w.heap.size + 2) (HO1.out.base (by have := HS2.out.hs; simp; omega)) (by have := HS4.out.hs; simp; omega) (by have := HL.out; omega) o.arg HH.out.arg ((HB1.out.block W2.heap.size (by simp; omega)).trans HXE.out)) (by rfl) (.tmp 37) (.tmp 40) (by rfl) (by rfl) (by rfl) (by rfl) ?_); rintro v2 W5 ⟨ho2, hm2⟩; obtain ⟨ao2, cap2, hv2⟩ := ho2.len; rw [List.length_append, List.length_singleton] at hv2; subst hv2; have HO2 := Lib.hid ho2; have HS5 := Lib.hid ((HS4.out.on (show Below W4.heap.size W4 _ by go_grown)).below2 (hm2.below (HO1.out.base (by have := HS2.out.hs; simp; omega)) (by have := HS4.out.hs; simp; omega))); obtain ⟨W9, hst, hd⟩ := done_store HS5.out.hz (.slice ao2 (L.length + 1) cap2) 0 true rfl; have r0 := hd.c0; have r1 := hd.c1; have r2 := hd.c2; have HD := Lib.hid hd; clear hd ho2 hm2)
      | fail)
    all_goals go_wp2_with fail
    all_goals refine bodyPost_ret (v := .agg #[.slice ao2 (L.length + 1) cap2, .int .i64 0, .bool true]) (by simp [results, Try.results80, go_sem, r0, r1, r2]) rfl ?_
    all_goals exact rdone_end HA.out HS5.out HD.out (.inr HO2.out)
  · have q6 : (o.meth == 6) = false := beq_eq_false_iff_ne.2 m6
    by_cases m7 : o.meth = 7
    · rw [m7] at k4
      cases L with
      | nil =>
        have HA := Lib.hid (show doC o [] = ([], -1, true) by rw [HK.out]; simp [queC, m7])
        obtain ⟨ao, cap, rfl, _⟩ := HI.out.parts
        clear m7
        go_enter Try.func80, Try.ntmps80
        go_wp2_with fail
        go_quiet (fail)
        clear k3 k4
        have HS2 := Lib.hid (HS.out.on (below_drewN W1 nq))
        obtain ⟨W2, hW2⟩ : ∃ W, W1.drewN nq = W := ⟨_, rfl⟩
        rw [hW2] at HS2 ⊢
        clear hW2
        have l2 := HS2.out.hp.load
        obtain ⟨_, k1, _, _, _, k5, _⟩ := HS2.out.hp.cell
        obtain ⟨W9, hst, hd⟩ := done_store (wr := W2) (b := w.heap.size + 1) (HS2.out).hz (.slice none 0 0) (-1) true rfl
        have r0 := hd.c0
        have r1 := hd.c1
        have r2 := hd.c2
        have HD := Lib.hid hd
        clear hd
        go_wp2_with fail
        refine bodyPost_ret (v := .agg #[.slice none 0 0, .int .i64 (-1), .bool true]) (by simp [results, Try.results80, go_sem, r0, r1, r2]) rfl ?_
        exact rdone_end HA.out (HS2.out) HD.out (.inl ⟨IntsOf.nil _ _ _, CapOk.mk (Nat.le_refl _), ⟨by first | exact .inl rfl | exact .inr rfl, by first | exact Nat.le_refl _ | exact Nat.zero_le _ | (simp [slen]; done) | (simp [slen] <;> omega)⟩⟩)
      | cons x r =>
        have HA := Lib.hid (show doC o (x :: r) = (r, x, true) by rw [HK.out]; simp [queC, m7])
        obtain ⟨g, p, cap, rfl, hcap, hx, ht, ht1⟩ := IntsOf.tail HO.out.1 HO.out.2
        have HT := Lib.hid (And.intro ht ht1)
        have qe : (((r.length : Int) + 1) == 0) = false := beq_eq_false_iff_ne.2 (by omega)
        have HX : Hid (∀ W, Below w.heap.size w W → W.cell? ⟨g, p, none⟩ = some (.int .i64 x)) := (fun W hb => (hb.cell (p := ⟨g, p, none⟩) (World.block_lt_of_cell? w _ hx)).trans hx)
        have HCL := Lib.hid hcap
        clear m7 ht ht1 hx hcap
        go_enter Try.func80, Try.ntmps80
        go_wp2_with fail
        go_quiet (fail)
        clear k3 k4
        have HS2 := Lib.hid (HS.out.on (below_drewN W1 nq))
        obtain ⟨W2, hW2⟩ : ∃ W, W1.drewN nq = W := ⟨_, rfl⟩
        rw [hW2] at HS2 ⊢
        clear hW2
        have l2 := HS2.out.hp.load
        obtain ⟨_, k1, _, _, _, k5, _⟩ := HS2.out.hp.cell
        have c0 := HX.out W2 HS2.out.hb
        clear k1 k5 l2
        by_cases h1 : cap = 1
        · subst h1
          have c1 := HX.out W2.drew (HS2.out.hb.drew)
          obtain ⟨W9, hst, hd⟩ := done_store (wr := W2.drew) (b := w.heap.size + 1) (HS2.out.on (Below.refl _ _).drew).hz (.slice (some ⟨g, p, none⟩) r.length 0) (x) true rfl
          have r0 := hd.c0
          have r1 := hd.c1
          have r2 := hd.c2
          have HD := Lib.hid hd
          clear hd
          go_wp2_with fail
          go_region
          all_goals go_wp2_with fail
          refine bodyPost_ret (v := .agg #[.slice (some ⟨g, p, none⟩) r.length 0, .int .i64 (x), .bool true]) (by simp [results, Try.results80, go_sem, r0, r1, r2]) rfl ?_
          exact rdone_end HA.out (HS2.out.on (Below.refl _ _).drew) HD.out (.inl ⟨(HT.out.2 (by simp)).1, CapOk.mk (by have := (HT.out.2 (by simp)).2; omega), ⟨by first | exact .inl rfl | exact .inr rfl, by first | exact Nat.le_refl _ | exact Nat.zero_le _ | (simp [slen]; done) | (simp [slen] <;> omega)⟩⟩)
        · have c1 := HX.out W2.drew (HS2.out.hb.drew)
          obtain ⟨W9, hst, hd⟩ := done_store (wr := W2.drew) (b := w.heap.size + 1) (HS2.out.on (Below.refl _ _).drew).hz (.slice (some ⟨g, p + 1, none⟩) r.length (cap - 1)) (x) true rfl
          have r0 := hd.c0
          have r1 := hd.c1
          have r2 := hd.c2
          have HD := Lib.hid hd
          clear hd
          go_wp2_with fail
          go_region
          all_goals go_wp2_with fail
          refine bodyPost_ret (v := .agg #[.slice (some ⟨g, p + 1, none⟩) r.length (cap - 1), .int .i64 (x), .bool true]) (by simp [results, Try.results80, go_sem, r0, r1, r2]) rfl ?_
          exact rdone_end HA.out (HS2.out.on (Below.refl _ _).drew) HD.out (.inl ⟨HT.out.1, CapOk.mk (by have := HCL.out; omega), ⟨by first | exact .inl rfl | exact .inr rfl, by first | exact Nat.le_refl _ | exact Nat.zero_le _ | (simp [slen]; done) | (simp [slen] <;> omega)⟩⟩)
    · have q7 : (o.meth == 7) = false := beq_eq_false_iff_ne.2 m7
      have HA := Lib.hid (show doC o L = ([], 0, false) by rw [HK.out]; simp [queC, noA, m6, m7])
      obtain ⟨ao, cap, rfl, _⟩ := HI.out.parts
      clear m6 m7
      go_enter Try.func80, Try.ntmps80
      go_wp2_with fail
      go_quiet (fail)
      clear k3 k4
      have HS2 := Lib.hid (HS.out.on (below_drewN W1 nq))
      obtain ⟨W2, hW2⟩ : ∃ W, W1.drewN nq = W := ⟨_, rfl⟩
      rw [hW2] at HS2 ⊢
      clear hW2
      have l2 := HS2.out.hp.load
      obtain ⟨_, k1, _, _, _, k5, _⟩ := HS2.out.hp.cell
      go_wp2_with fail
      go_quiet (fail)
      have HS3 := Lib.hid (HS2.out.on (below_drewN W2 nq))
      obtain ⟨W3, hW3⟩ : ∃ W, W2.drewN nq = W := ⟨_, rfl⟩
      rw [hW3] at HS3 ⊢
      clear hW3
      obtain ⟨W9, hst, hd⟩ := done_store (wr := W3) (b := w.heap.size + 1) (HS3.out).hz (.slice none 0 0) (0) false rfl
      have r0 := hd.c0
      have r1 := hd.c1
      have r2 := hd.c2
      have HD := Lib.hid hd
      clear hd
      go_wp2_with fail
      refine bodyPost_ret (v := .agg #[.slice none 0 0, .int .i64 (0), .bool false]) (by simp [results, Try.results80, go_sem, r0, r1, r2]) rfl ?_
      exact rdone_end HA.out (HS3.out) HD.out (.inl ⟨IntsOf.nil _ _ _, CapOk.mk (Nat.le_refl _), ⟨by first | exact .inl rfl | exact .inr rfl, by first | exact Nat.le_refl _ | exact Nat.zero_le _ | (simp [slen]; done) | (simp [slen] <;> omega)⟩⟩)
set_option maxHeartbeats 8000000 in
theorem rstk_any (o : OpV) (ho : o.Wf) {v : Value} {L : List Int} {w : World} (h : IntsOf w v L) (hcp : CapOk v) (hk : o.kind = 4) (hl : L.length ≤ 17592186044413) : Calls Try.prog 80 #[v, Value.agg #[Value.int .i64 o.id, Value.int .i64 o.proc, Value.int .i64 o.obj, Value.int .i64 o.kind, Value.int .i64 o.meth, Value.int .i64 o.arg, Value.int .i64 o.sec, Value.bool o.done, Value.int .i64 o.res, Value.int .i64 o.inv, Value.int .i64 o.ret]] w (RDone (doC o L) w v) := by
  have hS := StR.start w o
  obtain ⟨W1, hW1⟩ : ∃ W1, (w.alloc (.cells #[Value.int .i64 o.id, Value.int .i64 o.proc, Value.int .i64 o.obj, Value.int .i64 o.kind, Value.int .i64 o.meth, Value.int .i64 o.arg, Value.int .i64 o.sec, Value.bool o.done, Value.int .i64 o.res, Value.int .i64 o.inv, Value.int .i64 o.ret] 43)).alloc (.cells #[.slice none 0 0, .int .i64 0, .bool false] 143) = W1 := ⟨_, rfl⟩
  rw [hW1] at hS
  have HS := Lib.hid hS
  have HO := Lib.hid (And.intro h hcp)
  have HH := Lib.hid ho
  obtain ⟨_, _, _, k3, k4, _⟩ := hS.hp.cell
  rw [hk] at k3
  clear hS h hcp ho
  have HK := Lib.hid (show doC o L = stkC o L by simp [doC, hk])
  have HL := Lib.hid hl
  clear hk hl
  have HI := Lib.hid (HO.out.1.on HS.out.hb)
  by_cases m8 : o.meth = 8
  · rw [m8] at k4
    have HA := Lib.hid (show doC o L = (L ++ [o.arg], 0, true) by rw [HK.out]; simp [stkC, m8])
    clear m8
    go_enter Try.func80, Try.ntmps80
    go_wp2_with fail
    go_quiet (fail)
    clear k3 k4
    have HS2 := Lib.hid (HS.out.on (below_drewN W1 nq))
    obtain ⟨W2, hW2⟩ : ∃ W, W1.drewN nq = W := ⟨_, rfl⟩
    rw [hW2] at HS2 ⊢
    clear hW2
    have l2 := HS2.out.hp.load
    obtain ⟨_, k1, _, _, _, k5, _⟩ := HS2.out.hp.cell
    have HI2 := Lib.hid (HO.out.1.on HS2.out.hb)
    have HS2d := Lib.hid (HS2.out.on (Below.refl _ _).drew)
    have k5d : W2.drew.cell? ⟨w.heap.size, 5, none⟩ = some (.int .i64 o.arg) := k5
    have k5e : (W2.alloc (.cells #[] 3)).cell? ⟨w.heap.size, 5, none⟩ = some (.int .i64 o.arg) := (HS2.out.on (show Below W2.heap.size W2 (W2.alloc (.cells #[] 3)) by go_grown)).hp.cell.2.2.2.2.2.1
    have HEX : Hid (((W2.alloc (.cells #[] 3)).alloc (.cells #[.int .i64 o.arg] 3)).heap[W2.heap.size + 1]? = some (.cells #[.int .i64 o.arg] 3 (0, 0))) := by
      have := heap_alloc_new (W2.alloc (.cells #[] 3)) (.cells #[.int .i64 o.arg] 3)
      rw [World.size_alloc] at this
      exact this
    have HXE : Hid (((W2.alloc (.cells #[.int .i64 o.arg] 3)).alloc (.cells #[] 3)).heap[W2.heap.size]? = some (.cells #[.int .i64 o.arg] 3 (0, 0))) := (heap_alloc_old (W2.alloc (.cells #[.int .i64 o.arg] 3)) (.cells #[] 3) (by simp)).trans (heap_alloc_new W2 (.cells #[.int .i64 o.arg] 3))
    clear k1 l2
    go_wp2_with fail
    go_region_law (first
      | ((refine step_app_ex (first_app (e := _) (L := L) (HI2.out.on (by go_grown)) (by have := HL.out; omega)) (by rfl) (.tmp 35) (.tmp 36) (by rfl) (by rfl) (by rfl) (by rfl) ?_); rintro v1 W4 ⟨ho1, hb1⟩; have HO1 := Lib.hid ho1; have HB1 := Lib.hid hb1; have HS4 := Lib.hid ((HS2.out.on (show Below W2.heap.size W2 _ by go_grown)).on hb1); have k5' : W4.cell? ⟨w.heap.size, 5, none⟩ = some (.int .i64 o.arg) := HS4.out.hp.cell.2.2.2.2.2.1; clear ho1 hb1)
      | ((refine step_app_ex (own_pushB (n₀ := w.heap.size + 2) ((HO1.out.base (by have := HS2.out.hs; simp; omega)).on (by go_grown)) (by have := HS4.out.hs; simp; omega) (by have := HL.out; omega) o.arg HH.out.arg (heap_alloc_new W4 _)) (by rfl) (.tmp 37) (.tmp 40) (by rfl) (by rfl) (by rfl) (by rfl) ?_); rintro v2 W5 ⟨ho2, hm2⟩; obtain ⟨ao2, cap2, hv2⟩ := ho2.len; rw [List.length_append, List.length_singleton] at hv2; subst hv2; have HO2 := Lib.hid ho2; have HS5 := Lib.hid ((HS4.out.on (show Below W4.heap.size W4 _ by go_grown)).below2 (hm2.below ((HO1.out.base (by have := HS2.out.hs; simp; omega)).on (by go_grown)) (by have := HS4.out.hs; simp; omega))); obtain ⟨W9, hst, hd⟩ := done_store HS5.out.hz (.slice ao2 (L.length + 1) cap2) 0 true rfl; have r0 := hd.c0; have r1 := hd.c1; have r2 := hd.c2; have HD := Lib.hid hd; clear hd ho2 hm2)
      | ((refine step_app_ex (own_pushB (n₀ := w.heap.size + 2) (HO1.out.base (by have := HS2.out.hs; simp; omega)) (by have := HS4.out.hs; simp; omega) (by have := HL.out; omega) o.arg HH.out.arg ((HB1.out.block (W2.heap.size + 1) (by simp)).trans HEX.out)) (by rfl) (.tmp 37) (.tmp 40) (by rfl) (by rfl) (by rfl) (by rfl) ?_); rintro v2 W5 ⟨ho2, hm2⟩; obtain ⟨ao2, cap2, hv2⟩ := ho2.len; rw [List.length_append, List.length_singleton] at hv2; subst hv2; have HO2 := Lib.hid ho2; have HS5 := Lib.hid ((HS4.out.on (show Below W4.heap.size W4 _ by go_grown)).below2 (hm2.below (HO1.out.base (by have := HS2.out.hs; simp; omega)) (by have := HS4.out.hs; simp; omega))); obtain ⟨W9, hst, hd⟩ := done_store HS5.out.hz (.slice ao2 (L.length + 1) cap2) 0 true rfl; have r0 := hd.c0; have r1 := hd.c1; have r2 := hd.c2; have HD := Lib.hid hd; clear hd ho2 hm2)
      | ((refine step_app_ex (own_pushB (n₀ := w.heap.size + 2) (HO1.out.base (by have := HS2.out.hs; simp; omega)) (by have := HS4.out.hs; simp; omega) (by have := HL.out; omega) o.arg HH.out.arg ((HB1.out.block W2.heap.size (by simp; omega)).trans HXE.out)) (by rfl) (.tmp 37) (.tmp 40) (by rfl) (by rfl) (by rfl) (by rfl) ?_); rintro v2 W5 ⟨ho2, hm2⟩; obtain ⟨ao2, cap2, hv2⟩ := ho2.len; rw [List.length_append, List.length_singleton] at hv2; subst hv2; have HO2 := Lib.hid ho2; have HS5 := Lib.hid ((HS4.out.on (show Below W4.heap.size W4 _ by go_grown)).below2 (hm2.below (HO1.out.base (by have := HS2.out.hs; simp; omega)) (by have := HS4.out.hs; simp; omega))); obtain ⟨W9, hst, hd⟩ := done_store HS5.out.hz (.slice ao2 (L.length + 1) cap2) 0 true rfl; have r0 := hd.c0; have r1 := hd.c1; have r2 := hd.c2; have HD := Lib.hid hd; clear hd ho2 hm2)
      | fail)
    all_goals go_wp2_with fail
    all_goals refine bodyPost_ret (v := .agg #[.slice ao2 (L.length + 1) cap2, .int .i64 0, .bool true]) (by simp [results, Try.results80, go_sem, r0, r1, r2]) rfl ?_
    all_goals exact rdone_end HA.out HS5.out HD.out (.inr HO2.out)
  · have q8 : (o.meth == 8) = false := beq_eq_false_iff_ne.2 m8
    by_cases m9 : o.meth = 9
    · rw [m9] at k4
      rcases List.eq_nil_or_concat L with rfl | ⟨r, x, rfl⟩
      · have HA := Lib.hid (show doC o [] = ([], -1, true) by rw [HK.out]; simp [stkC, m9])
        obtain ⟨ao, cap, rfl, _⟩ := HI.out.parts
        clear m9
        go_enter Try.func80, Try.ntmps80
        go_wp2_with fail
        go_quiet (fail)
        clear k3 k4
        have HS2 := Lib.hid (HS.out.on (below_drewN W1 nq))
        obtain ⟨W2, hW2⟩ : ∃ W, W1.drewN nq = W := ⟨_, rfl⟩
        rw [hW2] at HS2 ⊢
        clear hW2
        have l2 := HS2.out.hp.load
        obtain ⟨_, k1, _, _, _, k5, _⟩ := HS2.out.hp.cell
        obtain ⟨W9, hst, hd⟩ := done_store (wr := W2) (b := w.heap.size + 1) (HS2.out).hz (.slice none 0 0) (-1) true rfl
        have r0 := hd.c0
        have r1 := hd.c1
        have r2 := hd.c2
        have HD := Lib.hid hd
        clear hd
        go_wp2_with fail
        refine bodyPost_ret (v := .agg #[.slice none 0 0, .int .i64 (-1), .bool true]) (by simp [results, Try.results80, go_sem, r0, r1, r2]) rfl ?_
        exact rdone_end HA.out (HS2.out) HD.out (.inl ⟨IntsOf.nil _ _ _, CapOk.mk (Nat.le_refl _), ⟨by first | exact .inl rfl | exact .inr rfl, by first | exact Nat.le_refl _ | exact Nat.zero_le _ | (simp [slen]; done) | (simp [slen] <;> omega)⟩⟩)
      · rw [List.concat_eq_append] at *
        have HA := Lib.hid (show doC o (r ++ [x]) = (r, x, true) by rw [HK.out]; simp [stkC, m9])
        obtain ⟨g, p, cap, rfl, hcap, hx, ht⟩ := IntsOf.front HO.out.1 HO.out.2
        have HT := Lib.hid ht
        have qe : (((r.length : Int) + 1) == 0) = false := beq_eq_false_iff_ne.2 (by omega)
        have hw : wrap64 (r.length : Int) = (r.length : Int) := by unfold wrap64; have hb := HL.out; simp at hb; omega
        have HX : Hid (∀ W, Below w.heap.size w W → W.cell? ⟨g, p + r.length, none⟩ = some (.int .i64 x)) := (fun W hb => (hb.cell (p := ⟨g, p + r.length, none⟩) (World.block_lt_of_cell? w _ hx)).trans hx)
        have HCL := Lib.hid hcap
        clear m9 ht hx hcap
        go_enter Try.func80, Try.ntmps80
        go_wp2_with fail
        go_quiet (fail)
        clear k3 k4
        have HS2 := Lib.hid (HS.out.on (below_drewN W1 nq))
        obtain ⟨W2, hW2⟩ : ∃ W, W1.drewN nq = W := ⟨_, rfl⟩
        rw [hW2] at HS2 ⊢
        clear hW2
        have l2 := HS2.out.hp.load
        obtain ⟨_, k1, _, _, _, k5, _⟩ := HS2.out.hp.cell
        have c0 := HX.out W2 HS2.out.hb
        have c1 := HX.out W2.drew HS2.out.hb.drew
        have q9 : (r.length : Int) ≤ (cap : Int) := by have := HCL.out; omega
        clear k1 k5 l2
        obtain ⟨W9, hst, hd⟩ := done_store (wr := W2.drew) (b := w.heap.size + 1) (HS2.out.on (Below.refl _ _).drew).hz (.slice (some ⟨g, p, none⟩) r.length cap) (x) true rfl
        have r0 := hd.c0
        have r1 := hd.c1
        have r2 := hd.c2
        have HD := Lib.hid hd
        clear hd
        go_wp2_with fail
        go_region
        all_goals go_wp2_with fail
        refine bodyPost_ret (v := .agg #[.slice (some ⟨g, p, none⟩) r.length cap, .int .i64 (x), .bool true]) (by simp [results, Try.results80, go_sem, r0, r1, r2]) rfl ?_
        exact rdone_end HA.out (HS2.out.on (Below.refl _ _).drew) HD.out (.inl ⟨HT.out, CapOk.mk (by have := HCL.out; omega), ⟨by first | exact .inl rfl | exact .inr rfl, by first | exact Nat.le_refl _ | exact Nat.zero_le _ | (simp [slen]; done) | (simp [slen] <;> omega)⟩⟩)
    · have q9 : (o.meth == 9) = false := beq_eq_false_iff_ne.2 m9
      have HA := Lib.hid (show doC o L = ([], 0, false) by rw [HK.out]; simp [stkC, noA, m8, m9])
      obtain ⟨ao, cap, rfl, _⟩ := HI.out.parts
      clear m8 m9
      go_enter Try.func80, Try.ntmps80
      go_wp2_with fail
      go_quiet (fail)
      clear k3 k4
      have HS2 := Lib.hid (HS.out.on (below_drewN W1 nq))
      obtain ⟨W2, hW2⟩ : ∃ W, W1.drewN nq = W := ⟨_, rfl⟩
      rw [hW2] at HS2 ⊢
      clear hW2
      have l2 := HS2.out.hp.load
      obtain ⟨_, k1, _, _, _, k5, _⟩ := HS2.out.hp.cell
      go_wp2_with fail
      go_quiet (fail)
      have HS3 := Lib.hid (HS2.out.on (below_drewN W2 nq))
      obtain ⟨W3, hW3⟩ : ∃ W, W2.drewN nq = W := ⟨_, rfl⟩
      rw [hW3] at HS3 ⊢
      clear hW3
      obtain ⟨W9, hst, hd⟩ := done_store (wr := W3) (b := w.heap.size + 1) (HS3.out).hz (.slice none 0 0) (0) false rfl
      have r0 := hd.c0
      have r1 := hd.c1
      have r2 := hd.c2
      have HD := Lib.hid hd
      clear hd
      go_wp2_with fail
      refine bodyPost_ret (v := .agg #[.slice none 0 0, .int .i64 (0), .bool false]) (by simp [results, Try.results80, go_sem, r0, r1, r2]) rfl ?_
      exact rdone_end HA.out (HS3.out) HD.out (.inl ⟨IntsOf.nil _ _ _, CapOk.mk (Nat.le_refl _), ⟨by first | exact .inl rfl | exact .inr rfl, by first | exact Nat.le_refl _ | exact Nat.zero_le _ | (simp [slen]; done) | (simp [slen] <;> omega)⟩⟩)
end Go.Proofs.Ytppjmmdiglnkfaa
