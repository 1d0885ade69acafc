/- The reference's Do: sets. -/
import Derived.Test.YtpooekmogfkkjaaSMoL
namespace Go.Proofs.Ytpooekmogfkkjaa
set_option maxRecDepth 100000
open Go.ChangeShapes Go.WideShapes Go.ChangeAt Go.RowKit Go.PlainAid Go.Deep

attribute [local go_sem ↓ high] store_d load_op
set_option maxHeartbeats 8000000 in
theorem rset_any (o : OpV) (ho : o.Wf) {v : Value} {L : List Int} {w : World} (h : IntsOf w v L) (hcp : CapOk v) (hk : o.kind = 5) (hR : risesB L = true) (hl : L.length ≤ 17592186044413) : Calls Try.prog 58 #[v, Value.agg #[Value.int .i64 o.id, Value.int .i64 o.proc, Value.int .i64 o.obj, Value.int .i64 o.kind, Value.int .i64 o.meth, Value.int .i64 o.arg, Value.int .i64 o.sec, Value.bool o.done, Value.int .i64 o.res, Value.int .i64 o.inv, Value.int .i64 o.ret]] w (RDone (doC o L) w v) := by
  have hS := StR.start w o
  obtain ⟨W1, hW1⟩ : ∃ W1, (w.alloc (.cells #[Value.int .i64 o.id, Value.int .i64 o.proc, Value.int .i64 o.obj, Value.int .i64 o.kind, Value.int .i64 o.meth, Value.int .i64 o.arg, Value.int .i64 o.sec, Value.bool o.done, Value.int .i64 o.res, Value.int .i64 o.inv, Value.int .i64 o.ret] 77)).alloc (.cells #[.slice none 0 0, .int .i64 0, .bool false] 121) = W1 := ⟨_, rfl⟩
  rw [hW1] at hS
  have HS := Lib.hid hS
  have HO := Lib.hid (And.intro h hcp)
  have HH := Lib.hid ho
  obtain ⟨_, _, _, k3, k4, _⟩ := hS.hp.cell
  rw [hk] at k3
  clear hS h hcp ho
  have hq : L.Pairwise (· < ·) := by
    by_cases c : Rise L
    · exact rise_pair c
    · rw [risesB_no c] at hR; cases hR
  have HK := Lib.hid (show doC o L = setC o L by simp [doC, hk])
  have HL := Lib.hid hl
  obtain ⟨b, hb⟩ : ∃ b, L.contains o.arg = b := ⟨_, rfl⟩
  have H12 : Hid (o.meth = 12 → doC o L = (L, b2i b, true)) := fun m => by rw [HK.out]; simp only [setC, hR, m, hb]; rfl
  have H10t : Hid (o.meth = 10 → b = true → doC o L = (L, 0, true)) := fun m e => by rw [HK.out]; simp only [setC, hR, m, hb, e]; rfl
  have H10f : Hid (o.meth = 10 → b = false → doC o L = (withL L o.arg, 1, true)) := fun m e => by rw [HK.out, with_rise hq (hb.trans e)]; simp only [setC, hR, m, hb, e]; rfl
  have H11t : Hid (o.meth = 11 → b = true → doC o L = (woutL L o.arg, 1, true)) := fun m e => by rw [HK.out, wout_rise hq (hb.trans e)]; simp only [setC, hR, m, hb, e]; rfl
  have H11f : Hid (o.meth = 11 → b = false → doC o L = (L, 0, true)) := fun m e => by rw [HK.out]; simp only [setC, hR, m, hb, e]; rfl
  have HZZ : Hid (o.meth ≠ 12 → o.meth ≠ 10 → o.meth ≠ 11 → doC o L = ([], 0, false)) := fun a1 a2 a3 => by rw [HK.out]; simp only [setC, hR, if_neg a1, if_neg a2, if_neg a3]; rfl
  obtain ⟨ao, cap, hv, _⟩ := HO.out.1.parts
  subst hv
  have hin := wout_in (x := o.arg) (L := L)
  rw [hb] at hin
  obtain ⟨m, hm⟩ : ∃ m, (woutL L o.arg).length = m := ⟨_, rfl⟩
  rw [hm] at hin
  have HM := Lib.hid hm
  have qm : decide ((m : Int) < (L.length : Int)) = b := by rw [← hin]; exact decide_eq_decide.2 (by omega)
  clear hk hl hq hb hR hm
  by_cases m12 : o.meth = 12
  · rw [m12] at k4
    cases b
    · have HA := Lib.hid (H12.out m12)
      clear m12
      go_enter Try.func58, Try.ntmps58
      go_wp2_with fail
      go_quiet (fail)
      clear k3 k4
      have HS2 := Lib.hid (HS.out.on (below_drewN W1 nq))
      obtain ⟨W2, hW2⟩ : ∃ W, W1.drewN nq = W := ⟨_, rfl⟩
      rw [hW2] at HS2 ⊢
      clear hW2
      have l2 := HS2.out.hp.load
      obtain ⟨_, k1, _, _, _, k5, _⟩ := HS2.out.hp.cell
      clear k1 k5
      go_wp2_with fail
      go_quiet (fail)
      have HS3 := Lib.hid (HS2.out.on (below_drewN W2 nq))
      obtain ⟨W3, hW3⟩ : ∃ W, W2.drewN nq = W := ⟨_, rfl⟩
      rw [hW3] at HS3 ⊢
      clear hW3
      obtain ⟨_, _, _, _, _, k5, _⟩ := HS3.out.hp.cell
      go_wp2_with fail
      refine (rwithout_any _ L o.arg _ (HO.out.1.on HS3.out.hb) (by have := HL.out; omega)).mono ?_
      rintro _ W4 ⟨v4, rfl, ho4, hb4⟩
      obtain ⟨ao4, cap4, hv4⟩ := ho4.len
      rw [HM.out] at hv4
      subst hv4
      have HS4 := Lib.hid (HS3.out.on hb4)
      clear ho4 hb4 k5 l2
      obtain ⟨_, _, _, _, _, k5, _⟩ := HS4.out.hp.cell
      obtain ⟨W9, hst, hd⟩ := done_store (wr := W4) (b := w.heap.size + 1) (HS4.out).hz (.slice ao L.length cap) (0) true rfl
      have r0 := hd.c0
      have r1 := hd.c1
      have r2 := hd.c2
      have HD := Lib.hid hd
      clear hd
      go_wp2_with fail
      refine bodyPost_ret (v := .agg #[.slice ao L.length cap, .int .i64 (0), .bool true]) (by simp [results, Try.results58, go_sem, r0, r1, r2]) rfl ?_
      exact rdone_end HA.out (HS4.out) HD.out (.inl ⟨HO.out.1, HO.out.2, ⟨by first | exact .inl rfl | exact .inr rfl, by first | exact Nat.le_refl _ | exact Nat.zero_le _ | (simp [slen]; done) | (simp [slen] <;> omega)⟩⟩)
    · have HA := Lib.hid (H12.out m12)
      clear m12
      go_enter Try.func58, Try.ntmps58
      go_wp2_with fail
      go_quiet (fail)
      clear k3 k4
      have HS2 := Lib.hid (HS.out.on (below_drewN W1 nq))
      obtain ⟨W2, hW2⟩ : ∃ W, W1.drewN nq = W := ⟨_, rfl⟩
      rw [hW2] at HS2 ⊢
      clear hW2
      have l2 := HS2.out.hp.load
      obtain ⟨_, k1, _, _, _, k5, _⟩ := HS2.out.hp.cell
      clear k1 k5
      go_wp2_with fail
      go_quiet (fail)
      have HS3 := Lib.hid (HS2.out.on (below_drewN W2 nq))
      obtain ⟨W3, hW3⟩ : ∃ W, W2.drewN nq = W := ⟨_, rfl⟩
      rw [hW3] at HS3 ⊢
      clear hW3
      obtain ⟨_, _, _, _, _, k5, _⟩ := HS3.out.hp.cell
      go_wp2_with fail
      refine (rwithout_any _ L o.arg _ (HO.out.1.on HS3.out.hb) (by have := HL.out; omega)).mono ?_
      rintro _ W4 ⟨v4, rfl, ho4, hb4⟩
      obtain ⟨ao4, cap4, hv4⟩ := ho4.len
      rw [HM.out] at hv4
      subst hv4
      have HS4 := Lib.hid (HS3.out.on hb4)
      clear ho4 hb4 k5 l2
      obtain ⟨_, _, _, _, _, k5, _⟩ := HS4.out.hp.cell
      obtain ⟨W9, hst, hd⟩ := done_store (wr := W4) (b := w.heap.size + 1) (HS4.out).hz (.slice ao L.length cap) (1) true rfl
      have r0 := hd.c0
      have r1 := hd.c1
      have r2 := hd.c2
      have HD := Lib.hid hd
      clear hd
      go_wp2_with fail
      refine bodyPost_ret (v := .agg #[.slice ao L.length cap, .int .i64 (1), .bool true]) (by simp [results, Try.results58, go_sem, r0, r1, r2]) rfl ?_
      exact rdone_end HA.out (HS4.out) HD.out (.inl ⟨HO.out.1, HO.out.2, ⟨by first | exact .inl rfl | exact .inr rfl, by first | exact Nat.le_refl _ | exact Nat.zero_le _ | (simp [slen]; done) | (simp [slen] <;> omega)⟩⟩)
  · have q12 : (o.meth == 12) = false := beq_eq_false_iff_ne.2 m12
    by_cases m10 : o.meth = 10
    · rw [m10] at k4
      cases b
      · have HA := Lib.hid (H10f.out m10 rfl)
        clear m10 m12 q12
        go_enter Try.func58, Try.ntmps58
        go_wp2_with fail
        go_quiet (fail)
        clear k3 k4
        have HS2 := Lib.hid (HS.out.on (below_drewN W1 nq))
        obtain ⟨W2, hW2⟩ : ∃ W, W1.drewN nq = W := ⟨_, rfl⟩
        rw [hW2] at HS2 ⊢
        clear hW2
        have l2 := HS2.out.hp.load
        obtain ⟨_, k1, _, _, _, k5, _⟩ := HS2.out.hp.cell
        clear k1 k5
        go_wp2_with fail
        go_quiet (fail)
        have HS3 := Lib.hid (HS2.out.on (below_drewN W2 nq))
        obtain ⟨W3, hW3⟩ : ∃ W, W2.drewN nq = W := ⟨_, rfl⟩
        rw [hW3] at HS3 ⊢
        clear hW3
        obtain ⟨_, _, _, _, _, k5, _⟩ := HS3.out.hp.cell
        go_wp2_with fail
        refine (rwithout_any _ L o.arg _ (HO.out.1.on HS3.out.hb) (by have := HL.out; omega)).mono ?_
        rintro _ W4 ⟨v4, rfl, ho4, hb4⟩
        obtain ⟨ao4, cap4, hv4⟩ := ho4.len
        rw [HM.out] at hv4
        subst hv4
        have HS4 := Lib.hid (HS3.out.on hb4)
        clear ho4 hb4 k5 l2
        obtain ⟨_, _, _, _, _, k5, _⟩ := HS4.out.hp.cell
        go_wp2_with fail
        refine (rwith_any _ L o.arg _ (HO.out.1.on HS4.out.hb) HH.out.arg HL.out).mono ?_
        rintro _ W5 ⟨v5, rfl, ho5, hb5⟩
        obtain ⟨ao5, cap5, hv5⟩ := ho5.len
        have HS5 := Lib.hid (HS4.out.on hb5)
        have HO5 := Lib.hid (ho5.base HS4.out.hs)
        subst hv5
        obtain ⟨m5, hm5⟩ : ∃ m5, (withL L o.arg).length = m5 := ⟨_, rfl⟩
        rw [hm5] at HO5 ⊢
        clear hb5 ho5 hm5 k5
        obtain ⟨W9, hst, hd⟩ := done_store (wr := W5) (b := w.heap.size + 1) (HS5.out).hz (.slice ao5 m5 cap5) (1) true rfl
        have r0 := hd.c0
        have r1 := hd.c1
        have r2 := hd.c2
        have HD := Lib.hid hd
        clear hd
        go_wp2_with fail
        refine bodyPost_ret (v := .agg #[.slice ao5 m5 cap5, .int .i64 (1), .bool true]) (by simp [results, Try.results58, go_sem, r0, r1, r2]) rfl ?_
        exact rdone_end HA.out (HS5.out) HD.out (.inr HO5.out)
      · have HA := Lib.hid (H10t.out m10 rfl)
        clear m10 m12 q12
        go_enter Try.func58, Try.ntmps58
        go_wp2_with fail
        go_quiet (fail)
        clear k3 k4
        have HS2 := Lib.hid (HS.out.on (below_drewN W1 nq))
        obtain ⟨W2, hW2⟩ : ∃ W, W1.drewN nq = W := ⟨_, rfl⟩
        rw [hW2] at HS2 ⊢
        clear hW2
        have l2 := HS2.out.hp.load
        obtain ⟨_, k1, _, _, _, k5, _⟩ := HS2.out.hp.cell
        clear k1 k5
        go_wp2_with fail
        go_quiet (fail)
        have HS3 := Lib.hid (HS2.out.on (below_drewN W2 nq))
        obtain ⟨W3, hW3⟩ : ∃ W, W2.drewN nq = W := ⟨_, rfl⟩
        rw [hW3] at HS3 ⊢
        clear hW3
        obtain ⟨_, _, _, _, _, k5, _⟩ := HS3.out.hp.cell
        go_wp2_with fail
        refine (rwithout_any _ L o.arg _ (HO.out.1.on HS3.out.hb) (by have := HL.out; omega)).mono ?_
        rintro _ W4 ⟨v4, rfl, ho4, hb4⟩
        obtain ⟨ao4, cap4, hv4⟩ := ho4.len
        rw [HM.out] at hv4
        subst hv4
        have HS4 := Lib.hid (HS3.out.on hb4)
        clear ho4 hb4 k5 l2
        obtain ⟨_, _, _, _, _, k5, _⟩ := HS4.out.hp.cell
        obtain ⟨W9, hst, hd⟩ := done_store (wr := W4) (b := w.heap.size + 1) (HS4.out).hz (.slice ao L.length cap) (0) true rfl
        have r0 := hd.c0
        have r1 := hd.c1
        have r2 := hd.c2
        have HD := Lib.hid hd
        clear hd
        go_wp2_with fail
        refine bodyPost_ret (v := .agg #[.slice ao L.length cap, .int .i64 (0), .bool true]) (by simp [results, Try.results58, go_sem, r0, r1, r2]) rfl ?_
        exact rdone_end HA.out (HS4.out) HD.out (.inl ⟨HO.out.1, HO.out.2, ⟨by first | exact .inl rfl | exact .inr rfl, by first | exact Nat.le_refl _ | exact Nat.zero_le _ | (simp [slen]; done) | (simp [slen] <;> omega)⟩⟩)
    · have q10 : (o.meth == 10) = false := beq_eq_false_iff_ne.2 m10
      by_cases m11 : o.meth = 11
      · rw [m11] at k4
        cases b
        · have HA := Lib.hid (H11f.out m11 rfl)
          clear m10 m12 q12 q10 m11
          go_enter Try.func58, Try.ntmps58
          go_wp2_with fail
          go_quiet (fail)
          clear k3 k4
          have HS2 := Lib.hid (HS.out.on (below_drewN W1 nq))
          obtain ⟨W2, hW2⟩ : ∃ W, W1.drewN nq = W := ⟨_, rfl⟩
          rw [hW2] at HS2 ⊢
          clear hW2
          have l2 := HS2.out.hp.load
          obtain ⟨_, k1, _, _, _, k5, _⟩ := HS2.out.hp.cell
          clear k1 k5
          go_wp2_with fail
          go_quiet (fail)
          have HS3 := Lib.hid (HS2.out.on (below_drewN W2 nq))
          obtain ⟨W3, hW3⟩ : ∃ W, W2.drewN nq = W := ⟨_, rfl⟩
          rw [hW3] at HS3 ⊢
          clear hW3
          obtain ⟨_, _, _, _, _, k5, _⟩ := HS3.out.hp.cell
          go_wp2_with fail
          refine (rwithout_any _ L o.arg _ (HO.out.1.on HS3.out.hb) (by have := HL.out; omega)).mono ?_
          rintro _ W4 ⟨v4, rfl, ho4, hb4⟩
          obtain ⟨ao4, cap4, hv4⟩ := ho4.len
          rw [HM.out] at hv4
          subst hv4
          have HS4 := Lib.hid (HS3.out.on hb4)
          clear ho4 hb4 k5 l2
          obtain ⟨_, _, _, _, _, k5, _⟩ := HS4.out.hp.cell
          obtain ⟨W9, hst, hd⟩ := done_store (wr := W4) (b := w.heap.size + 1) (HS4.out).hz (.slice ao L.length cap) (0) true rfl
          have r0 := hd.c0
          have r1 := hd.c1
          have r2 := hd.c2
          have HD := Lib.hid hd
          clear hd
          go_wp2_with fail
          refine bodyPost_ret (v := .agg #[.slice ao L.length cap, .int .i64 (0), .bool true]) (by simp [results, Try.results58, go_sem, r0, r1, r2]) rfl ?_
          exact rdone_end HA.out (HS4.out) HD.out (.inl ⟨HO.out.1, HO.out.2, ⟨by first | exact .inl rfl | exact .inr rfl, by first | exact Nat.le_refl _ | exact Nat.zero_le _ | (simp [slen]; done) | (simp [slen] <;> omega)⟩⟩)
        · have HA := Lib.hid (H11t.out m11 rfl)
          clear m10 m12 q12 q10 m11
          go_enter Try.func58, Try.ntmps58
          go_wp2_with fail
          go_quiet (fail)
          clear k3 k4
          have HS2 := Lib.hid (HS.out.on (below_drewN W1 nq))
          obtain ⟨W2, hW2⟩ : ∃ W, W1.drewN nq = W := ⟨_, rfl⟩
          rw [hW2] at HS2 ⊢
          clear hW2
          have l2 := HS2.out.hp.load
          obtain ⟨_, k1, _, _, _, k5, _⟩ := HS2.out.hp.cell
          clear k1 k5
          go_wp2_with fail
          go_quiet (fail)
          have HS3 := Lib.hid (HS2.out.on (below_drewN W2 nq))
          obtain ⟨W3, hW3⟩ : ∃ W, W2.drewN nq = W := ⟨_, rfl⟩
          rw [hW3] at HS3 ⊢
          clear hW3
          obtain ⟨_, _, _, _, _, k5, _⟩ := HS3.out.hp.cell
          go_wp2_with fail
          refine (rwithout_any _ L o.arg _ (HO.out.1.on HS3.out.hb) (by have := HL.out; omega)).mono ?_
          rintro _ W4 ⟨v4, rfl, ho4, hb4⟩
          obtain ⟨ao4, cap4, hv4⟩ := ho4.len
          rw [HM.out] at hv4
          subst hv4
          have HS4 := Lib.hid (HS3.out.on hb4)
          clear ho4 hb4 k5 l2
          obtain ⟨_, _, _, _, _, k5, _⟩ := HS4.out.hp.cell
          go_wp2_with fail
          refine (rwithout_any _ L o.arg _ (HO.out.1.on HS4.out.hb) (by have := HL.out; omega)).mono ?_
          rintro _ W5 ⟨v5, rfl, ho5, hb5⟩
          obtain ⟨ao5, cap5, hv5⟩ := ho5.len
          have HS5 := Lib.hid (HS4.out.on hb5)
          have HO5 := Lib.hid (ho5.base HS4.out.hs)
          subst hv5
          obtain ⟨m5, hm5⟩ : ∃ m5, (woutL L o.arg).length = m5 := ⟨_, rfl⟩
          rw [hm5] at HO5 ⊢
          clear hb5 ho5 hm5 k5
          obtain ⟨W9, hst, hd⟩ := done_store (wr := W5) (b := w.heap.size + 1) (HS5.out).hz (.slice ao5 m5 cap5) (1) true rfl
          have r0 := hd.c0
          have r1 := hd.c1
          have r2 := hd.c2
          have HD := Lib.hid hd
          clear hd
          go_wp2_with fail
          refine bodyPost_ret (v := .agg #[.slice ao5 m5 cap5, .int .i64 (1), .bool true]) (by simp [results, Try.results58, go_sem, r0, r1, r2]) rfl ?_
          exact rdone_end HA.out (HS5.out) HD.out (.inr HO5.out)
      · have q11 : (o.meth == 11) = false := beq_eq_false_iff_ne.2 m11
        have HA := Lib.hid (HZZ.out m12 m10 m11)
        clear m10 m12 m11
        go_enter Try.func58, Try.ntmps58
        go_wp2_with fail
        go_quiet (fail)
        clear k3 k4
        have HS2 := Lib.hid (HS.out.on (below_drewN W1 nq))
        obtain ⟨W2, hW2⟩ : ∃ W, W1.drewN nq = W := ⟨_, rfl⟩
        rw [hW2] at HS2 ⊢
        clear hW2
        have l2 := HS2.out.hp.load
        obtain ⟨_, k1, _, _, _, k5, _⟩ := HS2.out.hp.cell
        clear k1 k5
        go_wp2_with fail
        go_quiet (fail)
        have HS3 := Lib.hid (HS2.out.on (below_drewN W2 nq))
        obtain ⟨W3, hW3⟩ : ∃ W, W2.drewN nq = W := ⟨_, rfl⟩
        rw [hW3] at HS3 ⊢
        clear hW3
        obtain ⟨_, _, _, _, _, k5, _⟩ := HS3.out.hp.cell
        go_wp2_with fail
        refine (rwithout_any _ L o.arg _ (HO.out.1.on HS3.out.hb) (by have := HL.out; omega)).mono ?_
        rintro _ W4 ⟨v4, rfl, ho4, hb4⟩
        obtain ⟨ao4, cap4, hv4⟩ := ho4.len
        rw [HM.out] at hv4
        subst hv4
        have HS4 := Lib.hid (HS3.out.on hb4)
        clear ho4 hb4 k5 l2
        obtain ⟨_, _, _, _, _, k5, _⟩ := HS4.out.hp.cell
        obtain ⟨W9, hst, hd⟩ := done_store (wr := W4) (b := w.heap.size + 1) (HS4.out).hz (.slice none 0 0) (0) false rfl
        have r0 := hd.c0
        have r1 := hd.c1
        have r2 := hd.c2
        have HD := Lib.hid hd
        clear hd
        go_wp2_with fail
        refine bodyPost_ret (v := .agg #[.slice none 0 0, .int .i64 (0), .bool false]) (by simp [results, Try.results58, go_sem, r0, r1, r2]) rfl ?_
        exact rdone_end HA.out (HS4.out) HD.out (.inl ⟨IntsOf.nil _ _ _, CapOk.mk (Nat.le_refl _), ⟨by first | exact .inl rfl | exact .inr rfl, by first | exact Nat.le_refl _ | exact Nat.zero_le _ | (simp [slen]; done) | (simp [slen] <;> omega)⟩⟩)
end Go.Proofs.Ytpooekmogfkkjaa
