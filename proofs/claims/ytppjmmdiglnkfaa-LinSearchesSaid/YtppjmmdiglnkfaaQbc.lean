/- The reference's Do: sets. The reference's Do, Step, Runs; rising lists stay so. -/
import Derived.Test.YtppjmmdiglnkfaaQaz
import Derived.Test.YtppjmmdiglnkfaaQar
import Derived.Test.YtppjmmdiglnkfaaQba
import Derived.Test.YtppjmmdiglnkfaaQbb
namespace Go.Proofs.Ytppjmmdiglnkfaa
set_option maxRecDepth 100000
open Go.ChangeShapes Go.WideShapes Go.ChangeAt Go.RowKit Go.PlainAid Go.Deep

attribute [local go_sem ↓ high] store_d load_op
set_option maxHeartbeats 8000000 in
theorem rset_any (o : OpV) (ho : o.Wf) {v : Value} {L : List Int} {w : World} (h : IntsOf w v L) (hcp : CapOk v) (hk : o.kind = 5) (hR : risesB L = true) (hl : L.length ≤ 17592186044413) : Calls Try.prog 80 #[v, Value.agg #[Value.int .i64 o.id, Value.int .i64 o.proc, Value.int .i64 o.obj, Value.int .i64 o.kind, Value.int .i64 o.meth, Value.int .i64 o.arg, Value.int .i64 o.sec, Value.bool o.done, Value.int .i64 o.res, Value.int .i64 o.inv, Value.int .i64 o.ret]] w (RDone (doC o L) w v) := by
  have hS := StR.start w o
  obtain ⟨W1, hW1⟩ : ∃ W1, (w.alloc (.cells #[Value.int .i64 o.id, Value.int .i64 o.proc, Value.int .i64 o.obj, Value.int .i64 o.kind, Value.int .i64 o.meth, Value.int .i64 o.arg, Value.int .i64 o.sec, Value.bool o.done, Value.int .i64 o.res, Value.int .i64 o.inv, Value.int .i64 o.ret] 43)).alloc (.cells #[.slice none 0 0, .int .i64 0, .bool false] 143) = W1 := ⟨_, rfl⟩
  rw [hW1] at hS
  have HS := Lib.hid hS
  have HO := Lib.hid (And.intro h hcp)
  have HH := Lib.hid ho
  obtain ⟨_, _, _, k3, k4, _⟩ := hS.hp.cell
  rw [hk] at k3
  clear hS h hcp ho
  have hq : L.Pairwise (· < ·) := by
    by_cases c : Rise L
    · exact rise_pair c
    · rw [risesB_no c] at hR; cases hR
  have HK := Lib.hid (show doC o L = setC o L by simp [doC, hk])
  have HL := Lib.hid hl
  obtain ⟨b, hb⟩ : ∃ b, L.contains o.arg = b := ⟨_, rfl⟩
  have H12 : Hid (o.meth = 12 → doC o L = (L, b2i b, true)) := fun m => by rw [HK.out]; simp only [setC, hR, m, hb]; rfl
  have H10t : Hid (o.meth = 10 → b = true → doC o L = (L, 0, true)) := fun m e => by rw [HK.out]; simp only [setC, hR, m, hb, e]; rfl
  have H10f : Hid (o.meth = 10 → b = false → doC o L = (withL L o.arg, 1, true)) := fun m e => by rw [HK.out, with_rise hq (hb.trans e)]; simp only [setC, hR, m, hb, e]; rfl
  have H11t : Hid (o.meth = 11 → b = true → doC o L = (woutL L o.arg, 1, true)) := fun m e => by rw [HK.out, wout_rise hq (hb.trans e)]; simp only [setC, hR, m, hb, e]; rfl
  have H11f : Hid (o.meth = 11 → b = false → doC o L = (L, 0, true)) := fun m e => by rw [HK.out]; simp only [setC, hR, m, hb, e]; rfl
  have HZZ : Hid (o.meth ≠ 12 → o.meth ≠ 10 → o.meth ≠ 11 → doC o L = ([], 0, false)) := fun a1 a2 a3 => by rw [HK.out]; simp only [setC, hR, if_neg a1, if_neg a2, if_neg a3]; rfl
  obtain ⟨ao, cap, hv, _⟩ := HO.out.1.parts
  subst hv
  have hin := wout_in (x := o.arg) (L := L)
  rw [hb] at hin
  obtain ⟨m, hm⟩ : ∃ m, (woutL L o.arg).length = m := ⟨_, rfl⟩
  rw [hm] at hin
  have HM := Lib.hid hm
  have qm : decide ((m : Int) < (L.length : Int)) = b := by rw [← hin]; exact decide_eq_decide.2 (by omega)
  clear hk hl hq hb hR hm
  by_cases m12 : o.meth = 12
  · rw [m12] at k4
    cases b
    · have HA := Lib.hid (H12.out m12)
      clear m12
      go_enter Try.func80, Try.ntmps80
      go_wp2_with fail
      go_quiet (fail)
      clear k3 k4
      have HS2 := Lib.hid (HS.out.on (below_drewN W1 nq))
      obtain ⟨W2, hW2⟩ : ∃ W, W1.drewN nq = W := ⟨_, rfl⟩
      rw [hW2] at HS2 ⊢
      clear hW2
      have l2 := HS2.out.hp.load
      obtain ⟨_, k1, _, _, _, k5, _⟩ := HS2.out.hp.cell
      clear k1 k5
      go_wp2_with fail
      go_quiet (fail)
      have HS3 := Lib.hid (HS2.out.on (below_drewN W2 nq))
      obtain ⟨W3, hW3⟩ : ∃ W, W2.drewN nq = W := ⟨_, rfl⟩
      rw [hW3] at HS3 ⊢
      clear hW3
      obtain ⟨_, _, _, _, _, k5, _⟩ := HS3.out.hp.cell
      go_wp2_with fail
      refine (rwithout_any _ L o.arg _ (HO.out.1.on HS3.out.hb) (by have := HL.out; omega)).mono ?_
      rintro _ W4 ⟨v4, rfl, ho4, hb4⟩
      obtain ⟨ao4, cap4, hv4⟩ := ho4.len
      rw [HM.out] at hv4
      subst hv4
      have HS4 := Lib.hid (HS3.out.on hb4)
      clear ho4 hb4 k5 l2
      obtain ⟨_, _, _, _, _, k5, _⟩ := HS4.out.hp.cell
      obtain ⟨W9, hst, hd⟩ := done_store (wr := W4) (b := w.heap.size + 1) (HS4.out).hz (.slice ao L.length cap) (0) true rfl
      have r0 := hd.c0
      have r1 := hd.c1
      have r2 := hd.c2
      have HD := Lib.hid hd
      clear hd
      go_wp2_with fail
      refine bodyPost_ret (v := .agg #[.slice ao L.length cap, .int .i64 (0), .bool true]) (by simp [results, Try.results80, go_sem, r0, r1, r2]) rfl ?_
      exact rdone_end HA.out (HS4.out) HD.out (.inl ⟨HO.out.1, HO.out.2, ⟨by first | exact .inl rfl | exact .inr rfl, by first | exact Nat.le_refl _ | exact Nat.zero_le _ | (simp [slen]; done) | (simp [slen] <;> omega)⟩⟩)
    · have HA := Lib.hid (H12.out m12)
      clear m12
      go_enter Try.func80, Try.ntmps80
      go_wp2_with fail
      go_quiet (fail)
      clear k3 k4
      have HS2 := Lib.hid (HS.out.on (below_drewN W1 nq))
      obtain ⟨W2, hW2⟩ : ∃ W, W1.drewN nq = W := ⟨_, rfl⟩
      rw [hW2] at HS2 ⊢
      clear hW2
      have l2 := HS2.out.hp.load
      obtain ⟨_, k1, _, _, _, k5, _⟩ := HS2.out.hp.cell
      clear k1 k5
      go_wp2_with fail
      go_quiet (fail)
      have HS3 := Lib.hid (HS2.out.on (below_drewN W2 nq))
      obtain ⟨W3, hW3⟩ : ∃ W, W2.drewN nq = W := ⟨_, rfl⟩
      rw [hW3] at HS3 ⊢
      clear hW3
      obtain ⟨_, _, _, _, _, k5, _⟩ := HS3.out.hp.cell
      go_wp2_with fail
      refine (rwithout_any _ L o.arg _ (HO.out.1.on HS3.out.hb) (by have := HL.out; omega)).mono ?_
      rintro _ W4 ⟨v4, rfl, ho4, hb4⟩
      obtain ⟨ao4, cap4, hv4⟩ := ho4.len
      rw [HM.out] at hv4
      subst hv4
      have HS4 := Lib.hid (HS3.out.on hb4)
      clear ho4 hb4 k5 l2
      obtain ⟨_, _, _, _, _, k5, _⟩ := HS4.out.hp.cell
      obtain ⟨W9, hst, hd⟩ := done_store (wr := W4) (b := w.heap.size + 1) (HS4.out).hz (.slice ao L.length cap) (1) true rfl
      have r0 := hd.c0
      have r1 := hd.c1
      have r2 := hd.c2
      have HD := Lib.hid hd
      clear hd
      go_wp2_with fail
      refine bodyPost_ret (v := .agg #[.slice ao L.length cap, .int .i64 (1), .bool true]) (by simp [results, Try.results80, go_sem, r0, r1, r2]) rfl ?_
      exact rdone_end HA.out (HS4.out) HD.out (.inl ⟨HO.out.1, HO.out.2, ⟨by first | exact .inl rfl | exact .inr rfl, by first | exact Nat.le_refl _ | exact Nat.zero_le _ | (simp [slen]; done) | (simp [slen] <;> omega)⟩⟩)
  · have q12 : (o.meth == 12) = false := beq_eq_false_iff_ne.2 m12
    by_cases m10 : o.meth = 10
    · rw [m10] at k4
      cases b
      · have HA := Lib.hid (H10f.out m10 rfl)
        clear m10 m12 q12
        go_enter Try.func80, Try.ntmps80
        go_wp2_with fail
        go_quiet (fail)
        clear k3 k4
        have HS2 := Lib.hid (HS.out.on (below_drewN W1 nq))
        obtain ⟨W2, hW2⟩ : ∃ W, W1.drewN nq = W := ⟨_, rfl⟩
        rw [hW2] at HS2 ⊢
        clear hW2
        have l2 := HS2.out.hp.load
        obtain ⟨_, k1, _, _, _, k5, _⟩ := HS2.out.hp.cell
        clear k1 k5
        go_wp2_with fail
        go_quiet (fail)
        have HS3 := Lib.hid (HS2.out.on (below_drewN W2 nq))
        obtain ⟨W3, hW3⟩ : ∃ W, W2.drewN nq = W := ⟨_, rfl⟩
        rw [hW3] at HS3 ⊢
        clear hW3
        obtain ⟨_, _, _, _, _, k5, _⟩ := HS3.out.hp.cell
        go_wp2_with fail
        refine (rwithout_any _ L o.arg _ (HO.out.1.on HS3.out.hb) (by have := HL.out; omega)).mono ?_
        rintro _ W4 ⟨v4, rfl, ho4, hb4⟩
        obtain ⟨ao4, cap4, hv4⟩ := ho4.len
        rw [HM.out] at hv4
        subst hv4
        have HS4 := Lib.hid (HS3.out.on hb4)
        clear ho4 hb4 k5 l2
        obtain ⟨_, _, _, _, _, k5, _⟩ := HS4.out.hp.cell
        go_wp2_with fail
        refine (rwith_any _ L o.arg _ (HO.out.1.on HS4.out.hb) HH.out.arg HL.out).mono ?_
        rintro _ W5 ⟨v5, rfl, ho5, hb5⟩
        obtain ⟨ao5, cap5, hv5⟩ := ho5.len
        have HS5 := Lib.hid (HS4.out.on hb5)
        have HO5 := Lib.hid (ho5.base HS4.out.hs)
        subst hv5
        obtain ⟨m5, hm5⟩ : ∃ m5, (withL L o.arg).length = m5 := ⟨_, rfl⟩
        rw [hm5] at HO5 ⊢
        clear hb5 ho5 hm5 k5
        obtain ⟨W9, hst, hd⟩ := done_store (wr := W5) (b := w.heap.size + 1) (HS5.out).hz (.slice ao5 m5 cap5) (1) true rfl
        have r0 := hd.c0
        have r1 := hd.c1
        have r2 := hd.c2
        have HD := Lib.hid hd
        clear hd
        go_wp2_with fail
        refine bodyPost_ret (v := .agg #[.slice ao5 m5 cap5, .int .i64 (1), .bool true]) (by simp [results, Try.results80, go_sem, r0, r1, r2]) rfl ?_
        exact rdone_end HA.out (HS5.out) HD.out (.inr HO5.out)
      · have HA := Lib.hid (H10t.out m10 rfl)
        clear m10 m12 q12
        go_enter Try.func80, Try.ntmps80
        go_wp2_with fail
        go_quiet (fail)
        clear k3 k4
        have HS2 := Lib.hid (HS.out.on (below_drewN W1 nq))
        obtain ⟨W2, hW2⟩ : ∃ W, W1.drewN nq = W := ⟨_, rfl⟩
        rw [hW2] at HS2 ⊢
        clear hW2
        have l2 := HS2.out.hp.load
        obtain ⟨_, k1, _, _, _, k5, _⟩ := HS2.out.hp.cell
        clear k1 k5
        go_wp2_with fail
        go_quiet (fail)
        have HS3 := Lib.hid (HS2.out.on (below_drewN W2 nq))
        obtain ⟨W3, hW3⟩ : ∃ W, W2.drewN nq = W := ⟨_, rfl⟩
        rw [hW3] at HS3 ⊢
        clear hW3
        obtain ⟨_, _, _, _, _, k5, _⟩ := HS3.out.hp.cell
        go_wp2_with fail
        refine (rwithout_any _ L o.arg _ (HO.out.1.on HS3.out.hb) (by have := HL.out; omega)).mono ?_
        rintro _ W4 ⟨v4, rfl, ho4, hb4⟩
        obtain ⟨ao4, cap4, hv4⟩ := ho4.len
        rw [HM.out] at hv4
        subst hv4
        have HS4 := Lib.hid (HS3.out.on hb4)
        clear ho4 hb4 k5 l2
        obtain ⟨_, _, _, _, _, k5, _⟩ := HS4.out.hp.cell
        obtain ⟨W9, hst, hd⟩ := done_store (wr := W4) (b := w.heap.size + 1) (HS4.out).hz (.slice ao L.length cap) (0) true rfl
        have r0 := hd.c0
        have r1 := hd.c1
        have r2 := hd.c2
        have HD := Lib.hid hd
        clear hd
        go_wp2_with fail
        refine bodyPost_ret (v := .agg #[.slice ao L.length cap, .int .i64 (0), .bool true]) (by simp [results, Try.results80, go_sem, r0, r1, r2]) rfl ?_
        exact rdone_end HA.out (HS4.out) HD.out (.inl ⟨HO.out.1, HO.out.2, ⟨by first | exact .inl rfl | exact .inr rfl, by first | exact Nat.le_refl _ | exact Nat.zero_le _ | (simp [slen]; done) | (simp [slen] <;> omega)⟩⟩)
    · have q10 : (o.meth == 10) = false := beq_eq_false_iff_ne.2 m10
      by_cases m11 : o.meth = 11
      · rw [m11] at k4
        cases b
        · have HA := Lib.hid (H11f.out m11 rfl)
          clear m10 m12 q12 q10 m11
          go_enter Try.func80, Try.ntmps80
          go_wp2_with fail
          go_quiet (fail)
          clear k3 k4
          have HS2 := Lib.hid (HS.out.on (below_drewN W1 nq))
          obtain ⟨W2, hW2⟩ : ∃ W, W1.drewN nq = W := ⟨_, rfl⟩
          rw [hW2] at HS2 ⊢
          clear hW2
          have l2 := HS2.out.hp.load
          obtain ⟨_, k1, _, _, _, k5, _⟩ := HS2.out.hp.cell
          clear k1 k5
          go_wp2_with fail
          go_quiet (fail)
          have HS3 := Lib.hid (HS2.out.on (below_drewN W2 nq))
          obtain ⟨W3, hW3⟩ : ∃ W, W2.drewN nq = W := ⟨_, rfl⟩
          rw [hW3] at HS3 ⊢
          clear hW3
          obtain ⟨_, _, _, _, _, k5, _⟩ := HS3.out.hp.cell
          go_wp2_with fail
          refine (rwithout_any _ L o.arg _ (HO.out.1.on HS3.out.hb) (by have := HL.out; omega)).mono ?_
          rintro _ W4 ⟨v4, rfl, ho4, hb4⟩
          obtain ⟨ao4, cap4, hv4⟩ := ho4.len
          rw [HM.out] at hv4
          subst hv4
          have HS4 := Lib.hid (HS3.out.on hb4)
          clear ho4 hb4 k5 l2
          obtain ⟨_, _, _, _, _, k5, _⟩ := HS4.out.hp.cell
          obtain ⟨W9, hst, hd⟩ := done_store (wr := W4) (b := w.heap.size + 1) (HS4.out).hz (.slice ao L.length cap) (0) true rfl
          have r0 := hd.c0
          have r1 := hd.c1
          have r2 := hd.c2
          have HD := Lib.hid hd
          clear hd
          go_wp2_with fail
          refine bodyPost_ret (v := .agg #[.slice ao L.length cap, .int .i64 (0), .bool true]) (by simp [results, Try.results80, go_sem, r0, r1, r2]) rfl ?_
          exact rdone_end HA.out (HS4.out) HD.out (.inl ⟨HO.out.1, HO.out.2, ⟨by first | exact .inl rfl | exact .inr rfl, by first | exact Nat.le_refl _ | exact Nat.zero_le _ | (simp [slen]; done) | (simp [slen] <;> omega)⟩⟩)
        · have HA := Lib.hid (H11t.out m11 rfl)
          clear m10 m12 q12 q10 m11
          go_enter Try.func80, Try.ntmps80
          go_wp2_with fail
          go_quiet (fail)
          clear k3 k4
          have HS2 := Lib.hid (HS.out.on (below_drewN W1 nq))
          obtain ⟨W2, hW2⟩ : ∃ W, W1.drewN nq = W := ⟨_, rfl⟩
          rw [hW2] at HS2 ⊢
          clear hW2
          have l2 := HS2.out.hp.load
          obtain ⟨_, k1, _, _, _, k5, _⟩ := HS2.out.hp.cell
          clear k1 k5
          go_wp2_with fail
          go_quiet (fail)
          have HS3 := Lib.hid (HS2.out.on (below_drewN W2 nq))
          obtain ⟨W3, hW3⟩ : ∃ W, W2.drewN nq = W := ⟨_, rfl⟩
          rw [hW3] at HS3 ⊢
          clear hW3
          obtain ⟨_, _, _, _, _, k5, _⟩ := HS3.out.hp.cell
          go_wp2_with fail
          refine (rwithout_any _ L o.arg _ (HO.out.1.on HS3.out.hb) (by have := HL.out; omega)).mono ?_
          rintro _ W4 ⟨v4, rfl, ho4, hb4⟩
          obtain ⟨ao4, cap4, hv4⟩ := ho4.len
          rw [HM.out] at hv4
          subst hv4
          have HS4 := Lib.hid (HS3.out.on hb4)
          clear ho4 hb4 k5 l2
          obtain ⟨_, _, _, _, _, k5, _⟩ := HS4.out.hp.cell
          go_wp2_with fail
          refine (rwithout_any _ L o.arg _ (HO.out.1.on HS4.out.hb) (by have := HL.out; omega)).mono ?_
          rintro _ W5 ⟨v5, rfl, ho5, hb5⟩
          obtain ⟨ao5, cap5, hv5⟩ := ho5.len
          have HS5 := Lib.hid (HS4.out.on hb5)
          have HO5 := Lib.hid (ho5.base HS4.out.hs)
          subst hv5
          obtain ⟨m5, hm5⟩ : ∃ m5, (woutL L o.arg).length = m5 := ⟨_, rfl⟩
          rw [hm5] at HO5 ⊢
          clear hb5 ho5 hm5 k5
          obtain ⟨W9, hst, hd⟩ := done_store (wr := W5) (b := w.heap.size + 1) (HS5.out).hz (.slice ao5 m5 cap5) (1) true rfl
          have r0 := hd.c0
          have r1 := hd.c1
          have r2 := hd.c2
          have HD := Lib.hid hd
          clear hd
          go_wp2_with fail
          refine bodyPost_ret (v := .agg #[.slice ao5 m5 cap5, .int .i64 (1), .bool true]) (by simp [results, Try.results80, go_sem, r0, r1, r2]) rfl ?_
          exact rdone_end HA.out (HS5.out) HD.out (.inr HO5.out)
      · have q11 : (o.meth == 11) = false := beq_eq_false_iff_ne.2 m11
        have HA := Lib.hid (HZZ.out m12 m10 m11)
        clear m10 m12 m11
        go_enter Try.func80, Try.ntmps80
        go_wp2_with fail
        go_quiet (fail)
        clear k3 k4
        have HS2 := Lib.hid (HS.out.on (below_drewN W1 nq))
        obtain ⟨W2, hW2⟩ : ∃ W, W1.drewN nq = W := ⟨_, rfl⟩
        rw [hW2] at HS2 ⊢
        clear hW2
        have l2 := HS2.out.hp.load
        obtain ⟨_, k1, _, _, _, k5, _⟩ := HS2.out.hp.cell
        clear k1 k5
        go_wp2_with fail
        go_quiet (fail)
        have HS3 := Lib.hid (HS2.out.on (below_drewN W2 nq))
        obtain ⟨W3, hW3⟩ : ∃ W, W2.drewN nq = W := ⟨_, rfl⟩
        rw [hW3] at HS3 ⊢
        clear hW3
        obtain ⟨_, _, _, _, _, k5, _⟩ := HS3.out.hp.cell
        go_wp2_with fail
        refine (rwithout_any _ L o.arg _ (HO.out.1.on HS3.out.hb) (by have := HL.out; omega)).mono ?_
        rintro _ W4 ⟨v4, rfl, ho4, hb4⟩
        obtain ⟨ao4, cap4, hv4⟩ := ho4.len
        rw [HM.out] at hv4
        subst hv4
        have HS4 := Lib.hid (HS3.out.on hb4)
        clear ho4 hb4 k5 l2
        obtain ⟨_, _, _, _, _, k5, _⟩ := HS4.out.hp.cell
        obtain ⟨W9, hst, hd⟩ := done_store (wr := W4) (b := w.heap.size + 1) (HS4.out).hz (.slice none 0 0) (0) false rfl
        have r0 := hd.c0
        have r1 := hd.c1
        have r2 := hd.c2
        have HD := Lib.hid hd
        clear hd
        go_wp2_with fail
        refine bodyPost_ret (v := .agg #[.slice none 0 0, .int .i64 (0), .bool false]) (by simp [results, Try.results80, go_sem, r0, r1, r2]) rfl ?_
        exact rdone_end HA.out (HS4.out) HD.out (.inl ⟨IntsOf.nil _ _ _, CapOk.mk (Nat.le_refl _), ⟨by first | exact .inl rfl | exact .inr rfl, by first | exact Nat.le_refl _ | exact Nat.zero_le _ | (simp [slen]; done) | (simp [slen] <;> omega)⟩⟩)
end Go.Proofs.Ytppjmmdiglnkfaa
namespace Go.Proofs.Ytppjmmdiglnkfaa
set_option maxRecDepth 100000
open Go.ChangeShapes Go.WideShapes Go.ChangeAt Go.RowKit Go.PlainAid Go.Deep

attribute [local go_sem ↓ high] store_d load_op
theorem rdo_any (o : OpV) (ho : o.Wf) {v : Value} {L : List Int} {w : World} (h : IntsOf w v L) (hcp : CapOk v) (hR : o.kind = 5 → risesB L = true) (hl : L.length ≤ 17592186044413) : Calls Try.prog 80 #[v, Value.agg #[Value.int .i64 o.id, Value.int .i64 o.proc, Value.int .i64 o.obj, Value.int .i64 o.kind, Value.int .i64 o.meth, Value.int .i64 o.arg, Value.int .i64 o.sec, Value.bool o.done, Value.int .i64 o.res, Value.int .i64 o.inv, Value.int .i64 o.ret]] w (RDone (doC o L) w v) := by
  by_cases h1 : o.kind = 1
  · exact rdo1_any o ho h hcp h1
  by_cases h2 : o.kind = 2
  · exact rdo2_any o ho h hcp h2
  by_cases h3 : o.kind = 3
  · exact rque_any o ho h hcp h3 hl
  by_cases h4 : o.kind = 4
  · exact rstk_any o ho h hcp h4 hl
  by_cases h5 : o.kind = 5
  · exact rset_any o ho h hcp h5 (hR h5) hl
  by_cases h6 : o.kind = 6
  · exact rmtx_any o ho h hcp h6
  · exact rother_any o ho h hcp h1 h2 h3 h4 h5 h6
theorem ins_lt {x y : Int} {r : List Int} (h : y < x) : insL (y :: r) x = y :: insL r x := by
  unfold insL
  rw [List.countP_cons, if_pos (by simpa using h)]
  rfl
theorem ins_ge {x y : Int} {r : List Int} (h : ¬ y < x) (hp : (y :: r).Pairwise (· < ·)) : insL (y :: r) x = x :: y :: r := by
  obtain ⟨hy, _⟩ := List.pairwise_cons.1 hp
  unfold insL
  rw [List.countP_cons, count_none (r := r) (fun z hz => by have := hy z hz; omega), if_neg (by simpa using h)]
  rfl
theorem ins_mem {x z : Int} : ∀ {L : List Int}, z ∈ insL L x → z = x ∨ z ∈ L := fun {L} h => by
  unfold insL at h
  rcases List.mem_append.1 h with c | c
  · exact .inr (List.mem_of_mem_take c)
  · rcases List.mem_cons.1 c with c | c
    · exact .inl c
    · exact .inr (List.mem_of_mem_drop c)
theorem ins_pair {x : Int} : ∀ {L : List Int}, L.Pairwise (· < ·) → L.contains x = false → (insL L x).Pairwise (· < ·)
  | [], _, _ => by simp [insL]
  | y :: r, hp, h => by
    obtain ⟨hy, hr⟩ := List.pairwise_cons.1 hp
    have hn : x ≠ y ∧ r.contains x = false := by
      constructor
      · intro e; rw [e] at h; simp at h
      · cases c : r.contains x with
        | false => rfl
        | true =>
          have : (y :: r).contains x = true := by have : x ∈ r := by simpa using c
                                                  simp [this]
          rw [h] at this; cases this
    by_cases c : y < x
    · rw [ins_lt c]
      refine List.pairwise_cons.2 ⟨fun z hz => ?_, ins_pair hr hn.2⟩
      rcases ins_mem hz with e | e
      · rw [e]; exact c
      · exact hy z e
    · rw [ins_ge c hp]
      refine List.pairwise_cons.2 ⟨fun z hz => ?_, hp⟩
      rcases List.mem_cons.1 hz with e | e
      · omega
      · have := hy z e; omega
theorem del_pair {x : Int} {L : List Int} (hp : L.Pairwise (· < ·)) : (delL L x).Pairwise (· < ·) := by
  refine hp.sublist ?_
  have : L = L.take (L.countP (· < x)) ++ L.drop (L.countP (· < x)) := (List.take_append_drop _ _).symm
  unfold delL
  conv => rhs; rw [this]
  exact List.Sublist.append (List.Sublist.refl _) (by rw [← List.drop_drop]; exact List.drop_sublist _ _)
theorem rises_pair {L : List Int} (h : risesB L = true) : L.Pairwise (· < ·) := by
  by_cases c : Rise L
  · exact rise_pair c
  · rw [risesB_no c] at h; cases h
theorem set_rises {o : OpV} {L : List Int} (h : risesB L = true) : risesB (setC o L).1 = true := by
  have hp := rises_pair h
  have hn : risesB [] = true := risesB_yes fun i x y hx => by simp at hx
  have h1 : L.contains o.arg = false → risesB (insL L o.arg) = true := fun c => risesB_yes (pair_rise (ins_pair hp c))
  have h2 : risesB (delL L o.arg) = true := risesB_yes (pair_rise (del_pair hp))
  unfold setC noA
  rw [if_pos h]
  split
  · exact h
  split
  · split
    · exact h
    · rename_i hc
      exact h1 (by cases c : L.contains o.arg with
                   | false => rfl
                   | true => exact absurd c hc)
  split
  · split
    · exact h2
    · exact h
  · exact hn
theorem step_rises {o : OpV} {L : List Int} (hk : o.kind = 5) (h : risesB L = true) : risesB (stepC o L).1 = true := by
  unfold stepC
  split
  · rw [show doC o L = setC o L by simp [doC, hk]]
    exact set_rises h
  · exact risesB_yes fun i x y hx => by simp at hx
/-- A slice that can be read, and holds no more than it may. -/
structure IntsC (w : World) (v : Value) (L : List Int) : Prop where
  ints : IntsOf w v L
  cap : CapOk v
theorem IntsC.on {w w' : World} {v : Value} {L : List Int} (h : IntsC w v L) (hb : Below w.heap.size w w') : IntsC w' v L := ⟨h.ints.on hb, h.cap⟩
theorem IntsC.none (w : World) : IntsC w (.slice none 0 0) [] := ⟨IntsOf.nil _ _ _, CapOk.mk (Nat.le_refl _)⟩
set_option maxHeartbeats 4000000 in
theorem rstep_any (o : OpV) (ho : o.Wf) {v : Value} {L : List Int} {w : World} (h : IntsC w v L) (hR : o.kind = 5 → risesB L = true) (hl : L.length ≤ 17592186044413) : Calls Try.prog 53 #[v, Value.agg #[Value.int .i64 o.id, Value.int .i64 o.proc, Value.int .i64 o.obj, Value.int .i64 o.kind, Value.int .i64 o.meth, Value.int .i64 o.arg, Value.int .i64 o.sec, Value.bool o.done, Value.int .i64 o.res, Value.int .i64 o.inv, Value.int .i64 o.ret]] w fun e w' => ∃ v', e = .returned (.tuple #[v', .bool (stepC o L).2]) ∧ IntsC w' v' (stepC o L).1 ∧ Below w.heap.size w w' ∧ (SameB v v' ∨ OwnI w.heap.size w' v' (stepC o L).1) := by
  have HB : Below w.heap.size w (w.alloc (.cells #[Value.int .i64 o.id, Value.int .i64 o.proc, Value.int .i64 o.obj, Value.int .i64 o.kind, Value.int .i64 o.meth, Value.int .i64 o.arg, Value.int .i64 o.sec, Value.bool o.done, Value.int .i64 o.res, Value.int .i64 o.inv, Value.int .i64 o.ret] 43)) := by go_grown
  have hop := OpAt.box w o
  have h1 := h.on HB
  obtain ⟨W1, hW1⟩ : ∃ W1, w.alloc (.cells #[Value.int .i64 o.id, Value.int .i64 o.proc, Value.int .i64 o.obj, Value.int .i64 o.kind, Value.int .i64 o.meth, Value.int .i64 o.arg, Value.int .i64 o.sec, Value.bool o.done, Value.int .i64 o.res, Value.int .i64 o.inv, Value.int .i64 o.ret] 43) = W1 := ⟨_, rfl⟩
  rw [hW1] at hop HB h1
  have HO := Lib.hid h1
  have HB1 := Lib.hid HB
  have HW := Lib.hid (And.intro ho (And.intro hR hl))
  have HP := Lib.hid hop
  have l1 := hop.load
  clear HB h ho hR hl h1 hop
  rcases hA : doC o L with ⟨L', n, b⟩
  have HA := Lib.hid hA
  clear hA
  go_enter Try.func53, Try.ntmps53
  go_wp2_with fail
  refine (rdo_any o HW.out.1 HO.out.ints HO.out.cap HW.out.2.1 HW.out.2.2).mono ?_
  rintro _ w2 ⟨v2, rfl, ⟨hi2, hc2, hl2⟩, hb2⟩
  rw [HA.out] at hi2 hl2 ⊢
  obtain ⟨ao, cap, hv, _⟩ := hi2.parts
  subst hv
  have hba : Below w2.heap.size w2 (w2.alloc (.cells #[.slice none 0 0, .int .i64 0, .bool false] 143)) := by go_grown
  obtain ⟨W3, hst, hd⟩ := done_store (wr := w2.alloc (.cells #[.slice none 0 0, .int .i64 0, .bool false] 143)) (b := w2.heap.size) ⟨_, heap_alloc_new _ _, rfl⟩ (.slice ao L'.length cap) n b rfl
  have hb3 : Below w2.heap.size w2 W3 := hba.trans hd.below
  have r0 := hd.c0
  have r1 := hd.c1
  have r2 := hd.c2
  have HB3 := Lib.hid (HB1.out.on (hb2.on hb3))
  have HI3 := Lib.hid (IntsC.mk (hi2.on hb3) hc2)
  have HL3 := Lib.hid (show SameB v (.slice ao L'.length cap) ∨ OwnI w.heap.size W3 (.slice ao L'.length cap) L' from hl2.imp id fun c => (c.on hb3).base HB1.out.size)
  clear hl2
  obtain ⟨_, _, _, _, _, _, _, k7, k8, _⟩ := (HP.out.on (hb2.on hb3)).cell
  clear hi2 hc2 hb2 hba hd hb3 l1
  cases b
  · have HS := Lib.hid (show stepC o L = ([], false) by unfold stepC; rw [HA.out]; exact if_neg (fun c => by cases c.1))
    go_wp2_with fail
    go_returns
    exact ⟨_, by rw [HS.out]; rfl, by rw [HS.out]; exact IntsC.none _, HB3.out, .inl ⟨.inr rfl, Nat.zero_le _⟩⟩
  · cases hd : o.done
    · have HS := Lib.hid (show stepC o L = (L', true) by unfold stepC; rw [HA.out]; exact if_pos ⟨rfl, fun c => by rw [hd] at c; cases c⟩)
      rw [hd] at k7
      clear hd
      go_wp2_with fail
      go_returns
      exact ⟨_, by rw [HS.out]; rfl, by rw [HS.out]; exact HI3.out, HB3.out, by rw [HS.out]; exact HL3.out⟩
    · by_cases e : n = o.res
      · have HS := Lib.hid (show stepC o L = (L', true) by unfold stepC; rw [HA.out]; exact if_pos ⟨rfl, fun _ => e⟩)
        have q : (n != o.res) = false := by rw [e]; simp
        rw [hd] at k7
        clear hd e
        go_wp2_with fail
        go_returns
        exact ⟨_, by rw [HS.out]; rfl, by rw [HS.out]; exact HI3.out, HB3.out, by rw [HS.out]; exact HL3.out⟩
      · have HS := Lib.hid (show stepC o L = ([], false) by unfold stepC; rw [HA.out]; exact if_neg (fun c => e (c.2 hd)))
        have q : (n != o.res) = true := bne_iff_ne.2 e
        rw [hd] at k7
        clear hd e
        go_wp2_with fail
        go_returns
        exact ⟨_, by rw [HS.out]; rfl, by rw [HS.out]; exact IntsC.none _, HB3.out, .inl ⟨.inr rfl, Nat.zero_le _⟩⟩
end Go.Proofs.Ytppjmmdiglnkfaa
