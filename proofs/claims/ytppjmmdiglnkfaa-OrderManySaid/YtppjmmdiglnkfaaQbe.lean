/- Rows of operations that are put in order: two rows in order made one, in place (slices.symMergeCmpFunc): the middle is right of it. -/
import Derived.Test.YtppjmmdiglnkfaaQbc
import Derived.Lib.QuietBelow
import Derived.Shelf.RegionOpenPlain
import Derived.Deep.RegionLaw
namespace Go.Proofs.Ytppjmmdiglnkfaa
set_option maxRecDepth 100000
open Go.ChangeShapes Go.WideShapes Go.ChangeAt Go.RowKit Go.PlainAid Go.Deep Go.Shelf Go.Sort
namespace Cu
attribute [local go_sem ↓ high] load_op store_o
set_option maxHeartbeats 4000000 in
theorem sym_left {d : Nat} {f : Nat} {cf : OpV → OpV → Int} (IH : Hid (SymOk f cf d)) (hf : Cmp f cf) {g cap a m b n : Nat} {L : List OpV} {w : World} (h : InRow w g cap L) (hn : L.length = n) (hl : n ≤ 1048576) (hs1 : Sr (ltO cf) L a m) (hs2 : Sr (ltO cf) L m b) (hd : b - a ≤ d + 1) (c1 : a + 2 ≤ m) (c2 : m + 2 ≤ b) (hb : b ≤ n) {mid nn pp : Nat} (hmm : a + 2 ≤ mid ∧ mid + 2 ≤ b ∧ mid + mid ≤ a + b ∧ a + b ≤ mid + mid + 1) (hnn : mid + m = nn) (hpp : nn - 1 = pp) (cm : m ≤ mid) :
    Calls Try.prog 99 #[.slice (some ⟨g, 0, none⟩) n cap, .int .i64 a, .int .i64 m, .int .i64 b, .func (.func f) #[] #[]] w (RowPost g cap n w fun L' => Mv L L' a b ∧ Sr (ltO cf) L' a b) := by
  have eg := hf.enter
  have HF := Lib.hid hf
  have HR0 := Lib.hid h
  have HN := Lib.hid hn
  have HS := Lib.hid (And.intro hs1 hs2)
  clear hf h hn hs1 hs2
  have e0 : ((a : Int) + (b : Int)) / 2 = (mid : Int) := by omega
  have w0 : IntKind.i64.wrap ((m : Int) - (a : Int)) = (m : Int) - (a : Int) := IntWalk.i64_in _ (by omega)
  have w1 : ((m : Int) - (a : Int) == 1) = false := by simp; omega
  have w2 : IntKind.i64.wrap ((b : Int) - (m : Int)) = (b : Int) - (m : Int) := IntWalk.i64_in _ (by omega)
  have w3 : ((b : Int) - (m : Int) == 1) = false := by simp; omega
  have w4 : IntKind.i64.wrap ((mid : Int) + (m : Int)) = (nn : Int) := by rw [IntWalk.i64_in _ (by omega)]; omega
  have w5 : IntKind.i64.wrap ((nn : Int) - 1) = (pp : Int) := by rw [IntWalk.i64_in _ (by omega)]; omega
  have q0 : ¬ ((mid : Int) < (m : Int)) := by omega
  have HE0 := Lib.hid (And.intro hnn (And.intro hpp hmm))
  have mixed := mixed
  go_enter Try.func99, Try.ntmps99
  go_wp2_with fail
  clear w0 w1 w2 w3 w4 w5 e0
  go_loopw [20, 21] (fun s20 s21 wr => ∃ i j : Nat, s20 = .int .i64 i ∧ s21 = .int .i64 j ∧ a ≤ i ∧ i ≤ j ∧ j ≤ m ∧ Hid (InRow wr g cap L ∧ Keeps (fun k => k = g) w wr ∧ (i = a ∨ ∃ x y, L[pp - (i - 1)]? = some x ∧ L[i - 1]? = some y ∧ ltO cf x y = false) ∧ (j = m ∨ ∃ x y, L[pp - j]? = some x ∧ L[j]? = some y ∧ ltO cf x y = true))) (fun s20 s21 _ => (intOf s21 - intOf s20).toNat)
  case atStart => exact ⟨a, m, by first | rfl | simp, by first | rfl | simp, Nat.le_refl _, by omega, Nat.le_refl _, Lib.hid ⟨HR0.out, Keeps.refl _ _, .inl rfl, .inl rfl⟩⟩
  case round =>
    obtain ⟨i, j, rfl, rfl, hlo, hij, hhi, HI⟩ := hrel
    by_cases hlt : i < j
    · have hltz : (i : Int) < (j : Int) := by omega
      obtain ⟨t, ht⟩ : ∃ t, (i + j) / 2 = t := ⟨_, rfl⟩
      have htl : i ≤ t ∧ t < j := by omega
      have e1 : ((i : Int) + (j : Int)) / 2 = (t : Int) := by omega
      have t1 : (t : Int) < (n : Int) := by omega
      have t2 : IntKind.i64.wrap ((t : Int) + 1) = (t : Int) + 1 := IntWalk.i64_in _ (by omega)
      have p1 : IntKind.i64.wrap ((pp : Int) - (t : Int)) = ((pp - t : Nat) : Int) := by rw [IntWalk.i64_in _ (by omega)]; omega
      have p2 : ((pp - t : Nat) : Int) < (n : Int) := by omega
      obtain ⟨x, hx⟩ : ∃ x, L[pp - t]? = some x := ⟨_, List.getElem?_eq_getElem (by have := HN.out; omega)⟩
      obtain ⟨y, hy⟩ : ∃ y, L[t]? = some y := ⟨_, List.getElem?_eq_getElem (by have := HN.out; omega)⟩
      have HT := Lib.hid htl
      clear ht htl
      have lx := fun d os => (HI.out.1.on (below_regrown wr d os)).load hx
      have ly := fun d os => (HI.out.1.on (below_regrown wr d os)).load hy
      obtain ⟨cz, hcz⟩ : ∃ z, cf x y = z := ⟨_, rfl⟩
      have k1 : ∀ d os, Calls Try.prog f #[Value.agg #[Value.int .i64 x.id, Value.int .i64 x.proc, Value.int .i64 x.obj, Value.int .i64 x.kind, Value.int .i64 x.meth, Value.int .i64 x.arg, Value.int .i64 x.sec, Value.bool x.done, Value.int .i64 x.res, Value.int .i64 x.inv, Value.int .i64 x.ret], Value.agg #[Value.int .i64 y.id, Value.int .i64 y.proc, Value.int .i64 y.obj, Value.int .i64 y.kind, Value.int .i64 y.meth, Value.int .i64 y.arg, Value.int .i64 y.sec, Value.bool y.done, Value.int .i64 y.res, Value.int .i64 y.inv, Value.int .i64 y.ret]] (grow (redrawn wr d) os) fun e w'' => e = .returned (.int .i64 cz) ∧ ∃ p : Regrown, w'' = grow (redrawn wr p.d) p.os := fun d os => Calls.regrown_of (by rw [← hcz]; exact HF.out.calls x y _)
      have K1 := Lib.hid k1
      have HCZ := Lib.hid (show decide (cz < 0) = ltO cf x y by unfold ltO; rw [hcz])
      have HX := Lib.hid hx
      have HY := Lib.hid hy
      clear k1 hcz hx hy
      by_cases hc : cz < 0
      · go_wp2_with fail
        refine wp_region_quiet_below (by kernel_rfl) (by kernel_rfl) ?_
        repeat (go_big_quiet_step (first | (with_reducible exact K1.out _ _)))
        refine wpQuiet_nil ?_
        intro _ hw'
        obtain ⟨⟨dq, osq⟩, hw''⟩ := hw'
        subst hw''
        go_wp2_with fail
        try any_goals (exfalso; rename_i hh; (first | (simp at hh; done) | (simp at hh; omega)))
        go_roundw
        case measure => have := HT.out; simp [intOf] <;> omega
        case rel => exact ⟨i, t, rfl, by simp, hlo, by have := HT.out; omega, by have := HT.out; omega, Lib.hid ⟨HI.out.1.on (below_regrown wr dq osq), Keeps.regrown HI.out.2.1 dq osq, HI.out.2.2.1, .inr ⟨x, y, HX.out, HY.out, by rw [← HCZ.out]; exact decide_eq_true (by omega)⟩⟩⟩
      · go_wp2_with fail
        refine wp_region_quiet_below (by kernel_rfl) (by kernel_rfl) ?_
        repeat (go_big_quiet_step (first | (with_reducible exact K1.out _ _)))
        refine wpQuiet_nil ?_
        intro _ hw'
        obtain ⟨⟨dq, osq⟩, hw''⟩ := hw'
        subst hw''
        go_wp2_with fail
        try any_goals (exfalso; rename_i hh; (first | (simp at hh; done) | (simp at hh; omega)))
        go_roundw
        case measure => have := HT.out; simp [intOf] <;> omega
        case rel => exact ⟨t + 1, j, by simp, rfl, by have := HT.out; omega, by have := HT.out; omega, hhi, Lib.hid ⟨HI.out.1.on (below_regrown wr dq osq), Keeps.regrown HI.out.2.1 dq osq, .inr ⟨x, y, HX.out, HY.out, by rw [← HCZ.out]; exact decide_eq_false (by omega)⟩, HI.out.2.2.2⟩⟩
    · obtain rfl : i = j := by omega
      have hltz : ¬ ((i : Int) < (i : Int)) := by omega
      obtain ⟨e, he⟩ : ∃ t, nn - i = t := ⟨_, rfl⟩
      have w6 : IntKind.i64.wrap ((nn : Int) - (i : Int)) = (e : Int) := by rw [IntWalk.i64_in _ (by omega)]; omega
      by_cases d1 : m ≤ i
      · by_cases d2 : m < mid
        · have f1 : ¬ ((i : Int) < (m : Int)) := by omega
          have f3 : ((a : Int) < (i : Int)) := by omega
          have f4 : ((i : Int) < (mid : Int)) := by omega
          have f5 : ¬ ((mid : Int) < (e : Int)) := by omega
          have hr1 := HI.out.1
          have hn1 := HN.out
          have HB := Lib.hid (And.intro HI.out.2.1 (And.intro HI.out.2.2.1 HI.out.2.2.2))
          have hm1 : Rot L L i m e := Rot.id (by omega)
          have HK1 := Lib.hid HB.out.1
          clear HI
          have HX := Lib.hid (cross_rot (mid := mid) HF.out.ord HS.out.1 HS.out.2 hm1 (by omega) (by omega) (by omega) (by omega) (by have := HN.out; omega) (by omega) (HB.out.2.1.elim (fun c => .inl c) (fun ⟨x, y, hx, hy, hc⟩ => .inr (.inr ⟨x, y, by rw [← hx]; congr 1; omega, hy, hc⟩))) (HB.out.2.2.elim (fun c => .inl c) (fun ⟨x, y, hx, hy, hc⟩ => .inr (.inr ⟨x, y, by rw [← hx]; congr 1; omega, hy, hc⟩))))
          have HC2 := Lib.hid (IH.out g cap a i mid n _ _ (by omega) hr1 hn1 hl HX.out.one HX.out.two (by omega) (by omega) (by omega))
          clear hr1 hn1 hm1
          go_wp2_with fail
          (with_reducible refine HC2.out.mono ?_)
          rintro _ w4 ⟨rfl, L2, hr2, hn2, ⟨hm2, hs2⟩, hk2⟩
          have HK2 := Lib.hid (HK1.out.on hk2)
          have HZ := Lib.hid (And.intro hm2 hs2)
          have hs3 : Sr (ltO cf) L2 mid b := Sr.out (show Sr (ltO cf) L mid b from by have := HX.out.four; rwa [show e = mid by omega] at this) fun k k1 _ => HZ.out.1.out k (.inr k1)
          have HE := Lib.hid (show RowAt g cap n w (fun L' => Mv L L' a b ∧ Sr (ltO cf) L' a b) _ from ⟨L2, hr2, hn2, HX.out.done (by omega) (by omega) HZ.out.1 HZ.out.2 (Mv.refl _ _ _) hs3, HK2.out⟩)
          clear hr2 hn2 hm2 hs2 hs3 hk2
          go_wp2_with fail
          go_returns
          exact ⟨rfl, HE.out⟩
        · have f1 : ¬ ((i : Int) < (m : Int)) := by omega
          have f3 : ((a : Int) < (i : Int)) := by omega
          have f4 : ¬ ((i : Int) < (mid : Int)) := by omega
          have f5 : ¬ ((mid : Int) < (e : Int)) := by omega
          have hr1 := HI.out.1
          have hn1 := HN.out
          have HB := Lib.hid (And.intro HI.out.2.1 (And.intro HI.out.2.2.1 HI.out.2.2.2))
          have hm1 : Rot L L i m e := Rot.id (by omega)
          have HK1 := Lib.hid HB.out.1
          clear HI
          have HX := Lib.hid (cross_rot (mid := mid) HF.out.ord HS.out.1 HS.out.2 hm1 (by omega) (by omega) (by omega) (by omega) (by have := HN.out; omega) (by omega) (HB.out.2.1.elim (fun c => .inl c) (fun ⟨x, y, hx, hy, hc⟩ => .inr (.inr ⟨x, y, by rw [← hx]; congr 1; omega, hy, hc⟩))) (HB.out.2.2.elim (fun c => .inl c) (fun ⟨x, y, hx, hy, hc⟩ => .inr (.inr ⟨x, y, by rw [← hx]; congr 1; omega, hy, hc⟩))))
          have hr2 := hr1
          have hn2 := hn1
          have hm2 := Mv.refl L a mid
          have hs2 : Sr (ltO cf) L a mid := by have := HX.out.one; rwa [show i = mid by omega] at this
          have HK2 := Lib.hid HK1.out
          clear hr1 hn1 hm1
          have HZ := Lib.hid (And.intro hm2 hs2)
          have hs3 : Sr (ltO cf) L mid b := Sr.out (show Sr (ltO cf) L mid b from by have := HX.out.four; rwa [show e = mid by omega] at this) fun k k1 _ => HZ.out.1.out k (.inr k1)
          have HE := Lib.hid (show RowAt g cap n w (fun L' => Mv L L' a b ∧ Sr (ltO cf) L' a b) _ from ⟨L, hr2, hn2, HX.out.done (by omega) (by omega) HZ.out.1 HZ.out.2 (Mv.refl _ _ _) hs3, HK2.out⟩)
          clear hr2 hn2 hm2 hs2 hs3
          go_wp2_with fail
          go_returns
          exact ⟨rfl, HE.out⟩
      by_cases d2 : i ≤ a
      · by_cases d3 : e < b
        · have f1 : ((i : Int) < (m : Int)) := by omega
          have f2 : ((m : Int) < (e : Int)) := by omega
          have f3 : ¬ ((a : Int) < (i : Int)) := by omega
          have f5 : ((mid : Int) < (e : Int)) := by omega
          have f6 : ((e : Int) < (b : Int)) := by omega
          have HC := Lib.hid (rotate_any (.func (.func f) #[] #[]) HI.out.1 HN.out hl (a := i) (m := m) (b := e) (by omega) (by omega) (by omega))
          have HB := Lib.hid (And.intro HI.out.2.1 (And.intro HI.out.2.2.1 HI.out.2.2.2))
          clear HI
          go_wp2_with fail
          (with_reducible refine HC.out.mono ?_)
          rintro _ w3 ⟨rfl, L1, hr1, hn1, hm1, hk1⟩
          have HK1 := Lib.hid (HB.out.1.on hk1)
          have HX := Lib.hid (cross_rot (mid := mid) HF.out.ord HS.out.1 HS.out.2 hm1 (by omega) (by omega) (by omega) (by omega) (by have := HN.out; omega) (by omega) (.inl (by omega)) (HB.out.2.2.elim (fun c => .inl c) (fun ⟨x, y, hx, hy, hc⟩ => .inr (.inr ⟨x, y, by rw [← hx]; congr 1; omega, hy, hc⟩))))
          have hr2 := hr1
          have hn2 := hn1
          have hm2 := Mv.refl L1 a mid
          have hs2 : Sr (ltO cf) L1 a mid := by have := HX.out.two; rwa [show i = a by omega] at this
          have HK2 := Lib.hid HK1.out
          clear hr1 hn1 hm1 hk1
          have HZ := Lib.hid (And.intro hm2 hs2)
          have HC3 := Lib.hid (IH.out g cap mid e b n _ _ (by omega) hr2 hn2 hl (HX.out.three.out fun k k1 _ => HZ.out.1.out k (.inr k1)) (HX.out.four.out fun k k1 _ => HZ.out.1.out k (.inr (by omega))) (by omega) (by omega) hb)
          clear hr2 hn2 hm2 hs2
          go_wp2_with fail
          (with_reducible refine HC3.out.mono ?_)
          rintro _ w5 ⟨rfl, L3, hr3, hn3, ⟨hm3, hs3⟩, hk3⟩
          have HE := Lib.hid (show RowAt g cap n w (fun L' => Mv L L' a b ∧ Sr (ltO cf) L' a b) w5 from ⟨L3, hr3, hn3, HX.out.done (by omega) (by omega) HZ.out.1 HZ.out.2 hm3 hs3, HK2.out.on hk3⟩)
          clear hr3 hn3 hm3 hs3 hk3
          go_wp2_with fail
          go_returns
          exact ⟨rfl, HE.out⟩
        · have f1 : ((i : Int) < (m : Int)) := by omega
          have f2 : ((m : Int) < (e : Int)) := by omega
          have f3 : ¬ ((a : Int) < (i : Int)) := by omega
          have f5 : ((mid : Int) < (e : Int)) := by omega
          have f6 : ¬ ((e : Int) < (b : Int)) := by omega
          have HC := Lib.hid (rotate_any (.func (.func f) #[] #[]) HI.out.1 HN.out hl (a := i) (m := m) (b := e) (by omega) (by omega) (by omega))
          have HB := Lib.hid (And.intro HI.out.2.1 (And.intro HI.out.2.2.1 HI.out.2.2.2))
          clear HI
          go_wp2_with fail
          (with_reducible refine HC.out.mono ?_)
          rintro _ w3 ⟨rfl, L1, hr1, hn1, hm1, hk1⟩
          have HK1 := Lib.hid (HB.out.1.on hk1)
          have HX := Lib.hid (cross_rot (mid := mid) HF.out.ord HS.out.1 HS.out.2 hm1 (by omega) (by omega) (by omega) (by omega) (by have := HN.out; omega) (by omega) (.inl (by omega)) (HB.out.2.2.elim (fun c => .inl c) (fun ⟨x, y, hx, hy, hc⟩ => .inr (.inr ⟨x, y, by rw [← hx]; congr 1; omega, hy, hc⟩))))
          have hr2 := hr1
          have hn2 := hn1
          have hm2 := Mv.refl L1 a mid
          have hs2 : Sr (ltO cf) L1 a mid := by have := HX.out.two; rwa [show i = a by omega] at this
          have HK2 := Lib.hid HK1.out
          clear hr1 hn1 hm1 hk1
          have HZ := Lib.hid (And.intro hm2 hs2)
          have hs3 : Sr (ltO cf) L1 mid b := Sr.out (show Sr (ltO cf) L1 mid b from by have := HX.out.three; rwa [show e = b by omega] at this) fun k k1 _ => HZ.out.1.out k (.inr k1)
          have HE := Lib.hid (show RowAt g cap n w (fun L' => Mv L L' a b ∧ Sr (ltO cf) L' a b) _ from ⟨L1, hr2, hn2, HX.out.done (by omega) (by omega) HZ.out.1 HZ.out.2 (Mv.refl _ _ _) hs3, HK2.out⟩)
          clear hr2 hn2 hm2 hs2 hs3
          go_wp2_with fail
          go_returns
          exact ⟨rfl, HE.out⟩
      · have f1 : ((i : Int) < (m : Int)) := by omega
        have f2 : ((m : Int) < (e : Int)) := by omega
        have f3 : ((a : Int) < (i : Int)) := by omega
        have f4 : ((i : Int) < (mid : Int)) := by omega
        have f5 : ((mid : Int) < (e : Int)) := by omega
        have f6 : ((e : Int) < (b : Int)) := by omega
        have HC := Lib.hid (rotate_any (.func (.func f) #[] #[]) HI.out.1 HN.out hl (a := i) (m := m) (b := e) (by omega) (by omega) (by omega))
        have HB := Lib.hid (And.intro HI.out.2.1 (And.intro HI.out.2.2.1 HI.out.2.2.2))
        clear HI
        go_wp2_with fail
        (with_reducible refine HC.out.mono ?_)
        rintro _ w3 ⟨rfl, L1, hr1, hn1, hm1, hk1⟩
        have HK1 := Lib.hid (HB.out.1.on hk1)
        have HX := Lib.hid (cross_rot (mid := mid) HF.out.ord HS.out.1 HS.out.2 hm1 (by omega) (by omega) (by omega) (by omega) (by have := HN.out; omega) (by omega) (HB.out.2.1.elim (fun c => .inl c) (fun ⟨x, y, hx, hy, hc⟩ => .inr (.inr ⟨x, y, by rw [← hx]; congr 1; omega, hy, hc⟩))) (HB.out.2.2.elim (fun c => .inl c) (fun ⟨x, y, hx, hy, hc⟩ => .inr (.inr ⟨x, y, by rw [← hx]; congr 1; omega, hy, hc⟩))))
        have HC2 := Lib.hid (IH.out g cap a i mid n _ _ (by omega) hr1 hn1 hl HX.out.one HX.out.two (by omega) (by omega) (by omega))
        clear hr1 hn1 hm1 hk1
        go_wp2_with fail
        (with_reducible refine HC2.out.mono ?_)
        rintro _ w4 ⟨rfl, L2, hr2, hn2, ⟨hm2, hs2⟩, hk2⟩
        have HK2 := Lib.hid (HK1.out.on hk2)
        have HZ := Lib.hid (And.intro hm2 hs2)
        have HC3 := Lib.hid (IH.out g cap mid e b n _ _ (by omega) hr2 hn2 hl (HX.out.three.out fun k k1 _ => HZ.out.1.out k (.inr k1)) (HX.out.four.out fun k k1 _ => HZ.out.1.out k (.inr (by omega))) (by omega) (by omega) hb)
        clear hr2 hn2 hm2 hs2 hk2
        go_wp2_with fail
        (with_reducible refine HC3.out.mono ?_)
        rintro _ w5 ⟨rfl, L3, hr3, hn3, ⟨hm3, hs3⟩, hk3⟩
        have HE := Lib.hid (show RowAt g cap n w (fun L' => Mv L L' a b ∧ Sr (ltO cf) L' a b) w5 from ⟨L3, hr3, hn3, HX.out.done (by omega) (by omega) HZ.out.1 HZ.out.2 hm3 hs3, HK2.out.on hk3⟩)
        clear hr3 hn3 hm3 hs3 hk3
        go_wp2_with fail
        go_returns
        exact ⟨rfl, HE.out⟩
end Cu
end Go.Proofs.Ytppjmmdiglnkfaa
