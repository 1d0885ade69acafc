/- Rows of operations that are put in order: two rows in order made one, in place (slices.symMergeCmpFunc): one among many. -/
import Derived.Test.YtppjmmdiglnkfaaQbb
import Derived.Lib.QuietBelow
import Derived.Shelf.RegionOpenPlain
import Derived.Deep.RegionLaw
namespace Go.Proofs.Ytppjmmdiglnkfaa
set_option maxRecDepth 100000
open Go.ChangeShapes Go.WideShapes Go.ChangeAt Go.RowKit Go.PlainAid Go.Deep Go.Shelf Go.Sort
namespace Cu
attribute [local go_sem ↓ high] load_op store_o
set_option maxHeartbeats 8000000 in
theorem sym_first {f : Nat} {cf : OpV → OpV → Int} (hf : Cmp f cf) {g cap a m b n : Nat} {L : List OpV} {w : World} (h : InRow w g cap L) (hn : L.length = n) (hl : n ≤ 1048576) (hs1 : Sr (ltO cf) L a m) (hs2 : Sr (ltO cf) L m b) (hm0 : m = a + 1) (hmb : m < b) (hb : b ≤ n) :
    Calls Try.prog 99 #[.slice (some ⟨g, 0, none⟩) n cap, .int .i64 a, .int .i64 m, .int .i64 b, .func (.func f) #[] #[]] w (RowPost g cap n w fun L' => Mv L L' a b ∧ Sr (ltO cf) L' a b) := by
  have eg := hf.enter
  have HF := Lib.hid hf
  have HR0 := Lib.hid h
  have HN := Lib.hid hn
  have HS := Lib.hid (And.intro hs1 hs2)
  clear hf h hn hs1 hs2
  have hm1 : m ≤ a + 1 := by omega
  have hm2 : a + 1 ≤ m := by omega
  clear hm0
  have w0 : IntKind.i64.wrap ((m : Int) - (a : Int)) = 1 := by rw [IntWalk.i64_in _ (by omega)]; omega
  have q0 : (a : Int) < (n : Int) := by omega
  have mixed := mixed
  go_enter Try.func99, Try.ntmps99
  go_wp2_with fail
  clear w0
  go_loopw [10, 11] (fun s10 s11 wr => ∃ i j : Nat, s10 = .int .i64 i ∧ s11 = .int .i64 j ∧ m ≤ i ∧ i ≤ j ∧ j ≤ b ∧ Hid (InRow wr g cap L ∧ Keeps (fun k => k = g) w wr ∧ (i = m ∨ ∃ x y, L[i - 1]? = some x ∧ L[a]? = some y ∧ ltO cf x y = true) ∧ (j = b ∨ ∃ x y, L[j]? = some x ∧ L[a]? = some y ∧ ltO cf x y = false))) (fun s10 s11 _ => (intOf s11 - intOf s10).toNat)
  case atStart => exact ⟨m, b, by first | rfl | simp, by first | rfl | simp, Nat.le_refl _, by omega, Nat.le_refl _, Lib.hid ⟨HR0.out, Keeps.refl _ _, .inl rfl, .inl rfl⟩⟩
  case round =>
    obtain ⟨i, j, rfl, rfl, hlo, hij, hhi, HI⟩ := hrel
    by_cases hlt : i < j
    · have hltz : (i : Int) < (j : Int) := by omega
      obtain ⟨t, ht⟩ : ∃ t, (i + j) / 2 = t := ⟨_, rfl⟩
      have htl : i ≤ t ∧ t < j := by omega
      have e1 : ((i : Int) + (j : Int)) / 2 = (t : Int) := by omega
      have t1 : (t : Int) < (n : Int) := by omega
      have t2 : IntKind.i64.wrap ((t : Int) + 1) = (t : Int) + 1 := IntWalk.i64_in _ (by omega)
      obtain ⟨x, hx⟩ : ∃ x, L[t]? = some x := ⟨_, List.getElem?_eq_getElem (by have := HN.out; omega)⟩
      obtain ⟨y, hy⟩ : ∃ y, L[a]? = some y := ⟨_, List.getElem?_eq_getElem (by have := HN.out; omega)⟩
      have HT := Lib.hid htl
      clear ht htl
      have lx := fun d os => (HI.out.1.on (below_regrown wr d os)).load hx
      have ly := fun d os => (HI.out.1.on (below_regrown wr d os)).load hy
      obtain ⟨cz, hcz⟩ : ∃ z, cf x y = z := ⟨_, rfl⟩
      have k1 : ∀ d os, Calls Try.prog f #[Value.agg #[Value.int .i64 x.id, Value.int .i64 x.proc, Value.int .i64 x.obj, Value.int .i64 x.kind, Value.int .i64 x.meth, Value.int .i64 x.arg, Value.int .i64 x.sec, Value.bool x.done, Value.int .i64 x.res, Value.int .i64 x.inv, Value.int .i64 x.ret], Value.agg #[Value.int .i64 y.id, Value.int .i64 y.proc, Value.int .i64 y.obj, Value.int .i64 y.kind, Value.int .i64 y.meth, Value.int .i64 y.arg, Value.int .i64 y.sec, Value.bool y.done, Value.int .i64 y.res, Value.int .i64 y.inv, Value.int .i64 y.ret]] (grow (redrawn wr d) os) fun e w'' => e = .returned (.int .i64 cz) ∧ ∃ p : Regrown, w'' = grow (redrawn wr p.d) p.os := fun d os => Calls.regrown_of (by rw [← hcz]; exact HF.out.calls x y _)
      have K1 := Lib.hid k1
      have HCZ := Lib.hid (show decide (cz < 0) = ltO cf x y by unfold ltO; rw [hcz])
      have HX := Lib.hid hx
      have HY := Lib.hid hy
      clear k1 hcz hx hy
      by_cases hc : cz < 0
      · go_wp2_with fail
        refine wp_region_quiet_below (by kernel_rfl) (by kernel_rfl) ?_
        repeat (go_big_quiet_step (first | (with_reducible exact K1.out _ _)))
        refine wpQuiet_nil ?_
        intro _ hw'
        obtain ⟨⟨dq, osq⟩, hw''⟩ := hw'
        subst hw''
        go_wp2_with fail
        try any_goals (exfalso; rename_i hh; (first | (simp at hh; done) | (simp at hh; omega)))
        go_roundw
        case measure => have := HT.out; simp [intOf] <;> omega
        case rel => exact ⟨t + 1, j, by simp, rfl, by have := HT.out; omega, by have := HT.out; omega, hhi, Lib.hid ⟨HI.out.1.on (below_regrown wr dq osq), Keeps.regrown HI.out.2.1 dq osq, .inr ⟨x, y, HX.out, HY.out, by rw [← HCZ.out]; exact decide_eq_true (by omega)⟩, HI.out.2.2.2⟩⟩
      · go_wp2_with fail
        refine wp_region_quiet_below (by kernel_rfl) (by kernel_rfl) ?_
        repeat (go_big_quiet_step (first | (with_reducible exact K1.out _ _)))
        refine wpQuiet_nil ?_
        intro _ hw'
        obtain ⟨⟨dq, osq⟩, hw''⟩ := hw'
        subst hw''
        go_wp2_with fail
        try any_goals (exfalso; rename_i hh; (first | (simp at hh; done) | (simp at hh; omega)))
        go_roundw
        case measure => have := HT.out; simp [intOf] <;> omega
        case rel => exact ⟨i, t, rfl, by simp, hlo, by have := HT.out; omega, by have := HT.out; omega, Lib.hid ⟨HI.out.1.on (below_regrown wr dq osq), Keeps.regrown HI.out.2.1 dq osq, HI.out.2.2.1, .inr ⟨x, y, HX.out, HY.out, by rw [← HCZ.out]; exact decide_eq_false (by omega)⟩⟩⟩
    · obtain rfl : i = j := by omega
      obtain ⟨ip, rfl⟩ : ∃ ip, i = ip + 1 := ⟨i - 1, by omega⟩
      have hltz : ¬ ((ip : Int) + 1 < (ip : Int) + 1) := by omega
      have w1 : IntKind.i64.wrap (ip : Int) = (ip : Int) := IntWalk.i64_in _ (by omega)
      have HS1 := Lib.hid (show RowAt g cap n w (fun L' => Rot L L' a (a + 1) (a + 1)) wr from ⟨L, HI.out.1, HN.out, Rot.id (.inr rfl), HI.out.2.1⟩)
      have HB := Lib.hid (And.intro HI.out.2.2.1 HI.out.2.2.2)
      clear HI
      go_wp2_with fail
      go_loopw [13] (fun s13 wr => ∃ k : Nat, s13 = .int .i64 k ∧ a ≤ k ∧ k ≤ ip ∧ Hid (RowAt g cap n w (fun L' => Rot L L' a (a + 1) (k + 1)) wr)) (fun s13 _ => ip - (intOf s13).toNat)
      case atStart => exact ⟨a, rfl, Nat.le_refl _, by omega, HS1⟩
      case round =>
        clear HS1
        obtain ⟨k, rfl, hak, hki, HI⟩ := hrel
        by_cases hlt : k < ip
        · have q1 : (k : Int) < (ip : Int) := by omega
          have q2 : IntKind.i64.wrap ((k : Int) + 1) = (k : Int) + 1 := IntWalk.i64_in _ (by omega)
          have q3 : (k : Int) < (n : Int) := by omega
          have q4 : (k : Int) + 1 < (n : Int) := by omega
          have q5 : (0 : Int) ≤ (k : Int) + 1 := by omega
          have q6 : ((k : Int) + 1).toNat = k + 1 := by omega
          obtain ⟨L1, hr1, hn1, hm1, hk1⟩ := HI.out
          obtain ⟨x, hx⟩ : ∃ x, L1[k]? = some x := ⟨_, List.getElem?_eq_getElem (by omega)⟩
          obtain ⟨y, hy⟩ : ∃ y, L1[k + 1]? = some y := ⟨_, List.getElem?_eq_getElem (by omega)⟩
          have HR3 := Lib.hid hr1
          have HP := Lib.hid (And.intro hn1 (And.intro hm1 hk1))
          have HX := Lib.hid hx
          have HY := Lib.hid hy
          clear HI hr1 hn1 hm1 hk1 hx hy
          obtain ⟨W1, W2, s1, s2, r2, k2⟩ := InRow.swap (HR3.out.on (below_drew _)) HX.out HY.out
          have lx2 := (HR3.out.on (below_drew _)).load HX.out
          have ly2 := (HR3.out.on (below_drew _)).load HY.out
          have R2 := Lib.hid r2
          have K2 := Lib.hid k2
          clear r2 k2
          go_wp2_with fail
          go_big_region_o
          all_goals go_wp2_with fail
          go_roundw
          case measure => simp [intOf] <;> omega
          case rel =>
            obtain ⟨p1, p2, p3⟩ := HP.out
            have := HN.out
            exact ⟨k + 1, by simp, by omega, by omega, Lib.hid ⟨_, R2.out, by rw [swp_len]; exact p1, p2.right hak (by omega), p3.drew.on K2.out⟩⟩
        · obtain rfl : k = ip := by omega
          have q1 : ¬ ((k : Int) < (k : Int)) := by omega
          obtain ⟨L1, hr1, hn1, hmv, hk1⟩ := HI.out
          have hlen := HN.out
          have HE := Lib.hid (show RowAt g cap n w (fun L' => Mv L L' a b ∧ Sr (ltO cf) L' a b) wr from ⟨L1, hr1, hn1, merge_first HF.out.ord ((show m = a + 1 by omega) ▸ HS.out.2) hmv (by omega) hhi (by omega) ((show m = a + 1 by omega) ▸ HB.out.1) HB.out.2, hk1⟩)
          clear HI hr1 hn1 hmv hk1 hlen
          go_wp2_with fail
          go_returns
          exact ⟨rfl, HE.out⟩
set_option maxHeartbeats 8000000 in
theorem sym_last {f : Nat} {cf : OpV → OpV → Int} (hf : Cmp f cf) {g cap a m b n : Nat} {L : List OpV} {w : World} (h : InRow w g cap L) (hn : L.length = n) (hl : n ≤ 1048576) (hs1 : Sr (ltO cf) L a m) (hs2 : Sr (ltO cf) L m b) (ham : a + 1 < m) (hb0 : b = m + 1) (hb : b ≤ n) :
    Calls Try.prog 99 #[.slice (some ⟨g, 0, none⟩) n cap, .int .i64 a, .int .i64 m, .int .i64 b, .func (.func f) #[] #[]] w (RowPost g cap n w fun L' => Mv L L' a b ∧ Sr (ltO cf) L' a b) := by
  have eg := hf.enter
  have HF := Lib.hid hf
  have HR0 := Lib.hid h
  have HN := Lib.hid hn
  have HS := Lib.hid (And.intro hs1 hs2)
  clear hf h hn hs1 hs2
  have hb1 : b ≤ m + 1 := by omega
  have hb2 : m + 1 ≤ b := by omega
  clear hb0
  have w0 : IntKind.i64.wrap ((m : Int) - (a : Int)) = (m : Int) - (a : Int) := IntWalk.i64_in _ (by omega)
  have w1 : ((m : Int) - (a : Int) == 1) = false := by simp; omega
  have w2 : IntKind.i64.wrap ((b : Int) - (m : Int)) = 1 := by rw [IntWalk.i64_in _ (by omega)]; omega
  have q0 : (m : Int) < (n : Int) := by omega
  have mixed := mixed
  go_enter Try.func99, Try.ntmps99
  go_wp2_with fail
  clear w0 w1 w2
  go_loopw [14, 15] (fun s14 s15 wr => ∃ i j : Nat, s14 = .int .i64 i ∧ s15 = .int .i64 j ∧ a ≤ i ∧ i ≤ j ∧ j ≤ m ∧ Hid (InRow wr g cap L ∧ Keeps (fun k => k = g) w wr ∧ (i = a ∨ ∃ x y, L[m]? = some x ∧ L[i - 1]? = some y ∧ ltO cf x y = false) ∧ (j = m ∨ ∃ x y, L[m]? = some x ∧ L[j]? = some y ∧ ltO cf x y = true))) (fun s14 s15 _ => (intOf s15 - intOf s14).toNat)
  case atStart => exact ⟨a, m, by first | rfl | simp, by first | rfl | simp, Nat.le_refl _, by omega, Nat.le_refl _, Lib.hid ⟨HR0.out, Keeps.refl _ _, .inl rfl, .inl rfl⟩⟩
  case round =>
    obtain ⟨i, j, rfl, rfl, hlo, hij, hhi, HI⟩ := hrel
    by_cases hlt : i < j
    · have hltz : (i : Int) < (j : Int) := by omega
      obtain ⟨t, ht⟩ : ∃ t, (i + j) / 2 = t := ⟨_, rfl⟩
      have htl : i ≤ t ∧ t < j := by omega
      have e1 : ((i : Int) + (j : Int)) / 2 = (t : Int) := by omega
      have t1 : (t : Int) < (n : Int) := by omega
      have t2 : IntKind.i64.wrap ((t : Int) + 1) = (t : Int) + 1 := IntWalk.i64_in _ (by omega)
      obtain ⟨x, hx⟩ : ∃ x, L[m]? = some x := ⟨_, List.getElem?_eq_getElem (by have := HN.out; omega)⟩
      obtain ⟨y, hy⟩ : ∃ y, L[t]? = some y := ⟨_, List.getElem?_eq_getElem (by have := HN.out; omega)⟩
      have HT := Lib.hid htl
      clear ht htl
      have lx := fun d os => (HI.out.1.on (below_regrown wr d os)).load hx
      have ly := fun d os => (HI.out.1.on (below_regrown wr d os)).load hy
      obtain ⟨cz, hcz⟩ : ∃ z, cf x y = z := ⟨_, rfl⟩
      have k1 : ∀ d os, Calls Try.prog f #[Value.agg #[Value.int .i64 x.id, Value.int .i64 x.proc, Value.int .i64 x.obj, Value.int .i64 x.kind, Value.int .i64 x.meth, Value.int .i64 x.arg, Value.int .i64 x.sec, Value.bool x.done, Value.int .i64 x.res, Value.int .i64 x.inv, Value.int .i64 x.ret], Value.agg #[Value.int .i64 y.id, Value.int .i64 y.proc, Value.int .i64 y.obj, Value.int .i64 y.kind, Value.int .i64 y.meth, Value.int .i64 y.arg, Value.int .i64 y.sec, Value.bool y.done, Value.int .i64 y.res, Value.int .i64 y.inv, Value.int .i64 y.ret]] (grow (redrawn wr d) os) fun e w'' => e = .returned (.int .i64 cz) ∧ ∃ p : Regrown, w'' = grow (redrawn wr p.d) p.os := fun d os => Calls.regrown_of (by rw [← hcz]; exact HF.out.calls x y _)
      have K1 := Lib.hid k1
      have HCZ := Lib.hid (show decide (cz < 0) = ltO cf x y by unfold ltO; rw [hcz])
      have HX := Lib.hid hx
      have HY := Lib.hid hy
      clear k1 hcz hx hy
      by_cases hc : cz < 0
      · go_wp2_with fail
        refine wp_region_quiet_below (by kernel_rfl) (by kernel_rfl) ?_
        repeat (go_big_quiet_step (first | (with_reducible exact K1.out _ _)))
        refine wpQuiet_nil ?_
        intro _ hw'
        obtain ⟨⟨dq, osq⟩, hw''⟩ := hw'
        subst hw''
        go_wp2_with fail
        try any_goals (exfalso; rename_i hh; (first | (simp at hh; done) | (simp at hh; omega)))
        go_roundw
        case measure => have := HT.out; simp [intOf] <;> omega
        case rel => exact ⟨i, t, rfl, by simp, hlo, by have := HT.out; omega, by have := HT.out; omega, Lib.hid ⟨HI.out.1.on (below_regrown wr dq osq), Keeps.regrown HI.out.2.1 dq osq, HI.out.2.2.1, .inr ⟨x, y, HX.out, HY.out, by rw [← HCZ.out]; exact decide_eq_true (by omega)⟩⟩⟩
      · go_wp2_with fail
        refine wp_region_quiet_below (by kernel_rfl) (by kernel_rfl) ?_
        repeat (go_big_quiet_step (first | (with_reducible exact K1.out _ _)))
        refine wpQuiet_nil ?_
        intro _ hw'
        obtain ⟨⟨dq, osq⟩, hw''⟩ := hw'
        subst hw''
        go_wp2_with fail
        try any_goals (exfalso; rename_i hh; (first | (simp at hh; done) | (simp at hh; omega)))
        go_roundw
        case measure => have := HT.out; simp [intOf] <;> omega
        case rel => exact ⟨t + 1, j, by simp, rfl, by have := HT.out; omega, by have := HT.out; omega, hhi, Lib.hid ⟨HI.out.1.on (below_regrown wr dq osq), Keeps.regrown HI.out.2.1 dq osq, .inr ⟨x, y, HX.out, HY.out, by rw [← HCZ.out]; exact decide_eq_false (by omega)⟩, HI.out.2.2.2⟩⟩
    · obtain rfl : i = j := by omega
      have hltz : ¬ ((i : Int) < (i : Int)) := by omega
      have HS1 := Lib.hid (show RowAt g cap n w (fun L' => Rot L L' m m (m + 1)) wr from ⟨L, HI.out.1, HN.out, Rot.id (.inl rfl), HI.out.2.1⟩)
      have HB := Lib.hid (And.intro HI.out.2.2.1 HI.out.2.2.2)
      clear HI
      go_wp2_with fail
      go_loopw [17] (fun s17 wr => ∃ k : Nat, s17 = .int .i64 k ∧ i ≤ k ∧ k ≤ m ∧ Hid (RowAt g cap n w (fun L' => Rot L L' k m (m + 1)) wr)) (fun s17 _ => (intOf s17).toNat)
      case atStart => exact ⟨m, rfl, by omega, Nat.le_refl _, HS1⟩
      case round =>
        clear HS1
        obtain ⟨k, rfl, hik, hkm, HI⟩ := hrel
        by_cases hlt : i < k
        · obtain ⟨kp, rfl⟩ : ∃ kp, k = kp + 1 := ⟨k - 1, by omega⟩
          have q1 : (i : Int) < (kp : Int) + 1 := by omega
          have q2 : IntKind.i64.wrap (kp : Int) = (kp : Int) := IntWalk.i64_in _ (by omega)
          have q3 : (kp : Int) < (n : Int) := by omega
          have q4 : (kp : Int) + 1 < (n : Int) := by omega
          have q5 : (0 : Int) ≤ (kp : Int) + 1 := by omega
          have q6 : ((kp : Int) + 1).toNat = kp + 1 := by omega
          obtain ⟨L1, hr1, hn1, hm1, hk1⟩ := HI.out
          obtain ⟨x, hx⟩ : ∃ x, L1[kp + 1]? = some x := ⟨_, List.getElem?_eq_getElem (by omega)⟩
          obtain ⟨y, hy⟩ : ∃ y, L1[kp]? = some y := ⟨_, List.getElem?_eq_getElem (by omega)⟩
          have HR3 := Lib.hid hr1
          have HP := Lib.hid (And.intro hn1 (And.intro hm1 hk1))
          have HX := Lib.hid hx
          have HY := Lib.hid hy
          clear HI hr1 hn1 hm1 hk1 hx hy
          obtain ⟨W1, W2, s1, s2, r2, k2⟩ := InRow.swap (HR3.out.on (below_drew _)) HX.out HY.out
          have lx2 := (HR3.out.on (below_drew _)).load HX.out
          have ly2 := (HR3.out.on (below_drew _)).load HY.out
          have R2 := Lib.hid r2
          have K2 := Lib.hid k2
          clear r2 k2
          go_wp2_with fail
          go_big_region_o
          all_goals go_wp2_with fail
          go_roundw
          case measure => simp [intOf] <;> omega
          case rel =>
            obtain ⟨p1, p2, p3⟩ := HP.out
            have := HN.out
            have hp := p2.left (by omega) hkm (by omega)
            exact ⟨kp, by first | rfl | simp, by omega, by omega, Lib.hid ⟨_, R2.out, by rw [swp_len]; exact p1, hp, p3.drew.on K2.out⟩⟩
        · obtain rfl : k = i := by omega
          have q1 : ¬ ((k : Int) < (k : Int)) := by omega
          obtain ⟨L1, hr1, hn1, hmv, hk1⟩ := HI.out
          have hlen := HN.out
          have HE := Lib.hid (show RowAt g cap n w (fun L' => Mv L L' a b ∧ Sr (ltO cf) L' a b) wr from ⟨L1, hr1, hn1, (show m + 1 = b by omega) ▸ merge_last HF.out.ord HS.out.1 hmv hlo hkm (by omega) HB.out.1 HB.out.2, hk1⟩)
          clear HI hr1 hn1 hmv hk1 hlen
          go_wp2_with fail
          go_returns
          exact ⟨rfl, HE.out⟩
/-- Two rows in order are made one, up to so many. -/
def SymOk (f : Nat) (cf : OpV → OpV → Int) (d : Nat) : Prop := ∀ (g cap a m b n : Nat) (L : List OpV) (w : World) (_ : b - a ≤ d) (_ : InRow w g cap L) (_ : L.length = n) (_ : n ≤ 1048576) (_ : Sr (ltO cf) L a m) (_ : Sr (ltO cf) L m b) (_ : a < m) (_ : m < b) (_ : b ≤ n),
    Calls Try.prog 99 #[.slice (some ⟨g, 0, none⟩) n cap, .int .i64 a, .int .i64 m, .int .i64 b, .func (.func f) #[] #[]] w (RowPost g cap n w fun L' => Mv L L' a b ∧ Sr (ltO cf) L' a b)
end Cu
end Go.Proofs.Ytppjmmdiglnkfaa
