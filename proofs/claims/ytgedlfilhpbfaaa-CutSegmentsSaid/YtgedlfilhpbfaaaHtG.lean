/- Histories: the reference's Check; the same lists. -/
import Derived.Test.YtgedlfilhpbfaaaHtF
import Derived.Test.YtgedlfilhpbfaaaOpG
namespace Go.Proofs.Ytgedlfilhpbfaaa
set_option maxRecDepth 100000
open Go.ChangeShapes Go.WideShapes Go.ChangeAt Go.RowKit Go.PlainAid Go.Deep

attribute [local go_sem ↓ high] load_op store_o
set_option maxHeartbeats 4000000 in
theorem hrcheck_any {v : Value} {l : List OpV} {w : World} (h : OpsOf w v l) (hs : l.length ≤ 1048576) :
    Calls Try.prog 14 #[v] w fun e w' => e = .returned (.int .i64 (Hs.checkL HL l)) ∧ Below w.heap.size w w' := by
  obtain ⟨ao, ac, rfl⟩ := h.len
  have H := Lib.hid h
  clear h
  by_cases hm : 64 < l.length
  · have HE := Lib.hid (check_many hm)
    have q0 : decide ((l.length : Int) > 64) = true := decide_eq_true (by omega)
    have q00 : ((64 : Int) < (l.length : Int)) = True := eq_true (by omega)
    clear hm
    go_enter Try.func14, Try.ntmps14
    go_wp2_with fail
    go_returns
    exact ⟨by rw [HE.out]; rfl, Below.refl _ _⟩
  have HM := Lib.hid hm
  have q0 : decide ((l.length : Int) > 64) = false := decide_eq_false (by omega)
  have q00 : ((64 : Int) < (l.length : Int)) = False := eq_false (by omega)
  clear hm
  go_enter Try.func14, Try.ntmps14
  go_wp2_with fail
  clear q0 q00
  go_loopw [3] (fun s3 wr => ∃ k : Nat, s3 = .int .i64 k ∧ k ≤ l.length ∧ Hid (Hs.scanZ HL none l = Hs.scanZ HL (prevO l k) (l.drop k) ∧ Below w.heap.size w wr)) (fun s3 _ => l.length - (intOf s3).toNat)
  case atStart => exact ⟨0, rfl, Nat.zero_le _, Lib.hid ⟨rfl, Below.refl _ _⟩⟩
  case round =>
    obtain ⟨k, rfl, hk, HI⟩ := hrel
    by_cases hkl : k < l.length
    · obtain ⟨x, hx⟩ : ∃ x, l[k]? = some x := ⟨_, List.getElem?_eq_getElem hkl⟩
      have hH := H.out.on HI.out.2
      obtain ⟨b, p, cap, hv, hblt, hwf, hcc⟩ := OpsOf.at hH hx
      have e0 : ao = some ⟨b, p, none⟩ := by cases hv; rfl
      subst e0
      have l1 := load_cellsO (p := p + k * 11) hcc
      have q1 : decide ((k : Int) < (l.length : Int)) = true := decide_eq_true (by omega)
      have q2 : (k : Int) < (l.length : Int) := by omega
      have q3 : IntKind.i64.wrap ((k : Int) + 1) = (k : Int) + 1 := IntWalk.i64_in _ (by omega)
      have HX := Lib.hid hx
      have HK := Lib.hid hkl
      have HH := Lib.hid hH
      have q4 : (0 : Int) ≤ (k : Int) := by omega
      clear hv hblt hwf hcc hx hk hkl hH
      obtain ⟨z, hz⟩ : ∃ z, checkZ x = z := ⟨_, rfl⟩
      have HZ := Lib.hid hz
      clear hz
      go_wp2_with fail
      refine (rcheck_any x _).mono ?_
      rintro _ w3 ⟨rfl, hb3⟩
      rw [HZ.out]
      have HB3 := Lib.hid (HI.out.2.on hb3)
      have H3 := Lib.hid (HH.out.on hb3)
      clear hb3 l1
      by_cases hz0 : z = 0
      · subst hz0
        obtain ⟨b0, p0, cap0, hv0, _, _, hcc0⟩ := OpsOf.at H3.out HX.out
        have e2 : b0 = b ∧ p0 = p := by cases hv0; exact ⟨rfl, rfl⟩
        obtain ⟨rfl, rfl⟩ := e2
        have x0 : w3.cell? ⟨b0, p0 + k * 11, none⟩ = some (.int .i64 x.id) := hcc0 0 _ rfl
        clear hv0 hcc0
        by_cases hk0 : 0 < k
        · obtain ⟨j, q, hj, hq, hp⟩ := prev_some hk0 (Nat.le_of_lt HK.out)
          obtain ⟨b', p', cap', hv', _, _, hcc'⟩ := OpsOf.at H3.out hq
          have e1 : b' = b0 ∧ p' = p0 := by cases hv'; exact ⟨rfl, rfl⟩
          obtain ⟨rfl, rfl⟩ := e1
          have c1 : w3.cell? ⟨b', p' + j * 11, none⟩ = some (.int .i64 q.id) := hcc' 0 _ rfl
          have g0 : decide ((k : Int) > 0) = true := decide_eq_true (by omega)
          have g1 : decide (0 < k) = true := decide_eq_true (by omega)
          have g2 : (0 : Int) < (k : Int) := by omega
          have g3 : IntKind.i64.wrap ((k : Int) - 1) = (j : Int) := by rw [IntWalk.i64_in _ (by omega)]; omega
          have g4 : (j : Int) < (l.length : Int) := by omega
          have g5 : (0 : Int) ≤ (j : Int) := by omega
          have HP := Lib.hid hp
          clear hv' hcc' hq hk0 hj hp
          by_cases hd : x.id ≤ q.id
          · have d1 : decide (x.id ≤ q.id) = true := decide_eq_true hd
            have HE := Lib.hid (check_scan HM.out (HI.out.1.trans (scan_late HX.out HZ.out HP.out hd)) (by decide))
            clear hd
            go_wp2_with fail
            go_quiet (fail)
            go_wp2_with fail
            go_returns
            exact ⟨by rw [HE.out]; rfl, HB3.out.on (below_drewN _ _)⟩
          · have d1 : decide (x.id ≤ q.id) = false := decide_eq_false hd
            have HD := Lib.hid (HI.out.1.trans (scan_on HX.out HZ.out (fun q' e => by rw [HP.out] at e; rw [← Option.some.inj e]; exact hd)))
            clear hd
            go_wp2_with fail
            go_quiet (fail)
            go_wp2_with fail
            go_roundw
            case measure => have := HK.out; simp [intOf]; omega
            case rel => exact ⟨k + 1, by simp, HK.out, Lib.hid ⟨HD.out, HB3.out.on (below_drewN _ _)⟩⟩
        · have hk0' : k = 0 := by omega
          have g0 : decide ((k : Int) > 0) = false := decide_eq_false (by omega)
          have g1 : decide (0 < k) = false := decide_eq_false (by omega)
          have HD := Lib.hid (HI.out.1.trans (scan_on HX.out HZ.out (fun q' e => by subst hk0'; simp [prevO] at e)))
          clear hk0 hk0'
          go_wp2_with fail
          go_quiet (fail)
          go_wp2_with fail
          go_roundw
          case measure => have := HK.out; simp [intOf]; omega
          case rel => exact ⟨k + 1, by simp, HK.out, Lib.hid ⟨HD.out, HB3.out.on (below_drewN _ _)⟩⟩
      · have q5 : (z != 0) = true := bne_iff_ne.2 hz0
        have HE := Lib.hid (check_scan HM.out (HI.out.1.trans ((scan_bad HX.out (by rw [HZ.out]; exact hz0)).trans HZ.out)) hz0)
        clear hz0
        go_wp2_with fail
        go_returns
        exact ⟨by rw [HE.out]; rfl, HB3.out⟩
    · have q1 : decide ((k : Int) < (l.length : Int)) = false := decide_eq_false (by omega)
      have q2 : ((k : Int) < (l.length : Int)) = False := eq_false (by omega)
      have HS := Lib.hid (check_side HM.out (HI.out.1.trans (by rw [List.drop_eq_nil_of_le (by omega)]; rfl)))
      have HBa := Lib.hid HI.out.2
      clear hk hkl HI
      go_wp2_with fail
      clear q1 q2
      go_loopw [5] (fun s5 wr => ∃ i : Nat, s5 = .int .i64 i ∧ i ≤ l.length ∧ Hid (Hs.sidesZ HL l l = Hs.sidesZ HL l (l.drop i) ∧ Below w.heap.size w wr)) (fun s5 _ => l.length - (intOf s5).toNat)
      case atStart => exact ⟨0, rfl, Nat.zero_le _, Lib.hid ⟨rfl, HBa.out⟩⟩
      case round =>
        clear HBa
        obtain ⟨i, rfl, hi, HI⟩ := hrel
        by_cases hil : i < l.length
        · obtain ⟨x, hx⟩ : ∃ x, l[i]? = some x := ⟨_, List.getElem?_eq_getElem hil⟩
          have hH := H.out.on HI.out.2
          obtain ⟨b, p, cap, hv, hblt, hwf, hcc⟩ := OpsOf.at hH hx
          have e0 : ao = some ⟨b, p, none⟩ := by cases hv; rfl
          subst e0
          have l1 := load_cellsO (p := p + i * 11) hcc
          have q1 : decide ((i : Int) < (l.length : Int)) = true := decide_eq_true (by omega)
          have q2 : (i : Int) < (l.length : Int) := by omega
          have q3 : IntKind.i64.wrap ((i : Int) + 1) = (i : Int) + 1 := IntWalk.i64_in _ (by omega)
          have q4 : (0 : Int) ≤ (i : Int) := by omega
          have HX := Lib.hid hx
          have HK := Lib.hid hil
          have H2 := Lib.hid hH
          clear hv hblt hwf hcc hx hi hil hH
          obtain ⟨z, hz⟩ : ∃ z, Hs.besideZ HL l x = z := ⟨_, rfl⟩
          have HZ := Lib.hid hz
          clear hz
          go_wp2_with fail
          refine (rbeside_any x H2.out hs).mono ?_
          rintro _ w3 ⟨rfl, hb3⟩
          rw [HZ.out]
          have HB3 := Lib.hid (HI.out.2.on hb3)
          clear hb3
          by_cases hz0 : z = 0
          · subst hz0
            have HD := Lib.hid (HI.out.1.trans (sides_on HX.out HZ.out))
            go_wp2_with fail
            go_roundw
            case measure => have := HK.out; simp [intOf]; omega
            case rel => exact ⟨i + 1, by simp, HK.out, Lib.hid ⟨HD.out, HB3.out⟩⟩
          · have q5 : (z != 0) = true := bne_iff_ne.2 hz0
            have HE := Lib.hid (HS.out.trans (HI.out.1.trans ((sides_bad HX.out (by rw [HZ.out]; exact hz0)).trans HZ.out)))
            clear hz0
            go_wp2_with fail
            go_returns
            exact ⟨by rw [HE.out]; rfl, HB3.out⟩
        · have q1 : decide ((i : Int) < (l.length : Int)) = false := decide_eq_false (by omega)
          have q2 : ((i : Int) < (l.length : Int)) = False := eq_false (by omega)
          have HE := Lib.hid (show Hs.checkL HL l = 0 from HS.out.trans (HI.out.1.trans (by rw [List.drop_eq_nil_of_le (by omega)]; rfl)))
          clear hi hil
          go_wp2_with fail
          go_returns
          exact ⟨by rw [HE.out]; rfl, HI.out.2⟩
set_option maxHeartbeats 2000000 in
/-- Two slices of the same operations. -/
theorem rops_any {v u : Value} {l : List OpV} {w : World} (h : OpsOf w v l) (h' : OpsOf w u l) (hs : l.length ≤ 1048576) :
    Calls Try.prog 15 #[v, u] w fun e w' => e = .returned (.bool true) ∧ Below w.heap.size w w' := by
  obtain ⟨ao, ac, rfl⟩ := h.len
  obtain ⟨bo, bc, rfl⟩ := h'.len
  have H := Lib.hid h
  have H' := Lib.hid h'
  clear h h'
  go_enter Try.func15, Try.ntmps15
  go_wp2_with fail
  go_loopw [5] (fun s5 wr => ∃ k : Nat, s5 = .int .i64 k ∧ k ≤ l.length ∧ Hid (Below w.heap.size w wr)) (fun s5 _ => l.length - (intOf s5).toNat)
  case atStart => exact ⟨0, rfl, Nat.zero_le _, Lib.hid (Below.refl _ _)⟩
  case round =>
    obtain ⟨k, rfl, hk, HI⟩ := hrel
    by_cases hkl : k < l.length
    · obtain ⟨x, hx⟩ : ∃ x, l[k]? = some x := ⟨_, List.getElem?_eq_getElem hkl⟩
      obtain ⟨b, p, cap, hv, hblt, hwf, hcc⟩ := OpsOf.at (H.out.on HI.out) hx
      have e0 : ao = some ⟨b, p, none⟩ := by cases hv; rfl
      subst e0
      obtain ⟨b', p', cap', hv', hblt', _, hcc'⟩ := OpsOf.at (H'.out.on HI.out) hx
      have e0 : bo = some ⟨b', p', none⟩ := by cases hv'; rfl
      subst e0
      have l1 : ∀ n, (loadS 35 (.pointer (some ⟨b, p + k * 11, none⟩))).run Try.prog (wr.drewN n) = .ok (Value.agg #[Value.int .i64 x.id, Value.int .i64 x.proc, Value.int .i64 x.obj, Value.int .i64 x.kind, Value.int .i64 x.meth, Value.int .i64 x.arg, Value.int .i64 x.sec, Value.bool x.done, Value.int .i64 x.res, Value.int .i64 x.inv, Value.int .i64 x.ret]) (wr.drewN n) := fun n => load_cellsO (p := p + k * 11) hcc
      have l2 : ∀ n, (loadS 35 (.pointer (some ⟨b', p' + k * 11, none⟩))).run Try.prog (wr.drewN n) = .ok (Value.agg #[Value.int .i64 x.id, Value.int .i64 x.proc, Value.int .i64 x.obj, Value.int .i64 x.kind, Value.int .i64 x.meth, Value.int .i64 x.arg, Value.int .i64 x.sec, Value.bool x.done, Value.int .i64 x.res, Value.int .i64 x.inv, Value.int .i64 x.ret]) (wr.drewN n) := fun n => load_cellsO (p := p' + k * 11) hcc'
      have q1 : decide ((k : Int) < (l.length : Int)) = true := decide_eq_true (by omega)
      have q2 : (k : Int) < (l.length : Int) := by omega
      have q3 : IntKind.i64.wrap ((k : Int) + 1) = (k : Int) + 1 := IntWalk.i64_in _ (by omega)
      have q4 : (0 : Int) ≤ (k : Int) := by omega
      have HK := Lib.hid hkl
      clear hv hblt hwf hcc hv' hblt' hcc' hx hk hkl
      go_wp2_with fail
      go_quiet (fail)
      go_wp2_with fail
      go_roundw
      case measure => have := HK.out; simp [intOf]; omega
      case rel => exact ⟨k + 1, by simp, HK.out, Lib.hid (HI.out.on (below_drewN _ _))⟩
    · have q1 : decide ((k : Int) < (l.length : Int)) = false := decide_eq_false (by omega)
      have q2 : ((k : Int) < (l.length : Int)) = False := eq_false (by omega)
      clear hk hkl
      go_wp2_with fail
      go_returns
      exact ⟨rfl, HI.out⟩
end Go.Proofs.Ytgedlfilhpbfaaa
