/- Package hist: Check. -/
import Derived.Test.YtpjnmokofdldmaaDoorHtD
namespace Go.Proofs.YtpjnmokofdldmaaDoor
set_option maxRecDepth 100000
open Go.ChangeShapes Go.WideShapes Go.ChangeAt Go.RowKit Go.PlainAid Go.Deep

attribute [local go_sem ↓ high] load_op store_o
/-- The operation ahead of a place. -/
def prevO (l : List OpV) (k : Nat) : Option OpV := if k = 0 then none else l[k - 1]?
theorem prev_next {l : List OpV} {k : Nat} {o : OpV} (h : l[k]? = some o) : prevO l (k + 1) = some o := by unfold prevO; rw [if_neg (by omega), Nat.add_sub_cancel, h]
theorem prev_some {l : List OpV} {k : Nat} (h0 : 0 < k) (hk : k ≤ l.length) : ∃ (j : Nat) (q : OpV), k = j + 1 ∧ l[j]? = some q ∧ prevO l k = some q := by
  obtain ⟨j, rfl⟩ : ∃ j, k = j + 1 := ⟨k - 1, by omega⟩
  exact ⟨j, _, rfl, List.getElem?_eq_getElem (by omega), prev_next (List.getElem?_eq_getElem (by omega))⟩
theorem drop_getO {l : List OpV} {k : Nat} {x : OpV} (h : l[k]? = some x) : l.drop k = x :: l.drop (k + 1) := by
  obtain ⟨hk, rfl⟩ := List.getElem?_eq_some_iff.1 h
  exact List.drop_eq_getElem_cons hk
theorem scan_bad {l : List OpV} {k : Nat} {o : OpV} (h : l[k]? = some o) (c : checkZ o ≠ 0) : Hs.scanZ HL (prevO l k) (l.drop k) = checkZ o := by
  rw [drop_getO h, Hs.scanZ, if_pos (show HL.chk o ≠ 0 from c)]
  rfl
theorem scan_late {l : List OpV} {k : Nat} {o q : OpV} (h : l[k]? = some o) (c : checkZ o = 0) (hp : prevO l k = some q) (d : o.id ≤ q.id) : Hs.scanZ HL (prevO l k) (l.drop k) = 7 := by
  rw [drop_getO h, Hs.scanZ, if_neg (by rw [show HL.chk o = 0 from c]; simp), hp, if_pos (show Hs.lateB HL (some q) o = true from decide_eq_true (show HL.id o ≤ HL.id q from d))]
theorem scan_on {l : List OpV} {k : Nat} {o : OpV} (h : l[k]? = some o) (c : checkZ o = 0) (d : ∀ q, prevO l k = some q → ¬ o.id ≤ q.id) : Hs.scanZ HL (prevO l k) (l.drop k) = Hs.scanZ HL (prevO l (k + 1)) (l.drop (k + 1)) := by
  rw [drop_getO h, Hs.scanZ, if_neg (by rw [show HL.chk o = 0 from c]; simp), if_neg, prev_next h]
  cases hp : prevO l k with
  | none => simp [Hs.lateB]
  | some q =>
    show ¬ decide (HL.id o ≤ HL.id q) = true
    rw [decide_eq_true_eq]
    exact d q hp
theorem sides_bad {L l : List OpV} {k : Nat} {o : OpV} (h : l[k]? = some o) (c : Hs.besideZ HL L o ≠ 0) : Hs.sidesZ HL L (l.drop k) = Hs.besideZ HL L o := by
  rw [drop_getO h, Hs.sidesZ, if_pos c]
theorem sides_on {L l : List OpV} {k : Nat} {o : OpV} (h : l[k]? = some o) (c : Hs.besideZ HL L o = 0) : Hs.sidesZ HL L (l.drop k) = Hs.sidesZ HL L (l.drop (k + 1)) := by
  rw [drop_getO h, Hs.sidesZ, if_neg (by rw [c]; simp)]
theorem check_many {l : List OpV} (h : 64 < l.length) : Hs.checkL HL l = 34 := by unfold Hs.checkL; rw [if_pos h]
theorem check_scan {l : List OpV} {z : Int} (h : ¬ 64 < l.length) (hs : Hs.scanZ HL none l = z) (hz : z ≠ 0) : Hs.checkL HL l = z := by unfold Hs.checkL; rw [if_neg h, if_pos (by rw [hs]; exact hz), hs]
theorem check_side {l : List OpV} (h : ¬ 64 < l.length) (hs : Hs.scanZ HL none l = 0) : Hs.checkL HL l = Hs.sidesZ HL l l := by unfold Hs.checkL; rw [if_neg h, if_neg (by rw [hs]; simp)]
set_option maxHeartbeats 4000000 in
theorem hcheck_any {v : Value} {l : List OpV} {w : World} (h : OpsOf w v l) (hs : l.length ≤ 1048576) (hR : RulesAt w) :
    Calls Tryd.prog 8 #[v] w fun e w' => e = .returned (.int .i64 (Hs.checkL HL l)) ∧ Below w.heap.size w w' := by
  obtain ⟨ao, ac, rfl⟩ := h.len
  have H := Lib.hid h
  have HR := Lib.hid hR
  clear h hR
  by_cases hm : 64 < l.length
  · have HE := Lib.hid (check_many hm)
    have q0 : decide ((l.length : Int) > 64) = true := decide_eq_true (by omega)
    have q00 : ((64 : Int) < (l.length : Int)) = True := eq_true (by omega)
    clear hm
    go_enter Tryd.func8, Tryd.ntmps8
    go_wp2_with fail
    go_returns
    exact ⟨by rw [HE.out]; rfl, Below.refl _ _⟩
  have HM := Lib.hid hm
  have q0 : decide ((l.length : Int) > 64) = false := decide_eq_false (by omega)
  have q00 : ((64 : Int) < (l.length : Int)) = False := eq_false (by omega)
  clear hm
  go_enter Tryd.func8, Tryd.ntmps8
  go_wp2_with fail
  clear q0 q00
  go_loopw [14] (fun s14 wr => ∃ k : Nat, s14 = .int .i64 k ∧ k ≤ l.length ∧ Hid (Hs.scanZ HL none l = Hs.scanZ HL (prevO l k) (l.drop k) ∧ Below w.heap.size w wr)) (fun s14 _ => l.length - (intOf s14).toNat)
  case atStart => exact ⟨0, rfl, Nat.zero_le _, Lib.hid ⟨rfl, Below.refl _ _⟩⟩
  case round =>
    obtain ⟨k, rfl, hk, HI⟩ := hrel
    by_cases hkl : k < l.length
    · obtain ⟨x, hx⟩ : ∃ x, l[k]? = some x := ⟨_, List.getElem?_eq_getElem hkl⟩
      have hH := H.out.on HI.out.2
      obtain ⟨b, p, cap, hv, hblt, hwf, hcc⟩ := OpsOf.at hH hx
      have e0 : ao = some ⟨b, p, none⟩ := by cases hv; rfl
      subst e0
      have l1 := load_cellsO (p := p + k * 11) hcc
      have s1 := store_op_new wr (#[Value.int .i64 0, Value.int .i64 0, Value.int .i64 0, Value.int .i64 0, Value.int .i64 0, Value.int .i64 0, Value.int .i64 0, Value.bool false, Value.int .i64 0, Value.int .i64 0, Value.int .i64 0]) rfl x
      have q1 : decide ((k : Int) < (l.length : Int)) = true := decide_eq_true (by omega)
      have q2 : (k : Int) < (l.length : Int) := by omega
      have q3 : IntKind.i64.wrap ((k : Int) + 1) = (k : Int) + 1 := IntWalk.i64_in _ (by omega)
      have HX := Lib.hid hx
      have HK := Lib.hid hkl
      obtain ⟨W2, hW2⟩ : ∃ W2, wr.alloc (.cells #[Value.int .i64 x.id, Value.int .i64 x.proc, Value.int .i64 x.obj, Value.int .i64 x.kind, Value.int .i64 x.meth, Value.int .i64 x.arg, Value.int .i64 x.sec, Value.bool x.done, Value.int .i64 x.res, Value.int .i64 x.inv, Value.int .i64 x.ret] 28) = W2 := ⟨_, rfl⟩
      have hb2 : Below wr.heap.size wr W2 := by rw [← hW2]; go_grown
      have ho2 : OpAt W2 wr.heap.size x := by rw [← hW2]; exact OpAt.box wr x
      have l2 := ho2.load
      have HB2 := Lib.hid (HI.out.2.on hb2)
      have HO2 := Lib.hid ho2
      have H2 := Lib.hid (hH.on hb2)
      rw [hW2] at s1
      clear hv hblt hwf hcc hx hk hkl hW2 hb2 ho2 hH
      obtain ⟨z, hz⟩ : ∃ z, checkZ x = z := ⟨_, rfl⟩
      have HZ := Lib.hid hz
      clear hz
      go_wp2_with fail
      refine (check_any x _ (HR.out.on HB2.out)).mono ?_
      rintro _ w3 ⟨rfl, hb3⟩
      rw [HZ.out]
      have HB3 := Lib.hid (HB2.out.on hb3)
      have HO3 := Lib.hid (HO2.out.on hb3)
      have H3 := Lib.hid (H2.out.on hb3)
      clear hb3
      by_cases hz0 : z = 0
      · subst hz0
        obtain ⟨x0, _⟩ := HO3.out.cell
        by_cases hk0 : 0 < k
        · obtain ⟨j, q, hj, hq, hp⟩ := prev_some hk0 (Nat.le_of_lt HK.out)
          obtain ⟨b', p', cap', hv', _, _, hcc'⟩ := OpsOf.at H3.out hq
          have e1 : b' = b ∧ p' = p := by cases hv'; exact ⟨rfl, rfl⟩
          obtain ⟨rfl, rfl⟩ := e1
          have c1 : w3.cell? ⟨b', p' + j * 11, none⟩ = some (.int .i64 q.id) := hcc' 0 _ rfl
          have g0 : decide ((k : Int) > 0) = true := decide_eq_true (by omega)
          have g1 : decide (0 < k) = true := decide_eq_true (by omega)
          have g2 : (0 : Int) < (k : Int) := by omega
          have g3 : IntKind.i64.wrap ((k : Int) - 1) = (j : Int) := by rw [IntWalk.i64_in _ (by omega)]; omega
          have g4 : (j : Int) < (l.length : Int) := by omega
          have g5 : (0 : Int) ≤ (j : Int) := by omega
          have HP := Lib.hid hp
          clear hv' hcc' hq hk0 hj hp
          by_cases hd : x.id ≤ q.id
          · have d1 : decide (x.id ≤ q.id) = true := decide_eq_true hd
            have HE := Lib.hid (check_scan HM.out (HI.out.1.trans (scan_late HX.out HZ.out HP.out hd)) (by decide))
            clear hd
            go_wp2_with fail
            go_quiet (fail)
            go_wp2_with fail
            go_returns
            exact ⟨by rw [HE.out]; rfl, HB3.out.on (below_drewN _ _)⟩
          · have d1 : decide (x.id ≤ q.id) = false := decide_eq_false hd
            have HD := Lib.hid (HI.out.1.trans (scan_on HX.out HZ.out (fun q' e => by rw [HP.out] at e; rw [← Option.some.inj e]; exact hd)))
            clear hd
            go_wp2_with fail
            go_quiet (fail)
            go_wp2_with fail
            go_roundw
            case measure => have := HK.out; simp [intOf]; omega
            case rel => exact ⟨k + 1, by simp, HK.out, Lib.hid ⟨HD.out, HB3.out.on (below_drewN _ _)⟩⟩
        · have hk0' : k = 0 := by omega
          have g0 : decide ((k : Int) > 0) = false := decide_eq_false (by omega)
          have g1 : decide (0 < k) = false := decide_eq_false (by omega)
          have HD := Lib.hid (HI.out.1.trans (scan_on HX.out HZ.out (fun q' e => by subst hk0'; simp [prevO] at e)))
          clear hk0 hk0'
          go_wp2_with fail
          go_quiet (fail)
          go_wp2_with fail
          go_roundw
          case measure => have := HK.out; simp [intOf]; omega
          case rel => exact ⟨k + 1, by simp, HK.out, Lib.hid ⟨HD.out, HB3.out.on (below_drewN _ _)⟩⟩
      · have q5 : (z != 0) = true := bne_iff_ne.2 hz0
        have HE := Lib.hid (check_scan HM.out (HI.out.1.trans ((scan_bad HX.out (by rw [HZ.out]; exact hz0)).trans HZ.out)) hz0)
        clear hz0
        go_wp2_with fail
        go_returns
        exact ⟨by rw [HE.out]; rfl, HB3.out⟩
    · have q1 : decide ((k : Int) < (l.length : Int)) = false := decide_eq_false (by omega)
      have q2 : ((k : Int) < (l.length : Int)) = False := eq_false (by omega)
      have HS := Lib.hid (check_side HM.out (HI.out.1.trans (by rw [List.drop_eq_nil_of_le (by omega)]; rfl)))
      have HBa := Lib.hid HI.out.2
      clear hk hkl HI
      go_wp2_with fail
      clear q1 q2
      go_loopw [40] (fun s40 wr => ∃ i : Nat, s40 = .int .i64 i ∧ i ≤ l.length ∧ Hid (Hs.sidesZ HL l l = Hs.sidesZ HL l (l.drop i) ∧ Below w.heap.size w wr)) (fun s40 _ => l.length - (intOf s40).toNat)
      case atStart => exact ⟨0, rfl, Nat.zero_le _, Lib.hid ⟨rfl, HBa.out⟩⟩
      case round =>
        clear HBa
        obtain ⟨i, rfl, hi, HI⟩ := hrel
        by_cases hil : i < l.length
        · obtain ⟨x, hx⟩ : ∃ x, l[i]? = some x := ⟨_, List.getElem?_eq_getElem hil⟩
          have hH := H.out.on HI.out.2
          obtain ⟨b, p, cap, hv, hblt, hwf, hcc⟩ := OpsOf.at hH hx
          have e0 : ao = some ⟨b, p, none⟩ := by cases hv; rfl
          subst e0
          have l1 := load_cellsO (p := p + i * 11) hcc
          have s1 := store_op_new wr (#[Value.int .i64 0, Value.int .i64 0, Value.int .i64 0, Value.int .i64 0, Value.int .i64 0, Value.int .i64 0, Value.int .i64 0, Value.bool false, Value.int .i64 0, Value.int .i64 0, Value.int .i64 0]) rfl x
          have q1 : decide ((i : Int) < (l.length : Int)) = true := decide_eq_true (by omega)
          have q2 : (i : Int) < (l.length : Int) := by omega
          have q3 : IntKind.i64.wrap ((i : Int) + 1) = (i : Int) + 1 := IntWalk.i64_in _ (by omega)
          have HX := Lib.hid hx
          have HK := Lib.hid hil
          obtain ⟨W2, hW2⟩ : ∃ W2, wr.alloc (.cells #[Value.int .i64 x.id, Value.int .i64 x.proc, Value.int .i64 x.obj, Value.int .i64 x.kind, Value.int .i64 x.meth, Value.int .i64 x.arg, Value.int .i64 x.sec, Value.bool x.done, Value.int .i64 x.res, Value.int .i64 x.inv, Value.int .i64 x.ret] 28) = W2 := ⟨_, rfl⟩
          have hb2 : Below wr.heap.size wr W2 := by rw [← hW2]; go_grown
          have ho2 : OpAt W2 wr.heap.size x := by rw [← hW2]; exact OpAt.box wr x
          have l2 := ho2.load
          have HB2 := Lib.hid (HI.out.2.on hb2)
          have H2 := Lib.hid (hH.on hb2)
          rw [hW2] at s1
          clear hv hblt hwf hcc hx hi hil hW2 hb2 ho2 hH
          obtain ⟨z, hz⟩ : ∃ z, Hs.besideZ HL l x = z := ⟨_, rfl⟩
          have HZ := Lib.hid hz
          clear hz
          go_wp2_with fail
          refine (beside_any x H2.out hs).mono ?_
          rintro _ w3 ⟨rfl, hb3⟩
          rw [HZ.out]
          have HB3 := Lib.hid (HB2.out.on hb3)
          clear hb3
          by_cases hz0 : z = 0
          · subst hz0
            have HD := Lib.hid (HI.out.1.trans (sides_on HX.out HZ.out))
            go_wp2_with fail
            go_roundw
            case measure => have := HK.out; simp [intOf]; omega
            case rel => exact ⟨i + 1, by simp, HK.out, Lib.hid ⟨HD.out, HB3.out⟩⟩
          · have q5 : (z != 0) = true := bne_iff_ne.2 hz0
            have HE := Lib.hid (HS.out.trans (HI.out.1.trans ((sides_bad HX.out (by rw [HZ.out]; exact hz0)).trans HZ.out)))
            clear hz0
            go_wp2_with fail
            go_returns
            exact ⟨by rw [HE.out]; rfl, HB3.out⟩
        · have q1 : decide ((i : Int) < (l.length : Int)) = false := decide_eq_false (by omega)
          have q2 : ((i : Int) < (l.length : Int)) = False := eq_false (by omega)
          have HE := Lib.hid (show Hs.checkL HL l = 0 from HS.out.trans (HI.out.1.trans (by rw [List.drop_eq_nil_of_le (by omega)]; rfl)))
          clear hi hil
          go_wp2_with fail
          go_returns
          exact ⟨by rw [HE.out]; rfl, HI.out.2⟩
end Go.Proofs.YtpjnmokofdldmaaDoor
