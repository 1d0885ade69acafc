/- An edit that is taken back leaves what was: what was added is deleted, what was deleted is added, what was set is set as it was; and the chapter's example holds: for every history that may be (other lists are let go) and every edit. Conditions: the package-level variable op.rules starts as the program's text lays it (tied). -/
import Derived.Test.YtpjnmokofdldmaaDoorHtG
import Derived.Test.YtpjnmokofdldmaaDoorHtP
import Derived.Test.YtpjnmokofdldmaaDoorLaw
import Derived.Test.YtpjnmokofdldmaaDoorLawL
import Derived.Test.YtpjnmokofdldmaaDoorCards
import Derived.Test.YtpjnmokofdldmaaDoorTie
import Derived.SevenTiedAt
import Derived.BigQuiet
import Derived.Deep.QuietTactic
import Derived.Lib.QuietBelow
import Derived.Deep.DeepCutAuto
import Derived.Deep.CutBlock
namespace Go.Proofs.YtpjnmokofdldmaaDoor.histBack
open Go.ChangeShapes Go.WideShapes Go.ChangeAt Go.RowKit Go.PlainAid
open Go.ChangeMaps (open_string)
open Go.Sort (grow)

theorem own : ownKnob Tryd.prog.godebug = none := by kernel_rfl
theorem laidOut : laidOutB Tryd.prog = true := by kernel_rfl
attribute [local go_sem ↓ high] load_op store_o load_ed
theorem store_e (p v : Value) : Instr.storeAt 36 p v = storeS 36 p v := rfl
attribute [local go_sem ↓ high] store_e
theorem store_ed {w : World} {b : Nat} {c : Array Value} (h : w.heap[b]? = some (.cells c 36 (0, 0))) (hc : c.size = 12) (k : Int) (o : OpV) :
    (storeS 36 (.pointer (some ⟨b, 0, none⟩)) (Value.agg #[Value.int .i64 k, Value.int .i64 o.id, Value.int .i64 o.proc, Value.int .i64 o.obj, Value.int .i64 o.kind, Value.int .i64 o.meth, Value.int .i64 o.arg, Value.int .i64 o.sec, Value.bool o.done, Value.int .i64 o.res, Value.int .i64 o.inv, Value.int .i64 o.ret])).run Tryd.prog w = .ok () (w.setRow b #[Value.int .i64 k, Value.int .i64 o.id, Value.int .i64 o.proc, Value.int .i64 o.obj, Value.int .i64 o.kind, Value.int .i64 o.meth, Value.int .i64 o.arg, Value.int .i64 o.sec, Value.bool o.done, Value.int .i64 o.res, Value.int .i64 o.inv, Value.int .i64 o.ret]) := by
  have hsz : (Tryd.prog.info? 36).map (·.size) = some 12 := by kernel_rfl
  have h := run_storeVar_row (P := Tryd.prog) w b 36 36 c #[Value.int .i64 k, Value.int .i64 o.id, Value.int .i64 o.proc, Value.int .i64 o.obj, Value.int .i64 o.kind, Value.int .i64 o.meth, Value.int .i64 o.arg, Value.int .i64 o.sec, Value.bool o.done, Value.int .i64 o.res, Value.int .i64 o.inv, Value.int .i64 o.ret] h (by rw [hsz]; rfl) hc (by simp [Value.oneCell'])
  unfold storeS
  simp only [Instr.storeAt, Instr.sureAddr, Sem.run_bind, Sem.run_pure, Result.andThen_ok]
  exact h
theorem store_ed_new (w : World) (c : Array Value) (hc : c.size = 12) (k : Int) (o : OpV) :
    (storeS 36 (.pointer (some ⟨w.heap.size, 0, none⟩)) (Value.agg #[Value.int .i64 k, Value.int .i64 o.id, Value.int .i64 o.proc, Value.int .i64 o.obj, Value.int .i64 o.kind, Value.int .i64 o.meth, Value.int .i64 o.arg, Value.int .i64 o.sec, Value.bool o.done, Value.int .i64 o.res, Value.int .i64 o.inv, Value.int .i64 o.ret])).run Tryd.prog (w.alloc (.cells c 36)) = .ok () (w.alloc (.cells #[Value.int .i64 k, Value.int .i64 o.id, Value.int .i64 o.proc, Value.int .i64 o.obj, Value.int .i64 o.kind, Value.int .i64 o.meth, Value.int .i64 o.arg, Value.int .i64 o.sec, Value.bool o.done, Value.int .i64 o.res, Value.int .i64 o.inv, Value.int .i64 o.ret] 36)) := by
  rw [store_ed (heap_alloc_new w _) hc, setRow_alloc]
/-- The edit that takes one back. -/
def backO (k : Int) (x y : Option OpV) : OpV := if k = 1 then optV y else optV x
theorem let_kind {l L : List OpV} {k : Int} {e : OpV} {x y : Option OpV} (h : Hs.Let HL updZ l k e L x y) : 1 ≤ k ∧ k ≤ 6 := by
  cases h <;> omega
theorem back_is {l L : List OpV} {k : Int} {e : OpV} {x y : Option OpV} (hv : Hs.Valid HL l) (h : Hs.Let HL updZ l k e L x y) : appL L (Hs.backK k) (backO k x y) = (l, y, x, 0) := by
  have hr := h.rise hv.rise
  refine Hs.let_apply HL updZ hr (Hs.let_back upd_keep upd_undo hv h _ ?_)
  cases h with
  | add _ hc hn hs hl => exact .inl ⟨rfl, rfl⟩
  | del _ was hw hi => exact .inr ⟨by omega, rfl⟩
  | set _ _ was hk hw hi hst hc hs => exact .inr ⟨by omega, by unfold backO; rw [if_neg (by omega)]; rfl⟩
theorem let_wf {l L : List OpV} {k : Int} {e : OpV} {x y : Option OpV} (hl : ∀ o ∈ l, o.Wf) (he : e.Wf) (h : Hs.Let HL updZ l k e L x y) : (optV x).Wf ∧ (optV y).Wf := by
  cases h with
  | add _ hc hn hs hl2 => exact ⟨zero_wf, he⟩
  | del _ was hw hi => exact ⟨hl was hw, zero_wf⟩
  | set _ _ was hk hw hi hst hc hs => exact ⟨hl was hw, upd_wf (hl was hw) he⟩
theorem back_wf {k : Int} {x y : Option OpV} (h : (optV x).Wf ∧ (optV y).Wf) : (backO k x y).Wf := by
  unfold backO
  split
  · exact h.2
  · exact h.1
set_option maxRecDepth 100000 in
set_option maxHeartbeats 8000000 in
theorem walk (w : World) (v0 : Value) (l0 : List OpV) (h0 : OpsOf w v0 l0) (k1 : Int) (o1 : OpV) (w1 : o1.Wf) (hL0 : RulesAt w) :
    Calls Tryd.prog 5 #[v0, Value.agg #[Value.int .i64 k1, Value.int .i64 o1.id, Value.int .i64 o1.proc, Value.int .i64 o1.obj, Value.int .i64 o1.kind, Value.int .i64 o1.meth, Value.int .i64 o1.arg, Value.int .i64 o1.sec, Value.bool o1.done, Value.int .i64 o1.res, Value.int .i64 o1.inv, Value.int .i64 o1.ret]] w fun e w' => e = .returned (.bool true) ∧ Below w.heap.size w w' := by
  have u1 := w1
  clear u1
  obtain ⟨ao, ac, rfl⟩ := h0.len
  have hb0 : Below w.heap.size w (w.alloc (.cells #[Value.int .i64 k1, Value.int .i64 o1.id, Value.int .i64 o1.proc, Value.int .i64 o1.obj, Value.int .i64 o1.kind, Value.int .i64 o1.meth, Value.int .i64 o1.arg, Value.int .i64 o1.sec, Value.bool o1.done, Value.int .i64 o1.res, Value.int .i64 o1.inv, Value.int .i64 o1.ret] 36)) := by go_grown
  have hE0 := EdAt.box w k1 o1
  obtain ⟨W0, hW0⟩ : ∃ W, w.alloc (.cells #[Value.int .i64 k1, Value.int .i64 o1.id, Value.int .i64 o1.proc, Value.int .i64 o1.obj, Value.int .i64 o1.kind, Value.int .i64 o1.meth, Value.int .i64 o1.arg, Value.int .i64 o1.sec, Value.bool o1.done, Value.int .i64 o1.res, Value.int .i64 o1.inv, Value.int .i64 o1.ret] 36) = W := ⟨_, rfl⟩
  rw [hW0] at hb0 hE0
  have H := Lib.hid (h0.on hb0)
  have HB := Lib.hid hb0
  have HR := Lib.hid (hL0.on hb0)
  have HE := Lib.hid hE0
  have HW := Lib.hid (And.intro w1 h0.2)
  clear h0 hL0 hb0 hE0 w1
  by_cases hl : 80 < l0.length
  · have q0 : decide ((l0.length : Int) > 80) = true := decide_eq_true (by omega)
    have q00 : ((80 : Int) < (l0.length : Int)) = True := eq_true (by omega)
    have q01 : decide (80 < l0.length) = true := decide_eq_true hl
    clear hl
    go_enter Tryd.func5, Tryd.ntmps5
    go_wp2_with fail
    refine (awake_any _ HR.out).mono ?_
    rintro _ w2 ⟨rfl, hb2⟩
    have HB2 := Lib.hid (HB.out.on hb2)
    clear hb2
    go_wp2_with fail
    go_returns
    exact ⟨rfl, HB2.out⟩
  have q0 : decide ((l0.length : Int) > 80) = false := decide_eq_false (by omega)
  have q00 : ((80 : Int) < (l0.length : Int)) = False := eq_false (by omega)
  have q01 : decide (80 < l0.length) = false := decide_eq_false hl
  have HL0 := Lib.hid (show l0.length ≤ 80 by omega)
  clear hl
  obtain ⟨z, hz⟩ : ∃ z, Hs.checkL HL l0 = z := ⟨_, rfl⟩
  have HZ := Lib.hid hz
  clear hz
  go_enter Tryd.func5, Tryd.ntmps5
  go_wp2_with fail
  clear hW0
  refine (hrcheck_any H.out (by have := HL0.out; omega)).mono ?_
  rintro _ w2 ⟨rfl, hb2⟩
  rw [HZ.out]
  have H2 := Lib.hid (H.out.on hb2)
  have HB2 := Lib.hid (HB.out.on hb2)
  have HR2 := Lib.hid (HR.out.on hb2)
  have HE2 := Lib.hid (HE.out.on hb2)
  clear hb2
  by_cases hz0 : z = 0
  case neg =>
    have q5 : (z != 0) = true := bne_iff_ne.2 hz0
    clear hz0
    go_wp2_with fail
    refine (awake_any _ HR2.out).mono ?_
    rintro _ w3 ⟨rfl, hb3⟩
    have HB3 := Lib.hid (HB2.out.on hb3)
    clear hb3
    go_wp2_with fail
    go_returns
    exact ⟨rfl, HB3.out⟩
  subst hz0
  have HV := Lib.hid ((Hs.check_ok HL).1 HZ.out)
  have le2 := HE2.out.load
  obtain ⟨r, hr⟩ : ∃ r, appL l0 k1 o1 = r := ⟨_, rfl⟩
  have HRR := Lib.hid hr
  clear hr
  go_wp2_with fail
  refine (apply_any H2.out HV.out.rise HW.out.1 (by have := HL0.out; omega) HR2.out).mono ?_
  rintro _ w3 ⟨v3, rfl, hn3, hb3⟩
  rw [HRR.out] at hn3 ⊢
  obtain ⟨L3, x, y, c⟩ := r
  obtain ⟨ox, hox⟩ : ∃ o, optV x = o := ⟨_, rfl⟩
  obtain ⟨oy, hoy⟩ : ∃ o, optV y = o := ⟨_, rfl⟩
  obtain ⟨W5, W6, W7, W8, e5, e6, e7, s7, s8, qa, qb, hb8⟩ := two_res w3 ox oy
  have hb38 := hb3.on hb8
  have HN8 := Lib.hid (OpsOf.on hn3.1 hb8)
  have H8 := Lib.hid (H2.out.on hb38)
  have HB8 := Lib.hid (HB2.out.on hb38)
  have HR8 := Lib.hid (HR2.out.on hb38)
  have HE8 := Lib.hid (HE2.out.on hb38)
  have QA := Lib.hid qa
  have QB := Lib.hid qb
  clear le2 hn3 hb3 hb8 hb38 qa qb
  dsimp only at HN8 ⊢
  rw [hox, hoy]
  by_cases hc : c = 0
  case neg =>
    have q5 : (c != 0) = true := bne_iff_ne.2 hc
    clear hc hox hoy
    go_wp2_with fail
    refine (awake_any _ HR8.out).mono ?_
    rintro _ w9 ⟨rfl, hb9⟩
    have HB9 := Lib.hid (HB8.out.on hb9)
    clear hb9
    go_wp2_with fail
    go_returns
    exact ⟨rfl, HB9.out⟩
  have hlet := Hs.apply_let HL updZ (show Hs.applyL HL updZ l0 k1 o1 = (L3, x, y, 0) by rw [← hc]; exact HRR.out)
  subst hc
  have hkk := let_kind hlet
  have HBK := Lib.hid (back_is HV.out hlet)
  have HBW := Lib.hid (back_wf (k := k1) (let_wf HW.out.2 HW.out.1 hlet))
  have HRI := Lib.hid (hlet.rise HV.out.rise)
  have HLN := Lib.hid (show L3.length ≤ 64 from (hlet.valid upd_keep HV.out).few)
  have HKO := Lib.hid (show backO k1 x y = if k1 = 1 then oy else ox by unfold backO; rw [hox, hoy])
  have HOX := Lib.hid hox
  have HOY := Lib.hid hoy
  clear hlet hox hoy
  -- the edit that takes it back
  have la := QA.out.load
  have lb := QB.out.load
  obtain ⟨k0, _⟩ := HE8.out.cell
  have hba : Below W8.heap.size W8 (W8.alloc (.cells #[Value.int .i64 k1, Value.int .i64 ox.id, Value.int .i64 ox.proc, Value.int .i64 ox.obj, Value.int .i64 ox.kind, Value.int .i64 ox.meth, Value.int .i64 ox.arg, Value.int .i64 ox.sec, Value.bool ox.done, Value.int .i64 ox.res, Value.int .i64 ox.inv, Value.int .i64 ox.ret] 36)) := by go_grown
  have hea := EdAt.box W8 k1 ox
  have sa := store_ed_new W8 (#[Value.int .i64 0, Value.int .i64 0, Value.int .i64 0, Value.int .i64 0, Value.int .i64 0, Value.int .i64 0, Value.int .i64 0, Value.int .i64 0, Value.bool false, Value.int .i64 0, Value.int .i64 0, Value.int .i64 0]) rfl k1 ox
  have be := fun w => build_ed k1 ox w
  have be2 := fun w => build_ed 2 oy w
  obtain ⟨Wa, hWa⟩ : ∃ W, W8.alloc (.cells #[Value.int .i64 k1, Value.int .i64 ox.id, Value.int .i64 ox.proc, Value.int .i64 ox.obj, Value.int .i64 ox.kind, Value.int .i64 ox.meth, Value.int .i64 ox.arg, Value.int .i64 ox.sec, Value.bool ox.done, Value.int .i64 ox.res, Value.int .i64 ox.inv, Value.int .i64 ox.ret] 36) = W := ⟨_, rfl⟩
  rw [hWa] at hba hea sa
  have lba := (QB.out.on hba).load
  obtain ⟨ka0, _⟩ := (HE8.out.on hba).cell
  have HBa := Lib.hid hba
  have HEa := Lib.hid hea
  have sb := store_ed (show Wa.heap[W8.heap.size]? = _ from hea) rfl 2 oy
  have fa : ∀ i, Wa.frozen? ⟨W8.heap.size, i, none⟩ = false := fun _ => frozen_of_row _ _ _ _ _ (show Wa.heap[W8.heap.size]? = _ from hea)
  have ca := (EdAt.cell hea).1
  clear hba hea
  rcases (by omega : k1 = 1 ∨ k1 = 2 ∨ k1 = 3 ∨ k1 = 4 ∨ k1 = 5 ∨ k1 = 6) with rfl | rfl | rfl | rfl | rfl | rfl
  · -- kind 1
    have HKB := Lib.hid (show backO 1 x y = oy from HKO.out)
    have heb : EdAt (Wa.setRow W8.heap.size #[Value.int .i64 2, Value.int .i64 oy.id, Value.int .i64 oy.proc, Value.int .i64 oy.obj, Value.int .i64 oy.kind, Value.int .i64 oy.meth, Value.int .i64 oy.arg, Value.int .i64 oy.sec, Value.bool oy.done, Value.int .i64 oy.res, Value.int .i64 oy.inv, Value.int .i64 oy.ret]) W8.heap.size 2 oy := setRow_heap _ _ _ _ _ _ HEa.out
    have hbb : Below W8.heap.size W8 (Wa.setRow W8.heap.size #[Value.int .i64 2, Value.int .i64 oy.id, Value.int .i64 oy.proc, Value.int .i64 oy.obj, Value.int .i64 oy.kind, Value.int .i64 oy.meth, Value.int .i64 oy.arg, Value.int .i64 oy.sec, Value.bool oy.done, Value.int .i64 oy.res, Value.int .i64 oy.inv, Value.int .i64 oy.ret]) := below_row HBa.out (Nat.le_refl _) (Nat.le_refl _) _
    obtain ⟨Wb, hWb⟩ : ∃ W, Wa.setRow W8.heap.size #[Value.int .i64 2, Value.int .i64 oy.id, Value.int .i64 oy.proc, Value.int .i64 oy.obj, Value.int .i64 oy.kind, Value.int .i64 oy.meth, Value.int .i64 oy.arg, Value.int .i64 oy.sec, Value.bool oy.done, Value.int .i64 oy.res, Value.int .i64 oy.inv, Value.int .i64 oy.ret] = W := ⟨_, rfl⟩
    rw [hWb] at heb hbb sb
    have lw := heb.load
    have HNb := Lib.hid (HN8.out.on hbb)
    have Hb := Lib.hid (H8.out.on hbb)
    have HBb := Lib.hid (HB8.out.on hbb)
    have HRb := Lib.hid (HR8.out.on hbb)
    have QAb := Lib.hid (QA.out.on hbb)
    have QBb := Lib.hid (QB.out.on hbb)
    have HAP := Lib.hid (show appL L3 2 oy = (l0, y, x, 0) by rw [← HKB.out]; exact HBK.out)
    have HOW := Lib.hid (show oy.Wf by rw [← HKB.out]; exact HBW.out)
    clear heb hbb
    go_wp2_with fail
    clear lw la lb lba ka0 k0 sa sb be be2 fa ca hWa hWb e5 e6 e7 s7 s8
    refine (apply_any (k := 2) (e := oy) HNb.out HRI.out HOW.out (by have := HLN.out; omega) HRb.out).mono ?_
    rintro _ wc ⟨vc, rfl, hnc, hbc⟩
    rw [HAP.out] at hnc ⊢
    dsimp only at hnc ⊢
    rw [HOX.out, HOY.out]
    obtain ⟨We, Wf, Wg, Wh, e5, e6, e7, s7, s8, qc, qd, hbh⟩ := two_res wc oy ox
    have hbch := hbc.on hbh
    have HNh := Lib.hid (OpsOf.on hnc.1 hbh)
    have Hh := Lib.hid (Hb.out.on hbch)
    have HBh := Lib.hid (HBb.out.on hbch)
    have HRh := Lib.hid (HRb.out.on hbch)
    have lc := qc.load
    have ld := qd.load
    have QC := Lib.hid qc
    have QD := Lib.hid qd
    have QAh := Lib.hid (QAb.out.on hbch)
    have QBh := Lib.hid (QBb.out.on hbch)
    clear hnc hbc hbh hbch qc qd
    go_wp2_with fail
    refine (rops_any HNh.out Hh.out (by have := HL0.out; omega)).mono ?_
    rintro _ wi ⟨rfl, hbi⟩
    have HBi := Lib.hid (HBh.out.on hbi)
    have HRi := Lib.hid (HRh.out.on hbi)
    have lci := (QC.out.on hbi).load
    have ldi := (QD.out.on hbi).load
    have lai := (QAh.out.on hbi).load
    have lbi := (QBh.out.on hbi).load
    clear hbi e5 e6 e7 s7 s8 lc ld
    go_wp2_with fail
    refine (awake_any _ HRi.out).mono ?_
    rintro _ wj ⟨rfl, hbj⟩
    have HBj := Lib.hid (HBi.out.on hbj)
    clear hbj lci ldi lai lbi
    go_wp2_with fail
    go_returns
    exact ⟨rfl, HBj.out⟩
  · -- kind 2
    have HKB := Lib.hid (show backO 2 x y = ox from HKO.out)
    have heb : EdAt (Wa.setCell ⟨W8.heap.size, 0, none⟩ (.int .i64 1)) W8.heap.size 1 ox := (heap_setCell_same _ _ 0 _ _ _ HEa.out).trans rfl
    have hbb : Below W8.heap.size W8 (Wa.setCell ⟨W8.heap.size, 0, none⟩ (.int .i64 1)) := HBa.out.setCell (Nat.le_refl _) _
    obtain ⟨Wb, hWb⟩ : ∃ W, Wa.setCell ⟨W8.heap.size, 0, none⟩ (.int .i64 1) = W := ⟨_, rfl⟩
    rw [hWb] at heb hbb
    have lw := heb.load
    have HNb := Lib.hid (HN8.out.on hbb)
    have Hb := Lib.hid (H8.out.on hbb)
    have HBb := Lib.hid (HB8.out.on hbb)
    have HRb := Lib.hid (HR8.out.on hbb)
    have QAb := Lib.hid (QA.out.on hbb)
    have QBb := Lib.hid (QB.out.on hbb)
    have HAP := Lib.hid (show appL L3 1 ox = (l0, y, x, 0) by rw [← HKB.out]; exact HBK.out)
    have HOW := Lib.hid (show ox.Wf by rw [← HKB.out]; exact HBW.out)
    clear heb hbb
    go_wp2_with fail
    clear lw la lb lba ka0 k0 sa sb be be2 fa ca hWa hWb e5 e6 e7 s7 s8
    refine (apply_any (k := 1) (e := ox) HNb.out HRI.out HOW.out (by have := HLN.out; omega) HRb.out).mono ?_
    rintro _ wc ⟨vc, rfl, hnc, hbc⟩
    rw [HAP.out] at hnc ⊢
    dsimp only at hnc ⊢
    rw [HOX.out, HOY.out]
    obtain ⟨We, Wf, Wg, Wh, e5, e6, e7, s7, s8, qc, qd, hbh⟩ := two_res wc oy ox
    have hbch := hbc.on hbh
    have HNh := Lib.hid (OpsOf.on hnc.1 hbh)
    have Hh := Lib.hid (Hb.out.on hbch)
    have HBh := Lib.hid (HBb.out.on hbch)
    have HRh := Lib.hid (HRb.out.on hbch)
    have lc := qc.load
    have ld := qd.load
    have QC := Lib.hid qc
    have QD := Lib.hid qd
    have QAh := Lib.hid (QAb.out.on hbch)
    have QBh := Lib.hid (QBb.out.on hbch)
    clear hnc hbc hbh hbch qc qd
    go_wp2_with fail
    refine (rops_any HNh.out Hh.out (by have := HL0.out; omega)).mono ?_
    rintro _ wi ⟨rfl, hbi⟩
    have HBi := Lib.hid (HBh.out.on hbi)
    have HRi := Lib.hid (HRh.out.on hbi)
    have lci := (QC.out.on hbi).load
    have ldi := (QD.out.on hbi).load
    have lai := (QAh.out.on hbi).load
    have lbi := (QBh.out.on hbi).load
    clear hbi e5 e6 e7 s7 s8 lc ld
    go_wp2_with fail
    refine (awake_any _ HRi.out).mono ?_
    rintro _ wj ⟨rfl, hbj⟩
    have HBj := Lib.hid (HBi.out.on hbj)
    clear hbj lci ldi lai lbi
    go_wp2_with fail
    go_returns
    exact ⟨rfl, HBj.out⟩
  · -- kind 3
    have HKB := Lib.hid (show backO 3 x y = ox from HKO.out)
    have heb := HEa.out
    have hbb := HBa.out
    obtain ⟨Wb, hWb⟩ : ∃ W, Wa = W := ⟨_, rfl⟩
    rw [hWb] at heb hbb
    subst hWb
    have hWb := True.intro
    have lw := heb.load
    have HNb := Lib.hid (HN8.out.on hbb)
    have Hb := Lib.hid (H8.out.on hbb)
    have HBb := Lib.hid (HB8.out.on hbb)
    have HRb := Lib.hid (HR8.out.on hbb)
    have QAb := Lib.hid (QA.out.on hbb)
    have QBb := Lib.hid (QB.out.on hbb)
    have HAP := Lib.hid (show appL L3 3 ox = (l0, y, x, 0) by rw [← HKB.out]; exact HBK.out)
    have HOW := Lib.hid (show ox.Wf by rw [← HKB.out]; exact HBW.out)
    clear heb hbb
    go_wp2_with fail
    clear lw la lb lba ka0 k0 sa sb be be2 fa ca hWa hWb e5 e6 e7 s7 s8
    refine (apply_any (k := 3) (e := ox) HNb.out HRI.out HOW.out (by have := HLN.out; omega) HRb.out).mono ?_
    rintro _ wc ⟨vc, rfl, hnc, hbc⟩
    rw [HAP.out] at hnc ⊢
    dsimp only at hnc ⊢
    rw [HOX.out, HOY.out]
    obtain ⟨We, Wf, Wg, Wh, e5, e6, e7, s7, s8, qc, qd, hbh⟩ := two_res wc oy ox
    have hbch := hbc.on hbh
    have HNh := Lib.hid (OpsOf.on hnc.1 hbh)
    have Hh := Lib.hid (Hb.out.on hbch)
    have HBh := Lib.hid (HBb.out.on hbch)
    have HRh := Lib.hid (HRb.out.on hbch)
    have lc := qc.load
    have ld := qd.load
    have QC := Lib.hid qc
    have QD := Lib.hid qd
    have QAh := Lib.hid (QAb.out.on hbch)
    have QBh := Lib.hid (QBb.out.on hbch)
    clear hnc hbc hbh hbch qc qd
    go_wp2_with fail
    refine (rops_any HNh.out Hh.out (by have := HL0.out; omega)).mono ?_
    rintro _ wi ⟨rfl, hbi⟩
    have HBi := Lib.hid (HBh.out.on hbi)
    have HRi := Lib.hid (HRh.out.on hbi)
    have lci := (QC.out.on hbi).load
    have ldi := (QD.out.on hbi).load
    have lai := (QAh.out.on hbi).load
    have lbi := (QBh.out.on hbi).load
    clear hbi e5 e6 e7 s7 s8 lc ld
    go_wp2_with fail
    refine (awake_any _ HRi.out).mono ?_
    rintro _ wj ⟨rfl, hbj⟩
    have HBj := Lib.hid (HBi.out.on hbj)
    clear hbj lci ldi lai lbi
    go_wp2_with fail
    go_returns
    exact ⟨rfl, HBj.out⟩
  · -- kind 4
    have HKB := Lib.hid (show backO 4 x y = ox from HKO.out)
    have heb := HEa.out
    have hbb := HBa.out
    obtain ⟨Wb, hWb⟩ : ∃ W, Wa = W := ⟨_, rfl⟩
    rw [hWb] at heb hbb
    subst hWb
    have hWb := True.intro
    have lw := heb.load
    have HNb := Lib.hid (HN8.out.on hbb)
    have Hb := Lib.hid (H8.out.on hbb)
    have HBb := Lib.hid (HB8.out.on hbb)
    have HRb := Lib.hid (HR8.out.on hbb)
    have QAb := Lib.hid (QA.out.on hbb)
    have QBb := Lib.hid (QB.out.on hbb)
    have HAP := Lib.hid (show appL L3 4 ox = (l0, y, x, 0) by rw [← HKB.out]; exact HBK.out)
    have HOW := Lib.hid (show ox.Wf by rw [← HKB.out]; exact HBW.out)
    clear heb hbb
    go_wp2_with fail
    clear lw la lb lba ka0 k0 sa sb be be2 fa ca hWa hWb e5 e6 e7 s7 s8
    refine (apply_any (k := 4) (e := ox) HNb.out HRI.out HOW.out (by have := HLN.out; omega) HRb.out).mono ?_
    rintro _ wc ⟨vc, rfl, hnc, hbc⟩
    rw [HAP.out] at hnc ⊢
    dsimp only at hnc ⊢
    rw [HOX.out, HOY.out]
    obtain ⟨We, Wf, Wg, Wh, e5, e6, e7, s7, s8, qc, qd, hbh⟩ := two_res wc oy ox
    have hbch := hbc.on hbh
    have HNh := Lib.hid (OpsOf.on hnc.1 hbh)
    have Hh := Lib.hid (Hb.out.on hbch)
    have HBh := Lib.hid (HBb.out.on hbch)
    have HRh := Lib.hid (HRb.out.on hbch)
    have lc := qc.load
    have ld := qd.load
    have QC := Lib.hid qc
    have QD := Lib.hid qd
    have QAh := Lib.hid (QAb.out.on hbch)
    have QBh := Lib.hid (QBb.out.on hbch)
    clear hnc hbc hbh hbch qc qd
    go_wp2_with fail
    refine (rops_any HNh.out Hh.out (by have := HL0.out; omega)).mono ?_
    rintro _ wi ⟨rfl, hbi⟩
    have HBi := Lib.hid (HBh.out.on hbi)
    have HRi := Lib.hid (HRh.out.on hbi)
    have lci := (QC.out.on hbi).load
    have ldi := (QD.out.on hbi).load
    have lai := (QAh.out.on hbi).load
    have lbi := (QBh.out.on hbi).load
    clear hbi e5 e6 e7 s7 s8 lc ld
    go_wp2_with fail
    refine (awake_any _ HRi.out).mono ?_
    rintro _ wj ⟨rfl, hbj⟩
    have HBj := Lib.hid (HBi.out.on hbj)
    clear hbj lci ldi lai lbi
    go_wp2_with fail
    go_returns
    exact ⟨rfl, HBj.out⟩
  · -- kind 5
    have HKB := Lib.hid (show backO 5 x y = ox from HKO.out)
    have heb : EdAt (Wa.setCell ⟨W8.heap.size, 0, none⟩ (.int .i64 6)) W8.heap.size 6 ox := (heap_setCell_same _ _ 0 _ _ _ HEa.out).trans rfl
    have hbb : Below W8.heap.size W8 (Wa.setCell ⟨W8.heap.size, 0, none⟩ (.int .i64 6)) := HBa.out.setCell (Nat.le_refl _) _
    obtain ⟨Wb, hWb⟩ : ∃ W, Wa.setCell ⟨W8.heap.size, 0, none⟩ (.int .i64 6) = W := ⟨_, rfl⟩
    rw [hWb] at heb hbb
    have lw := heb.load
    have HNb := Lib.hid (HN8.out.on hbb)
    have Hb := Lib.hid (H8.out.on hbb)
    have HBb := Lib.hid (HB8.out.on hbb)
    have HRb := Lib.hid (HR8.out.on hbb)
    have QAb := Lib.hid (QA.out.on hbb)
    have QBb := Lib.hid (QB.out.on hbb)
    have HAP := Lib.hid (show appL L3 6 ox = (l0, y, x, 0) by rw [← HKB.out]; exact HBK.out)
    have HOW := Lib.hid (show ox.Wf by rw [← HKB.out]; exact HBW.out)
    clear heb hbb
    go_wp2_with fail
    clear lw la lb lba ka0 k0 sa sb be be2 fa ca hWa hWb e5 e6 e7 s7 s8
    refine (apply_any (k := 6) (e := ox) HNb.out HRI.out HOW.out (by have := HLN.out; omega) HRb.out).mono ?_
    rintro _ wc ⟨vc, rfl, hnc, hbc⟩
    rw [HAP.out] at hnc ⊢
    dsimp only at hnc ⊢
    rw [HOX.out, HOY.out]
    obtain ⟨We, Wf, Wg, Wh, e5, e6, e7, s7, s8, qc, qd, hbh⟩ := two_res wc oy ox
    have hbch := hbc.on hbh
    have HNh := Lib.hid (OpsOf.on hnc.1 hbh)
    have Hh := Lib.hid (Hb.out.on hbch)
    have HBh := Lib.hid (HBb.out.on hbch)
    have HRh := Lib.hid (HRb.out.on hbch)
    have lc := qc.load
    have ld := qd.load
    have QC := Lib.hid qc
    have QD := Lib.hid qd
    have QAh := Lib.hid (QAb.out.on hbch)
    have QBh := Lib.hid (QBb.out.on hbch)
    clear hnc hbc hbh hbch qc qd
    go_wp2_with fail
    refine (rops_any HNh.out Hh.out (by have := HL0.out; omega)).mono ?_
    rintro _ wi ⟨rfl, hbi⟩
    have HBi := Lib.hid (HBh.out.on hbi)
    have HRi := Lib.hid (HRh.out.on hbi)
    have lci := (QC.out.on hbi).load
    have ldi := (QD.out.on hbi).load
    have lai := (QAh.out.on hbi).load
    have lbi := (QBh.out.on hbi).load
    clear hbi e5 e6 e7 s7 s8 lc ld
    go_wp2_with fail
    refine (awake_any _ HRi.out).mono ?_
    rintro _ wj ⟨rfl, hbj⟩
    have HBj := Lib.hid (HBi.out.on hbj)
    clear hbj lci ldi lai lbi
    go_wp2_with fail
    go_returns
    exact ⟨rfl, HBj.out⟩
  · -- kind 6
    have HKB := Lib.hid (show backO 6 x y = ox from HKO.out)
    have heb : EdAt (Wa.setCell ⟨W8.heap.size, 0, none⟩ (.int .i64 5)) W8.heap.size 5 ox := (heap_setCell_same _ _ 0 _ _ _ HEa.out).trans rfl
    have hbb : Below W8.heap.size W8 (Wa.setCell ⟨W8.heap.size, 0, none⟩ (.int .i64 5)) := HBa.out.setCell (Nat.le_refl _) _
    obtain ⟨Wb, hWb⟩ : ∃ W, Wa.setCell ⟨W8.heap.size, 0, none⟩ (.int .i64 5) = W := ⟨_, rfl⟩
    rw [hWb] at heb hbb
    have lw := heb.load
    have HNb := Lib.hid (HN8.out.on hbb)
    have Hb := Lib.hid (H8.out.on hbb)
    have HBb := Lib.hid (HB8.out.on hbb)
    have HRb := Lib.hid (HR8.out.on hbb)
    have QAb := Lib.hid (QA.out.on hbb)
    have QBb := Lib.hid (QB.out.on hbb)
    have HAP := Lib.hid (show appL L3 5 ox = (l0, y, x, 0) by rw [← HKB.out]; exact HBK.out)
    have HOW := Lib.hid (show ox.Wf by rw [← HKB.out]; exact HBW.out)
    clear heb hbb
    go_wp2_with fail
    clear lw la lb lba ka0 k0 sa sb be be2 fa ca hWa hWb e5 e6 e7 s7 s8
    refine (apply_any (k := 5) (e := ox) HNb.out HRI.out HOW.out (by have := HLN.out; omega) HRb.out).mono ?_
    rintro _ wc ⟨vc, rfl, hnc, hbc⟩
    rw [HAP.out] at hnc ⊢
    dsimp only at hnc ⊢
    rw [HOX.out, HOY.out]
    obtain ⟨We, Wf, Wg, Wh, e5, e6, e7, s7, s8, qc, qd, hbh⟩ := two_res wc oy ox
    have hbch := hbc.on hbh
    have HNh := Lib.hid (OpsOf.on hnc.1 hbh)
    have Hh := Lib.hid (Hb.out.on hbch)
    have HBh := Lib.hid (HBb.out.on hbch)
    have HRh := Lib.hid (HRb.out.on hbch)
    have lc := qc.load
    have ld := qd.load
    have QC := Lib.hid qc
    have QD := Lib.hid qd
    have QAh := Lib.hid (QAb.out.on hbch)
    have QBh := Lib.hid (QBb.out.on hbch)
    clear hnc hbc hbh hbch qc qd
    go_wp2_with fail
    refine (rops_any HNh.out Hh.out (by have := HL0.out; omega)).mono ?_
    rintro _ wi ⟨rfl, hbi⟩
    have HBi := Lib.hid (HBh.out.on hbi)
    have HRi := Lib.hid (HRh.out.on hbi)
    have lci := (QC.out.on hbi).load
    have ldi := (QD.out.on hbi).load
    have lai := (QAh.out.on hbi).load
    have lbi := (QBh.out.on hbi).load
    clear hbi e5 e6 e7 s7 s8 lc ld
    go_wp2_with fail
    refine (awake_any _ HRi.out).mono ?_
    rintro _ wj ⟨rfl, hbj⟩
    have HBj := Lib.hid (HBi.out.on hbj)
    clear hbj lci ldi lai lbi
    go_wp2_with fail
    go_returns
    exact ⟨rfl, HBj.out⟩

set_option maxRecDepth 100000 in
theorem door_met (os : Os) (args : Array Value) : laidMetH Tryd.prog Rows.histBackRow.laid ((World.doorLaid Tryd.prog 400 os).forCall (fun _ _ => 0) ⟨#[], args, []⟩).memory :=
  laidMetH_of_parts3 (fuel := 8) (laidMet_of_run' 8 (by kernel_rfl) (by kernel_rfl)) (by kernel_rfl) (by kernel_rfl)
set_option maxRecDepth 100000 in
theorem lifted (os : Os) (started : os.Started) (H : Type) (enc : TypeId × Value → H) :
    ReturnsInHanded {} Tryd.checked os 5 .any (fun w args => (Rows.histBackSpec.pre enc Tryd.prog Tryd.f5 [] false w args ∧ laidMetH Tryd.prog Rows.histBackRow.laid w) ∧ sizedMet enc Tryd.prog Tryd.f5 (OpenSpec.ofChange Rows.histBackSpec) false w args) (Rows.histBackSpec.post enc Tryd.prog Tryd.f5 false true false false) := by
  refine law_lift_laid (C := Tryd.checked) own started (by kernel_rfl) Tryd.func5 laidOut (by kernel_rfl) rfl Tryd.underlying4 rfl
    (fun ds h => match ds, h with | [_, _], _ => rfl)
    (ChangeSpec.witness_shaped (enc := enc) (C := Tryd.checked) (os := os) (X := fun w _ => laidMetH Tryd.prog Rows.histBackRow.laid w) false (World.doorLaid Tryd.prog 400 os) #[.slice none 0 0, .agg #[.int .i64 0, .int .i64 0, .int .i64 0, .int .i64 0, .int .i64 0, .int .i64 0, .int .i64 0, .int .i64 0, .bool false, .int .i64 0, .int .i64 0, .int .i64 0]] 8 rfl (World.shaped_of_RefB (by kernel_rfl) (by kernel_rfl)) (by kernel_rfl) (by kernel_rfl) (by kernel_rfl) (door_met os _)) ?_
  intro W base args ds ps hval hA hsz hL
  rw [Tryd.params5] at hA hval hsz
  obtain ⟨v0, vs0, d0, ds0, p0, q0, hargs, rfl, rfl, h0, r0⟩ := trodAll_cons hA
  obtain ⟨v1, vs1, d1, ds1, p1, q1, rfl, rfl, rfl, h1, r1⟩ := trodAll_cons r0
  obtain ⟨rfl, rfl, rfl⟩ := trodAll_nil r1
  obtain rfl : args = #[v0, v1] := by cases args; simp_all
  obtain ⟨l0, hl0, _⟩ := ops_open (hval 0 22 v0 rfl rfl) h0
  obtain ⟨k1, o1, rfl, w1⟩ := ed_open (hval 1 36 v1 rfl rfl) h1
  exact walk W v0 l0 hl0 k1 o1 w1 (rules_of_laid (by kernel_rfl) (by simp [Rows.histBackRow]) hL)

theorem over : Rows.histBackRow.holds Tryd.pinned (OpenSpec.ofChange Rows.histBackSpec) :=
  OpenClaim.holds_of_wide 5 Tryd.f5 rfl rfl rfl rfl rfl rfl rfl ⟨rfl, rfl, rfl, rfl, rfl⟩ rfl rfl rfl rfl rfl (by kernel_rfl) Tryd.func5 (by kernel_rfl)
    (of_decide_eq_true (by kernel_rfl)) (by unfold Func.isWrapper; first | (rw [if_pos (by decide +kernel)]; kernel_rfl) | (rw [if_neg (by decide +kernel)]; exact ⟨rfl, rfl⟩))
    (fun os started H enc _ => lifted os started H enc)

theorem proved : Rows.HistBackCardSaid :=
  Claim7.holds_tied_plain_at (c := Rows.histBackRow) .later [] [.data] true _ _ over (fun _ h => by cases h) (by kernel_rfl) (fun _ h => by cases h) histBack_row_tie rfl ⟨rfl, rfl⟩ (by kernel_rfl) rfl
    (fun f fn hf hfn => by
      obtain rfl : f = 5 := Option.some.inj ((show Tryd.prog.funcNamed "annalist/annalistlaw12.HistBack" = some 5 by kernel_rfl).symm.trans hf) |>.symm
      obtain rfl : fn = Tryd.f5 := (Option.some.inj (Tryd.func5.symm.trans hfn)).symm
      exact ⟨by kernel_rfl, fun j t ht => by
        have hall : (Tryd.f5.params.toList.all fun u => !Tryd.prog.wantsStandIn u) = true := by kernel_rfl
        have hm : t ∈ Tryd.f5.params.toList := by simpa using Array.mem_of_getElem? ht
        exact (show Tryd.prog.wantsStandIn t = false by simpa using List.all_eq_true.1 hall t hm)⟩)
    (by kernel_rfl)
end Go.Proofs.YtpjnmokofdldmaaDoor.histBack
