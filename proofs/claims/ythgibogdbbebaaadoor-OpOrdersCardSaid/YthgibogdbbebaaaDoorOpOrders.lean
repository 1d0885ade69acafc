/- Before goes on; of operations that may be none is before itself, nor before one that is before it; overlapping is the same from both sides; and the chapter's examples hold: for every three operations. Conditions: the package-level variable op.rules starts as the program's text lays it (tied). -/
import Derived.Test.YthgibogdbbebaaaDoorOpW
import Derived.Test.YthgibogdbbebaaaDoorLaw
import Derived.Test.YthgibogdbbebaaaDoorLawL
import Derived.Test.YthgibogdbbebaaaDoorCards
import Derived.Test.YthgibogdbbebaaaDoorTie
import Derived.SevenTiedAt
import Derived.BigQuiet
import Derived.Deep.QuietTactic
import Derived.Lib.QuietBelow
import Derived.Deep.DeepCutAuto
import Derived.Deep.CutBlock
namespace Go.Proofs.YthgibogdbbebaaaDoor.opOrders
open Go.ChangeShapes Go.WideShapes Go.ChangeAt Go.RowKit Go.PlainAid
open Go.ChangeMaps (open_string)
open Go.Sort (grow)

theorem own : ownKnob Tryd.prog.godebug = none := by kernel_rfl
theorem laidOut : laidOutB Tryd.prog = true := by kernel_rfl
attribute [local go_sem ↓ high] load_op
theorem timed_of {o : OpV} (h : checkZ o = 0) : timedB o = true := by
  unfold checkZ at h
  cases h1 : namedB o <;> cases h2 : ruledB o <;> cases h3 : timedB o <;> simp [h1, h2, h3] at h ⊢
theorem rises {o : OpV} (h : checkZ o = 0) (hd : o.done = true) : o.inv < o.ret := by
  have := timed_of h
  unfold timedB at this
  rw [hd] at this
  simp at this
  exact this.2.1
theorem bef_on {a b c : OpV} (hb : checkZ b = 0) (h1 : befB a b = true) (h2 : befB b c = true) : befB a c = true := by
  unfold befB at *
  simp only [Bool.and_eq_true, decide_eq_true_eq] at *
  have := rises hb h2.1
  exact ⟨h1.1, by omega⟩
theorem bef_self {a : OpV} (h : checkZ a = 0) : befB a a = false := by
  unfold befB
  cases hd : a.done
  · rfl
  · have := rises h hd
    rw [Bool.true_and]
    exact decide_eq_false (by omega)
theorem bef_two {a b : OpV} (ha : checkZ a = 0) (hb : checkZ b = 0) (h1 : befB a b = true) : befB b a = false := by
  cases h : befB b a
  · rfl
  · exact absurd (bef_on hb h1 h) (by rw [bef_self ha]; decide)
theorem over_comm (a b : OpV) : overB a b = overB b a := by unfold overB; exact Bool.and_comm _ _
theorem over_self {a : OpV} (h : checkZ a = 0) : overB a a = true := by unfold overB; rw [bef_self h]; rfl
set_option maxRecDepth 100000 in
set_option maxHeartbeats 3200000 in
theorem walk (w : World) (o0 : OpV) (w0 : o0.Wf) (o1 : OpV) (w1 : o1.Wf) (o2 : OpV) (w2 : o2.Wf) (hL0 : RulesAt w) :
    Calls Tryd.prog 8 #[Value.agg #[Value.int .i64 o0.id, Value.int .i64 o0.proc, Value.int .i64 o0.obj, Value.int .i64 o0.kind, Value.int .i64 o0.meth, Value.int .i64 o0.arg, Value.int .i64 o0.sec, Value.bool o0.done, Value.int .i64 o0.res, Value.int .i64 o0.inv, Value.int .i64 o0.ret], Value.agg #[Value.int .i64 o1.id, Value.int .i64 o1.proc, Value.int .i64 o1.obj, Value.int .i64 o1.kind, Value.int .i64 o1.meth, Value.int .i64 o1.arg, Value.int .i64 o1.sec, Value.bool o1.done, Value.int .i64 o1.res, Value.int .i64 o1.inv, Value.int .i64 o1.ret], Value.agg #[Value.int .i64 o2.id, Value.int .i64 o2.proc, Value.int .i64 o2.obj, Value.int .i64 o2.kind, Value.int .i64 o2.meth, Value.int .i64 o2.arg, Value.int .i64 o2.sec, Value.bool o2.done, Value.int .i64 o2.res, Value.int .i64 o2.inv, Value.int .i64 o2.ret]] w fun e w' => e = .returned (.bool true) ∧ Below w.heap.size w w' := by
  have u0 := w0
  clear u0
  have u1 := w1
  clear u1
  have u2 := w2
  clear u2
  have hb0 : Below w.heap.size w (w.alloc (.cells #[Value.int .i64 o0.id, Value.int .i64 o0.proc, Value.int .i64 o0.obj, Value.int .i64 o0.kind, Value.int .i64 o0.meth, Value.int .i64 o0.arg, Value.int .i64 o0.sec, Value.bool o0.done, Value.int .i64 o0.res, Value.int .i64 o0.inv, Value.int .i64 o0.ret] 29)) := by go_grown
  have oa := OpAt.box w o0
  have z0 : (w.alloc (.cells #[Value.int .i64 o0.id, Value.int .i64 o0.proc, Value.int .i64 o0.obj, Value.int .i64 o0.kind, Value.int .i64 o0.meth, Value.int .i64 o0.arg, Value.int .i64 o0.sec, Value.bool o0.done, Value.int .i64 o0.res, Value.int .i64 o0.inv, Value.int .i64 o0.ret] 29)).heap.size = w.heap.size + 1 := World.size_alloc _ _
  obtain ⟨W0, hW0⟩ : ∃ W, w.alloc (.cells #[Value.int .i64 o0.id, Value.int .i64 o0.proc, Value.int .i64 o0.obj, Value.int .i64 o0.kind, Value.int .i64 o0.meth, Value.int .i64 o0.arg, Value.int .i64 o0.sec, Value.bool o0.done, Value.int .i64 o0.res, Value.int .i64 o0.inv, Value.int .i64 o0.ret] 29) = W := ⟨_, rfl⟩
  rw [hW0] at hb0 oa z0
  have hb1 : Below W0.heap.size W0 (W0.alloc (.cells #[Value.int .i64 o1.id, Value.int .i64 o1.proc, Value.int .i64 o1.obj, Value.int .i64 o1.kind, Value.int .i64 o1.meth, Value.int .i64 o1.arg, Value.int .i64 o1.sec, Value.bool o1.done, Value.int .i64 o1.res, Value.int .i64 o1.inv, Value.int .i64 o1.ret] 29)) := by go_grown
  have ob := OpAt.box W0 o1
  have z1 : (W0.alloc (.cells #[Value.int .i64 o1.id, Value.int .i64 o1.proc, Value.int .i64 o1.obj, Value.int .i64 o1.kind, Value.int .i64 o1.meth, Value.int .i64 o1.arg, Value.int .i64 o1.sec, Value.bool o1.done, Value.int .i64 o1.res, Value.int .i64 o1.inv, Value.int .i64 o1.ret] 29)).heap.size = w.heap.size + 1 + 1 := by rw [World.size_alloc, z0]
  obtain ⟨W1, hW1⟩ : ∃ W, W0.alloc (.cells #[Value.int .i64 o1.id, Value.int .i64 o1.proc, Value.int .i64 o1.obj, Value.int .i64 o1.kind, Value.int .i64 o1.meth, Value.int .i64 o1.arg, Value.int .i64 o1.sec, Value.bool o1.done, Value.int .i64 o1.res, Value.int .i64 o1.inv, Value.int .i64 o1.ret] 29) = W := ⟨_, rfl⟩
  rw [hW1] at hb1 ob z1
  have hb2 : Below W1.heap.size W1 (W1.alloc (.cells #[Value.int .i64 o2.id, Value.int .i64 o2.proc, Value.int .i64 o2.obj, Value.int .i64 o2.kind, Value.int .i64 o2.meth, Value.int .i64 o2.arg, Value.int .i64 o2.sec, Value.bool o2.done, Value.int .i64 o2.res, Value.int .i64 o2.inv, Value.int .i64 o2.ret] 29)) := by go_grown
  have oc := OpAt.box W1 o2
  obtain ⟨W, hW2⟩ : ∃ W, W1.alloc (.cells #[Value.int .i64 o2.id, Value.int .i64 o2.proc, Value.int .i64 o2.obj, Value.int .i64 o2.kind, Value.int .i64 o2.meth, Value.int .i64 o2.arg, Value.int .i64 o2.sec, Value.bool o2.done, Value.int .i64 o2.res, Value.int .i64 o2.inv, Value.int .i64 o2.ret] 29) = W := ⟨_, rfl⟩
  rw [hW2] at hb2 oc
  rw [z0] at ob
  rw [z1] at oc
  have HB := Lib.hid (hb0.on (hb1.on hb2))
  have OA := Lib.hid (oa.on (hb1.on hb2))
  have OB := Lib.hid (ob.on hb2)
  have OC := Lib.hid oc
  have HR := Lib.hid (hL0.on HB.out)
  have HW0 := Lib.hid hW0
  have HW1 := Lib.hid hW1
  have HW2 := Lib.hid hW2
  have la := OA.out.load
  clear hb0 hb1 hb2 oa ob oc hL0 hW0 hW1 hW2
  obtain ⟨q0, hq0⟩ : ∃ z, checkZ o0 = z := ⟨_, rfl⟩
  obtain ⟨q1, hq1⟩ : ∃ z, checkZ o1 = z := ⟨_, rfl⟩
  obtain ⟨q2, hq2⟩ : ∃ z, checkZ o2 = z := ⟨_, rfl⟩
  have Q0 := Lib.hid hq0
  have Q1 := Lib.hid hq1
  have Q2 := Lib.hid hq2
  clear hq0 hq1 hq2
  have e0 := HW0.out
  have e1 := HW1.out
  have e2 := HW2.out
  go_enter Tryd.func8, Tryd.ntmps8
  go_wp2_with fail
  clear la e0 e1 e2 z0 z1
  refine (check_any o0 _ HR.out).mono ?_
  rintro _ w1 ⟨rfl, hb⟩
  rw [Q0.out]
  have lb1 := (OB.out.on hb).load
  have OA1 := Lib.hid (OA.out.on hb)
  have OB1 := Lib.hid (OB.out.on hb)
  have OC1 := Lib.hid (OC.out.on hb)
  have HB1 := Lib.hid (HB.out.on hb)
  have HR1 := Lib.hid (HR.out.on hb)
  clear hb
  by_cases n0 : q0 = 0
  case neg =>
    have n0' : (q0 == 0) = false := beq_eq_false_iff_ne.2 n0
    go_wp2_with fail
    refine (awake10_any _ HR1.out).mono ?_
    rintro _ w2 ⟨rfl, hb⟩
    have HB2 := Lib.hid (HB1.out.on hb)
    clear hb
    go_wp2_with fail
    go_returns
    exact ⟨rfl, HB2.out⟩
  subst n0
  go_wp2_with fail
  clear lb1
  refine (check_any o1 _ HR1.out).mono ?_
  rintro _ w2 ⟨rfl, hb⟩
  rw [Q1.out]
  have lc2 := (OC1.out.on hb).load
  have OA2 := Lib.hid (OA1.out.on hb)
  have OB2 := Lib.hid (OB1.out.on hb)
  have OC2 := Lib.hid (OC1.out.on hb)
  have HB2 := Lib.hid (HB1.out.on hb)
  have HR2 := Lib.hid (HR1.out.on hb)
  clear hb
  by_cases n0 : q1 = 0
  case neg =>
    have n0' : (q1 == 0) = false := beq_eq_false_iff_ne.2 n0
    go_wp2_with fail
    refine (awake10_any _ HR2.out).mono ?_
    rintro _ w3 ⟨rfl, hb⟩
    have HB3 := Lib.hid (HB2.out.on hb)
    clear hb
    go_wp2_with fail
    go_returns
    exact ⟨rfl, HB3.out⟩
  subst n0
  go_wp2_with fail
  clear lc2
  refine (check_any o2 _ HR2.out).mono ?_
  rintro _ w3 ⟨rfl, hb⟩
  rw [Q2.out]
  have la3 := (OA2.out.on hb).load
  have lb3 := (OB2.out.on hb).load
  have OA3 := Lib.hid (OA2.out.on hb)
  have OB3 := Lib.hid (OB2.out.on hb)
  have OC3 := Lib.hid (OC2.out.on hb)
  have HB3 := Lib.hid (HB2.out.on hb)
  have HR3 := Lib.hid (HR2.out.on hb)
  clear hb
  by_cases n0 : q2 = 0
  case neg =>
    have n0' : (q2 == 0) = false := beq_eq_false_iff_ne.2 n0
    go_wp2_with fail
    refine (awake10_any _ HR3.out).mono ?_
    rintro _ w4 ⟨rfl, hb⟩
    have HB4 := Lib.hid (HB3.out.on hb)
    clear hb
    go_wp2_with fail
    go_returns
    exact ⟨rfl, HB4.out⟩
  subst n0
  obtain ⟨x, hx⟩ : ∃ x, befB o0 o1 = x := ⟨_, rfl⟩
  obtain ⟨y, hy⟩ : ∃ x, befB o1 o2 = x := ⟨_, rfl⟩
  obtain ⟨v, hv⟩ : ∃ x, overB o0 o1 = x := ⟨_, rfl⟩
  have X := Lib.hid hx
  have Y := Lib.hid hy
  have V := Lib.hid hv
  clear hx hy hv
  have fin : ∀ (W4 : World), Below w.heap.size w W4 → RulesAt W4 → OpAt W4 w.heap.size o0 → OpAt W4 (w.heap.size + 1) o1 → Hid (
      (∀ d os, (loadS 29 (.pointer (some ⟨w.heap.size, 0, none⟩))).run Tryd.prog (grow (redrawn W4 d) os) = .ok (Value.agg #[Value.int .i64 o0.id, Value.int .i64 o0.proc, Value.int .i64 o0.obj, Value.int .i64 o0.kind, Value.int .i64 o0.meth, Value.int .i64 o0.arg, Value.int .i64 o0.sec, Value.bool o0.done, Value.int .i64 o0.res, Value.int .i64 o0.inv, Value.int .i64 o0.ret]) (grow (redrawn W4 d) os)) ∧
      (∀ d os, (loadS 29 (.pointer (some ⟨w.heap.size + 1, 0, none⟩))).run Tryd.prog (grow (redrawn W4 d) os) = .ok (Value.agg #[Value.int .i64 o1.id, Value.int .i64 o1.proc, Value.int .i64 o1.obj, Value.int .i64 o1.kind, Value.int .i64 o1.meth, Value.int .i64 o1.arg, Value.int .i64 o1.sec, Value.bool o1.done, Value.int .i64 o1.res, Value.int .i64 o1.inv, Value.int .i64 o1.ret]) (grow (redrawn W4 d) os)) ∧
      (∀ d os, Calls Tryd.prog 18 #[Value.agg #[Value.int .i64 o0.id, Value.int .i64 o0.proc, Value.int .i64 o0.obj, Value.int .i64 o0.kind, Value.int .i64 o0.meth, Value.int .i64 o0.arg, Value.int .i64 o0.sec, Value.bool o0.done, Value.int .i64 o0.res, Value.int .i64 o0.inv, Value.int .i64 o0.ret], Value.agg #[Value.int .i64 o0.id, Value.int .i64 o0.proc, Value.int .i64 o0.obj, Value.int .i64 o0.kind, Value.int .i64 o0.meth, Value.int .i64 o0.arg, Value.int .i64 o0.sec, Value.bool o0.done, Value.int .i64 o0.res, Value.int .i64 o0.inv, Value.int .i64 o0.ret]] (grow (redrawn W4 d) os) fun e w'' => e = .returned (.bool false) ∧ ∃ p : Regrown, w'' = grow (redrawn W4 p.d) p.os) ∧
      (∀ d os, Calls Tryd.prog 18 #[Value.agg #[Value.int .i64 o0.id, Value.int .i64 o0.proc, Value.int .i64 o0.obj, Value.int .i64 o0.kind, Value.int .i64 o0.meth, Value.int .i64 o0.arg, Value.int .i64 o0.sec, Value.bool o0.done, Value.int .i64 o0.res, Value.int .i64 o0.inv, Value.int .i64 o0.ret], Value.agg #[Value.int .i64 o1.id, Value.int .i64 o1.proc, Value.int .i64 o1.obj, Value.int .i64 o1.kind, Value.int .i64 o1.meth, Value.int .i64 o1.arg, Value.int .i64 o1.sec, Value.bool o1.done, Value.int .i64 o1.res, Value.int .i64 o1.inv, Value.int .i64 o1.ret]] (grow (redrawn W4 d) os) fun e w'' => e = .returned (.bool x) ∧ ∃ p : Regrown, w'' = grow (redrawn W4 p.d) p.os) ∧
      (x = true → ∀ d os, Calls Tryd.prog 18 #[Value.agg #[Value.int .i64 o1.id, Value.int .i64 o1.proc, Value.int .i64 o1.obj, Value.int .i64 o1.kind, Value.int .i64 o1.meth, Value.int .i64 o1.arg, Value.int .i64 o1.sec, Value.bool o1.done, Value.int .i64 o1.res, Value.int .i64 o1.inv, Value.int .i64 o1.ret], Value.agg #[Value.int .i64 o0.id, Value.int .i64 o0.proc, Value.int .i64 o0.obj, Value.int .i64 o0.kind, Value.int .i64 o0.meth, Value.int .i64 o0.arg, Value.int .i64 o0.sec, Value.bool o0.done, Value.int .i64 o0.res, Value.int .i64 o0.inv, Value.int .i64 o0.ret]] (grow (redrawn W4 d) os) fun e w'' => e = .returned (.bool false) ∧ ∃ p : Regrown, w'' = grow (redrawn W4 p.d) p.os) ∧
      (∀ d os, Calls Tryd.prog 20 #[Value.agg #[Value.int .i64 o0.id, Value.int .i64 o0.proc, Value.int .i64 o0.obj, Value.int .i64 o0.kind, Value.int .i64 o0.meth, Value.int .i64 o0.arg, Value.int .i64 o0.sec, Value.bool o0.done, Value.int .i64 o0.res, Value.int .i64 o0.inv, Value.int .i64 o0.ret], Value.agg #[Value.int .i64 o1.id, Value.int .i64 o1.proc, Value.int .i64 o1.obj, Value.int .i64 o1.kind, Value.int .i64 o1.meth, Value.int .i64 o1.arg, Value.int .i64 o1.sec, Value.bool o1.done, Value.int .i64 o1.res, Value.int .i64 o1.inv, Value.int .i64 o1.ret]] (grow (redrawn W4 d) os) fun e w'' => e = .returned (.bool v) ∧ ∃ p : Regrown, w'' = grow (redrawn W4 p.d) p.os) ∧
      (∀ d os, Calls Tryd.prog 20 #[Value.agg #[Value.int .i64 o1.id, Value.int .i64 o1.proc, Value.int .i64 o1.obj, Value.int .i64 o1.kind, Value.int .i64 o1.meth, Value.int .i64 o1.arg, Value.int .i64 o1.sec, Value.bool o1.done, Value.int .i64 o1.res, Value.int .i64 o1.inv, Value.int .i64 o1.ret], Value.agg #[Value.int .i64 o0.id, Value.int .i64 o0.proc, Value.int .i64 o0.obj, Value.int .i64 o0.kind, Value.int .i64 o0.meth, Value.int .i64 o0.arg, Value.int .i64 o0.sec, Value.bool o0.done, Value.int .i64 o0.res, Value.int .i64 o0.inv, Value.int .i64 o0.ret]] (grow (redrawn W4 d) os) fun e w'' => e = .returned (.bool v) ∧ ∃ p : Regrown, w'' = grow (redrawn W4 p.d) p.os) ∧
      (∀ d os, Calls Tryd.prog 20 #[Value.agg #[Value.int .i64 o0.id, Value.int .i64 o0.proc, Value.int .i64 o0.obj, Value.int .i64 o0.kind, Value.int .i64 o0.meth, Value.int .i64 o0.arg, Value.int .i64 o0.sec, Value.bool o0.done, Value.int .i64 o0.res, Value.int .i64 o0.inv, Value.int .i64 o0.ret], Value.agg #[Value.int .i64 o0.id, Value.int .i64 o0.proc, Value.int .i64 o0.obj, Value.int .i64 o0.kind, Value.int .i64 o0.meth, Value.int .i64 o0.arg, Value.int .i64 o0.sec, Value.bool o0.done, Value.int .i64 o0.res, Value.int .i64 o0.inv, Value.int .i64 o0.ret]] (grow (redrawn W4 d) os) fun e w'' => e = .returned (.bool true) ∧ ∃ p : Regrown, w'' = grow (redrawn W4 p.d) p.os) ∧
      (∀ d os, Calls Tryd.prog 11 #[] (grow (redrawn W4 d) os) fun e w'' => e = .returned (.bool true) ∧ ∃ p : Regrown, w'' = grow (redrawn W4 p.d) p.os) ∧ Below w.heap.size w W4) := fun W4 hb hr pa pb =>
    ⟨fun d os => (pa.on (below_regrown W4 d os)).load, fun d os => (pb.on (below_regrown W4 d os)).load,
     fun d os => Calls.regrown_of (by have := before_any o0 o0 (grow (redrawn W4 d) os); rw [bef_self Q0.out] at this; exact this),
     fun d os => Calls.regrown_of (by have := before_any o0 o1 (grow (redrawn W4 d) os); rw [X.out] at this; exact this),
     fun hx d os => Calls.regrown_of (by have := before_any o1 o0 (grow (redrawn W4 d) os); rw [bef_two Q0.out Q1.out (X.out.trans hx)] at this; exact this),
     fun d os => Calls.regrown_of (by have := overlap_any o0 o1 (grow (redrawn W4 d) os); rw [V.out] at this; exact this),
     fun d os => Calls.regrown_of (by have := overlap_any o1 o0 (grow (redrawn W4 d) os); rw [over_comm, V.out] at this; exact this),
     fun d os => Calls.regrown_of (by have := overlap_any o0 o0 (grow (redrawn W4 d) os); rw [over_self Q0.out] at this; exact this),
     fun d os => Calls.regrown_of (awake10_any _ (hr.on (below_regrown W4 d os))), hb⟩
  go_wp2_with fail
  clear la3 lb3
  refine (before_any o0 o1 _).mono ?_
  rintro _ w4 ⟨rfl, hb⟩
  rw [X.out]
  have F4 := fin w4 (HB3.out.on hb) (HR3.out.on hb) (OA3.out.on hb) (OB3.out.on hb)
  cases x with
  | false =>
    clear hb
    obtain ⟨l1, l2, c1, c2, _, c4, c5, c6, c7, hB⟩ := F4.out
    have C1 := Lib.hid c1
    have C2 := Lib.hid c2
    have C4 := Lib.hid c4
    have C5 := Lib.hid c5
    have C6 := Lib.hid c6
    have C7 := Lib.hid c7
    have HBf := Lib.hid hB
    clear c1 c2 c4 c5 c6 c7 hB fin F4
    go_wp2_with fail
    refine wp_region_quiet_below (by kernel_rfl) (by kernel_rfl) ?_
    repeat (go_big_quiet_step (first | (with_reducible exact C1.out _ _) | (with_reducible exact C2.out _ _) | (with_reducible exact C4.out _ _) | (with_reducible exact C5.out _ _) | (with_reducible exact C6.out _ _) | (with_reducible exact C7.out _ _)))
    refine wpQuiet_nil ?_
    intro _ hw'
    obtain ⟨⟨dq, osq⟩, hw''⟩ := hw'
    subst hw''
    go_wp2
    go_returns
    exact ⟨rfl, HBf.out.on (below_regrown w4 dq osq)⟩
  | true =>
    have lb4 := (OB3.out.on hb).load
    have lc4 := (OC3.out.on hb).load
    have OA4 := Lib.hid (OA3.out.on hb)
    have OB4 := Lib.hid (OB3.out.on hb)
    have OC4 := Lib.hid (OC3.out.on hb)
    have HB4 := Lib.hid (HB3.out.on hb)
    have HR4 := Lib.hid (HR3.out.on hb)
    clear hb F4
    go_wp2_with fail
    clear lb4 lc4
    refine (before_any o1 o2 _).mono ?_
    rintro _ w5 ⟨rfl, hb⟩
    rw [Y.out]
    cases y with
    | false =>
      obtain ⟨l1, l2, c1, c2, c3, c4, c5, c6, c7, hB⟩ := (fin w5 (HB4.out.on hb) (HR4.out.on hb) (OA4.out.on hb) (OB4.out.on hb)).out
      have C1 := Lib.hid c1
      have C2 := Lib.hid c2
      have C3 := Lib.hid (c3 (by first | rfl | trivial))
      have C4 := Lib.hid c4
      have C5 := Lib.hid c5
      have C6 := Lib.hid c6
      have C7 := Lib.hid c7
      have HBf := Lib.hid hB
      clear c1 c2 c3 c4 c5 c6 c7 hB fin hb
      go_wp2_with fail
      refine wp_region_quiet_below (by kernel_rfl) (by kernel_rfl) ?_
      repeat (go_big_quiet_step (first | (with_reducible exact C1.out _ _) | (with_reducible exact C2.out _ _) | (with_reducible exact C3.out _ _) | (with_reducible exact C4.out _ _) | (with_reducible exact C5.out _ _) | (with_reducible exact C6.out _ _) | (with_reducible exact C7.out _ _)))
      refine wpQuiet_nil ?_
      intro _ hw'
      obtain ⟨⟨dq, osq⟩, hw''⟩ := hw'
      subst hw''
      go_wp2
      go_returns
      exact ⟨rfl, HBf.out.on (below_regrown w5 dq osq)⟩
    | true =>
      have la5 := (OA4.out.on hb).load
      have lc5 := (OC4.out.on hb).load
      have OA5 := Lib.hid (OA4.out.on hb)
      have OB5 := Lib.hid (OB4.out.on hb)
      have HB5 := Lib.hid (HB4.out.on hb)
      have HR5 := Lib.hid (HR4.out.on hb)
      have Z := Lib.hid (bef_on Q1.out X.out Y.out)
      clear hb
      go_wp2_with fail
      clear la5 lc5
      refine (before_any o0 o2 _).mono ?_
      rintro _ w6 ⟨rfl, hb⟩
      rw [Z.out]
      obtain ⟨l1, l2, c1, c2, c3, c4, c5, c6, c7, hB⟩ := (fin w6 (HB5.out.on hb) (HR5.out.on hb) (OA5.out.on hb) (OB5.out.on hb)).out
      have C1 := Lib.hid c1
      have C2 := Lib.hid c2
      have C3 := Lib.hid (c3 (by first | rfl | trivial))
      have C4 := Lib.hid c4
      have C5 := Lib.hid c5
      have C6 := Lib.hid c6
      have C7 := Lib.hid c7
      have HBf := Lib.hid hB
      clear c1 c2 c3 c4 c5 c6 c7 hB fin hb
      go_wp2_with fail
      refine wp_region_quiet_below (by kernel_rfl) (by kernel_rfl) ?_
      repeat (go_big_quiet_step (first | (with_reducible exact C1.out _ _) | (with_reducible exact C2.out _ _) | (with_reducible exact C3.out _ _) | (with_reducible exact C4.out _ _) | (with_reducible exact C5.out _ _) | (with_reducible exact C6.out _ _) | (with_reducible exact C7.out _ _)))
      refine wpQuiet_nil ?_
      intro _ hw'
      obtain ⟨⟨dq, osq⟩, hw''⟩ := hw'
      subst hw''
      go_wp2
      go_returns
      exact ⟨rfl, HBf.out.on (below_regrown w6 dq osq)⟩

set_option maxRecDepth 100000 in
theorem door_met (os : Os) (args : Array Value) : laidMetH Tryd.prog Rows.opOrdersRow.laid ((World.doorLaid Tryd.prog 400 os).forCall (fun _ _ => 0) ⟨#[], args, []⟩).memory :=
  laidMetH_of_parts3 (fuel := 8) (laidMet_of_run' 8 (by kernel_rfl) (by kernel_rfl)) (by kernel_rfl) (by kernel_rfl)
set_option maxRecDepth 100000 in
theorem lifted (os : Os) (started : os.Started) (H : Type) (enc : TypeId × Value → H) :
    ReturnsInHanded {} Tryd.checked os 8 .any (fun w args => (Rows.opOrdersSpec.pre enc Tryd.prog Tryd.f8 [] false w args ∧ laidMetH Tryd.prog Rows.opOrdersRow.laid w) ∧ sizedMet enc Tryd.prog Tryd.f8 (OpenSpec.ofChange Rows.opOrdersSpec) false w args) (Rows.opOrdersSpec.post enc Tryd.prog Tryd.f8 false true false false) := by
  refine law_lift_laid (C := Tryd.checked) own started (by kernel_rfl) Tryd.func8 laidOut (by kernel_rfl) rfl Tryd.underlying4 rfl
    (fun ds h => match ds, h with | [_, _, _], _ => rfl)
    (ChangeSpec.witness_shaped (enc := enc) (C := Tryd.checked) (os := os) (X := fun w _ => laidMetH Tryd.prog Rows.opOrdersRow.laid w) false (World.doorLaid Tryd.prog 400 os) #[.agg #[.int .i64 0, .int .i64 0, .int .i64 0, .int .i64 0, .int .i64 0, .int .i64 0, .int .i64 0, .bool false, .int .i64 0, .int .i64 0, .int .i64 0], .agg #[.int .i64 0, .int .i64 0, .int .i64 0, .int .i64 0, .int .i64 0, .int .i64 0, .int .i64 0, .bool false, .int .i64 0, .int .i64 0, .int .i64 0], .agg #[.int .i64 0, .int .i64 0, .int .i64 0, .int .i64 0, .int .i64 0, .int .i64 0, .int .i64 0, .bool false, .int .i64 0, .int .i64 0, .int .i64 0]] 8 rfl (World.shaped_of_RefB (by kernel_rfl) (by kernel_rfl)) (by kernel_rfl) (by kernel_rfl) (by kernel_rfl) (door_met os _)) ?_
  intro W base args ds ps hval hA hsz hL
  rw [Tryd.params8] at hA hval hsz
  obtain ⟨v0, vs0, d0, ds0, p0, q0, hargs, rfl, rfl, h0, r0⟩ := trodAll_cons hA
  obtain ⟨v1, vs1, d1, ds1, p1, q1, rfl, rfl, rfl, h1, r1⟩ := trodAll_cons r0
  obtain ⟨v2, vs2, d2, ds2, p2, q2, rfl, rfl, rfl, h2, r2⟩ := trodAll_cons r1
  obtain ⟨rfl, rfl, rfl⟩ := trodAll_nil r2
  obtain rfl : args = #[v0, v1, v2] := by cases args; simp_all
  obtain ⟨o0, rfl, w0⟩ := op_open (hval 0 29 v0 rfl rfl) h0
  obtain ⟨o1, rfl, w1⟩ := op_open (hval 1 29 v1 rfl rfl) h1
  obtain ⟨o2, rfl, w2⟩ := op_open (hval 2 29 v2 rfl rfl) h2
  exact walk W o0 w0 o1 w1 o2 w2 (rules_of_laid (by kernel_rfl) (by simp [Rows.opOrdersRow]) hL)

theorem over : Rows.opOrdersRow.holds Tryd.pinned (OpenSpec.ofChange Rows.opOrdersSpec) :=
  OpenClaim.holds_of_wide 8 Tryd.f8 rfl rfl rfl rfl rfl rfl rfl ⟨rfl, rfl, rfl, rfl, rfl⟩ rfl rfl rfl rfl rfl (by kernel_rfl) Tryd.func8 (by kernel_rfl)
    (of_decide_eq_true (by kernel_rfl)) (by unfold Func.isWrapper; first | (rw [if_pos (by decide +kernel)]; kernel_rfl) | (rw [if_neg (by decide +kernel)]; exact ⟨rfl, rfl⟩))
    (fun os started H enc _ => lifted os started H enc)

theorem proved : Rows.OpOrdersCardSaid :=
  Claim7.holds_tied_plain_at (c := Rows.opOrdersRow) .later [] [.data] true _ _ over (fun _ h => by cases h) (by kernel_rfl) (fun _ h => by cases h) opOrders_row_tie rfl ⟨rfl, rfl⟩ (by kernel_rfl) rfl
    (fun f fn hf hfn => by
      obtain rfl : f = 8 := Option.some.inj ((show Tryd.prog.funcNamed "annalist/annalistlaw10.OpOrders" = some 8 by kernel_rfl).symm.trans hf) |>.symm
      obtain rfl : fn = Tryd.f8 := (Option.some.inj (Tryd.func8.symm.trans hfn)).symm
      exact ⟨by kernel_rfl, fun j t ht => by
        have hall : (Tryd.f8.params.toList.all fun u => !Tryd.prog.wantsStandIn u) = true := by kernel_rfl
        have hm : t ∈ Tryd.f8.params.toList := by simpa using Array.mem_of_getElem? ht
        exact (show Tryd.prog.wantsStandIn t = false by simpa using List.all_eq_true.1 hall t hm)⟩)
    (by kernel_rfl)
end Go.Proofs.YthgibogdbbebaaaDoor.opOrders
