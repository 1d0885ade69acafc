/- Contracts of Check, Before and Overlap. -/
import Derived.Test.YtpjnmokofdldmaaDoorOpD
import Derived.Deep.QuietTactic
import Derived.BigQuiet
namespace Go.Proofs.YtpjnmokofdldmaaDoor
set_option maxRecDepth 100000
open Go.ChangeShapes Go.WideShapes Go.ChangeAt Go.RowKit Go.PlainAid

theorem load_op (v : Value) : Instr.loadAt 28 v = loadS 28 v := rfl
theorem OpAt.load {w : World} {b : Nat} {o : OpV} (h : OpAt w b o) : (loadS 28 (.pointer (some ⟨b, 0, none⟩))).run Tryd.prog w = .ok (Value.agg #[Value.int .i64 o.id, Value.int .i64 o.proc, Value.int .i64 o.obj, Value.int .i64 o.kind, Value.int .i64 o.meth, Value.int .i64 o.arg, Value.int .i64 o.sec, Value.bool o.done, Value.int .i64 o.res, Value.int .i64 o.inv, Value.int .i64 o.ret]) w :=
  run_loadAt_mid w b 0 28 [Value.int .i64 o.id, Value.int .i64 o.proc, Value.int .i64 o.obj, Value.int .i64 o.kind, Value.int .i64 o.meth, Value.int .i64 o.arg, Value.int .i64 o.sec, Value.bool o.done, Value.int .i64 o.res, Value.int .i64 o.inv, Value.int .i64 o.ret] _ (fun j v hj => by rw [cell_of_row _ _ _ _ _ _ h, Nat.zero_add, ← hj]; simp) Tryd.underlying28 rfl (by kernel_rfl)
attribute [local go_sem ↓ high] load_op
theorem check_30 {o : OpV} (h : namedB o = false) : checkZ o = 30 := by unfold checkZ; rw [h]; rfl
theorem check_33 {o : OpV} (h : namedB o = true) (h2 : ruledB o = false) : checkZ o = 33 := by unfold checkZ; rw [h, h2]; rfl
theorem check_31 {o : OpV} (h : namedB o = true) (h2 : ruledB o = true) (h3 : timedB o = false) : checkZ o = 31 := by unfold checkZ; rw [h, h2, h3]; rfl
theorem check_0 {o : OpV} (h : namedB o = true) (h2 : ruledB o = true) (h3 : timedB o = true) : checkZ o = 0 := by unfold checkZ; rw [h, h2, h3]; rfl
set_option maxHeartbeats 2000000 in
theorem check_any (o : OpV) (w : World) (hR : RulesAt w) : Calls Tryd.prog 14 #[Value.agg #[Value.int .i64 o.id, Value.int .i64 o.proc, Value.int .i64 o.obj, Value.int .i64 o.kind, Value.int .i64 o.meth, Value.int .i64 o.arg, Value.int .i64 o.sec, Value.bool o.done, Value.int .i64 o.res, Value.int .i64 o.inv, Value.int .i64 o.ret]] w fun e w' => e = .returned (.int .i64 (checkZ o)) ∧ Below w.heap.size w w' := by
  have HB := Lib.hid (show Below w.heap.size w (w.alloc (.cells #[Value.int .i64 o.id, Value.int .i64 o.proc, Value.int .i64 o.obj, Value.int .i64 o.kind, Value.int .i64 o.meth, Value.int .i64 o.arg, Value.int .i64 o.sec, Value.bool o.done, Value.int .i64 o.res, Value.int .i64 o.inv, Value.int .i64 o.ret] 28)) by go_grown)
  have l0 := (OpAt.box w o).load
  have HR := Lib.hid (hR.on HB.out)
  clear hR
  go_enter Tryd.func14, Tryd.ntmps14
  go_wp2_with fail
  refine (named_any o _).mono ?_
  rintro _ w1 ⟨rfl, hb1⟩
  have l1 := ((OpAt.box w o).on hb1).load
  have HO1 := Lib.hid ((OpAt.box w o).on hb1)
  have HR1 := Lib.hid (HR.out.on hb1)
  have HB1 := Lib.hid (HB.out.on hb1)
  clear hb1
  cases h1 : namedB o
  · have hn := Lib.hid (check_30 h1)
    clear h1
    go_wp2_with fail
    go_returns
    exact ⟨by rw [hn.out]; rfl, HB1.out⟩
  · have h1' := Lib.hid h1
    clear h1
    go_wp2_with fail
    refine (ruled_any o _ HR1.out).mono ?_
    rintro _ w2 ⟨rfl, hb2⟩
    have l2 := (HO1.out.on hb2).load
    have HB2 := Lib.hid (HB1.out.on hb2)
    clear hb2
    cases h2 : ruledB o
    · have hn := Lib.hid (check_33 h1'.out h2)
      clear h2
      go_wp2_with fail
      go_returns
      exact ⟨by rw [hn.out]; rfl, HB2.out⟩
    · have h2' := Lib.hid h2
      clear h2
      go_wp2_with fail
      refine (timed_any o _).mono ?_
      rintro _ w3 ⟨rfl, hb3⟩
      have HB3 := Lib.hid (HB2.out.on hb3)
      clear hb3
      cases h3 : timedB o
      · have hn := Lib.hid (check_31 h1'.out h2'.out h3)
        clear h3
        go_wp2_with fail
        go_returns
        exact ⟨by rw [hn.out]; rfl, HB3.out⟩
      · have hn := Lib.hid (check_0 h1'.out h2'.out h3)
        clear h3
        go_wp2_with fail
        go_returns
        exact ⟨by rw [hn.out]; rfl, HB3.out⟩

/-- Was the first one answered ahead of the second one's invocation? -/
def befB (a b : OpV) : Bool := a.done && decide (a.ret < b.inv)
def overB (a b : OpV) : Bool := !befB a b && !befB b a
set_option maxHeartbeats 1000000 in
theorem before_any (a b : OpV) (w : World) : Calls Tryd.prog 47 #[Value.agg #[Value.int .i64 a.id, Value.int .i64 a.proc, Value.int .i64 a.obj, Value.int .i64 a.kind, Value.int .i64 a.meth, Value.int .i64 a.arg, Value.int .i64 a.sec, Value.bool a.done, Value.int .i64 a.res, Value.int .i64 a.inv, Value.int .i64 a.ret], Value.agg #[Value.int .i64 b.id, Value.int .i64 b.proc, Value.int .i64 b.obj, Value.int .i64 b.kind, Value.int .i64 b.meth, Value.int .i64 b.arg, Value.int .i64 b.sec, Value.bool b.done, Value.int .i64 b.res, Value.int .i64 b.inv, Value.int .i64 b.ret]] w fun e w' => e = .returned (.bool (befB a b)) ∧ Below w.heap.size w w' := by
  cases h : a.done
  · have hn := Lib.hid (show befB a b = false by unfold befB; rw [h]; rfl)
    clear h
    go_enter Tryd.func47, Tryd.ntmps47
    go_wp2_with fail
    go_returns
    exact ⟨by rw [hn.out]; rfl, by go_grown⟩
  · have hn := Lib.hid (show befB a b = decide (a.ret < b.inv) by unfold befB; rw [h]; rfl)
    clear h
    go_enter Tryd.func47, Tryd.ntmps47
    go_wp2_with fail
    go_returns
    exact ⟨by rw [hn.out]; rfl, by go_grown⟩
set_option maxHeartbeats 1000000 in
theorem rbefore_any (a b : OpV) (w : World) : Calls Tryd.prog 35 #[Value.agg #[Value.int .i64 a.id, Value.int .i64 a.proc, Value.int .i64 a.obj, Value.int .i64 a.kind, Value.int .i64 a.meth, Value.int .i64 a.arg, Value.int .i64 a.sec, Value.bool a.done, Value.int .i64 a.res, Value.int .i64 a.inv, Value.int .i64 a.ret], Value.agg #[Value.int .i64 b.id, Value.int .i64 b.proc, Value.int .i64 b.obj, Value.int .i64 b.kind, Value.int .i64 b.meth, Value.int .i64 b.arg, Value.int .i64 b.sec, Value.bool b.done, Value.int .i64 b.res, Value.int .i64 b.inv, Value.int .i64 b.ret]] w fun e w' => e = .returned (.bool (befB a b)) ∧ Below w.heap.size w w' := by
  cases h : a.done
  · have hn := Lib.hid (show befB a b = false by unfold befB; rw [h]; rfl)
    clear h
    go_enter Tryd.func35, Tryd.ntmps35
    go_wp2_with fail
    go_returns
    exact ⟨by rw [hn.out]; rfl, by go_grown⟩
  · have hn := Lib.hid (show befB a b = decide (a.ret < b.inv) by unfold befB; rw [h]; rfl)
    clear h
    go_enter Tryd.func35, Tryd.ntmps35
    go_wp2_with fail
    go_returns
    exact ⟨by rw [hn.out]; rfl, by go_grown⟩
set_option maxHeartbeats 1000000 in
theorem overlap_any (a b : OpV) (w : World) : Calls Tryd.prog 31 #[Value.agg #[Value.int .i64 a.id, Value.int .i64 a.proc, Value.int .i64 a.obj, Value.int .i64 a.kind, Value.int .i64 a.meth, Value.int .i64 a.arg, Value.int .i64 a.sec, Value.bool a.done, Value.int .i64 a.res, Value.int .i64 a.inv, Value.int .i64 a.ret], Value.agg #[Value.int .i64 b.id, Value.int .i64 b.proc, Value.int .i64 b.obj, Value.int .i64 b.kind, Value.int .i64 b.meth, Value.int .i64 b.arg, Value.int .i64 b.sec, Value.bool b.done, Value.int .i64 b.res, Value.int .i64 b.inv, Value.int .i64 b.ret]] w fun e w' => e = .returned (.bool (overB a b)) ∧ Below w.heap.size w w' := by
  have hb0 : Below w.heap.size w (w.alloc (.cells #[Value.int .i64 a.id, Value.int .i64 a.proc, Value.int .i64 a.obj, Value.int .i64 a.kind, Value.int .i64 a.meth, Value.int .i64 a.arg, Value.int .i64 a.sec, Value.bool a.done, Value.int .i64 a.res, Value.int .i64 a.inv, Value.int .i64 a.ret] 28)) := by go_grown
  have hb1 : Below (w.alloc (.cells #[Value.int .i64 a.id, Value.int .i64 a.proc, Value.int .i64 a.obj, Value.int .i64 a.kind, Value.int .i64 a.meth, Value.int .i64 a.arg, Value.int .i64 a.sec, Value.bool a.done, Value.int .i64 a.res, Value.int .i64 a.inv, Value.int .i64 a.ret] 28)).heap.size (w.alloc (.cells #[Value.int .i64 a.id, Value.int .i64 a.proc, Value.int .i64 a.obj, Value.int .i64 a.kind, Value.int .i64 a.meth, Value.int .i64 a.arg, Value.int .i64 a.sec, Value.bool a.done, Value.int .i64 a.res, Value.int .i64 a.inv, Value.int .i64 a.ret] 28)) ((w.alloc (.cells #[Value.int .i64 a.id, Value.int .i64 a.proc, Value.int .i64 a.obj, Value.int .i64 a.kind, Value.int .i64 a.meth, Value.int .i64 a.arg, Value.int .i64 a.sec, Value.bool a.done, Value.int .i64 a.res, Value.int .i64 a.inv, Value.int .i64 a.ret] 28)).alloc (.cells #[Value.int .i64 b.id, Value.int .i64 b.proc, Value.int .i64 b.obj, Value.int .i64 b.kind, Value.int .i64 b.meth, Value.int .i64 b.arg, Value.int .i64 b.sec, Value.bool b.done, Value.int .i64 b.res, Value.int .i64 b.inv, Value.int .i64 b.ret] 28)) := by go_grown
  have oa := (OpAt.box w a).on hb1
  have ob := OpAt.box (w.alloc (.cells #[Value.int .i64 a.id, Value.int .i64 a.proc, Value.int .i64 a.obj, Value.int .i64 a.kind, Value.int .i64 a.meth, Value.int .i64 a.arg, Value.int .i64 a.sec, Value.bool a.done, Value.int .i64 a.res, Value.int .i64 a.inv, Value.int .i64 a.ret] 28)) b
  rw [World.size_alloc] at ob
  have HB := Lib.hid (hb0.on hb1)
  obtain ⟨W, hW⟩ : ∃ W, (w.alloc (.cells #[Value.int .i64 a.id, Value.int .i64 a.proc, Value.int .i64 a.obj, Value.int .i64 a.kind, Value.int .i64 a.meth, Value.int .i64 a.arg, Value.int .i64 a.sec, Value.bool a.done, Value.int .i64 a.res, Value.int .i64 a.inv, Value.int .i64 a.ret] 28)).alloc (.cells #[Value.int .i64 b.id, Value.int .i64 b.proc, Value.int .i64 b.obj, Value.int .i64 b.kind, Value.int .i64 b.meth, Value.int .i64 b.arg, Value.int .i64 b.sec, Value.bool b.done, Value.int .i64 b.res, Value.int .i64 b.inv, Value.int .i64 b.ret] 28) = W := ⟨_, rfl⟩
  rw [hW] at oa ob HB
  have la := oa.load
  have lb := ob.load
  have OA := Lib.hid oa
  have OB := Lib.hid ob
  clear hb0 hb1 oa ob
  obtain ⟨x, hx⟩ : ∃ x, befB a b = x := ⟨_, rfl⟩
  obtain ⟨y, hy⟩ : ∃ x, befB b a = x := ⟨_, rfl⟩
  have hn := Lib.hid (show overB a b = (!x && !y) by unfold overB; rw [hx, hy])
  have HX := Lib.hid hx
  have HY := Lib.hid hy
  clear hx hy
  go_enter Tryd.func31, Tryd.ntmps31
  go_wp2_with fail
  refine (before_any a b _).mono ?_
  rintro _ w1 ⟨rfl, hb1⟩
  rw [HX.out]
  have HB1 := Lib.hid (HB.out.on hb1)
  have la1 := (OA.out.on hb1).load
  have lb1 := (OB.out.on hb1).load
  clear hb1
  cases x
  · go_wp2_with fail
    refine (before_any b a _).mono ?_
    rintro _ w2 ⟨rfl, hb2⟩
    rw [HY.out]
    have HB2 := Lib.hid (HB1.out.on hb2)
    clear hb2
    go_wp2_with fail
    go_returns
    exact ⟨by rw [hn.out]; rfl, HB2.out⟩
  · go_wp2_with fail
    go_returns
    exact ⟨by rw [hn.out]; rfl, HB1.out⟩
attribute [local go_sem ↓ high] store_r
end Go.Proofs.YtpjnmokofdldmaaDoor
