/- Contracts of ruled, Check, Before and Overlap. -/
import Derived.Test.YtpjnmokofdldmaaDoorOpC
namespace Go.Proofs.YtpjnmokofdldmaaDoor
set_option maxRecDepth 100000
open Go.ChangeShapes Go.WideShapes Go.ChangeAt Go.RowKit Go.PlainAid

attribute [local go_sem ↓ high] store_r
theorem heap_inO {w : World} {k : Nat} {o : Obj} (h : w.heap[k]? = some o) : k < w.heap.size := (Array.getElem?_eq_some_iff.1 h).1
/-- An operation in a block of its own. -/
def OpAt (w : World) (b : Nat) (o : OpV) : Prop := w.heap[b]? = some (.cells #[Value.int .i64 o.id, Value.int .i64 o.proc, Value.int .i64 o.obj, Value.int .i64 o.kind, Value.int .i64 o.meth, Value.int .i64 o.arg, Value.int .i64 o.sec, Value.bool o.done, Value.int .i64 o.res, Value.int .i64 o.inv, Value.int .i64 o.ret] 28 (0, 0))
theorem OpAt.cell {w : World} {b : Nat} {o : OpV} (h : OpAt w b o) : w.cell? ⟨b, 0, none⟩ = some (.int .i64 o.id) ∧ w.cell? ⟨b, 1, none⟩ = some (.int .i64 o.proc) ∧ w.cell? ⟨b, 2, none⟩ = some (.int .i64 o.obj) ∧ w.cell? ⟨b, 3, none⟩ = some (.int .i64 o.kind) ∧ w.cell? ⟨b, 4, none⟩ = some (.int .i64 o.meth) ∧
    w.cell? ⟨b, 5, none⟩ = some (.int .i64 o.arg) ∧ w.cell? ⟨b, 6, none⟩ = some (.int .i64 o.sec) ∧ w.cell? ⟨b, 7, none⟩ = some (.bool o.done) ∧ w.cell? ⟨b, 8, none⟩ = some (.int .i64 o.res) ∧ w.cell? ⟨b, 9, none⟩ = some (.int .i64 o.inv) ∧ w.cell? ⟨b, 10, none⟩ = some (.int .i64 o.ret) := by
  unfold OpAt at h
  refine ⟨?_, ?_, ?_, ?_, ?_, ?_, ?_, ?_, ?_, ?_, ?_⟩ <;> (rw [cell_of_row _ _ _ _ _ _ h]; rfl)
theorem OpAt.on {w w' : World} {b : Nat} {o : OpV} (h : OpAt w b o) (hb : Below w.heap.size w w') : OpAt w' b o := (hb.block b (heap_inO h)).trans h
theorem OpAt.box (w : World) (o : OpV) : OpAt (w.alloc (.cells #[Value.int .i64 o.id, Value.int .i64 o.proc, Value.int .i64 o.obj, Value.int .i64 o.kind, Value.int .i64 o.meth, Value.int .i64 o.arg, Value.int .i64 o.sec, Value.bool o.done, Value.int .i64 o.res, Value.int .i64 o.inv, Value.int .i64 o.ret] 28)) w.heap.size o := heap_alloc_new _ _
theorem resB_no {o : OpV} (h : o.done = false) (low high : Int) : resB o low high = (o.res == 0) := by unfold resB; rw [h]; rfl
theorem resB_yes {o : OpV} (h : o.done = true) (low high : Int) : resB o low high = inB o.res low high := by unfold resB; rw [h]; rfl
set_option maxHeartbeats 2000000 in
theorem ruled_any (o : OpV) (w : World) (hR : RulesAt w) : Calls Tryd.prog 24 #[Value.agg #[Value.int .i64 o.id, Value.int .i64 o.proc, Value.int .i64 o.obj, Value.int .i64 o.kind, Value.int .i64 o.meth, Value.int .i64 o.arg, Value.int .i64 o.sec, Value.bool o.done, Value.int .i64 o.res, Value.int .i64 o.inv, Value.int .i64 o.ret]] w fun e w' => e = .returned (.bool (ruledB o)) ∧ Below w.heap.size w w' := by
  have HB := Lib.hid (show Below w.heap.size w (w.alloc (.cells #[Value.int .i64 o.id, Value.int .i64 o.proc, Value.int .i64 o.obj, Value.int .i64 o.kind, Value.int .i64 o.meth, Value.int .i64 o.arg, Value.int .i64 o.sec, Value.bool o.done, Value.int .i64 o.res, Value.int .i64 o.inv, Value.int .i64 o.ret] 28)) by go_grown)
  have HR := Lib.hid (hR.on HB.out)
  clear hR
  cases hr : ruleOf o.kind o.meth with
  | none =>
    have hn := Lib.hid (ruled_none hr)
    have HF := Lib.hid (show foundV (ruleOf o.kind o.meth) = .tuple #[.agg #[.int .i64 0, .int .i64 0, .int .i64 0, .int .i64 0, .int .i64 0], .bool false] by rw [hr]; rfl)
    clear hr
    go_enter Tryd.func24, Tryd.ntmps24
    go_wp2_with fail
    refine (find_any o.kind o.meth _ HR.out).mono ?_
    rintro _ w2 ⟨rfl, hb⟩
    rw [HF.out]
    have hs := store_rule_new w2 #[.int .i64 0, .int .i64 0, .int .i64 0, .int .i64 0, .int .i64 0] rfl 0 0 0 0 0
    have HB2 := Lib.hid (HB.out.on hb)
    clear hb
    go_wp2_with fail
    go_returns
    exact ⟨by rw [hn.out]; rfl, HB2.out.alloc HB2.out.size _⟩
  | some r =>
    have hn := Lib.hid (ruled_some hr)
    have HF := Lib.hid (show foundV (ruleOf o.kind o.meth) = .tuple #[.agg #[.int .i64 r.kind, .int .i64 r.meth, .int .i64 r.needs, .int .i64 r.low, .int .i64 r.high], .bool true] by rw [hr]; rfl)
    clear hr
    obtain ⟨g1, hg1⟩ : ∃ b, decide (1 ≤ r.needs) = b := ⟨_, rfl⟩
    obtain ⟨g2, hg2⟩ : ∃ b, decide (2 ≤ r.needs) = b := ⟨_, rfl⟩
    obtain ⟨b1, h1⟩ : ∃ b, argB o.arg g1 = b := ⟨_, rfl⟩
    obtain ⟨b2, h2⟩ : ∃ b, argB o.sec g2 = b := ⟨_, rfl⟩
    have HM := Lib.hid (show fitB o r = (b1 && b2 && resB o r.low r.high) by unfold fitB; rw [hg1, hg2, h1, h2])
    have H1 := Lib.hid h1
    have H2 := Lib.hid h2
    clear h1 h2
    go_enter Tryd.func24, Tryd.ntmps24
    go_wp2_with fail
    refine (find_any o.kind o.meth _ HR.out).mono ?_
    rintro _ w2 ⟨rfl, hb⟩
    rw [HF.out]
    have hs := store_rule_new w2 #[.int .i64 0, .int .i64 0, .int .i64 0, .int .i64 0, .int .i64 0] rfl r.kind r.meth r.needs r.low r.high
    have hq := heap_alloc_new w2 (.cells #[.int .i64 r.kind, .int .i64 r.meth, .int .i64 r.needs, .int .i64 r.low, .int .i64 r.high] 69)
    have hb3 := hb.alloc hb.size (.cells #[.int .i64 r.kind, .int .i64 r.meth, .int .i64 r.needs, .int .i64 r.low, .int .i64 r.high] 69)
    obtain ⟨W3, hW3⟩ : ∃ W3, w2.alloc (.cells #[.int .i64 r.kind, .int .i64 r.meth, .int .i64 r.needs, .int .i64 r.low, .int .i64 r.high] 69) = W3 := ⟨_, rfl⟩
    rw [hW3] at hs hq hb3
    have HB3 := Lib.hid (HB.out.on hb3)
    obtain ⟨_, _, _, _, _, k5, k6, k7, k8, _, _⟩ := ((OpAt.box w o).on hb3).cell
    have r2 : W3.cell? ⟨w2.heap.size, 2, none⟩ = some (.int .i64 r.needs) := by rw [cell_of_row _ _ _ _ _ _ hq]; rfl
    have r3 : W3.cell? ⟨w2.heap.size, 3, none⟩ = some (.int .i64 r.low) := by rw [cell_of_row _ _ _ _ _ _ hq]; rfl
    have r4 : W3.cell? ⟨w2.heap.size, 4, none⟩ = some (.int .i64 r.high) := by rw [cell_of_row _ _ _ _ _ _ hq]; rfl
    clear hb hq hb3 hW3
    go_wp2_with fail
    refine (argument_any _ _ _).mono ?_
    rintro _ _ ⟨rfl, rfl⟩
    rw [H1.out]
    cases b1
    · go_wp2_with fail
      go_returns
      exact ⟨by rw [hn.out, HM.out]; rfl, HB3.out⟩
    · go_wp2_with fail
      refine (argument_any _ _ _).mono ?_
      rintro _ _ ⟨rfl, rfl⟩
      rw [H2.out]
      cases b2
      · go_wp2_with fail
        go_returns
        exact ⟨by rw [hn.out, HM.out]; rfl, HB3.out⟩
      · cases hd : o.done
        · have HN := Lib.hid (resB_no hd r.low r.high)
          rw [hd] at k7
          clear hd
          go_wp2_with fail
          go_returns
          exact ⟨by rw [hn.out, HM.out, HN.out]; rfl, HB3.out⟩
        · have HN := Lib.hid (resB_yes hd r.low r.high)
          rw [hd] at k7
          clear hd
          go_wp2_with fail
          refine (within_any _ _ _ _).mono ?_
          rintro _ _ ⟨rfl, rfl⟩
          go_wp2_with fail
          go_returns
          exact ⟨by rw [hn.out, HM.out, HN.out]; rfl, HB3.out⟩
end Go.Proofs.YtpjnmokofdldmaaDoor
