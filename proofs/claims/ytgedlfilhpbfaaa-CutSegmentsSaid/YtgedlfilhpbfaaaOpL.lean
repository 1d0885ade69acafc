/- What the listed table gives; an operation as a parameter; the chapter's examples hold. -/
import Derived.Test.YtgedlfilhpbfaaaLawL
import Derived.Test.YtgedlfilhpbfaaaOpE
import Derived.Deep.Slices
import Derived.Deep.Fields
import Derived.ChangeSame
namespace Go.Proofs.Ytgedlfilhpbfaaa
set_option maxRecDepth 100000
open Go.ChangeShapes Go.WideShapes Go.ChangeAt Go.RowKit Go.PlainAid Go.Deep

structure OpV.Wf (o : OpV) : Prop where
  id : -9223372036854775808 ≤ o.id ∧ o.id ≤ 9223372036854775807
  proc : -9223372036854775808 ≤ o.proc ∧ o.proc ≤ 9223372036854775807
  obj : -9223372036854775808 ≤ o.obj ∧ o.obj ≤ 9223372036854775807
  kind : -9223372036854775808 ≤ o.kind ∧ o.kind ≤ 9223372036854775807
  meth : -9223372036854775808 ≤ o.meth ∧ o.meth ≤ 9223372036854775807
  arg : -9223372036854775808 ≤ o.arg ∧ o.arg ≤ 9223372036854775807
  sec : -9223372036854775808 ≤ o.sec ∧ o.sec ≤ 9223372036854775807
  res : -9223372036854775808 ≤ o.res ∧ o.res ≤ 9223372036854775807
  inv : -9223372036854775808 ≤ o.inv ∧ o.inv ≤ 9223372036854775807
  ret : -9223372036854775808 ≤ o.ret ∧ o.ret ≤ 9223372036854775807
section
variable {H : Type} {enc : TypeId × Value → H} {P : Program} {w : World} {base : Nat} {sp : Nat → Bool} {held : Bool}
/-- The cells of a struct that can be read, one a field. -/
theorem struct_cellsO {e : TypeId} {fs : Array Field} {fuel : Nat} {cs : List Value} {x : DataW H × List MemPlace} (he : P.underlying e = some (.struct fs)) (hone : oneCellFields P fs = true) (hC : P.cellsOf e = fs.size)
    (h : DataW.trod enc P w base sp held fuel e cs = some x) : cs.length = fs.size ∧ ∀ (j : Nat) (f : Field), fs[j]? = some f → ∃ (v : Value) (y : DataW H × List MemPlace) (n : Nat), cs[j]? = some v ∧ DataW.trod enc P w base sp held n f.type [v] = some y := by
  obtain ⟨ys, n, _, _, hlen, hyl, hf⟩ := DataW.trod_struct he h
  have hlen' : cs.length = fs.size := hlen.trans hC
  refine ⟨hlen', fun j f hj => ?_⟩
  obtain ⟨ho, hk⟩ := hone_of hone j f hj
  have hjl : j < fs.size := (Array.getElem?_eq_some_iff.1 hj).1
  have h1 := hf j f hj
  rw [ho, hk] at h1
  have hv : cs[j]? = some (cs[j]'(by omega)) := List.getElem?_eq_getElem (by omega)
  have e1 : (cs.drop j).take 1 = [cs[j]'(by omega)] := by
    rw [List.drop_eq_getElem_cons (by omega)]
    rfl
  rw [e1] at h1
  have hy : ys[j]? = some (ys[j]'(by omega)) := List.getElem?_eq_getElem (by omega)
  exact ⟨_, _, n, hv, h1.trans hy⟩
end
theorem op_read {H : Type} {enc : TypeId × Value → H} {w : World} {base : Nat} {sp : Nat → Bool} {held : Bool} {fuel : Nat} {cs : List Value} {x : DataW H × List MemPlace}
    (h : DataW.trod enc Try.prog w base sp held fuel 35 cs = some x) : ∃ o : OpV, cs = [Value.int .i64 o.id, Value.int .i64 o.proc, Value.int .i64 o.obj, Value.int .i64 o.kind, Value.int .i64 o.meth, Value.int .i64 o.arg, Value.int .i64 o.sec, Value.bool o.done, Value.int .i64 o.res, Value.int .i64 o.inv, Value.int .i64 o.ret] ∧ o.Wf := by
  obtain ⟨hl, hf⟩ := struct_cellsO Try.underlying35 (by kernel_rfl) (by kernel_rfl) h
  obtain ⟨v0, _, _, g0, r0⟩ := hf 0 _ rfl
  obtain ⟨v1, _, _, g1, r1⟩ := hf 1 _ rfl
  obtain ⟨v2, _, _, g2, r2⟩ := hf 2 _ rfl
  obtain ⟨v3, _, _, g3, r3⟩ := hf 3 _ rfl
  obtain ⟨v4, _, _, g4, r4⟩ := hf 4 _ rfl
  obtain ⟨v5, _, _, g5, r5⟩ := hf 5 _ rfl
  obtain ⟨v6, _, _, g6, r6⟩ := hf 6 _ rfl
  obtain ⟨v7, _, _, g7, r7⟩ := hf 7 _ rfl
  obtain ⟨v8, _, _, g8, r8⟩ := hf 8 _ rfl
  obtain ⟨v9, _, _, g9, r9⟩ := hf 9 _ rfl
  obtain ⟨v10, _, _, g10, r10⟩ := hf 10 _ rfl
  obtain ⟨n0, e0, _, w0⟩ := DataW.trod_int Try.underlying3 r0
  obtain ⟨n1, e1, _, w1⟩ := DataW.trod_int Try.underlying3 r1
  obtain ⟨n2, e2, _, w2⟩ := DataW.trod_int Try.underlying3 r2
  obtain ⟨n3, e3, _, w3⟩ := DataW.trod_int Try.underlying3 r3
  obtain ⟨n4, e4, _, w4⟩ := DataW.trod_int Try.underlying3 r4
  obtain ⟨n5, e5, _, w5⟩ := DataW.trod_int Try.underlying3 r5
  obtain ⟨n6, e6, _, w6⟩ := DataW.trod_int Try.underlying3 r6
  obtain ⟨n7, e7, _⟩ := DataW.trod_bool Try.underlying4 r7
  obtain ⟨n8, e8, _, w8⟩ := DataW.trod_int Try.underlying3 r8
  obtain ⟨n9, e9, _, w9⟩ := DataW.trod_int Try.underlying3 r9
  obtain ⟨n10, e10, _, w10⟩ := DataW.trod_int Try.underlying3 r10
  obtain rfl : v0 = _ := by simpa using e0
  obtain rfl : v1 = _ := by simpa using e1
  obtain rfl : v2 = _ := by simpa using e2
  obtain rfl : v3 = _ := by simpa using e3
  obtain rfl : v4 = _ := by simpa using e4
  obtain rfl : v5 = _ := by simpa using e5
  obtain rfl : v6 = _ := by simpa using e6
  obtain rfl : v7 = _ := by simpa using e7
  obtain rfl : v8 = _ := by simpa using e8
  obtain rfl : v9 = _ := by simpa using e9
  obtain rfl : v10 = _ := by simpa using e10
  refine ⟨⟨n0, n1, n2, n3, n4, n5, n6, n7, n8, n9, n10⟩, ?_, ⟨bounds_i64 w0, bounds_i64 w1, bounds_i64 w2, bounds_i64 w3, bounds_i64 w4, bounds_i64 w5, bounds_i64 w6, bounds_i64 w8, bounds_i64 w9, bounds_i64 w10⟩⟩
  have hl4 : cs.length = 11 := hl
  apply List.ext_getElem?
  intro i
  match i with
  | 0 => exact g0
  | 1 => exact g1
  | 2 => exact g2
  | 3 => exact g3
  | 4 => exact g4
  | 5 => exact g5
  | 6 => exact g6
  | 7 => exact g7
  | 8 => exact g8
  | 9 => exact g9
  | 10 => exact g10
  | i + 11 => rw [List.getElem?_eq_none (by omega), List.getElem?_eq_none (by show 11 ≤ i + 11; omega)]
theorem op_open {H : Type} {enc : TypeId × Value → H} {w : World} {base b0 : Nat} {sp : Nat → Bool} {held : Bool} {r : Reach} {v : Value} {d : DataW H} {p : List MemPlace}
    (hv : Value.okWide Try.prog w r b0 35 v) (h : DataW.Trod enc Try.prog w base sp held 35 v d p) : ∃ o : OpV, v = Value.agg #[Value.int .i64 o.id, Value.int .i64 o.proc, Value.int .i64 o.obj, Value.int .i64 o.kind, Value.int .i64 o.meth, Value.int .i64 o.arg, Value.int .i64 o.sec, Value.bool o.done, Value.int .i64 o.res, Value.int .i64 o.inv, Value.int .i64 o.ret] ∧ o.Wf := by
  obtain ⟨cs, rfl, hsz⟩ := okWide_struct Try.underlying35 hv
  obtain ⟨fuel, hf⟩ := h
  obtain ⟨o, hy, hw⟩ := op_read hf
  refine ⟨o, ?_, hw⟩
  have : cs = ([Value.int .i64 o.id, Value.int .i64 o.proc, Value.int .i64 o.obj, Value.int .i64 o.kind, Value.int .i64 o.meth, Value.int .i64 o.arg, Value.int .i64 o.sec, Value.bool o.done, Value.int .i64 o.res, Value.int .i64 o.inv, Value.int .i64 o.ret]).toArray := by rw [← hy]; simp [Value.cells]
  rw [this]
theorem store_o (p v : Value) : Instr.storeAt 35 p v = storeS 35 p v := rfl
theorem one11 (o : OpV) : (#[Value.int .i64 o.id, Value.int .i64 o.proc, Value.int .i64 o.obj, Value.int .i64 o.kind, Value.int .i64 o.meth, Value.int .i64 o.arg, Value.int .i64 o.sec, Value.bool o.done, Value.int .i64 o.res, Value.int .i64 o.inv, Value.int .i64 o.ret]).all (·.oneCell') = true := by simp [Value.oneCell']
theorem store_op {w : World} {b : Nat} {c : Array Value} (h : w.heap[b]? = some (.cells c 35 (0, 0))) (hc : c.size = 11) (o : OpV) :
    (storeS 35 (.pointer (some ⟨b, 0, none⟩)) (Value.agg #[Value.int .i64 o.id, Value.int .i64 o.proc, Value.int .i64 o.obj, Value.int .i64 o.kind, Value.int .i64 o.meth, Value.int .i64 o.arg, Value.int .i64 o.sec, Value.bool o.done, Value.int .i64 o.res, Value.int .i64 o.inv, Value.int .i64 o.ret])).run Try.prog w = .ok () (w.setRow b #[Value.int .i64 o.id, Value.int .i64 o.proc, Value.int .i64 o.obj, Value.int .i64 o.kind, Value.int .i64 o.meth, Value.int .i64 o.arg, Value.int .i64 o.sec, Value.bool o.done, Value.int .i64 o.res, Value.int .i64 o.inv, Value.int .i64 o.ret]) := by
  have hsz : (Try.prog.info? 35).map (·.size) = some 11 := by kernel_rfl
  have h := run_storeVar_row (P := Try.prog) w b 35 35 c #[Value.int .i64 o.id, Value.int .i64 o.proc, Value.int .i64 o.obj, Value.int .i64 o.kind, Value.int .i64 o.meth, Value.int .i64 o.arg, Value.int .i64 o.sec, Value.bool o.done, Value.int .i64 o.res, Value.int .i64 o.inv, Value.int .i64 o.ret] h (by rw [hsz]; rfl) hc (one11 o)
  unfold storeS
  simp only [Instr.storeAt, Instr.sureAddr, Sem.run_bind, Sem.run_pure, Result.andThen_ok]
  exact h
theorem store_op_new (w : World) (c : Array Value) (hc : c.size = 11) (o : OpV) :
    (storeS 35 (.pointer (some ⟨w.heap.size, 0, none⟩)) (Value.agg #[Value.int .i64 o.id, Value.int .i64 o.proc, Value.int .i64 o.obj, Value.int .i64 o.kind, Value.int .i64 o.meth, Value.int .i64 o.arg, Value.int .i64 o.sec, Value.bool o.done, Value.int .i64 o.res, Value.int .i64 o.inv, Value.int .i64 o.ret])).run Try.prog (w.alloc (.cells c 35)) = .ok () (w.alloc (.cells #[Value.int .i64 o.id, Value.int .i64 o.proc, Value.int .i64 o.obj, Value.int .i64 o.kind, Value.int .i64 o.meth, Value.int .i64 o.arg, Value.int .i64 o.sec, Value.bool o.done, Value.int .i64 o.res, Value.int .i64 o.inv, Value.int .i64 o.ret] 35)) := by
  rw [store_op (heap_alloc_new w _) hc, setRow_alloc]
theorem store_op_drewN (w : World) (q : Nat) (c : Array Value) (hc : c.size = 11) (o : OpV) :
    (storeS 35 (.pointer (some ⟨w.heap.size, 0, none⟩)) (Value.agg #[Value.int .i64 o.id, Value.int .i64 o.proc, Value.int .i64 o.obj, Value.int .i64 o.kind, Value.int .i64 o.meth, Value.int .i64 o.arg, Value.int .i64 o.sec, Value.bool o.done, Value.int .i64 o.res, Value.int .i64 o.inv, Value.int .i64 o.ret])).run Try.prog ((w.alloc (.cells c 35)).drewN q) = .ok () ((w.drewN q).alloc (.cells #[Value.int .i64 o.id, Value.int .i64 o.proc, Value.int .i64 o.obj, Value.int .i64 o.kind, Value.int .i64 o.meth, Value.int .i64 o.arg, Value.int .i64 o.sec, Value.bool o.done, Value.int .i64 o.res, Value.int .i64 o.inv, Value.int .i64 o.ret] 35)) :=
  store_op_new (w.drewN q) c hc o
end Go.Proofs.Ytgedlfilhpbfaaa
