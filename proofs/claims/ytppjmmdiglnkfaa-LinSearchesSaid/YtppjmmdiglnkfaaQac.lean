/- Contracts of Check, Before and Overlap. What the listed table gives; an operation as a parameter; the chapter's examples hold. Lists of operations in memory, over layer 10's operations (OpL): as a parameter, and of the call's own. -/
import Derived.Test.YtppjmmdiglnkfaaQab
import Derived.Deep.QuietTactic
import Derived.BigQuiet
import Derived.Test.YtppjmmdiglnkfaaQaa
import Derived.Deep.Slices
import Derived.Deep.Fields
import Derived.ChangeSame
import Derived.Deep.MidRow
import Derived.OwnWalk
namespace Go.Proofs.Ytppjmmdiglnkfaa
set_option maxRecDepth 100000
open Go.ChangeShapes Go.WideShapes Go.ChangeAt Go.RowKit Go.PlainAid

theorem load_op (v : Value) : Instr.loadAt 43 v = loadS 43 v := rfl
theorem OpAt.load {w : World} {b : Nat} {o : OpV} (h : OpAt w b o) : (loadS 43 (.pointer (some ⟨b, 0, none⟩))).run Try.prog w = .ok (Value.agg #[Value.int .i64 o.id, Value.int .i64 o.proc, Value.int .i64 o.obj, Value.int .i64 o.kind, Value.int .i64 o.meth, Value.int .i64 o.arg, Value.int .i64 o.sec, Value.bool o.done, Value.int .i64 o.res, Value.int .i64 o.inv, Value.int .i64 o.ret]) w :=
  run_loadAt_mid w b 0 43 [Value.int .i64 o.id, Value.int .i64 o.proc, Value.int .i64 o.obj, Value.int .i64 o.kind, Value.int .i64 o.meth, Value.int .i64 o.arg, Value.int .i64 o.sec, Value.bool o.done, Value.int .i64 o.res, Value.int .i64 o.inv, Value.int .i64 o.ret] _ (fun j v hj => by rw [cell_of_row _ _ _ _ _ _ h, Nat.zero_add, ← hj]; simp) Try.underlying43 rfl (by kernel_rfl)
attribute [local go_sem ↓ high] load_op
theorem check_30 {o : OpV} (h : namedB o = false) : checkZ o = 30 := by unfold checkZ; rw [h]; rfl
theorem check_33 {o : OpV} (h : namedB o = true) (h2 : ruledB o = false) : checkZ o = 33 := by unfold checkZ; rw [h, h2]; rfl
theorem check_31 {o : OpV} (h : namedB o = true) (h2 : ruledB o = true) (h3 : timedB o = false) : checkZ o = 31 := by unfold checkZ; rw [h, h2, h3]; rfl
theorem check_0 {o : OpV} (h : namedB o = true) (h2 : ruledB o = true) (h3 : timedB o = true) : checkZ o = 0 := by unfold checkZ; rw [h, h2, h3]; rfl
/-- Was the first one answered ahead of the second one's invocation? -/
def befB (a b : OpV) : Bool := a.done && decide (a.ret < b.inv)
def overB (a b : OpV) : Bool := !befB a b && !befB b a
set_option maxHeartbeats 1000000 in
theorem before_any (a b : OpV) (w : World) : Calls Try.prog 57 #[Value.agg #[Value.int .i64 a.id, Value.int .i64 a.proc, Value.int .i64 a.obj, Value.int .i64 a.kind, Value.int .i64 a.meth, Value.int .i64 a.arg, Value.int .i64 a.sec, Value.bool a.done, Value.int .i64 a.res, Value.int .i64 a.inv, Value.int .i64 a.ret], Value.agg #[Value.int .i64 b.id, Value.int .i64 b.proc, Value.int .i64 b.obj, Value.int .i64 b.kind, Value.int .i64 b.meth, Value.int .i64 b.arg, Value.int .i64 b.sec, Value.bool b.done, Value.int .i64 b.res, Value.int .i64 b.inv, Value.int .i64 b.ret]] w fun e w' => e = .returned (.bool (befB a b)) ∧ Below w.heap.size w w' := by
  cases h : a.done
  · have hn := Lib.hid (show befB a b = false by unfold befB; rw [h]; rfl)
    clear h
    go_enter Try.func57, Try.ntmps57
    go_wp2_with fail
    go_returns
    exact ⟨by rw [hn.out]; rfl, by go_grown⟩
  · have hn := Lib.hid (show befB a b = decide (a.ret < b.inv) by unfold befB; rw [h]; rfl)
    clear h
    go_enter Try.func57, Try.ntmps57
    go_wp2_with fail
    go_returns
    exact ⟨by rw [hn.out]; rfl, by go_grown⟩
set_option maxHeartbeats 1000000 in
theorem rbefore_any (a b : OpV) (w : World) : Calls Try.prog 25 #[Value.agg #[Value.int .i64 a.id, Value.int .i64 a.proc, Value.int .i64 a.obj, Value.int .i64 a.kind, Value.int .i64 a.meth, Value.int .i64 a.arg, Value.int .i64 a.sec, Value.bool a.done, Value.int .i64 a.res, Value.int .i64 a.inv, Value.int .i64 a.ret], Value.agg #[Value.int .i64 b.id, Value.int .i64 b.proc, Value.int .i64 b.obj, Value.int .i64 b.kind, Value.int .i64 b.meth, Value.int .i64 b.arg, Value.int .i64 b.sec, Value.bool b.done, Value.int .i64 b.res, Value.int .i64 b.inv, Value.int .i64 b.ret]] w fun e w' => e = .returned (.bool (befB a b)) ∧ Below w.heap.size w w' := by
  cases h : a.done
  · have hn := Lib.hid (show befB a b = false by unfold befB; rw [h]; rfl)
    clear h
    go_enter Try.func25, Try.ntmps25
    go_wp2_with fail
    go_returns
    exact ⟨by rw [hn.out]; rfl, by go_grown⟩
  · have hn := Lib.hid (show befB a b = decide (a.ret < b.inv) by unfold befB; rw [h]; rfl)
    clear h
    go_enter Try.func25, Try.ntmps25
    go_wp2_with fail
    go_returns
    exact ⟨by rw [hn.out]; rfl, by go_grown⟩
end Go.Proofs.Ytppjmmdiglnkfaa
namespace Go.Proofs.Ytppjmmdiglnkfaa
set_option maxRecDepth 100000
open Go.ChangeShapes Go.WideShapes Go.ChangeAt Go.RowKit Go.PlainAid Go.Deep

structure OpV.Wf (o : OpV) : Prop where
  id : -9223372036854775808 ≤ o.id ∧ o.id ≤ 9223372036854775807
  proc : -9223372036854775808 ≤ o.proc ∧ o.proc ≤ 9223372036854775807
  obj : -9223372036854775808 ≤ o.obj ∧ o.obj ≤ 9223372036854775807
  kind : -9223372036854775808 ≤ o.kind ∧ o.kind ≤ 9223372036854775807
  meth : -9223372036854775808 ≤ o.meth ∧ o.meth ≤ 9223372036854775807
  arg : -9223372036854775808 ≤ o.arg ∧ o.arg ≤ 9223372036854775807
  sec : -9223372036854775808 ≤ o.sec ∧ o.sec ≤ 9223372036854775807
  res : -9223372036854775808 ≤ o.res ∧ o.res ≤ 9223372036854775807
  inv : -9223372036854775808 ≤ o.inv ∧ o.inv ≤ 9223372036854775807
  ret : -9223372036854775808 ≤ o.ret ∧ o.ret ≤ 9223372036854775807
section
variable {H : Type} {enc : TypeId × Value → H} {P : Program} {w : World} {base : Nat} {sp : Nat → Bool} {held : Bool}
/-- The cells of a struct that can be read, one a field. -/
theorem struct_cellsO {e : TypeId} {fs : Array Field} {fuel : Nat} {cs : List Value} {x : DataW H × List MemPlace} (he : P.underlying e = some (.struct fs)) (hone : oneCellFields P fs = true) (hC : P.cellsOf e = fs.size)
    (h : DataW.trod enc P w base sp held fuel e cs = some x) : cs.length = fs.size ∧ ∀ (j : Nat) (f : Field), fs[j]? = some f → ∃ (v : Value) (y : DataW H × List MemPlace) (n : Nat), cs[j]? = some v ∧ DataW.trod enc P w base sp held n f.type [v] = some y := by
  obtain ⟨ys, n, _, _, hlen, hyl, hf⟩ := DataW.trod_struct he h
  have hlen' : cs.length = fs.size := hlen.trans hC
  refine ⟨hlen', fun j f hj => ?_⟩
  obtain ⟨ho, hk⟩ := hone_of hone j f hj
  have hjl : j < fs.size := (Array.getElem?_eq_some_iff.1 hj).1
  have h1 := hf j f hj
  rw [ho, hk] at h1
  have hv : cs[j]? = some (cs[j]'(by omega)) := List.getElem?_eq_getElem (by omega)
  have e1 : (cs.drop j).take 1 = [cs[j]'(by omega)] := by
    rw [List.drop_eq_getElem_cons (by omega)]
    rfl
  rw [e1] at h1
  have hy : ys[j]? = some (ys[j]'(by omega)) := List.getElem?_eq_getElem (by omega)
  exact ⟨_, _, n, hv, h1.trans hy⟩
end
theorem op_read {H : Type} {enc : TypeId × Value → H} {w : World} {base : Nat} {sp : Nat → Bool} {held : Bool} {fuel : Nat} {cs : List Value} {x : DataW H × List MemPlace}
    (h : DataW.trod enc Try.prog w base sp held fuel 43 cs = some x) : ∃ o : OpV, cs = [Value.int .i64 o.id, Value.int .i64 o.proc, Value.int .i64 o.obj, Value.int .i64 o.kind, Value.int .i64 o.meth, Value.int .i64 o.arg, Value.int .i64 o.sec, Value.bool o.done, Value.int .i64 o.res, Value.int .i64 o.inv, Value.int .i64 o.ret] ∧ o.Wf := by
  obtain ⟨hl, hf⟩ := struct_cellsO Try.underlying43 (by kernel_rfl) (by kernel_rfl) h
  obtain ⟨v0, _, _, g0, r0⟩ := hf 0 _ rfl
  obtain ⟨v1, _, _, g1, r1⟩ := hf 1 _ rfl
  obtain ⟨v2, _, _, g2, r2⟩ := hf 2 _ rfl
  obtain ⟨v3, _, _, g3, r3⟩ := hf 3 _ rfl
  obtain ⟨v4, _, _, g4, r4⟩ := hf 4 _ rfl
  obtain ⟨v5, _, _, g5, r5⟩ := hf 5 _ rfl
  obtain ⟨v6, _, _, g6, r6⟩ := hf 6 _ rfl
  obtain ⟨v7, _, _, g7, r7⟩ := hf 7 _ rfl
  obtain ⟨v8, _, _, g8, r8⟩ := hf 8 _ rfl
  obtain ⟨v9, _, _, g9, r9⟩ := hf 9 _ rfl
  obtain ⟨v10, _, _, g10, r10⟩ := hf 10 _ rfl
  obtain ⟨n0, e0, _, w0⟩ := DataW.trod_int Try.underlying3 r0
  obtain ⟨n1, e1, _, w1⟩ := DataW.trod_int Try.underlying3 r1
  obtain ⟨n2, e2, _, w2⟩ := DataW.trod_int Try.underlying3 r2
  obtain ⟨n3, e3, _, w3⟩ := DataW.trod_int Try.underlying3 r3
  obtain ⟨n4, e4, _, w4⟩ := DataW.trod_int Try.underlying3 r4
  obtain ⟨n5, e5, _, w5⟩ := DataW.trod_int Try.underlying3 r5
  obtain ⟨n6, e6, _, w6⟩ := DataW.trod_int Try.underlying3 r6
  obtain ⟨n7, e7, _⟩ := DataW.trod_bool Try.underlying4 r7
  obtain ⟨n8, e8, _, w8⟩ := DataW.trod_int Try.underlying3 r8
  obtain ⟨n9, e9, _, w9⟩ := DataW.trod_int Try.underlying3 r9
  obtain ⟨n10, e10, _, w10⟩ := DataW.trod_int Try.underlying3 r10
  obtain rfl : v0 = _ := by simpa using e0
  obtain rfl : v1 = _ := by simpa using e1
  obtain rfl : v2 = _ := by simpa using e2
  obtain rfl : v3 = _ := by simpa using e3
  obtain rfl : v4 = _ := by simpa using e4
  obtain rfl : v5 = _ := by simpa using e5
  obtain rfl : v6 = _ := by simpa using e6
  obtain rfl : v7 = _ := by simpa using e7
  obtain rfl : v8 = _ := by simpa using e8
  obtain rfl : v9 = _ := by simpa using e9
  obtain rfl : v10 = _ := by simpa using e10
  refine ⟨⟨n0, n1, n2, n3, n4, n5, n6, n7, n8, n9, n10⟩, ?_, ⟨bounds_i64 w0, bounds_i64 w1, bounds_i64 w2, bounds_i64 w3, bounds_i64 w4, bounds_i64 w5, bounds_i64 w6, bounds_i64 w8, bounds_i64 w9, bounds_i64 w10⟩⟩
  have hl4 : cs.length = 11 := hl
  apply List.ext_getElem?
  intro i
  match i with
  | 0 => exact g0
  | 1 => exact g1
  | 2 => exact g2
  | 3 => exact g3
  | 4 => exact g4
  | 5 => exact g5
  | 6 => exact g6
  | 7 => exact g7
  | 8 => exact g8
  | 9 => exact g9
  | 10 => exact g10
  | i + 11 => rw [List.getElem?_eq_none (by omega), List.getElem?_eq_none (by show 11 ≤ i + 11; omega)]
theorem op_open {H : Type} {enc : TypeId × Value → H} {w : World} {base b0 : Nat} {sp : Nat → Bool} {held : Bool} {r : Reach} {v : Value} {d : DataW H} {p : List MemPlace}
    (hv : Value.okWide Try.prog w r b0 43 v) (h : DataW.Trod enc Try.prog w base sp held 43 v d p) : ∃ o : OpV, v = Value.agg #[Value.int .i64 o.id, Value.int .i64 o.proc, Value.int .i64 o.obj, Value.int .i64 o.kind, Value.int .i64 o.meth, Value.int .i64 o.arg, Value.int .i64 o.sec, Value.bool o.done, Value.int .i64 o.res, Value.int .i64 o.inv, Value.int .i64 o.ret] ∧ o.Wf := by
  obtain ⟨cs, rfl, hsz⟩ := okWide_struct Try.underlying43 hv
  obtain ⟨fuel, hf⟩ := h
  obtain ⟨o, hy, hw⟩ := op_read hf
  refine ⟨o, ?_, hw⟩
  have : cs = ([Value.int .i64 o.id, Value.int .i64 o.proc, Value.int .i64 o.obj, Value.int .i64 o.kind, Value.int .i64 o.meth, Value.int .i64 o.arg, Value.int .i64 o.sec, Value.bool o.done, Value.int .i64 o.res, Value.int .i64 o.inv, Value.int .i64 o.ret]).toArray := by rw [← hy]; simp [Value.cells]
  rw [this]
theorem store_o (p v : Value) : Instr.storeAt 43 p v = storeS 43 p v := rfl
theorem one11 (o : OpV) : (#[Value.int .i64 o.id, Value.int .i64 o.proc, Value.int .i64 o.obj, Value.int .i64 o.kind, Value.int .i64 o.meth, Value.int .i64 o.arg, Value.int .i64 o.sec, Value.bool o.done, Value.int .i64 o.res, Value.int .i64 o.inv, Value.int .i64 o.ret]).all (·.oneCell') = true := by simp [Value.oneCell']
theorem store_op {w : World} {b : Nat} {c : Array Value} (h : w.heap[b]? = some (.cells c 43 (0, 0))) (hc : c.size = 11) (o : OpV) :
    (storeS 43 (.pointer (some ⟨b, 0, none⟩)) (Value.agg #[Value.int .i64 o.id, Value.int .i64 o.proc, Value.int .i64 o.obj, Value.int .i64 o.kind, Value.int .i64 o.meth, Value.int .i64 o.arg, Value.int .i64 o.sec, Value.bool o.done, Value.int .i64 o.res, Value.int .i64 o.inv, Value.int .i64 o.ret])).run Try.prog w = .ok () (w.setRow b #[Value.int .i64 o.id, Value.int .i64 o.proc, Value.int .i64 o.obj, Value.int .i64 o.kind, Value.int .i64 o.meth, Value.int .i64 o.arg, Value.int .i64 o.sec, Value.bool o.done, Value.int .i64 o.res, Value.int .i64 o.inv, Value.int .i64 o.ret]) := by
  have hsz : (Try.prog.info? 43).map (·.size) = some 11 := by kernel_rfl
  have h := run_storeVar_row (P := Try.prog) w b 43 43 c #[Value.int .i64 o.id, Value.int .i64 o.proc, Value.int .i64 o.obj, Value.int .i64 o.kind, Value.int .i64 o.meth, Value.int .i64 o.arg, Value.int .i64 o.sec, Value.bool o.done, Value.int .i64 o.res, Value.int .i64 o.inv, Value.int .i64 o.ret] h (by rw [hsz]; rfl) hc (one11 o)
  unfold storeS
  simp only [Instr.storeAt, Instr.sureAddr, Sem.run_bind, Sem.run_pure, Result.andThen_ok]
  exact h
theorem store_op_new (w : World) (c : Array Value) (hc : c.size = 11) (o : OpV) :
    (storeS 43 (.pointer (some ⟨w.heap.size, 0, none⟩)) (Value.agg #[Value.int .i64 o.id, Value.int .i64 o.proc, Value.int .i64 o.obj, Value.int .i64 o.kind, Value.int .i64 o.meth, Value.int .i64 o.arg, Value.int .i64 o.sec, Value.bool o.done, Value.int .i64 o.res, Value.int .i64 o.inv, Value.int .i64 o.ret])).run Try.prog (w.alloc (.cells c 43)) = .ok () (w.alloc (.cells #[Value.int .i64 o.id, Value.int .i64 o.proc, Value.int .i64 o.obj, Value.int .i64 o.kind, Value.int .i64 o.meth, Value.int .i64 o.arg, Value.int .i64 o.sec, Value.bool o.done, Value.int .i64 o.res, Value.int .i64 o.inv, Value.int .i64 o.ret] 43)) := by
  rw [store_op (heap_alloc_new w _) hc, setRow_alloc]
theorem store_op_drewN (w : World) (q : Nat) (c : Array Value) (hc : c.size = 11) (o : OpV) :
    (storeS 43 (.pointer (some ⟨w.heap.size, 0, none⟩)) (Value.agg #[Value.int .i64 o.id, Value.int .i64 o.proc, Value.int .i64 o.obj, Value.int .i64 o.kind, Value.int .i64 o.meth, Value.int .i64 o.arg, Value.int .i64 o.sec, Value.bool o.done, Value.int .i64 o.res, Value.int .i64 o.inv, Value.int .i64 o.ret])).run Try.prog ((w.alloc (.cells c 43)).drewN q) = .ok () ((w.drewN q).alloc (.cells #[Value.int .i64 o.id, Value.int .i64 o.proc, Value.int .i64 o.obj, Value.int .i64 o.kind, Value.int .i64 o.meth, Value.int .i64 o.arg, Value.int .i64 o.sec, Value.bool o.done, Value.int .i64 o.res, Value.int .i64 o.inv, Value.int .i64 o.ret] 43)) :=
  store_op_new (w.drewN q) c hc o
end Go.Proofs.Ytppjmmdiglnkfaa
namespace Go.Proofs.Ytppjmmdiglnkfaa
set_option maxRecDepth 100000
open Go.ChangeShapes Go.WideShapes Go.ChangeAt Go.RowKit Go.PlainAid Go.Deep

theorem load_cellsO {w : World} {b p : Nat} {o : OpV} (h : ∀ (j : Nat) (u : Value), (#[Value.int .i64 o.id, Value.int .i64 o.proc, Value.int .i64 o.obj, Value.int .i64 o.kind, Value.int .i64 o.meth, Value.int .i64 o.arg, Value.int .i64 o.sec, Value.bool o.done, Value.int .i64 o.res, Value.int .i64 o.inv, Value.int .i64 o.ret].toList)[j]? = some u → w.cell? ⟨b, p + j, none⟩ = some u) : (loadS 43 (.pointer (some ⟨b, p, none⟩))).run Try.prog w = .ok (Value.agg #[Value.int .i64 o.id, Value.int .i64 o.proc, Value.int .i64 o.obj, Value.int .i64 o.kind, Value.int .i64 o.meth, Value.int .i64 o.arg, Value.int .i64 o.sec, Value.bool o.done, Value.int .i64 o.res, Value.int .i64 o.inv, Value.int .i64 o.ret]) w :=
  loadMany_range (P := Try.prog) (t := 43) #[Value.int .i64 o.id, Value.int .i64 o.proc, Value.int .i64 o.obj, Value.int .i64 o.kind, Value.int .i64 o.meth, Value.int .i64 o.arg, Value.int .i64 o.sec, Value.bool o.done, Value.int .i64 o.res, Value.int .i64 o.inv, Value.int .i64 o.ret].toList _ h Try.underlying43 (by kernel_rfl) (by kernel_rfl)
/-- The operations that a slice reads as. -/
def OpsOf (w : World) (v : Value) (l : List OpV) : Prop :=
  ((l = [] ∧ ∃ ao cap, v = .slice ao 0 cap) ∨ ∃ b p cap, v = .slice (some ⟨b, p, none⟩) l.length cap ∧ b < w.heap.size ∧ 0 < l.length ∧ ∀ (i : Nat) (o : OpV), l[i]? = some o → ∀ (j : Nat) (u : Value), (#[Value.int .i64 o.id, Value.int .i64 o.proc, Value.int .i64 o.obj, Value.int .i64 o.kind, Value.int .i64 o.meth, Value.int .i64 o.arg, Value.int .i64 o.sec, Value.bool o.done, Value.int .i64 o.res, Value.int .i64 o.inv, Value.int .i64 o.ret].toList)[j]? = some u → w.cell? ⟨b, p + i * 11 + j, none⟩ = some u) ∧
  ∀ o ∈ l, o.Wf
theorem OpsOf.on {w w' : World} {v : Value} {l : List OpV} (h : OpsOf w v l) (hb : Below w.heap.size w w') : OpsOf w' v l := by
  refine ⟨?_, h.2⟩
  rcases h.1 with h | ⟨b, p, cap, hv, hlt, h0, hr⟩
  · exact .inl h
  · exact .inr ⟨b, p, cap, hv, Nat.lt_of_lt_of_le hlt hb.size, h0, fun i o hi j u hj => (hb.cell (p := ⟨b, p + i * 11 + j, none⟩) hlt).trans (hr i o hi j u hj)⟩
theorem OpsOf.len {w : World} {v : Value} {l : List OpV} (h : OpsOf w v l) : ∃ ao cap, v = .slice ao l.length cap := by
  rcases h.1 with ⟨rfl, ao, cap, rfl⟩ | ⟨b, p, cap, rfl, _⟩
  · exact ⟨ao, cap, rfl⟩
  · exact ⟨_, cap, rfl⟩
theorem OpsOf.at {w : World} {v : Value} {l : List OpV} (h : OpsOf w v l) {i : Nat} {o : OpV} (hi : l[i]? = some o) : ∃ b p cap, v = .slice (some ⟨b, p, none⟩) l.length cap ∧ b < w.heap.size ∧ o.Wf ∧ ∀ (j : Nat) (u : Value), (#[Value.int .i64 o.id, Value.int .i64 o.proc, Value.int .i64 o.obj, Value.int .i64 o.kind, Value.int .i64 o.meth, Value.int .i64 o.arg, Value.int .i64 o.sec, Value.bool o.done, Value.int .i64 o.res, Value.int .i64 o.inv, Value.int .i64 o.ret].toList)[j]? = some u → w.cell? ⟨b, p + i * 11 + j, none⟩ = some u := by
  rcases h.1 with ⟨rfl, _⟩ | ⟨b, p, cap, rfl, hlt, _, hr⟩
  · simp at hi
  · exact ⟨b, p, cap, rfl, hlt, h.2 o (List.mem_of_getElem? hi), hr i o hi⟩
def cellsO (o : OpV) : List Value := #[Value.int .i64 o.id, Value.int .i64 o.proc, Value.int .i64 o.obj, Value.int .i64 o.kind, Value.int .i64 o.meth, Value.int .i64 o.arg, Value.int .i64 o.sec, Value.bool o.done, Value.int .i64 o.res, Value.int .i64 o.inv, Value.int .i64 o.ret].toList
theorem cellsO_len (o : OpV) : (cellsO o).length = 11 := rfl
def flatO (l : List OpV) : List Value := l.flatMap cellsO
theorem flatO_len : ∀ l : List OpV, (flatO l).length = l.length * 11
  | [] => rfl
  | o :: r => by
    have := flatO_len r
    unfold flatO at this ⊢
    rw [List.flatMap_cons, List.length_append, cellsO_len, this, List.length_cons]
    omega
theorem flatO_at : ∀ (l : List OpV) (i : Nat) (o : OpV), l[i]? = some o → ∀ (j : Nat) (u : Value), (cellsO o)[j]? = some u → (flatO l)[i * 11 + j]? = some u
  | [], i, o, h, _, _, _ => by simp at h
  | x :: r, 0, o, h, j, u, hj => by
    have : x = o := by simpa using h
    subst this
    unfold flatO
    rw [List.flatMap_cons, Nat.zero_mul, Nat.zero_add, List.getElem?_append_left (List.getElem?_eq_some_iff.1 hj).1]
    exact hj
  | x :: r, i + 1, o, h, j, u, hj => by
    have := flatO_at r i o (by simpa using h) j u hj
    unfold flatO at this ⊢
    rw [List.flatMap_cons, List.getElem?_append_right (by rw [cellsO_len]; omega), cellsO_len, show (i + 1) * 11 + j - 11 = i * 11 + j by omega]
    exact this
theorem flatO_get : ∀ (l : List OpV) (k : Nat) (u : Value), (flatO l)[k]? = some u → ∃ (o : OpV) (i j : Nat), k = i * 11 + j ∧ l[i]? = some o ∧ (cellsO o)[j]? = some u
  | [], k, u, h => by simp [flatO] at h
  | x :: r, k, u, h => by
    unfold flatO at h
    rw [List.flatMap_cons] at h
    by_cases c : k < 11
    · rw [List.getElem?_append_left (by rw [cellsO_len]; exact c)] at h
      exact ⟨x, 0, k, by omega, rfl, h⟩
    · rw [List.getElem?_append_right (by rw [cellsO_len]; omega), cellsO_len] at h
      obtain ⟨o, i, j, e, ho, hj⟩ := flatO_get r (k - 11) u h
      exact ⟨o, i + 1, j, by omega, by simpa using ho, hj⟩
theorem flatO_one (l : List OpV) : ∀ u ∈ flatO l, u.oneCell' = true := fun u hu => by
  obtain ⟨o, _, ho⟩ := List.mem_flatMap.1 hu
  unfold cellsO at ho
  have := one11 o
  rw [Array.all_eq_true_iff_forall_mem] at this
  exact this u (by simpa using ho)
/-- An append to a list of operations, as one action. -/
def appOO (vs : Array Value) : Sem Value := Builtin.append_ #[22, 22] 22 vs
theorem app_opO (vs : Array Value) : Builtin.append_ #[22, 22] 22 vs = appOO vs := rfl
theorem info_op : (Try.prog.info? 43).map (fun i => (i.zero, i.size, i.bytes)) = some (some (Value.agg #[Value.int .i64 0, Value.int .i64 0, Value.int .i64 0, Value.int .i64 0, Value.int .i64 0, Value.int .i64 0, Value.int .i64 0, Value.bool false, Value.int .i64 0, Value.int .i64 0, Value.int .i64 0]), 11, 88) := by kernel_rfl
/-- A list of operations of the call's own. -/
def OpsOwn (n₀ : Nat) (W : World) (v : Value) (l : List OpV) : Prop := W.ownsRow n₀ 43 11 v l.length (flatO l)
theorem OpsOwn.reads {n₀ : Nat} {W : World} {v : Value} {l : List OpV} (h : OpsOwn n₀ W v l) (hw : ∀ o ∈ l, o.Wf) : OpsOf W v l := by
  refine ⟨?_, hw⟩
  obtain ⟨h1, h2⟩ := h
  rcases h2 with ⟨rfl, h0⟩ | ⟨g, cap, cur, rfl, hn, hg, hl, hc, hsz, ht⟩
  · exact .inl ⟨List.length_eq_zero_iff.1 (by simpa using h0), none, 0, rfl⟩
  · by_cases h0 : l.length = 0
    · exact .inl ⟨List.length_eq_zero_iff.1 h0, _, _, by rw [h0]⟩
    · refine .inr ⟨g, 0, cap, rfl, heap_inO hg, by omega, fun i o hi j u hj => ?_⟩
      rw [Nat.zero_add, cell_of_row _ _ _ _ _ _ hg]
      have := flatO_at l i o hi j u hj
      rw [← ht, List.getElem?_take] at this
      split at this
      · rw [← this, Array.getElem?_toList]
      · cases this
theorem OpsOwn.made (n₀ : Nat) (W : World) (hn : n₀ ≤ W.heap.size) : OpsOwn n₀ (W.alloc (.cells #[] 43)) (.slice (some ⟨W.heap.size, 0, none⟩) 0 0) [] :=
  ⟨rfl, .inr ⟨W.heap.size, 0, #[], rfl, hn, heap_alloc_new W _, Nat.le_refl _, Nat.zero_le _, rfl, rfl⟩⟩
/-- One list behind another. -/
theorem ops_app {n₀ : Nat} {W : World} {v u : Value} {a b : List OpV} (h : OpsOwn n₀ W v a) (hu : OpsOf W u b) (hn : n₀ ≤ W.heap.size) (hl : (a.length + b.length) * 88 ≤ 140737488355328) :
    ∃ v' W', (appOO #[v, u]).run Try.prog W = .ok v' W' ∧ OpsOwn n₀ W' v' (a ++ b) ∧ Below n₀ W W' := by
  obtain ⟨i0, hi, hz0, hz1, hz2⟩ := info_parts info_op
  rcases hu.1 with ⟨rfl, ao, cap, rfl⟩ | ⟨bk, p, cap, rfl, hlt, h0, hr⟩
  · rw [List.append_nil]
    refine ⟨v, W, ?_, h, Below.refl _ _⟩
    unfold appOO
    obtain ⟨ao', n', c', rfl, hle⟩ : ∃ ao n c, v = .slice ao n c ∧ n ≤ c := by
      rcases h.2 with ⟨rfl, _⟩ | ⟨g, cap, cur, rfl, _, _, hl, _⟩
      · exact ⟨_, _, _, rfl, Nat.le_refl _⟩
      · exact ⟨_, _, _, rfl, hl⟩
    cases ao with
    | none => cases ao' <;> simp [Builtin.append_, run_underlying Try.underlying22, sizeOf, typeInfo, hi, Builtin.lenOf, Builtin.firstCells, storeCells, hle]
    | some ad =>
      have hfc := run_firstCells_some (P := Try.prog) W i0.size 0 ad 0 cap [] (by simp) (fun j u hu => by simp at hu)
      cases ao' <;> simp [Builtin.append_, run_underlying Try.underlying22, sizeOf, typeInfo, hi, Builtin.lenOf, hfc, storeCells, hle]
  · obtain ⟨v', W', hrun, h1, h2, _⟩ := run_append_own (P := Try.prog) W n₀ 22 22 43 i0 _ 11 88 Try.underlying22 hi hz0 hz1 hz2 rfl (by decide) v a.length (flatO a) h ⟨bk, p, none⟩ b.length cap (flatO b) (flatO_len b) (fun k u hk => by
      obtain ⟨o, i, j, rfl, ho, hj⟩ := flatO_get b k u hk
      rw [Addr.add_lit, ← Nat.add_assoc]
      exact hr i o ho j u hj) (flatO_one b) (by unfold maxLen; omega) hl hn
    refine ⟨v', W', hrun, ?_, (Below.refl _ _).grown h2 hn (fun k e => (h.lt k e).1)⟩
    unfold OpsOwn
    rw [List.length_append, show flatO (a ++ b) = flatO a ++ flatO b by unfold flatO; rw [List.flatMap_append]]
    exact h1
/-- One operation more, whose block is known. -/
theorem ops_push {n₀ : Nat} {W : World} {v : Value} {a : List OpV} {o : OpV} {vb : Nat} (h : OpsOwn n₀ W v a) (hv : OpAt W vb o) (ho : o.Wf) (hn : n₀ ≤ W.heap.size) (hl : (a.length + 1) * 88 ≤ 140737488355328) :
    ∃ v' W', (appOO #[v, .slice (some ⟨vb, 0, none⟩) 1 1]).run Try.prog W = .ok v' W' ∧ OpsOwn n₀ W' v' (a ++ [o]) ∧ Below n₀ W W' := by
  refine ops_app h ⟨.inr ⟨vb, 0, 1, rfl, heap_inO hv, by simp, fun i x hi j u hj => ?_⟩, fun x hx => by rw [List.mem_singleton.1 hx]; exact ho⟩ hn hl
  have hi0 : i = 0 := by have := (List.getElem?_eq_some_iff.1 hi).1; simpa using this
  subst hi0
  have hx : o = x := by simpa using hi
  subst hx
  unfold OpAt at hv
  rw [cell_of_row _ _ _ _ _ _ hv, Nat.zero_mul, Nat.zero_add]
  simpa using hj
theorem ops_open {H : Type} {enc : TypeId × Value → H} {w : World} {base b0 : Nat} {sp : Nat → Bool} {held : Bool} {r : Reach} {v : Value} {d : DataW H} {p : List MemPlace}
    (hv : Value.okWide Try.prog w r b0 22 v) (h : DataW.Trod enc Try.prog w base sp held 22 v d p) : ∃ l : List OpV, OpsOf w v l ∧ (l = [] ∨ ∃ el rest, d = .slice el rest ∧ el.length = l.length) := by
  obtain ⟨ao, len0, cap0, rfl⟩ := okWide_slice Try.underlying22 hv
  obtain ⟨fuel, hf⟩ := h
  rcases open_slice Try.underlying22 hf with ⟨h0, _⟩ | ⟨a, len, cap, m, n, Dt, Pl, hcs, hb, hl, hm, hmm, hx, hi⟩
  · have : Value.slice ao len0 cap0 = .slice none 0 0 := by simpa [Value.cells] using h0
    cases this
    exact ⟨[], ⟨.inl ⟨rfl, none, 0, rfl⟩, by simp⟩, .inl rfl⟩
  · have e : Value.slice ao len0 cap0 = .slice (some a) len cap := by simpa [Value.cells] using hcs
    cases e
    have hC : Try.prog.cellsOf 43 = 11 := by kernel_rfl
    have hlm : len0 ≤ m := by rw [hmm]; split <;> omega
    by_cases h0 : len0 = 0
    · subst h0
      exact ⟨[], ⟨.inl ⟨rfl, _, _, rfl⟩, by simp⟩, .inl rfl⟩
    · have each : ∀ i, ∃ y : OpV, i < len0 → y.Wf ∧ ∀ (j : Nat) (u : Value), (#[Value.int .i64 y.id, Value.int .i64 y.proc, Value.int .i64 y.obj, Value.int .i64 y.kind, Value.int .i64 y.meth, Value.int .i64 y.arg, Value.int .i64 y.sec, Value.bool y.done, Value.int .i64 y.res, Value.int .i64 y.inv, Value.int .i64 y.ret].toList)[j]? = some u → w.cell? (a.add (i * 11 + j)) = some u := fun i => by
        by_cases c : i < len0
        · obtain ⟨cs', hc, ht⟩ := hi i (by omega)
          rw [hC] at hc
          obtain ⟨_, hcl, hat⟩ := World.cells?_some hc
          obtain ⟨y, hy, hw⟩ := op_read ht
          refine ⟨y, fun _ => ⟨hw, fun j u hj => ?_⟩⟩
          have hj11 : j < 11 := (List.getElem?_eq_some_iff.1 hj).1
          have := hat j hj11
          rw [hy] at this
          rw [← Go.Deep.add_add, this]
          exact hj
        · exact ⟨⟨0, 0, 0, 0, 0, 0, 0, false, 0, 0, 0⟩, fun h => absurd h c⟩
      obtain ⟨f, hf'⟩ := Classical.axiomOfChoice each
      have h00 := (hf' 0 (by omega)).2 0 _ rfl
      obtain ⟨b, off, spot⟩ := a
      have hspot : spot = none := by simpa [Addr.add] using World.cell?_spot h00
      subst hspot
      refine ⟨(List.range len0).map f, ⟨.inr ⟨b, off, cap0, by simp, World.block_lt_of_cell? w _ h00, by simp; omega, fun i x hx' j u hj => ?_⟩, fun x hx' => ?_⟩, .inr ⟨_, _, congrArg Prod.fst hx, by simp⟩⟩
      · have hil : i < len0 := by have := (List.getElem?_eq_some_iff.1 hx').1; simpa using this
        have hxf : f i = x := by simpa [List.getElem?_map, List.getElem?_range hil] using hx'
        subst hxf
        have := (hf' i hil).2 j u hj
        rwa [Addr.add_mid, ← Nat.add_assoc] at this
      · obtain ⟨i, hil, rfl⟩ := List.mem_map.1 hx'
        exact (hf' i (by simpa using hil)).1
end Go.Proofs.Ytppjmmdiglnkfaa
