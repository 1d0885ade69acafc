/- A law's parameters: operations, lists of numbers with their room, lists of operations. -/
import Derived.Test.YtkdaghflonppfaaMoH
import Derived.Test.YtkdaghflonppfaaMoJ
import Derived.Test.YtkdaghflonppfaaLaw
import Derived.Deep.Slices
import Derived.Deep.Fields
import Derived.ChangeSame
namespace Go.Proofs.Ytkdaghflonppfaa
set_option maxRecDepth 100000
open Go.ChangeShapes Go.WideShapes Go.ChangeAt Go.RowKit Go.PlainAid Go.Deep

section
variable {H : Type} {enc : TypeId × Value → H} {P : Program} {w : World} {base : Nat} {sp : Nat → Bool} {held : Bool}
/-- The cells of a struct that can be read, one a field. -/
theorem struct_cellsO {e : TypeId} {fs : Array Field} {fuel : Nat} {cs : List Value} {x : DataW H × List MemPlace} (he : P.underlying e = some (.struct fs)) (hone : oneCellFields P fs = true) (hC : P.cellsOf e = fs.size)
    (h : DataW.trod enc P w base sp held fuel e cs = some x) : cs.length = fs.size ∧ ∀ (j : Nat) (f : Field), fs[j]? = some f → ∃ (v : Value) (y : DataW H × List MemPlace) (n : Nat), cs[j]? = some v ∧ DataW.trod enc P w base sp held n f.type [v] = some y := by
  obtain ⟨ys, n, _, _, hlen, hyl, hf⟩ := DataW.trod_struct he h
  have hlen' : cs.length = fs.size := hlen.trans hC
  refine ⟨hlen', fun j f hj => ?_⟩
  obtain ⟨ho, hk⟩ := hone_of hone j f hj
  have hjl : j < fs.size := (Array.getElem?_eq_some_iff.1 hj).1
  have h1 := hf j f hj
  rw [ho, hk] at h1
  have hv : cs[j]? = some (cs[j]'(by omega)) := List.getElem?_eq_getElem (by omega)
  have e1 : (cs.drop j).take 1 = [cs[j]'(by omega)] := by
    rw [List.drop_eq_getElem_cons (by omega)]
    rfl
  rw [e1] at h1
  have hy : ys[j]? = some (ys[j]'(by omega)) := List.getElem?_eq_getElem (by omega)
  exact ⟨_, _, n, hv, h1.trans hy⟩
end
theorem op_read {H : Type} {enc : TypeId × Value → H} {w : World} {base : Nat} {sp : Nat → Bool} {held : Bool} {fuel : Nat} {cs : List Value} {x : DataW H × List MemPlace}
    (h : DataW.trod enc Try.prog w base sp held fuel 24 cs = some x) : ∃ o : OpV, cs = [Value.int .i64 o.id, Value.int .i64 o.proc, Value.int .i64 o.obj, Value.int .i64 o.kind, Value.int .i64 o.meth, Value.int .i64 o.arg, Value.int .i64 o.sec, Value.bool o.done, Value.int .i64 o.res, Value.int .i64 o.inv, Value.int .i64 o.ret] ∧ o.Wf := by
  obtain ⟨hl, hf⟩ := struct_cellsO Try.underlying24 (by kernel_rfl) (by kernel_rfl) h
  obtain ⟨v0, _, _, g0, r0⟩ := hf 0 _ rfl
  obtain ⟨v1, _, _, g1, r1⟩ := hf 1 _ rfl
  obtain ⟨v2, _, _, g2, r2⟩ := hf 2 _ rfl
  obtain ⟨v3, _, _, g3, r3⟩ := hf 3 _ rfl
  obtain ⟨v4, _, _, g4, r4⟩ := hf 4 _ rfl
  obtain ⟨v5, _, _, g5, r5⟩ := hf 5 _ rfl
  obtain ⟨v6, _, _, g6, r6⟩ := hf 6 _ rfl
  obtain ⟨v7, _, _, g7, r7⟩ := hf 7 _ rfl
  obtain ⟨v8, _, _, g8, r8⟩ := hf 8 _ rfl
  obtain ⟨v9, _, _, g9, r9⟩ := hf 9 _ rfl
  obtain ⟨v10, _, _, g10, r10⟩ := hf 10 _ rfl
  obtain ⟨n0, e0, _, _⟩ := DataW.trod_int Try.underlying3 r0
  obtain ⟨n1, e1, _, w1⟩ := DataW.trod_int Try.underlying3 r1
  obtain ⟨n2, e2, _, _⟩ := DataW.trod_int Try.underlying3 r2
  obtain ⟨n3, e3, _, _⟩ := DataW.trod_int Try.underlying3 r3
  obtain ⟨n4, e4, _, _⟩ := DataW.trod_int Try.underlying3 r4
  obtain ⟨n5, e5, _, w5⟩ := DataW.trod_int Try.underlying3 r5
  obtain ⟨n6, e6, _, w6⟩ := DataW.trod_int Try.underlying3 r6
  obtain ⟨n7, e7, _⟩ := DataW.trod_bool Try.underlying4 r7
  obtain ⟨n8, e8, _, _⟩ := DataW.trod_int Try.underlying3 r8
  obtain ⟨n9, e9, _, _⟩ := DataW.trod_int Try.underlying3 r9
  obtain ⟨n10, e10, _, _⟩ := DataW.trod_int Try.underlying3 r10
  obtain rfl : v0 = _ := by simpa using e0
  obtain rfl : v1 = _ := by simpa using e1
  obtain rfl : v2 = _ := by simpa using e2
  obtain rfl : v3 = _ := by simpa using e3
  obtain rfl : v4 = _ := by simpa using e4
  obtain rfl : v5 = _ := by simpa using e5
  obtain rfl : v6 = _ := by simpa using e6
  obtain rfl : v7 = _ := by simpa using e7
  obtain rfl : v8 = _ := by simpa using e8
  obtain rfl : v9 = _ := by simpa using e9
  obtain rfl : v10 = _ := by simpa using e10
  refine ⟨⟨n0, n1, n2, n3, n4, n5, n6, n7, n8, n9, n10⟩, ?_, ⟨bounds_i64 w1, bounds_i64 w5, bounds_i64 w6⟩⟩
  have hl4 : cs.length = 11 := hl
  apply List.ext_getElem?
  intro i
  match i with
  | 0 => exact g0
  | 1 => exact g1
  | 2 => exact g2
  | 3 => exact g3
  | 4 => exact g4
  | 5 => exact g5
  | 6 => exact g6
  | 7 => exact g7
  | 8 => exact g8
  | 9 => exact g9
  | 10 => exact g10
  | i + 11 => rw [List.getElem?_eq_none (by omega), List.getElem?_eq_none (by show 11 ≤ i + 11; omega)]
theorem op_open {H : Type} {enc : TypeId × Value → H} {w : World} {base b0 : Nat} {sp : Nat → Bool} {held : Bool} {r : Reach} {v : Value} {d : DataW H} {p : List MemPlace}
    (hv : Value.okWide Try.prog w r b0 24 v) (h : DataW.Trod enc Try.prog w base sp held 24 v d p) : ∃ o : OpV, v = Value.agg #[Value.int .i64 o.id, Value.int .i64 o.proc, Value.int .i64 o.obj, Value.int .i64 o.kind, Value.int .i64 o.meth, Value.int .i64 o.arg, Value.int .i64 o.sec, Value.bool o.done, Value.int .i64 o.res, Value.int .i64 o.inv, Value.int .i64 o.ret] ∧ o.Wf := by
  obtain ⟨cs, rfl, hsz⟩ := okWide_struct Try.underlying24 hv
  obtain ⟨fuel, hf⟩ := h
  obtain ⟨o, hy, hw⟩ := op_read hf
  refine ⟨o, ?_, hw⟩
  have : cs = ([Value.int .i64 o.id, Value.int .i64 o.proc, Value.int .i64 o.obj, Value.int .i64 o.kind, Value.int .i64 o.meth, Value.int .i64 o.arg, Value.int .i64 o.sec, Value.bool o.done, Value.int .i64 o.res, Value.int .i64 o.inv, Value.int .i64 o.ret]).toArray := by rw [← hy]; simp [Value.cells]
  rw [this]
theorem ints_openC {H : Type} {enc : TypeId × Value → H} {w : World} {base b0 : Nat} {sp : Nat → Bool} {held : Bool} {r : Reach} {v : Value} {d : DataW H} {p : List MemPlace}
    (hv : Value.okWide Try.prog w r b0 22 v) (h : DataW.Trod enc Try.prog w base sp held 22 v d p) : ∃ l : List Int, IntsOf w v l ∧ CapOk v ∧ (l = [] ∨ ∃ el rest, d = .slice el rest ∧ el.length = l.length) := by
  obtain ⟨ao, len0, cap0, rfl⟩ := okWide_slice Try.underlying22 hv
  obtain ⟨fuel, hf⟩ := h
  rcases open_slice Try.underlying22 hf with ⟨h0, _⟩ | ⟨a, len, cap, m, n, Dt, Pl, hcs, hb, hl, hm, hmm, hx, hi⟩
  · have : Value.slice ao len0 cap0 = .slice none 0 0 := by simpa [Value.cells] using h0
    cases this
    exact ⟨[], .inl ⟨rfl, none, 0, rfl⟩, CapOk.mk (Nat.le_refl _), .inl rfl⟩
  · have e : Value.slice ao len0 cap0 = .slice (some a) len cap := by simpa [Value.cells] using hcs
    cases e
    have hC : Try.prog.cellsOf 3 = 1 := by kernel_rfl
    have hlm : len0 ≤ m := by rw [hmm]; split <;> omega
    by_cases h0 : len0 = 0
    · subst h0
      exact ⟨[], .inl ⟨rfl, _, _, rfl⟩, CapOk.mk hl, .inl rfl⟩
    · have each : ∀ i, ∃ y : Int, i < len0 → (-9223372036854775808 ≤ y ∧ y ≤ 9223372036854775807) ∧ w.cell? (a.add i) = some (.int .i64 y) := fun i => by
        by_cases c : i < len0
        · obtain ⟨cs', hc, ht⟩ := hi i (by omega)
          rw [hC] at hc
          obtain ⟨_, hcl, hat⟩ := World.cells?_some hc
          obtain ⟨y, hy, _, hw⟩ := DataW.trod_int Try.underlying3 ht
          refine ⟨y, fun _ => ⟨bounds_i64 hw, ?_⟩⟩
          have := hat 0 (by omega)
          rw [hy, Go.Deep.add_add, Nat.mul_one, Nat.add_zero] at this
          exact this
        · exact ⟨0, fun h => absurd h c⟩
      obtain ⟨f, hf'⟩ := Classical.axiomOfChoice each
      have h00 := (hf' 0 (by omega)).2
      obtain ⟨b, off, spot⟩ := a
      have hspot : spot = none := by simpa [Addr.add] using World.cell?_spot h00
      subst hspot
      refine ⟨(List.range len0).map f, ?_, CapOk.mk hl, .inr ⟨_, _, congrArg Prod.fst hx, by simp⟩⟩
      refine .inr ⟨b, off, cap0, by simp, World.block_lt_of_cell? w _ h00, by simp; omega, by simp; unfold maxLen at hm; omega, fun i x hx => ?_⟩
      have hil : i < len0 := by have := (List.getElem?_eq_some_iff.1 hx).1; simpa using this
      have hxf : f i = x := by simpa [List.getElem?_map, List.getElem?_range hil] using hx
      subst hxf
      obtain ⟨hw, hc⟩ := hf' i hil
      exact ⟨hw, by rw [← hc, Addr.add_mid]⟩
theorem ops_open {H : Type} {enc : TypeId × Value → H} {w : World} {base b0 : Nat} {sp : Nat → Bool} {held : Bool} {r : Reach} {v : Value} {d : DataW H} {p : List MemPlace}
    (hv : Value.okWide Try.prog w r b0 35 v) (h : DataW.Trod enc Try.prog w base sp held 35 v d p) : ∃ l : List OpV, OpsOf w v l ∧ (l = [] ∨ ∃ el rest, d = .slice el rest ∧ el.length = l.length) := by
  obtain ⟨ao, len0, cap0, rfl⟩ := okWide_slice Try.underlying35 hv
  obtain ⟨fuel, hf⟩ := h
  rcases open_slice Try.underlying35 hf with ⟨h0, _⟩ | ⟨a, len, cap, m, n, Dt, Pl, hcs, hb, hl, hm, hmm, hx, hi⟩
  · have : Value.slice ao len0 cap0 = .slice none 0 0 := by simpa [Value.cells] using h0
    cases this
    exact ⟨[], ⟨.inl ⟨rfl, none, 0, rfl⟩, by simp⟩, .inl rfl⟩
  · have e : Value.slice ao len0 cap0 = .slice (some a) len cap := by simpa [Value.cells] using hcs
    cases e
    have hC : Try.prog.cellsOf 24 = 11 := by kernel_rfl
    have hlm : len0 ≤ m := by rw [hmm]; split <;> omega
    by_cases h0 : len0 = 0
    · subst h0
      exact ⟨[], ⟨.inl ⟨rfl, _, _, rfl⟩, by simp⟩, .inl rfl⟩
    · have each : ∀ i, ∃ y : OpV, i < len0 → y.Wf ∧ ∀ (j : Nat) (u : Value), (#[Value.int .i64 y.id, Value.int .i64 y.proc, Value.int .i64 y.obj, Value.int .i64 y.kind, Value.int .i64 y.meth, Value.int .i64 y.arg, Value.int .i64 y.sec, Value.bool y.done, Value.int .i64 y.res, Value.int .i64 y.inv, Value.int .i64 y.ret].toList)[j]? = some u → w.cell? (a.add (i * 11 + j)) = some u := fun i => by
        by_cases c : i < len0
        · obtain ⟨cs', hc, ht⟩ := hi i (by omega)
          rw [hC] at hc
          obtain ⟨_, hcl, hat⟩ := World.cells?_some hc
          obtain ⟨y, hy, hw⟩ := op_read ht
          refine ⟨y, fun _ => ⟨hw, fun j u hj => ?_⟩⟩
          have hj11 : j < 11 := (List.getElem?_eq_some_iff.1 hj).1
          have := hat j hj11
          rw [hy] at this
          rw [← Go.Deep.add_add, this]
          exact hj
        · exact ⟨⟨0, 0, 0, 0, 0, 0, 0, false, 0, 0, 0⟩, fun h => absurd h c⟩
      obtain ⟨f, hf'⟩ := Classical.axiomOfChoice each
      have h00 := (hf' 0 (by omega)).2 0 _ rfl
      obtain ⟨b, off, spot⟩ := a
      have hspot : spot = none := by simpa [Addr.add] using World.cell?_spot h00
      subst hspot
      refine ⟨(List.range len0).map f, ⟨.inr ⟨b, off, cap0, by simp, World.block_lt_of_cell? w _ h00, by simp; omega, fun i x hx' j u hj => ?_⟩, fun x hx' => ?_⟩, .inr ⟨_, _, congrArg Prod.fst hx, by simp⟩⟩
      · have hil : i < len0 := by have := (List.getElem?_eq_some_iff.1 hx').1; simpa using this
        have hxf : f i = x := by simpa [List.getElem?_map, List.getElem?_range hil] using hx'
        subst hxf
        have := (hf' i hil).2 j u hj
        rwa [Addr.add_mid, ← Nat.add_assoc] at this
      · obtain ⟨i, hil, rfl⟩ := List.mem_map.1 hx'
        exact (hf' i (by simpa using hil)).1
end Go.Proofs.Ytkdaghflonppfaa
