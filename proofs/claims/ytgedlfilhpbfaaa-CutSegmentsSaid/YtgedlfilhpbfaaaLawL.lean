/- The frame of every law of this seat, over no dump: a law whose row lists package-level variables, whose walk returns true and leaves old memory alone, meets its row. -/
import Derived.Test.YtgedlfilhpbfaaaLaw
import Derived.LaidMore
import Derived.Deep.Fields
import Derived.Deep.Slices
import Derived.Stop.Joined
namespace Go.Proofs.Ytgedlfilhpbfaaa
open Go.ChangeShapes Go.WideShapes Go.ChangeAt Go.RowKit Go.Deep

/-- A law that lists variables, lifted. -/
theorem law_lift_laid {C : Checked} {os : Os} {f : FuncId} {fn : Func} {s : ChangeSpec} {tb : TypeId} {H : Type} {enc : TypeId × Value → H} {laid : List (String × DataW Unit)}
    (own : ownKnob C.prog.godebug = none) (started : os.Started) (noInit : C.prog.inits.idxOf? f = none) (hfn : C.prog.funcs[f]? = some fn)
    (hl : laidOutB C.prog = true) (hr : (fn.params.toList.all fun t => C.prog.readableRec t && decide (t < C.prog.types.size)) = true) (hrt : fn.resultTypes = #[tb]) (hb : C.prog.underlying tb = some .bool) (hv : s.vars = [])
    (hf : ∀ ds : List (DataW H), ds.length = fn.params.size → s.fn H (ds ++ []) = { results := [.lit (.bool true)], args := ds })
    (witness : ∃ (w : World) (tape : Tape) (i : Input), w.os = os ∧ (w.forCall tape i).Shaped C.prog ∧ i.vars = [] ∧ Input.okWide C.prog (w.forCall tape i) .any w.heap.size f i ∧
      ((s.pre enc C.prog fn [] false (w.forCall tape i).memory i.args ∧ laidMetH C.prog laid (w.forCall tape i).memory) ∧ sizedMet enc C.prog fn (OpenSpec.ofChange s) false (w.forCall tape i).memory i.args) ∧ ({} : Assume).holds C.prog (lone (Frame.enter C.prog f i.args .normal) [] (w.forCall tape i)))
    (walk : ∀ (W : World) (base : Nat) (args : Array Value) (ds : List (DataW H)) (ps : List MemPlace),
      (∀ (j : Nat) t v, fn.params[j]? = some t → args[j]? = some v → Value.okWide C.prog W .any base t v) →
      DataW.TrodAll enc C.prog W 0 (fun _ => true) true fn.params.toList args.toList ds ps →
      (DataW.weightsEach C.prog fn.params.toList ds).all (· ≤ reachBytes) = true → laidMetH C.prog laid W →
      Calls C.prog f args W fun e W' => e = .returned (.bool true) ∧ Below W.heap.size W W') :
    ReturnsInHanded {} C os f .any (fun w args => (s.pre enc C.prog fn [] false w args ∧ laidMetH C.prog laid w) ∧ sizedMet enc C.prog fn (OpenSpec.ofChange s) false w args) (s.post enc C.prog fn false true false false) := by
  refine returnsInHanded_of_change_and (X := fun w _ => laidMetH C.prog laid w) (fun _ _ _ hh h => h.of_heap hh) own started noInit hfn witness ?_
  intro W base args ds gs before hval hW _ hsz hL _
  have hr' : ∀ t ∈ fn.params.toList, C.prog.readableRec t = true ∧ t < C.prog.types.size := fun t ht => by
    have := List.all_eq_true.1 hr t ht
    simpa using this
  have hW' := hW
  obtain ⟨p, q, hA, hV, hpq, _, _⟩ := hW'
  rw [hv] at hV
  cases gs with
  | cons g gs => exact hV.elim
  | nil =>
    have hlen : ds.length = fn.params.size := by
      have : ∀ {ts : List TypeId} {vs : List Value} {xs : List (DataW H)} {ps : List MemPlace}, DataW.TrodAll enc C.prog W 0 (fun _ => true) true ts vs xs ps → xs.length = ts.length := by
        intro ts
        induction ts with
        | nil => intro vs xs ps h; cases vs <;> cases xs <;> first | rfl | exact h.elim
        | cons t ts ih =>
          intro vs xs ps h
          cases vs with
          | nil => exact h.elim
          | cons v vs =>
            cases xs with
            | nil => exact h.elim
            | cons x xs =>
              obtain ⟨_, _, _, h2, _⟩ := h
              simp [ih h2]
      simpa using this hA
    have hvt : s.plain.varTypes C.prog = [] := by
      unfold DataSpec.varTypes
      rw [show s.plain.vars = [] from hv]
      rfl
    rw [List.append_nil, hvt, List.append_nil] at hsz
    exact (walk W base args ds p hval hA hsz hL).mono fun e W' ⟨he, hB⟩ => ⟨_, he, law_met hl hr' hrt hb hv (hf ds hlen) hW hB⟩

section
variable {H : Type} {enc : TypeId × Value → H} {P : Program} {w : World} {base : Nat} {sp : Nat → Bool} {held : Bool}
/-- What one variable of the list reads as. -/
theorem laid_one : ∀ {l : List (String × DataW Unit)} {ps : List MemPlace}, DataW.LaidVars P w l ps → ∀ {n : String} {d : DataW Unit}, (n, d) ∈ l →
    ∃ g t cs fuel p, P.globalNamed n = some g ∧ (P.globals[g]?).map (·.type) = some t ∧ w.var? P n = some cs ∧ DataW.trod (fun _ => ()) P w 0 (fun _ => true) false fuel t cs.toList = some (d, p)
  | [], _, _, _, _, hm => by cases hm
  | (n', d') :: r, ps, h, n, d, hm => by
    obtain ⟨g, t, cs, fuel, p, q, h1, h2, h3, h4, h5, _⟩ := h
    rcases List.mem_cons.1 hm with e | hm
    · cases e
      exact ⟨g, t, cs, fuel, p, h1, h2, h3, h4⟩
    · exact laid_one h5 hm
/-- A struct of numbers. -/
theorem trod_ints {e : TypeId} {fs : Array Field} {fuel : Nat} {cs : List Value} {x : DataW H × List MemPlace} (he : P.underlying e = some (.struct fs)) (hone : oneCellFields P fs = true) (hC : P.cellsOf e = fs.size)
    (hint : ∀ (j : Nat) f, fs[j]? = some f → P.underlying f.type = some (.int .i64)) (h : DataW.trod enc P w base sp held fuel e cs = some x) (ns : List Int) (hx : x.1 = .agg (ns.map fun n => .lit (.int .i64 n))) : cs = ns.map (Value.int .i64) := by
  obtain ⟨ys, n, _, rfl, hlen, hyl, hf⟩ := DataW.trod_struct he h
  have hlen' : cs.length = fs.size := hlen.trans hC
  have hm : ys.map (·.1) = ns.map fun n => DataW.lit (.int .i64 n) := by simpa using hx
  have hnl : ns.length = fs.size := by have := congrArg List.length hm; simpa [hyl] using this.symm
  apply List.ext_getElem?
  intro i
  by_cases hi : i < fs.size
  · have hfi : fs[i]? = some fs[i] := Array.getElem?_eq_getElem hi
    obtain ⟨ho, hk⟩ := hone_of hone i _ hfi
    have h1 := hf i _ hfi
    rw [ho, hk, List.drop_eq_getElem_cons (by omega)] at h1
    have hy : ys[i]? = some (ys[i]'(by omega)) := List.getElem?_eq_getElem (by omega)
    rw [hy] at h1
    obtain ⟨m, hcs, hye, _⟩ := DataW.trod_int (hint i _ hfi) h1
    have e1 : cs[i]'(by omega) = .int .i64 m := by
      have : [cs[i]'(by omega)] = [Value.int .i64 m] := hcs
      simpa using this
    have e2 := congrArg (·[i]?) hm
    simp only [List.getElem?_map, hy, Option.map_some, hye] at e2
    cases hn : ns[i]? with
    | none => rw [hn] at e2; simp at e2
    | some z =>
      rw [hn] at e2
      simp only [Option.map_some, Option.some.injEq, DataW.lit.injEq, Lit.int.injEq, true_and] at e2
      rw [List.getElem?_eq_getElem (by omega), e1, List.getElem?_map, hn, e2]
      rfl
  · rw [List.getElem?_eq_none (by omega), List.getElem?_eq_none (by simp; omega)]
theorem flat_rows (m : Nat) (f : Nat → List Value) : ∀ (n : Nat) (l : List Value), l.length = n * m → (∀ i, i < n → (l.drop (i * m)).take m = f i) → l = (List.range n).flatMap f
  | 0, l, h, _ => by rw [Nat.zero_mul] at h; rw [List.length_eq_zero_iff.1 h]; rfl
  | n + 1, l, h, hf => by
    have e := flat_rows m f n (l.take (n * m)) (by rw [List.length_take, h, Nat.add_mul]; omega) (fun i hi => by
      rw [← hf i (by omega), List.drop_take, List.take_take]
      congr 1
      have : i * m + m ≤ n * m := by rw [← Nat.succ_mul]; exact Nat.mul_le_mul_right m hi
      omega)
    have e2 := hf n (by omega)
    rw [List.take_of_length_le (by rw [List.length_drop, h, Nat.add_mul]; omega)] at e2
    rw [List.range_succ, List.flatMap_append, ← e]
    simp only [List.flatMap_cons, List.flatMap_nil, List.append_nil]
    rw [← e2, List.take_append_drop]
/-- A table: an array of structs of numbers. -/
theorem trod_table {t e : TypeId} {n : Nat} {fs : Array Field} {fuel : Nat} {cs : List Value} {x : DataW H × List MemPlace} (ht : P.underlying t = some (.array n e)) (he : P.underlying e = some (.struct fs)) (hone : oneCellFields P fs = true) (hC : P.cellsOf e = fs.size) (hT : P.cellsOf t = n * fs.size)
    (hint : ∀ (j : Nat) f, fs[j]? = some f → P.underlying f.type = some (.int .i64)) (h : DataW.trod enc P w base sp held fuel t cs = some x) (ns : List (List Int)) (hx : x.1 = .agg (ns.map fun r => .agg (r.map fun n => .lit (.int .i64 n)))) :
    cs = ns.flatMap fun r => r.map (Value.int .i64) := by
  obtain ⟨xs, m, _, rfl, hlen, hxl, hf⟩ := DataW.trod_array ht h
  have hm : xs.map (·.1) = ns.map fun r => DataW.agg (r.map fun n => .lit (.int .i64 n)) := by simpa using hx
  have hnl : ns.length = n := by have := congrArg List.length hm; simpa [hxl] using this.symm
  have e := flat_rows fs.size (fun i => (ns.getD i []).map (Value.int .i64)) n cs (hlen.trans hT) (fun i hi => by
    have h1 := hf i hi
    rw [hC] at h1
    have hy : xs[i]? = some (xs[i]'(by omega)) := List.getElem?_eq_getElem (by omega)
    rw [hy] at h1
    refine trod_ints he hone hC hint h1 (ns.getD i []) ?_
    have e2 := congrArg (·[i]?) hm
    simp only [List.getElem?_map, hy, Option.map_some] at e2
    rw [List.getD_eq_getElem?_getD]
    cases hn : ns[i]? with
    | none => rw [hn] at e2; simp at e2
    | some z => rw [hn] at e2; simpa using e2)
  rw [e]
  subst hnl
  conv => rhs; rw [show ns = (List.range ns.length).map (fun i => ns.getD i []) from by
    apply List.ext_getElem?
    intro i
    by_cases hi : i < ns.length
    · simp [List.getElem?_map, List.getElem?_range hi, List.getElem?_eq_getElem hi]
    · rw [List.getElem?_eq_none (by omega), List.getElem?_eq_none (by simp; omega)]]
  rw [List.flatMap_map]
end
end Go.Proofs.Ytgedlfilhpbfaaa
