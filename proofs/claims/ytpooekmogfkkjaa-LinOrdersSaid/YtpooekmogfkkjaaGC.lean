/- Operations as plain data; the table of methods, and that it lies in memory; contracts of the small functions of package op and of its reference. Contracts of find, and of the reference's Rows and Find. Operations that may be: contracts of Check and of what it asks. Contracts of ruled, Check, Before and Overlap. Contracts of Check, Before and Overlap. -/
import Derived.Test.YtpooekmogfkkjaaRows
import Derived.Test.YtpooekmogfkkjaaGA
import Derived.Deep.QuietTactic
import Derived.BigQuiet
namespace Go.Proofs.Ytpooekmogfkkjaa
set_option maxRecDepth 100000
open Go.ChangeShapes Go.WideShapes Go.ChangeAt Go.RowKit Go.PlainAid

/-- A method of a kind: how many arguments it needs, the bounds of its answers, and the document's way to say these. -/
structure RowV where
  kind : Int
  meth : Int
  needs : Int
  low : Int
  high : Int
  how : Int
def tab : List RowV := [⟨1, 1, 0, 0, 1073741824, 2⟩, ⟨1, 2, 1, 0, 0, 0⟩, ⟨1, 3, 2, 0, 1, 1⟩, ⟨2, 1, 0, -1073741824, 1073741824, 3⟩, ⟨2, 4, 0, 0, 0, 0⟩, ⟨2, 5, 0, 0, 0, 0⟩, ⟨3, 6, 1, 0, 0, 0⟩, ⟨3, 7, 0, -1, 1073741824, 4⟩, ⟨4, 8, 1, 0, 0, 0⟩, ⟨4, 9, 0, -1, 1073741824, 4⟩, ⟨5, 10, 1, 0, 1, 1⟩, ⟨5, 11, 1, 0, 1, 1⟩, ⟨5, 12, 1, 0, 1, 1⟩, ⟨6, 13, 0, 0, 0, 0⟩, ⟨6, 14, 0, 0, 0, 0⟩]
theorem tab_len : tab.length = 15 := rfl
/-- The row of a kind's method. -/
def ruleOf (kind meth : Int) : Option RowV := tab.find? fun r => r.kind == kind && r.meth == meth
theorem rule_none {kind meth : Int} (h : ∀ (j : Nat) r, tab[j]? = some r → ¬ (r.kind = kind ∧ r.meth = meth)) : ruleOf kind meth = none := by
  unfold ruleOf
  rw [List.find?_eq_none]
  intro r hr
  obtain ⟨j, hj⟩ := List.getElem?_of_mem hr
  have := h j r hj
  simp only [Bool.and_eq_true, beq_iff_eq]
  exact this
theorem rule_some {kind meth : Int} {k : Nat} {r : RowV} (hr : tab[k]? = some r) (e1 : r.kind = kind) (e2 : r.meth = meth) (h : ∀ (j : Nat) r, j < k → tab[j]? = some r → ¬ (r.kind = kind ∧ r.meth = meth)) : ruleOf kind meth = some r := by
  unfold ruleOf
  rw [List.find?_eq_some_iff_getElem]
  obtain ⟨hk, hr'⟩ := List.getElem?_eq_some_iff.1 hr
  refine ⟨by simp [e1, e2], k, hk, hr', fun j hj => ?_⟩
  have := h j tab[j] hj (List.getElem?_eq_getElem (by omega))
  simp only [Bool.not_eq_true', Bool.and_eq_false_iff, beq_eq_false_iff_ne]
  by_cases c : tab[j].kind = kind
  · exact .inr fun d => this ⟨c, d⟩
  · exact .inl c
def RowV.cells (r : RowV) : List Value := [.int .i64 r.kind, .int .i64 r.meth, .int .i64 r.needs, .int .i64 r.low, .int .i64 r.high]
/-- The table, as it lies in memory. -/
def tabCells : List Value := tab.flatMap RowV.cells
def tabV : Value := .agg (tab.map fun r => Value.agg r.cells.toArray).toArray
def tabWhole : Value := .agg tabCells.toArray
/-! ### Small functions -/
/-- Is a number from low to high? -/
def inB (n low high : Int) : Bool := decide (low ≤ n) && decide (n ≤ high)
theorem inB_iff {n low high : Int} : inB n low high = true ↔ low ≤ n ∧ n ≤ high := by simp [inB]
theorem inB_no {n low high : Int} : inB n low high = false ↔ ¬ (low ≤ n ∧ n ≤ high) := by rw [← inB_iff]; simp
theorem between_any (n low high : Int) (w : World) : Calls Try.prog 59 #[.int .i64 n, .int .i64 low, .int .i64 high] w fun e w' => e = .returned (.bool (inB n low high)) ∧ w = w' := by
  by_cases h1 : low ≤ n
  · by_cases h2 : n ≤ high
    · have h := Lib.hid (inB_iff.2 ⟨h1, h2⟩)
      go_enter Try.func59, Try.ntmps59
      go_wp2
      go_returns
      exact ⟨by rw [h.out]; rfl, rfl⟩
    · have h := Lib.hid (show inB n low high = false from inB_no.2 fun c => h2 c.2)
      go_enter Try.func59, Try.ntmps59
      go_wp2
      go_returns
      exact ⟨by rw [h.out]; rfl, rfl⟩
  · have h := Lib.hid (show inB n low high = false from inB_no.2 fun c => h1 c.1)
    go_enter Try.func59, Try.ntmps59
    go_wp2
    go_returns
    exact ⟨by rw [h.out]; rfl, rfl⟩
/-- May an argument be, where one is needed, or none is? -/
def argB (n : Int) (needed : Bool) : Bool := if needed then inB n 0 1073741824 else n == 0
/-- May that be an answer, by the document's ways to say it? -/
def ansB (n how : Int) : Bool := if how = 0 then n == 0 else if how = 1 then n == 0 || n == 1 else if how = 2 then inB n 0 1073741824 else if how = 3 then inB n (-1073741824) 1073741824 else inB n (-1) 1073741824
theorem answer_any (n how : Int) (w : World) : Calls Try.prog 61 #[.int .i64 n, .int .i64 how] w fun e w' => e = .returned (.bool (ansB n how)) ∧ w = w' := by
  by_cases h0 : how = 0
  · subst h0
    have h := Lib.hid (show ansB n 0 = (n == 0) from rfl)
    go_enter Try.func61, Try.ntmps61
    go_wp2
    go_returns
    exact ⟨by rw [h.out]; rfl, rfl⟩
  · by_cases h1 : how = 1
    · subst h1
      clear h0
      by_cases c : n = 0
      · subst c
        have h := Lib.hid (show ansB 0 1 = true from rfl)
        go_enter Try.func61, Try.ntmps61
        go_wp2
        go_returns
        exact ⟨by rw [h.out]; rfl, rfl⟩
      · have c' : (n == 0) = false := beq_eq_false_iff_ne.2 c
        have h := Lib.hid (show ansB n 1 = (n == 1) by show (n == 0 || n == 1) = _; rw [c']; rfl)
        go_enter Try.func61, Try.ntmps61
        go_wp2
        go_returns
        exact ⟨by rw [h.out]; rfl, rfl⟩
    · by_cases h2 : how = 2
      · subst h2
        have h := Lib.hid (show ansB n 2 = inB n 0 1073741824 from rfl)
        clear h0 h1
        go_enter Try.func61, Try.ntmps61
        go_wp2_with fail
        refine (between_any n 0 1073741824 _).mono ?_
        rintro _ _ ⟨rfl, rfl⟩
        go_wp2
        go_returns
        exact ⟨by rw [h.out]; rfl, rfl⟩
      · by_cases h3 : how = 3
        · subst h3
          have h := Lib.hid (show ansB n 3 = inB n (-1073741824) 1073741824 from rfl)
          clear h0 h1 h2
          go_enter Try.func61, Try.ntmps61
          go_wp2_with fail
          refine (between_any n (-1073741824) 1073741824 _).mono ?_
          rintro _ _ ⟨rfl, rfl⟩
          go_wp2
          go_returns
          exact ⟨by rw [h.out]; rfl, rfl⟩
        · have h := Lib.hid (show ansB n how = inB n (-1) 1073741824 by unfold ansB; rw [if_neg h0, if_neg h1, if_neg h2, if_neg h3])
          have c0 : (how == 0) = false := beq_eq_false_iff_ne.2 h0
          have c1 : (how == 1) = false := beq_eq_false_iff_ne.2 h1
          have c2 : (how == 2) = false := beq_eq_false_iff_ne.2 h2
          have c3 : (how == 3) = false := beq_eq_false_iff_ne.2 h3
          clear h0 h1 h2 h3
          go_enter Try.func61, Try.ntmps61
          go_wp2_with fail
          refine (between_any n (-1) 1073741824 _).mono ?_
          rintro _ _ ⟨rfl, rfl⟩
          go_wp2
          go_returns
          exact ⟨by rw [h.out]; rfl, rfl⟩
/-- The document's answers of a row are those between its bounds. -/
theorem ans_row {r : RowV} (hr : r ∈ tab) (n : Int) : ansB n r.how = inB n r.low r.high := by
  have h1 : (n == 0) = inB n 0 0 := by
    rw [Bool.eq_iff_iff, inB_iff, beq_iff_eq]
    omega
  have h2 : (n == 0 || n == 1) = inB n 0 1 := by
    rw [Bool.eq_iff_iff, inB_iff, Bool.or_eq_true, beq_iff_eq, beq_iff_eq]
    omega
  simp only [tab, List.mem_cons, List.not_mem_nil, or_false] at hr
  rcases hr with rfl | rfl | rfl | rfl | rfl | rfl | rfl | rfl | rfl | rfl | rfl | rfl | rfl | rfl | rfl <;> first | rfl | exact h1 | exact h2
end Go.Proofs.Ytpooekmogfkkjaa
namespace Go.Proofs.Ytpooekmogfkkjaa
set_option maxRecDepth 100000
open Go.ChangeShapes Go.WideShapes Go.ChangeAt Go.RowKit Go.PlainAid

def cells5 (a b c d e : Int) : Array Value := #[.int .i64 a, .int .i64 b, .int .i64 c, .int .i64 d, .int .i64 e]
theorem one5 (a b c d e : Int) : (cells5 a b c d e).all (·.oneCell') = true := by simp [cells5, Value.oneCell']
/-- What find tells. -/
def foundV : Option RowV → Value
  | none => .tuple #[.agg #[.int .i64 0, .int .i64 0, .int .i64 0, .int .i64 0, .int .i64 0], .bool false]
  | some r => .tuple #[.agg #[.int .i64 r.kind, .int .i64 r.meth, .int .i64 r.needs, .int .i64 r.low, .int .i64 r.high], .bool true]
end Go.Proofs.Ytpooekmogfkkjaa
namespace Go.Proofs.Ytpooekmogfkkjaa
set_option maxRecDepth 100000
open Go.ChangeShapes Go.WideShapes Go.ChangeAt Go.RowKit Go.PlainAid

/-- An operation. -/
structure OpV where
  id : Int
  proc : Int
  obj : Int
  kind : Int
  meth : Int
  arg : Int
  sec : Int
  done : Bool
  res : Int
  inv : Int
  ret : Int
def namedB (o : OpV) : Bool := inB o.id 1 1073741824 && inB o.proc 0 1023 && inB o.obj 0 1023
def resB (o : OpV) (low high : Int) : Bool := if o.done then inB o.res low high else o.res == 0
def fitB (o : OpV) (r : RowV) : Bool := argB o.arg (decide (1 ≤ r.needs)) && argB o.sec (decide (2 ≤ r.needs)) && resB o r.low r.high
def ruledB (o : OpV) : Bool := match ruleOf o.kind o.meth with
  | none => false
  | some r => fitB o r
def timedB (o : OpV) : Bool := inB o.inv 0 1099511627776 && (if o.done then decide (o.inv < o.ret) && decide (o.ret ≤ 1099511627776) else o.ret == 0)
/-- What Check answers. -/
def checkZ (o : OpV) : Int := if namedB o then (if ruledB o then (if timedB o then 0 else 31) else 33) else 30
theorem ruled_none {o : OpV} (h : ruleOf o.kind o.meth = none) : ruledB o = false := by unfold ruledB; rw [h]
theorem ruled_some {o : OpV} {r : RowV} (h : ruleOf o.kind o.meth = some r) : ruledB o = fitB o r := by unfold ruledB; rw [h]

end Go.Proofs.Ytpooekmogfkkjaa
namespace Go.Proofs.Ytpooekmogfkkjaa
set_option maxRecDepth 100000
open Go.ChangeShapes Go.WideShapes Go.ChangeAt Go.RowKit Go.PlainAid

theorem heap_inO {w : World} {k : Nat} {o : Obj} (h : w.heap[k]? = some o) : k < w.heap.size := (Array.getElem?_eq_some_iff.1 h).1
/-- An operation in a block of its own. -/
def OpAt (w : World) (b : Nat) (o : OpV) : Prop := w.heap[b]? = some (.cells #[Value.int .i64 o.id, Value.int .i64 o.proc, Value.int .i64 o.obj, Value.int .i64 o.kind, Value.int .i64 o.meth, Value.int .i64 o.arg, Value.int .i64 o.sec, Value.bool o.done, Value.int .i64 o.res, Value.int .i64 o.inv, Value.int .i64 o.ret] 77 (0, 0))
theorem OpAt.cell {w : World} {b : Nat} {o : OpV} (h : OpAt w b o) : w.cell? ⟨b, 0, none⟩ = some (.int .i64 o.id) ∧ w.cell? ⟨b, 1, none⟩ = some (.int .i64 o.proc) ∧ w.cell? ⟨b, 2, none⟩ = some (.int .i64 o.obj) ∧ w.cell? ⟨b, 3, none⟩ = some (.int .i64 o.kind) ∧ w.cell? ⟨b, 4, none⟩ = some (.int .i64 o.meth) ∧
    w.cell? ⟨b, 5, none⟩ = some (.int .i64 o.arg) ∧ w.cell? ⟨b, 6, none⟩ = some (.int .i64 o.sec) ∧ w.cell? ⟨b, 7, none⟩ = some (.bool o.done) ∧ w.cell? ⟨b, 8, none⟩ = some (.int .i64 o.res) ∧ w.cell? ⟨b, 9, none⟩ = some (.int .i64 o.inv) ∧ w.cell? ⟨b, 10, none⟩ = some (.int .i64 o.ret) := by
  unfold OpAt at h
  refine ⟨?_, ?_, ?_, ?_, ?_, ?_, ?_, ?_, ?_, ?_, ?_⟩ <;> (rw [cell_of_row _ _ _ _ _ _ h]; rfl)
theorem OpAt.on {w w' : World} {b : Nat} {o : OpV} (h : OpAt w b o) (hb : Below w.heap.size w w') : OpAt w' b o := (hb.block b (heap_inO h)).trans h
theorem OpAt.box (w : World) (o : OpV) : OpAt (w.alloc (.cells #[Value.int .i64 o.id, Value.int .i64 o.proc, Value.int .i64 o.obj, Value.int .i64 o.kind, Value.int .i64 o.meth, Value.int .i64 o.arg, Value.int .i64 o.sec, Value.bool o.done, Value.int .i64 o.res, Value.int .i64 o.inv, Value.int .i64 o.ret] 77)) w.heap.size o := heap_alloc_new _ _
theorem resB_no {o : OpV} (h : o.done = false) (low high : Int) : resB o low high = (o.res == 0) := by unfold resB; rw [h]; rfl
theorem resB_yes {o : OpV} (h : o.done = true) (low high : Int) : resB o low high = inB o.res low high := by unfold resB; rw [h]; rfl
end Go.Proofs.Ytpooekmogfkkjaa
namespace Go.Proofs.Ytpooekmogfkkjaa
set_option maxRecDepth 100000
open Go.ChangeShapes Go.WideShapes Go.ChangeAt Go.RowKit Go.PlainAid

theorem load_op (v : Value) : Instr.loadAt 77 v = loadS 77 v := rfl
theorem OpAt.load {w : World} {b : Nat} {o : OpV} (h : OpAt w b o) : (loadS 77 (.pointer (some ⟨b, 0, none⟩))).run Try.prog w = .ok (Value.agg #[Value.int .i64 o.id, Value.int .i64 o.proc, Value.int .i64 o.obj, Value.int .i64 o.kind, Value.int .i64 o.meth, Value.int .i64 o.arg, Value.int .i64 o.sec, Value.bool o.done, Value.int .i64 o.res, Value.int .i64 o.inv, Value.int .i64 o.ret]) w :=
  run_loadAt_mid w b 0 77 [Value.int .i64 o.id, Value.int .i64 o.proc, Value.int .i64 o.obj, Value.int .i64 o.kind, Value.int .i64 o.meth, Value.int .i64 o.arg, Value.int .i64 o.sec, Value.bool o.done, Value.int .i64 o.res, Value.int .i64 o.inv, Value.int .i64 o.ret] _ (fun j v hj => by rw [cell_of_row _ _ _ _ _ _ h, Nat.zero_add, ← hj]; simp) Try.underlying77 rfl (by kernel_rfl)
attribute [local go_sem ↓ high] load_op
theorem check_30 {o : OpV} (h : namedB o = false) : checkZ o = 30 := by unfold checkZ; rw [h]; rfl
theorem check_33 {o : OpV} (h : namedB o = true) (h2 : ruledB o = false) : checkZ o = 33 := by unfold checkZ; rw [h, h2]; rfl
theorem check_31 {o : OpV} (h : namedB o = true) (h2 : ruledB o = true) (h3 : timedB o = false) : checkZ o = 31 := by unfold checkZ; rw [h, h2, h3]; rfl
theorem check_0 {o : OpV} (h : namedB o = true) (h2 : ruledB o = true) (h3 : timedB o = true) : checkZ o = 0 := by unfold checkZ; rw [h, h2, h3]; rfl
/-- Was the first one answered ahead of the second one's invocation? -/
def befB (a b : OpV) : Bool := a.done && decide (a.ret < b.inv)
def overB (a b : OpV) : Bool := !befB a b && !befB b a
set_option maxHeartbeats 1000000 in
theorem before_any (a b : OpV) (w : World) : Calls Try.prog 42 #[Value.agg #[Value.int .i64 a.id, Value.int .i64 a.proc, Value.int .i64 a.obj, Value.int .i64 a.kind, Value.int .i64 a.meth, Value.int .i64 a.arg, Value.int .i64 a.sec, Value.bool a.done, Value.int .i64 a.res, Value.int .i64 a.inv, Value.int .i64 a.ret], Value.agg #[Value.int .i64 b.id, Value.int .i64 b.proc, Value.int .i64 b.obj, Value.int .i64 b.kind, Value.int .i64 b.meth, Value.int .i64 b.arg, Value.int .i64 b.sec, Value.bool b.done, Value.int .i64 b.res, Value.int .i64 b.inv, Value.int .i64 b.ret]] w fun e w' => e = .returned (.bool (befB a b)) ∧ Below w.heap.size w w' := by
  cases h : a.done
  · have hn := Lib.hid (show befB a b = false by unfold befB; rw [h]; rfl)
    clear h
    go_enter Try.func42, Try.ntmps42
    go_wp2_with fail
    go_returns
    exact ⟨by rw [hn.out]; rfl, by go_grown⟩
  · have hn := Lib.hid (show befB a b = decide (a.ret < b.inv) by unfold befB; rw [h]; rfl)
    clear h
    go_enter Try.func42, Try.ntmps42
    go_wp2_with fail
    go_returns
    exact ⟨by rw [hn.out]; rfl, by go_grown⟩
set_option maxHeartbeats 1000000 in
theorem rbefore_any (a b : OpV) (w : World) : Calls Try.prog 41 #[Value.agg #[Value.int .i64 a.id, Value.int .i64 a.proc, Value.int .i64 a.obj, Value.int .i64 a.kind, Value.int .i64 a.meth, Value.int .i64 a.arg, Value.int .i64 a.sec, Value.bool a.done, Value.int .i64 a.res, Value.int .i64 a.inv, Value.int .i64 a.ret], Value.agg #[Value.int .i64 b.id, Value.int .i64 b.proc, Value.int .i64 b.obj, Value.int .i64 b.kind, Value.int .i64 b.meth, Value.int .i64 b.arg, Value.int .i64 b.sec, Value.bool b.done, Value.int .i64 b.res, Value.int .i64 b.inv, Value.int .i64 b.ret]] w fun e w' => e = .returned (.bool (befB a b)) ∧ Below w.heap.size w w' := by
  cases h : a.done
  · have hn := Lib.hid (show befB a b = false by unfold befB; rw [h]; rfl)
    clear h
    go_enter Try.func41, Try.ntmps41
    go_wp2_with fail
    go_returns
    exact ⟨by rw [hn.out]; rfl, by go_grown⟩
  · have hn := Lib.hid (show befB a b = decide (a.ret < b.inv) by unfold befB; rw [h]; rfl)
    clear h
    go_enter Try.func41, Try.ntmps41
    go_wp2_with fail
    go_returns
    exact ⟨by rw [hn.out]; rfl, by go_grown⟩
end Go.Proofs.Ytpooekmogfkkjaa
