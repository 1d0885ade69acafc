/- Operations as plain data; the table of methods, and that it lies in memory; contracts of the small functions of package op and of its reference. -/
import Derived.Test.YtgedlfilhpbfaaaRows
import Derived.Test.YtgedlfilhpbfaaaAid
import Derived.Test.YtgedlfilhpbfaaaMem
namespace Go.Proofs.Ytgedlfilhpbfaaa
set_option maxRecDepth 100000
open Go.ChangeShapes Go.WideShapes Go.ChangeAt Go.RowKit Go.PlainAid

/-- A method of a kind: how many arguments it needs, the bounds of its answers, and the document's way to say these. -/
structure RowV where
  kind : Int
  meth : Int
  needs : Int
  low : Int
  high : Int
  how : Int
def tab : List RowV := [⟨1, 1, 0, 0, 1073741824, 2⟩, ⟨1, 2, 1, 0, 0, 0⟩, ⟨1, 3, 2, 0, 1, 1⟩, ⟨2, 1, 0, -1073741824, 1073741824, 3⟩, ⟨2, 4, 0, 0, 0, 0⟩, ⟨2, 5, 0, 0, 0, 0⟩, ⟨3, 6, 1, 0, 0, 0⟩, ⟨3, 7, 0, -1, 1073741824, 4⟩, ⟨4, 8, 1, 0, 0, 0⟩, ⟨4, 9, 0, -1, 1073741824, 4⟩, ⟨5, 10, 1, 0, 1, 1⟩, ⟨5, 11, 1, 0, 1, 1⟩, ⟨5, 12, 1, 0, 1, 1⟩, ⟨6, 13, 0, 0, 0, 0⟩, ⟨6, 14, 0, 0, 0, 0⟩]
theorem tab_len : tab.length = 15 := rfl
/-- The row of a kind's method. -/
def ruleOf (kind meth : Int) : Option RowV := tab.find? fun r => r.kind == kind && r.meth == meth
theorem rule_none {kind meth : Int} (h : ∀ (j : Nat) r, tab[j]? = some r → ¬ (r.kind = kind ∧ r.meth = meth)) : ruleOf kind meth = none := by
  unfold ruleOf
  rw [List.find?_eq_none]
  intro r hr
  obtain ⟨j, hj⟩ := List.getElem?_of_mem hr
  have := h j r hj
  simp only [Bool.and_eq_true, beq_iff_eq]
  exact this
theorem rule_some {kind meth : Int} {k : Nat} {r : RowV} (hr : tab[k]? = some r) (e1 : r.kind = kind) (e2 : r.meth = meth) (h : ∀ (j : Nat) r, j < k → tab[j]? = some r → ¬ (r.kind = kind ∧ r.meth = meth)) : ruleOf kind meth = some r := by
  unfold ruleOf
  rw [List.find?_eq_some_iff_getElem]
  obtain ⟨hk, hr'⟩ := List.getElem?_eq_some_iff.1 hr
  refine ⟨by simp [e1, e2], k, hk, hr', fun j hj => ?_⟩
  have := h j tab[j] hj (List.getElem?_eq_getElem (by omega))
  simp only [Bool.not_eq_true', Bool.and_eq_false_iff, beq_eq_false_iff_ne]
  by_cases c : tab[j].kind = kind
  · exact .inr fun d => this ⟨c, d⟩
  · exact .inl c
def RowV.cells (r : RowV) : List Value := [.int .i64 r.kind, .int .i64 r.meth, .int .i64 r.needs, .int .i64 r.low, .int .i64 r.high]
/-- The table, as it lies in memory. -/
def tabCells : List Value := tab.flatMap RowV.cells
def tabV : Value := .agg (tab.map fun r => Value.agg r.cells.toArray).toArray
def tabWhole : Value := .agg tabCells.toArray
/-! ### Small functions -/
/-- Is a number from low to high? -/
def inB (n low high : Int) : Bool := decide (low ≤ n) && decide (n ≤ high)
theorem inB_iff {n low high : Int} : inB n low high = true ↔ low ≤ n ∧ n ≤ high := by simp [inB]
theorem inB_no {n low high : Int} : inB n low high = false ↔ ¬ (low ≤ n ∧ n ≤ high) := by rw [← inB_iff]; simp
theorem between_any (n low high : Int) (w : World) : Calls Try.prog 30 #[.int .i64 n, .int .i64 low, .int .i64 high] w fun e w' => e = .returned (.bool (inB n low high)) ∧ w = w' := by
  by_cases h1 : low ≤ n
  · by_cases h2 : n ≤ high
    · have h := Lib.hid (inB_iff.2 ⟨h1, h2⟩)
      go_enter Try.func30, Try.ntmps30
      go_wp2
      go_returns
      exact ⟨by rw [h.out]; rfl, rfl⟩
    · have h := Lib.hid (show inB n low high = false from inB_no.2 fun c => h2 c.2)
      go_enter Try.func30, Try.ntmps30
      go_wp2
      go_returns
      exact ⟨by rw [h.out]; rfl, rfl⟩
  · have h := Lib.hid (show inB n low high = false from inB_no.2 fun c => h1 c.1)
    go_enter Try.func30, Try.ntmps30
    go_wp2
    go_returns
    exact ⟨by rw [h.out]; rfl, rfl⟩
/-- May an argument be, where one is needed, or none is? -/
def argB (n : Int) (needed : Bool) : Bool := if needed then inB n 0 1073741824 else n == 0
/-- May that be an answer, by the document's ways to say it? -/
def ansB (n how : Int) : Bool := if how = 0 then n == 0 else if how = 1 then n == 0 || n == 1 else if how = 2 then inB n 0 1073741824 else if how = 3 then inB n (-1073741824) 1073741824 else inB n (-1) 1073741824
theorem answer_any (n how : Int) (w : World) : Calls Try.prog 32 #[.int .i64 n, .int .i64 how] w fun e w' => e = .returned (.bool (ansB n how)) ∧ w = w' := by
  by_cases h0 : how = 0
  · subst h0
    have h := Lib.hid (show ansB n 0 = (n == 0) from rfl)
    go_enter Try.func32, Try.ntmps32
    go_wp2
    go_returns
    exact ⟨by rw [h.out]; rfl, rfl⟩
  · by_cases h1 : how = 1
    · subst h1
      clear h0
      by_cases c : n = 0
      · subst c
        have h := Lib.hid (show ansB 0 1 = true from rfl)
        go_enter Try.func32, Try.ntmps32
        go_wp2
        go_returns
        exact ⟨by rw [h.out]; rfl, rfl⟩
      · have c' : (n == 0) = false := beq_eq_false_iff_ne.2 c
        have h := Lib.hid (show ansB n 1 = (n == 1) by show (n == 0 || n == 1) = _; rw [c']; rfl)
        go_enter Try.func32, Try.ntmps32
        go_wp2
        go_returns
        exact ⟨by rw [h.out]; rfl, rfl⟩
    · by_cases h2 : how = 2
      · subst h2
        have h := Lib.hid (show ansB n 2 = inB n 0 1073741824 from rfl)
        clear h0 h1
        go_enter Try.func32, Try.ntmps32
        go_wp2_with fail
        refine (between_any n 0 1073741824 _).mono ?_
        rintro _ _ ⟨rfl, rfl⟩
        go_wp2
        go_returns
        exact ⟨by rw [h.out]; rfl, rfl⟩
      · by_cases h3 : how = 3
        · subst h3
          have h := Lib.hid (show ansB n 3 = inB n (-1073741824) 1073741824 from rfl)
          clear h0 h1 h2
          go_enter Try.func32, Try.ntmps32
          go_wp2_with fail
          refine (between_any n (-1073741824) 1073741824 _).mono ?_
          rintro _ _ ⟨rfl, rfl⟩
          go_wp2
          go_returns
          exact ⟨by rw [h.out]; rfl, rfl⟩
        · have h := Lib.hid (show ansB n how = inB n (-1) 1073741824 by unfold ansB; rw [if_neg h0, if_neg h1, if_neg h2, if_neg h3])
          have c0 : (how == 0) = false := beq_eq_false_iff_ne.2 h0
          have c1 : (how == 1) = false := beq_eq_false_iff_ne.2 h1
          have c2 : (how == 2) = false := beq_eq_false_iff_ne.2 h2
          have c3 : (how == 3) = false := beq_eq_false_iff_ne.2 h3
          clear h0 h1 h2 h3
          go_enter Try.func32, Try.ntmps32
          go_wp2_with fail
          refine (between_any n (-1) 1073741824 _).mono ?_
          rintro _ _ ⟨rfl, rfl⟩
          go_wp2
          go_returns
          exact ⟨by rw [h.out]; rfl, rfl⟩
/-- The document's answers of a row are those between its bounds. -/
theorem ans_row {r : RowV} (hr : r ∈ tab) (n : Int) : ansB n r.how = inB n r.low r.high := by
  have h1 : (n == 0) = inB n 0 0 := by
    rw [Bool.eq_iff_iff, inB_iff, beq_iff_eq]
    omega
  have h2 : (n == 0 || n == 1) = inB n 0 1 := by
    rw [Bool.eq_iff_iff, inB_iff, Bool.or_eq_true, beq_iff_eq, beq_iff_eq]
    omega
  simp only [tab, List.mem_cons, List.not_mem_nil, or_false] at hr
  rcases hr with rfl | rfl | rfl | rfl | rfl | rfl | rfl | rfl | rfl | rfl | rfl | rfl | rfl | rfl | rfl <;> first | rfl | exact h1 | exact h2
end Go.Proofs.Ytgedlfilhpbfaaa
