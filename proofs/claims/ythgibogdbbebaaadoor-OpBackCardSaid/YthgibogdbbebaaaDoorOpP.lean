/- Records of operations, as plain data: what an operation is written as, and which operation a text is. -/
import Derived.Test.YthgibogdbbebaaaDoorBitsK
import Derived.Test.YthgibogdbbebaaaDoorOpE
namespace Go.Proofs.YthgibogdbbebaaaDoor
set_option maxRecDepth 100000
open Go.ChangeShapes Go.WideShapes Go.ChangeAt Go.RowKit Go.PlainAid

/-- Numbers, one behind the other. -/
def varsS : List Int → ByteArray
  | [] => ⟨#[]⟩
  | n :: l => varS n ++ varsS l
theorem nil_cat (a : ByteArray) : ⟨#[]⟩ ++ a = a := by
  apply ByteArray.ext
  simp
theorem cat_nil (a : ByteArray) : a ++ ⟨#[]⟩ = a := by
  apply ByteArray.ext
  simp
theorem varsS_snoc (n : Int) : ∀ l : List Int, varsS (l ++ [n]) = varsS l ++ varS n
  | [] => by show varS n ++ ⟨#[]⟩ = ⟨#[]⟩ ++ varS n; rw [nil_cat, cat_nil]
  | x :: l => by
    show varS x ++ varsS (l ++ [n]) = varS x ++ varsS l ++ varS n
    rw [varsS_snoc n l, ByteArray.append_assoc]
theorem varsS_append (a : List Int) : ∀ l : List Int, varsS (l ++ a) = varsS l ++ varsS a
  | [] => (nil_cat _).symm
  | x :: l => by
    show varS x ++ varsS (l ++ a) = varS x ++ varsS l ++ varsS a
    rw [varsS_append a l, ByteArray.append_assoc]
def headL (o : OpV) : List Int := [o.id, o.proc, o.obj, o.kind, o.meth, o.arg, o.sec, o.inv]
def tailL (o : OpV) : List Int := if o.done then [o.ret - o.inv, foldZ o.res] else []
def recL (o : OpV) : List Int := headL o ++ tailL o
/-- The record of an operation that may be. -/
def recS (o : OpV) : ByteArray := varsS (recL o)
theorem rec_no {o : OpV} (h : o.done = false) : recS o = varsS (headL o) := by unfold recS recL tailL; rw [h]; simp
theorem rec_yes {o : OpV} (h : o.done = true) : recS o = varsS (headL o) ++ (varS (o.ret - o.inv) ++ varS (foldZ o.res)) := by
  unfold recS recL tailL
  rw [h, if_pos rfl, varsS_append]
  show _ ++ (varS _ ++ (varS _ ++ ⟨#[]⟩)) = _
  rw [cat_nil]
/-- What is so of an operation that may be. -/
structure Fine (o : OpV) : Prop where
  id : 1 ≤ o.id ∧ o.id ≤ 1073741824
  proc : 0 ≤ o.proc ∧ o.proc ≤ 1023
  obj : 0 ≤ o.obj ∧ o.obj ≤ 1023
  kind : 1 ≤ o.kind ∧ o.kind ≤ 6
  meth : 1 ≤ o.meth ∧ o.meth ≤ 14
  arg : 0 ≤ o.arg ∧ o.arg ≤ 1073741824
  sec : 0 ≤ o.sec ∧ o.sec ≤ 1073741824
  inv : 0 ≤ o.inv ∧ o.inv ≤ 1099511627776
  res : -1073741824 ≤ o.res ∧ o.res ≤ 1073741824
  yes : o.done = true → o.inv < o.ret ∧ o.ret ≤ 1099511627776
  no : o.done = false → o.ret = 0 ∧ o.res = 0
theorem tab_b {r : RowV} (hr : r ∈ tab) : (1 ≤ r.kind ∧ r.kind ≤ 6) ∧ (1 ≤ r.meth ∧ r.meth ≤ 14) ∧ (-1073741824 ≤ r.low ∧ r.high ≤ 1073741824) := by
  simp only [tab, List.mem_cons, List.not_mem_nil, or_false] at hr
  rcases hr with rfl | rfl | rfl | rfl | rfl | rfl | rfl | rfl | rfl | rfl | rfl | rfl | rfl | rfl | rfl <;> decide
theorem rule_is {k m : Int} {r : RowV} (h : ruleOf k m = some r) : r ∈ tab ∧ r.kind = k ∧ r.meth = m := by
  refine ⟨List.mem_of_find?_eq_some h, ?_⟩
  have := List.find?_some h
  simpa using this
theorem arg_b {n : Int} {b : Bool} (h : argB n b = true) : 0 ≤ n ∧ n ≤ 1073741824 := by
  cases b
  · have : n = 0 := by simpa [argB] using h
    omega
  · exact inB_iff.1 h
theorem fine_of {o : OpV} (h : checkZ o = 0) : Fine o := by
  unfold checkZ at h
  cases h1 : namedB o with
  | false => simp [h1] at h
  | true =>
    cases h2 : ruledB o with
    | false => simp [h1, h2] at h
    | true =>
      cases h3 : timedB o with
      | false => simp [h1, h2, h3] at h
      | true =>
        clear h
        unfold namedB at h1
        simp only [Bool.and_eq_true, inB_iff] at h1
        obtain ⟨⟨a1, a2⟩, a3⟩ := h1
        unfold timedB at h3
        simp only [Bool.and_eq_true, inB_iff] at h3
        obtain ⟨a4, a5⟩ := h3
        cases hr : ruleOf o.kind o.meth with
        | none => rw [ruled_none hr] at h2; cases h2
        | some r =>
          rw [ruled_some hr] at h2
          obtain ⟨m1, m2, m3⟩ := rule_is hr
          obtain ⟨t1, t2, t3⟩ := tab_b m1
          unfold fitB at h2
          simp only [Bool.and_eq_true] at h2
          obtain ⟨⟨b1, b2⟩, b3⟩ := h2
          refine ⟨a1, a2, a3, by rw [← m2]; exact t1, by rw [← m3]; exact t2, arg_b b1, arg_b b2, a4, ?_, ?_, ?_⟩
          · unfold resB at b3
            split at b3
            · have := inB_iff.1 b3; omega
            · have : o.res = 0 := by simpa using b3
              omega
          · intro hd
            rw [hd, if_pos rfl] at a5
            simpa using a5
          · intro hd
            unfold resB at b3
            rw [hd] at a5 b3
            exact ⟨by simpa using a5, by simpa using b3⟩
theorem varS_len (k : Nat) {n : Int} (h0 : 0 ≤ n) (h : n < ((128 ^ (k + 1) : Nat) : Int)) : (varS n).size ≤ k + 1 := by
  unfold varS
  rw [strOfNums_size]
  exact varL_len k _ (by omega)
theorem head_size {o : OpV} (h : Fine o) : (varsS (headL o)).size ≤ 27 := by
  have e1 := varS_len 4 (n := o.id) (by have := h.id; omega) (by have := h.id; omega)
  have e2 := varS_len 1 (n := o.proc) (by have := h.proc; omega) (by have := h.proc; omega)
  have e3 := varS_len 1 (n := o.obj) (by have := h.obj; omega) (by have := h.obj; omega)
  have e4 := varS_len 0 (n := o.kind) (by have := h.kind; omega) (by have := h.kind; omega)
  have e5 := varS_len 0 (n := o.meth) (by have := h.meth; omega) (by have := h.meth; omega)
  have e6 := varS_len 4 (n := o.arg) (by have := h.arg; omega) (by have := h.arg; omega)
  have e7 := varS_len 4 (n := o.sec) (by have := h.sec; omega) (by have := h.sec; omega)
  have e8 := varS_len 5 (n := o.inv) (by have := h.inv; omega) (by have := h.inv; omega)
  show (varS o.id ++ (varS o.proc ++ (varS o.obj ++ (varS o.kind ++ (varS o.meth ++ (varS o.arg ++ (varS o.sec ++ (varS o.inv ++ ⟨#[]⟩)))))))).size ≤ 27
  simp only [ByteArray.size_append]
  have : (⟨#[]⟩ : ByteArray).size = 0 := rfl
  omega
theorem fold_b31 {n : Int} (h : -1073741824 ≤ n ∧ n ≤ 1073741824) : 0 ≤ foldZ n ∧ foldZ n ≤ 2147483648 := by unfold foldZ; split <;> omega
theorem rec_size {o : OpV} (h : Fine o) : (recS o).size ≤ 38 := by
  have e := head_size h
  cases hd : o.done
  · rw [rec_no hd]; omega
  · have hy := h.yes hd
    have hi := h.inv
    have hf := fold_b31 h.res
    have e1 := varS_len 5 (n := o.ret - o.inv) (by omega) (by omega)
    have e2 := varS_len 4 (n := foldZ o.res) (by omega) (by omega)
    rw [rec_yes hd]
    simp only [ByteArray.size_append]
    omega
theorem headL_b {o : OpV} (h : Fine o) : ∀ n ∈ headL o, 0 ≤ n ∧ n ≤ 1099511627776 := by
  intro n hn
  simp only [headL, List.mem_cons, List.not_mem_nil, or_false] at hn
  have := h.id; have := h.proc; have := h.obj; have := h.kind; have := h.meth; have := h.arg; have := h.sec; have := h.inv
  omega
theorem recL_b {o : OpV} (h : Fine o) : ∀ n ∈ recL o, 0 ≤ n ∧ n ≤ 1099511627776 := by
  intro n hn
  unfold recL at hn
  rcases List.mem_append.1 hn with hn | hn
  · exact headL_b h n hn
  · unfold tailL at hn
    split at hn
    · rename_i hd
      have hy := h.yes hd
      have hi := h.inv
      have hf := fold_b31 h.res
      simp only [List.mem_cons, List.not_mem_nil, or_false] at hn
      omega
    · simp at hn

/-! ### Reading -/
/-- At most so many numbers, and what stands behind them; none: something else stands in the text. -/
def numsP : Nat → ByteArray → Option (List Int × ByteArray)
  | 0, s => some ([], s)
  | f + 1, s => if s.size = 0 then some ([], s) else if (unvarP s).2 = 0 then none else (numsP f (s.extract (unvarP s).2.toNat s.size)).map fun x => ((unvarP s).1 :: x.1, x.2)
/-- The document's way: no number above MaxTime, nothing looked for behind the last one. -/
def refP : Nat → ByteArray → Option (List Int)
  | 0, _ => some []
  | f + 1, s => if s.size = 0 then some [] else if (unvarP s).2 = 0 then none else if 1099511627776 < (unvarP s).1 then none else (refP f (s.extract (unvarP s).2.toNat s.size)).map fun l => (unvarP s).1 :: l
theorem numsP_end (f : Nat) {s : ByteArray} (h : s.size = 0) : numsP f s = some ([], s) := by cases f <;> simp [numsP, h]
theorem numsP_bad (f : Nat) {s : ByteArray} (h : s.size ≠ 0) (hk : (unvarP s).2 = 0) : numsP (f + 1) s = none := by simp [numsP, h, hk]
theorem numsP_go (f : Nat) {s : ByteArray} (h : s.size ≠ 0) (hk : (unvarP s).2 ≠ 0) : numsP (f + 1) s = (numsP f (s.extract (unvarP s).2.toNat s.size)).map fun x => ((unvarP s).1 :: x.1, x.2) := by simp [numsP, h, hk]
theorem refP_end (f : Nat) {s : ByteArray} (h : s.size = 0) : refP f s = some [] := by cases f <;> simp [refP, h]
theorem refP_bad (f : Nat) {s : ByteArray} (h : s.size ≠ 0) (hk : (unvarP s).2 = 0) : refP (f + 1) s = none := by simp [refP, h, hk]
theorem refP_big (f : Nat) {s : ByteArray} (h : s.size ≠ 0) (hb : 1099511627776 < (unvarP s).1) : refP (f + 1) s = none := by
  by_cases hk : (unvarP s).2 = 0 <;> simp [refP, h, hk, hb]
theorem refP_go (f : Nat) {s : ByteArray} (h : s.size ≠ 0) (hk : (unvarP s).2 ≠ 0) (hb : ¬ 1099511627776 < (unvarP s).1) : refP (f + 1) s = (refP f (s.extract (unvarP s).2.toNat s.size)).map fun l => (unvarP s).1 :: l := by simp [refP, h, hk, hb]
/-- What is read is how it is written. -/
theorem nums_text : ∀ (f : Nat) (s : ByteArray) {l : List Int} {r : ByteArray}, numsP f s = some (l, r) → varsS l ++ r = s ∧ (∀ n ∈ l, 0 ≤ n ∧ n ≤ 18446744073709551615) ∧ l.length ≤ f
  | 0, s, l, r, h => by
    simp only [numsP, Option.some.injEq, Prod.mk.injEq] at h
    obtain ⟨rfl, rfl⟩ := h
    exact ⟨nil_cat _, fun n hn => by simp at hn, Nat.le_refl _⟩
  | f + 1, s, l, r, h => by
    by_cases h0 : s.size = 0
    · rw [numsP_end _ h0] at h
      simp only [Option.some.injEq, Prod.mk.injEq] at h
      obtain ⟨rfl, rfl⟩ := h
      exact ⟨nil_cat _, fun n hn => by simp at hn, Nat.zero_le _⟩
    · by_cases hk : (unvarP s).2 = 0
      · rw [numsP_bad _ h0 hk] at h; cases h
      · rw [numsP_go _ h0 hk, Option.map_eq_some_iff] at h
        obtain ⟨⟨l', r'⟩, h', e⟩ := h
        simp only [Prod.mk.injEq] at e
        obtain ⟨rfl, rfl⟩ := e
        obtain ⟨i1, i2, i3⟩ := nums_text f _ h'
        obtain ⟨b1, b2, b3, b4⟩ := unvar_forth (s := s) (n := (unvarP s).1) (k := (unvarP s).2) rfl hk
        refine ⟨?_, fun n hn => ?_, by simp; omega⟩
        · show varS _ ++ varsS l' ++ r' = s
          rw [ByteArray.append_assoc, i1, b4]
        · rcases List.mem_cons.1 hn with rfl | hn
          · exact b1
          · exact i2 n hn
/-- What is written is read. -/
theorem nums_back : ∀ (f : Nat) (l : List Int), l.length ≤ f → (∀ n ∈ l, 0 ≤ n ∧ n ≤ 18446744073709551615) → numsP f (varsS l) = some (l, ⟨#[]⟩)
  | f, [], _, _ => numsP_end f rfl
  | 0, _ :: _, h, _ => by simp at h
  | f + 1, n :: l, h, hb => by
    obtain ⟨h0, h1⟩ := hb n (by simp)
    have hp : 0 < (varS n).size := by unfold varS; rw [strOfNums_size]; exact varL_pos _
    have e := back_var n (varsS l) h0 h1
    have hs : (varS n ++ varsS l).size ≠ 0 := by rw [ByteArray.size_append]; omega
    show numsP (f + 1) (varS n ++ varsS l) = _
    rw [numsP_go f hs (by rw [e]; show ((varS n).size : Int) ≠ 0; omega), e]
    show (numsP f ((varS n ++ varsS l).extract (((varS n).size : Int)).toNat (varS n ++ varsS l).size)).map _ = _
    have hx : (varS n ++ varsS l).extract (((varS n).size : Int)).toNat (varS n ++ varsS l).size = varsS l := by
      rw [Int.toNat_natCast, ByteArray.size_append]
      exact ByteArray.extract_append_eq_right rfl rfl
    rw [hx, nums_back f l (by simpa using h) (fun m hm => hb m (by simp [hm]))]
    rfl
theorem ref_nums : ∀ (f : Nat) (s : ByteArray) {l : List Int}, refP (f + 1) s = some l → l.length ≤ f → ∃ r, numsP f s = some (l, r) ∧ r.size = 0
  | 0, s, l, h, hl => by
    by_cases h0 : s.size = 0
    · rw [refP_end _ h0] at h
      cases h
      exact ⟨s, rfl, h0⟩
    · by_cases hk : (unvarP s).2 = 0
      · rw [refP_bad _ h0 hk] at h; cases h
      · by_cases hb : 1099511627776 < (unvarP s).1
        · rw [refP_big _ h0 hb] at h; cases h
        · rw [refP_go _ h0 hk hb, Option.map_eq_some_iff] at h
          obtain ⟨l', _, rfl⟩ := h
          simp at hl
  | f + 1, s, l, h, hl => by
    by_cases h0 : s.size = 0
    · rw [refP_end _ h0] at h
      cases h
      exact ⟨s, numsP_end _ h0, h0⟩
    · by_cases hk : (unvarP s).2 = 0
      · rw [refP_bad _ h0 hk] at h; cases h
      · by_cases hb : 1099511627776 < (unvarP s).1
        · rw [refP_big _ h0 hb] at h; cases h
        · rw [refP_go _ h0 hk hb, Option.map_eq_some_iff] at h
          obtain ⟨l', h', rfl⟩ := h
          obtain ⟨r, h1, h2⟩ := ref_nums f _ h' (by simpa using hl)
          exact ⟨r, by rw [numsP_go _ h0 hk, h1]; rfl, h2⟩
theorem nums_ref : ∀ (f : Nat) (s : ByteArray) {l : List Int} {r : ByteArray}, numsP f s = some (l, r) → r.size = 0 → (refP (f + 1) s = some l ∧ ∀ n ∈ l, n ≤ 1099511627776) ∨ (refP (f + 1) s = none ∧ ∃ n ∈ l, 1099511627776 < n)
  | 0, s, l, r, h, hr => by
    simp only [numsP, Option.some.injEq, Prod.mk.injEq] at h
    obtain ⟨rfl, rfl⟩ := h
    exact .inl ⟨refP_end _ hr, fun n hn => by simp at hn⟩
  | f + 1, s, l, r, h, hr => by
    by_cases h0 : s.size = 0
    · rw [numsP_end _ h0] at h
      simp only [Option.some.injEq, Prod.mk.injEq] at h
      obtain ⟨rfl, rfl⟩ := h
      exact .inl ⟨refP_end _ h0, fun n hn => by simp at hn⟩
    · by_cases hk : (unvarP s).2 = 0
      · rw [numsP_bad _ h0 hk] at h; cases h
      · rw [numsP_go _ h0 hk, Option.map_eq_some_iff] at h
        obtain ⟨⟨l', r'⟩, h', e⟩ := h
        simp only [Prod.mk.injEq] at e
        obtain ⟨rfl, rfl⟩ := e
        by_cases hb : 1099511627776 < (unvarP s).1
        · exact .inr ⟨refP_big _ h0 hb, _, by simp, hb⟩
        · rcases nums_ref f _ h' hr with ⟨i1, i2⟩ | ⟨i1, n, i2, i3⟩
          · refine .inl ⟨by rw [refP_go _ h0 hk hb, i1]; rfl, fun n hn => ?_⟩
            rcases List.mem_cons.1 hn with rfl | hn
            · omega
            · exact i2 n hn
          · exact .inr ⟨by rw [refP_go _ h0 hk hb, i1]; rfl, n, by simp [i2], i3⟩
/-- A number without a sign, as one with a sign. -/
def signed (n : Int) : Int := IntKind.i64.wrap n
/-- The operation of these numbers. -/
def opOf (l : List Int) : OpV where
  id := signed (l.getD 0 0)
  proc := signed (l.getD 1 0)
  obj := signed (l.getD 2 0)
  kind := signed (l.getD 3 0)
  meth := signed (l.getD 4 0)
  arg := signed (l.getD 5 0)
  sec := signed (l.getD 6 0)
  done := l.length == 10
  res := if l.length = 10 then unfoldZ (l.getD 9 0) else 0
  inv := signed (l.getD 7 0)
  ret := if l.length = 10 then IntKind.i64.wrap (signed (l.getD 7 0) + signed (l.getD 8 0)) else 0
/-- The operation that a list of numbers is a record of. -/
def ofList (l : List Int) : Option OpV := if (l.length = 8 ∨ l.length = 10) ∧ checkZ (opOf l) = 0 then some (opOf l) else none
/-- The operation that a text is a record of. -/
def decZ (s : ByteArray) : Option OpV := match numsP 10 s with
  | none => none
  | some (l, r) => if r.size = 0 then ofList l else none
theorem signed_small {n : Int} (h0 : 0 ≤ n) (h1 : n ≤ 18446744073709551615) (h : 0 ≤ signed n) : signed n = n := by
  unfold signed at *
  simp only [IntKind.wrap_i64] at *
  omega
end Go.Proofs.YthgibogdbbebaaaDoor
