import Derived.Test.YtcjfnfdinhbdlaaGreatDoorGah
import Derived.Test.YtcjfnfdinhbdlaaGreatDoorGaq
import Derived.Test.YtcjfnfdinhbdlaaGreatDoorGad
import Derived.Lib.QuietBelow
import Derived.BigQuiet
namespace Go.Proofs.YtcjfnfdinhbdlaaGreatDoor
set_option maxRecDepth 100000
open Go.ChangeShapes Go.WideShapes Go.ChangeAt Go.RowKit Go.PlainAid
def varsS : List Int → ByteArray
  | [] => ⟨#[]⟩
  | n :: l => varS n ++ varsS l
theorem nil_cat (a : ByteArray) : ⟨#[]⟩ ++ a = a := by
  apply ByteArray.ext
  simp
theorem cat_nil (a : ByteArray) : a ++ ⟨#[]⟩ = a := by
  apply ByteArray.ext
  simp
theorem varsS_snoc (n : Int) : ∀ l : List Int, varsS (l ++ [n]) = varsS l ++ varS n
  | [] => by show varS n ++ ⟨#[]⟩ = ⟨#[]⟩ ++ varS n; rw [nil_cat, cat_nil]
  | x :: l => by
    show varS x ++ varsS (l ++ [n]) = varS x ++ varsS l ++ varS n
    rw [varsS_snoc n l, ByteArray.append_assoc]
theorem varsS_append (a : List Int) : ∀ l : List Int, varsS (l ++ a) = varsS l ++ varsS a
  | [] => (nil_cat _).symm
  | x :: l => by
    show varS x ++ varsS (l ++ a) = varS x ++ varsS l ++ varsS a
    rw [varsS_append a l, ByteArray.append_assoc]
def headL (o : OpV) : List Int := [o.id, o.proc, o.obj, o.kind, o.meth, o.arg, o.sec, o.inv]
def tailL (o : OpV) : List Int := if o.done then [o.ret - o.inv, foldZ o.res] else []
def recL (o : OpV) : List Int := headL o ++ tailL o
def recS (o : OpV) : ByteArray := varsS (recL o)
theorem rec_no {o : OpV} (h : o.done = false) : recS o = varsS (headL o) := by unfold recS recL tailL; rw [h]; simp
theorem rec_yes {o : OpV} (h : o.done = true) : recS o = varsS (headL o) ++ (varS (o.ret - o.inv) ++ varS (foldZ o.res)) := by
  unfold recS recL tailL
  rw [h, if_pos rfl, varsS_append]
  show _ ++ (varS _ ++ (varS _ ++ ⟨#[]⟩)) = _
  rw [cat_nil]
structure FineO (o : OpV) : Prop where
  id : 1 ≤ o.id ∧ o.id ≤ 1073741824
  proc : 0 ≤ o.proc ∧ o.proc ≤ 1023
  obj : 0 ≤ o.obj ∧ o.obj ≤ 1023
  kind : 1 ≤ o.kind ∧ o.kind ≤ 6
  meth : 1 ≤ o.meth ∧ o.meth ≤ 14
  arg : 0 ≤ o.arg ∧ o.arg ≤ 1073741824
  sec : 0 ≤ o.sec ∧ o.sec ≤ 1073741824
  inv : 0 ≤ o.inv ∧ o.inv ≤ 1099511627776
  res : -1073741824 ≤ o.res ∧ o.res ≤ 1073741824
  yes : o.done = true → o.inv < o.ret ∧ o.ret ≤ 1099511627776
  no : o.done = false → o.ret = 0 ∧ o.res = 0
theorem tab_b {r : RowV} (hr : r ∈ tab) : (1 ≤ r.kind ∧ r.kind ≤ 6) ∧ (1 ≤ r.meth ∧ r.meth ≤ 14) ∧ (-1073741824 ≤ r.low ∧ r.high ≤ 1073741824) := by
  simp only [tab, List.mem_cons, List.not_mem_nil, or_false] at hr
  rcases hr with rfl | rfl | rfl | rfl | rfl | rfl | rfl | rfl | rfl | rfl | rfl | rfl | rfl | rfl | rfl <;> decide
theorem rule_is {k m : Int} {r : RowV} (h : ruleOf k m = some r) : r ∈ tab ∧ r.kind = k ∧ r.meth = m := by
  refine ⟨List.mem_of_find?_eq_some h, ?_⟩
  have := List.find?_some h
  simpa using this
theorem arg_b {n : Int} {b : Bool} (h : argB n b = true) : 0 ≤ n ∧ n ≤ 1073741824 := by
  cases b
  · have : n = 0 := by simpa [argB] using h
    omega
  · exact inB_iff.1 h
theorem fine_of {o : OpV} (h : checkZ o = 0) : FineO o := by
  unfold checkZ at h
  cases h1 : namedB o with
  | false => simp [h1] at h
  | true =>
    cases h2 : ruledB o with
    | false => simp [h1, h2] at h
    | true =>
      cases h3 : timedB o with
      | false => simp [h1, h2, h3] at h
      | true =>
        clear h
        unfold namedB at h1
        simp only [Bool.and_eq_true, inB_iff] at h1
        obtain ⟨⟨a1, a2⟩, a3⟩ := h1
        unfold timedB at h3
        simp only [Bool.and_eq_true, inB_iff] at h3
        obtain ⟨a4, a5⟩ := h3
        cases hr : ruleOf o.kind o.meth with
        | none => rw [ruled_none hr] at h2; cases h2
        | some r =>
          rw [ruled_some hr] at h2
          obtain ⟨m1, m2, m3⟩ := rule_is hr
          obtain ⟨t1, t2, t3⟩ := tab_b m1
          unfold fitB at h2
          simp only [Bool.and_eq_true] at h2
          obtain ⟨⟨b1, b2⟩, b3⟩ := h2
          refine ⟨a1, a2, a3, by rw [← m2]; exact t1, by rw [← m3]; exact t2, arg_b b1, arg_b b2, a4, ?_, ?_, ?_⟩
          · unfold resB at b3
            split at b3
            · have := inB_iff.1 b3; omega
            · have : o.res = 0 := by simpa using b3
              omega
          · intro hd
            rw [hd, if_pos rfl] at a5
            simpa using a5
          · intro hd
            unfold resB at b3
            rw [hd] at a5 b3
            exact ⟨by simpa using a5, by simpa using b3⟩
theorem varS_len (k : Nat) {n : Int} (h0 : 0 ≤ n) (h : n < ((128 ^ (k + 1) : Nat) : Int)) : (varS n).size ≤ k + 1 := by
  unfold varS
  rw [strOfNums_size]
  exact varL_len k _ (by omega)
theorem head_size {o : OpV} (h : FineO o) : (varsS (headL o)).size ≤ 27 := by
  have e1 := varS_len 4 (n := o.id) (by have := h.id; omega) (by have := h.id; omega)
  have e2 := varS_len 1 (n := o.proc) (by have := h.proc; omega) (by have := h.proc; omega)
  have e3 := varS_len 1 (n := o.obj) (by have := h.obj; omega) (by have := h.obj; omega)
  have e4 := varS_len 0 (n := o.kind) (by have := h.kind; omega) (by have := h.kind; omega)
  have e5 := varS_len 0 (n := o.meth) (by have := h.meth; omega) (by have := h.meth; omega)
  have e6 := varS_len 4 (n := o.arg) (by have := h.arg; omega) (by have := h.arg; omega)
  have e7 := varS_len 4 (n := o.sec) (by have := h.sec; omega) (by have := h.sec; omega)
  have e8 := varS_len 5 (n := o.inv) (by have := h.inv; omega) (by have := h.inv; omega)
  show (varS o.id ++ (varS o.proc ++ (varS o.obj ++ (varS o.kind ++ (varS o.meth ++ (varS o.arg ++ (varS o.sec ++ (varS o.inv ++ ⟨#[]⟩)))))))).size ≤ 27
  simp only [ByteArray.size_append]
  have : (⟨#[]⟩ : ByteArray).size = 0 := rfl
  omega
theorem fold_b31 {n : Int} (h : -1073741824 ≤ n ∧ n ≤ 1073741824) : 0 ≤ foldZ n ∧ foldZ n ≤ 2147483648 := by unfold foldZ; split <;> omega
theorem rec_size {o : OpV} (h : FineO o) : (recS o).size ≤ 38 := by
  have e := head_size h
  cases hd : o.done
  · rw [rec_no hd]; omega
  · have hy := h.yes hd
    have hi := h.inv
    have hf := fold_b31 h.res
    have e1 := varS_len 5 (n := o.ret - o.inv) (by omega) (by omega)
    have e2 := varS_len 4 (n := foldZ o.res) (by omega) (by omega)
    rw [rec_yes hd]
    simp only [ByteArray.size_append]
    omega
theorem headL_b {o : OpV} (h : FineO o) : ∀ n ∈ headL o, 0 ≤ n ∧ n ≤ 1099511627776 := by
  intro n hn
  simp only [headL, List.mem_cons, List.not_mem_nil, or_false] at hn
  have := h.id; have := h.proc; have := h.obj; have := h.kind; have := h.meth; have := h.arg; have := h.sec; have := h.inv
  omega
theorem recL_b {o : OpV} (h : FineO o) : ∀ n ∈ recL o, 0 ≤ n ∧ n ≤ 1099511627776 := by
  intro n hn
  unfold recL at hn
  rcases List.mem_append.1 hn with hn | hn
  · exact headL_b h n hn
  · unfold tailL at hn
    split at hn
    · rename_i hd
      have hy := h.yes hd
      have hi := h.inv
      have hf := fold_b31 h.res
      simp only [List.mem_cons, List.not_mem_nil, or_false] at hn
      omega
    · simp at hn
def numsP : Nat → ByteArray → Option (List Int × ByteArray)
  | 0, s => some ([], s)
  | f + 1, s => if s.size = 0 then some ([], s) else if (unvarP s).2 = 0 then none else (numsP f (s.extract (unvarP s).2.toNat s.size)).map fun x => ((unvarP s).1 :: x.1, x.2)
theorem numsP_end (f : Nat) {s : ByteArray} (h : s.size = 0) : numsP f s = some ([], s) := by cases f <;> simp [numsP, h]
theorem numsP_bad (f : Nat) {s : ByteArray} (h : s.size ≠ 0) (hk : (unvarP s).2 = 0) : numsP (f + 1) s = none := by simp [numsP, h, hk]
theorem numsP_go (f : Nat) {s : ByteArray} (h : s.size ≠ 0) (hk : (unvarP s).2 ≠ 0) : numsP (f + 1) s = (numsP f (s.extract (unvarP s).2.toNat s.size)).map fun x => ((unvarP s).1 :: x.1, x.2) := by simp [numsP, h, hk]
theorem nums_text : ∀ (f : Nat) (s : ByteArray) {l : List Int} {r : ByteArray}, numsP f s = some (l, r) → varsS l ++ r = s ∧ (∀ n ∈ l, 0 ≤ n ∧ n ≤ 18446744073709551615) ∧ l.length ≤ f
  | 0, s, l, r, h => by
    simp only [numsP, Option.some.injEq, Prod.mk.injEq] at h
    obtain ⟨rfl, rfl⟩ := h
    exact ⟨nil_cat _, fun n hn => by simp at hn, Nat.le_refl _⟩
  | f + 1, s, l, r, h => by
    by_cases h0 : s.size = 0
    · rw [numsP_end _ h0] at h
      simp only [Option.some.injEq, Prod.mk.injEq] at h
      obtain ⟨rfl, rfl⟩ := h
      exact ⟨nil_cat _, fun n hn => by simp at hn, Nat.zero_le _⟩
    · by_cases hk : (unvarP s).2 = 0
      · rw [numsP_bad _ h0 hk] at h; cases h
      · rw [numsP_go _ h0 hk, Option.map_eq_some_iff] at h
        obtain ⟨⟨l', r'⟩, h', e⟩ := h
        simp only [Prod.mk.injEq] at e
        obtain ⟨rfl, rfl⟩ := e
        obtain ⟨i1, i2, i3⟩ := nums_text f _ h'
        obtain ⟨b1, b2, b3, b4⟩ := unvar_forth (s := s) (n := (unvarP s).1) (k := (unvarP s).2) rfl hk
        refine ⟨?_, fun n hn => ?_, by simp; omega⟩
        · show varS _ ++ varsS l' ++ r' = s
          rw [ByteArray.append_assoc, i1, b4]
        · rcases List.mem_cons.1 hn with rfl | hn
          · exact b1
          · exact i2 n hn
theorem nums_back : ∀ (f : Nat) (l : List Int), l.length ≤ f → (∀ n ∈ l, 0 ≤ n ∧ n ≤ 18446744073709551615) → numsP f (varsS l) = some (l, ⟨#[]⟩)
  | f, [], _, _ => numsP_end f rfl
  | 0, _ :: _, h, _ => by simp at h
  | f + 1, n :: l, h, hb => by
    obtain ⟨h0, h1⟩ := hb n (by simp)
    have hp : 0 < (varS n).size := by unfold varS; rw [strOfNums_size]; exact varL_pos _
    have e := back_var n (varsS l) h0 h1
    have hs : (varS n ++ varsS l).size ≠ 0 := by rw [ByteArray.size_append]; omega
    show numsP (f + 1) (varS n ++ varsS l) = _
    rw [numsP_go f hs (by rw [e]; show ((varS n).size : Int) ≠ 0; omega), e]
    show (numsP f ((varS n ++ varsS l).extract (((varS n).size : Int)).toNat (varS n ++ varsS l).size)).map _ = _
    have hx : (varS n ++ varsS l).extract (((varS n).size : Int)).toNat (varS n ++ varsS l).size = varsS l := by
      rw [Int.toNat_natCast, ByteArray.size_append]
      exact ByteArray.extract_append_eq_right rfl rfl
    rw [hx, nums_back f l (by simpa using h) (fun m hm => hb m (by simp [hm]))]
    rfl
def signed (n : Int) : Int := IntKind.i64.wrap n
def opOf (l : List Int) : OpV where
  id := signed (l.getD 0 0)
  proc := signed (l.getD 1 0)
  obj := signed (l.getD 2 0)
  kind := signed (l.getD 3 0)
  meth := signed (l.getD 4 0)
  arg := signed (l.getD 5 0)
  sec := signed (l.getD 6 0)
  done := l.length == 10
  res := if l.length = 10 then unfoldZ (l.getD 9 0) else 0
  inv := signed (l.getD 7 0)
  ret := if l.length = 10 then IntKind.i64.wrap (signed (l.getD 7 0) + signed (l.getD 8 0)) else 0
def ofList (l : List Int) : Option OpV := if (l.length = 8 ∨ l.length = 10) ∧ checkZ (opOf l) = 0 then some (opOf l) else none
def decZ (s : ByteArray) : Option OpV := match numsP 10 s with
  | none => none
  | some (l, r) => if r.size = 0 then ofList l else none
theorem signed_small {n : Int} (h0 : 0 ≤ n) (h1 : n ≤ 18446744073709551615) (h : 0 ≤ signed n) : signed n = n := by
  unfold signed at *
  simp only [IntKind.wrap_i64] at *
  omega
end Go.Proofs.YtcjfnfdinhbdlaaGreatDoor
namespace Go.Proofs.YtcjfnfdinhbdlaaGreatDoor
set_option maxRecDepth 100000
open Go.ChangeShapes Go.WideShapes Go.ChangeAt Go.RowKit Go.PlainAid
theorem signed_is {n : Int} (h0 : 0 ≤ n) (h1 : n ≤ 1099511627776) : signed n = n := by
  unfold signed
  rw [IntKind.wrap_i64]
  omega
theorem head_len (o : OpV) : (headL o).length = 8 := rfl
theorem rec_len (o : OpV) : (recL o).length = if o.done then 10 else 8 := by
  unfold recL tailL
  rw [List.length_append, head_len]
  split <;> rfl
theorem op_rec {o : OpV} (h : FineO o) : opOf (recL o) = o := by
  have a1 := h.id; have a2 := h.proc; have a3 := h.obj; have a4 := h.kind; have a5 := h.meth; have a6 := h.arg; have a7 := h.sec; have a8 := h.inv
  cases hd : o.done
  · obtain ⟨n1, n2⟩ := h.no hd
    obtain ⟨i, p, b, k, m, a, s, d, r, v, t⟩ := o
    simp only at *
    subst hd n1 n2
    have s0 : signed i = i := signed_is (by omega) (by omega)
    have s1 : signed p = p := signed_is (by omega) (by omega)
    have s2 : signed b = b := signed_is (by omega) (by omega)
    have s3 : signed k = k := signed_is (by omega) (by omega)
    have s4 : signed m = m := signed_is (by omega) (by omega)
    have s5 : signed a = a := signed_is (by omega) (by omega)
    have s6 : signed s = s := signed_is (by omega) (by omega)
    have s7 : signed v = v := signed_is (by omega) (by omega)
    simp [opOf, recL, headL, tailL, s0, s1, s2, s3, s4, s5, s6, s7]
  · obtain ⟨y1, y2⟩ := h.yes hd
    have hr := h.res
    obtain ⟨i, p, b, k, m, a, s, d, r, v, t⟩ := o
    simp only at *
    subst hd
    have e1 : signed (t - v) = t - v := signed_is (by omega) (by omega)
    have e2 : IntKind.i64.wrap (v + (t - v)) = t := by rw [IntKind.wrap_i64]; omega
    have s0 : signed i = i := signed_is (by omega) (by omega)
    have s1 : signed p = p := signed_is (by omega) (by omega)
    have s2 : signed b = b := signed_is (by omega) (by omega)
    have s3 : signed k = k := signed_is (by omega) (by omega)
    have s4 : signed m = m := signed_is (by omega) (by omega)
    have s5 : signed a = a := signed_is (by omega) (by omega)
    have s6 : signed s = s := signed_is (by omega) (by omega)
    have s7 : signed v = v := signed_is (by omega) (by omega)
    simp [opOf, recL, headL, tailL, s0, s1, s2, s3, s4, s5, s6, s7, e1, e2, unfold_fold]
theorem of_rec {o : OpV} (h : checkZ o = 0) : ofList (recL o) = some o := by
  unfold ofList
  rw [op_rec (fine_of h), if_pos ⟨by rw [rec_len]; split <;> simp, h⟩]
theorem dec_enc {o : OpV} (h : checkZ o = 0) : decZ (recS o) = some o := by
  have e := nums_back 10 (recL o) (by rw [rec_len]; split <;> omega) (fun n hn => by have := recL_b (fine_of h) n hn; omega)
  unfold decZ recS
  rw [e]
  show (if (⟨#[]⟩ : ByteArray).size = 0 then ofList (recL o) else none) = some o
  rw [if_pos (show (⟨#[]⟩ : ByteArray).size = 0 from rfl), of_rec h]
theorem rec_op {l : List Int} (hb : ∀ n ∈ l, 0 ≤ n ∧ n ≤ 18446744073709551615) (hl : l.length = 8 ∨ l.length = 10) (h : FineO (opOf l)) : recL (opOf l) = l := by
  have ss : ∀ (i : Nat), 0 ≤ signed (l.getD i 0) → signed (l.getD i 0) = l.getD i 0 := fun i hi => by
    rw [List.getD_eq_getElem?_getD] at *
    cases hn : l[i]? with
    | none => rfl
    | some n =>
      rw [hn] at hi
      obtain ⟨b0, b1⟩ := hb n (List.mem_of_getElem? hn)
      exact signed_small b0 b1 hi
  have a1 := ss 0 (by have : 1 ≤ signed (l.getD 0 0) := h.id.1; omega)
  have a2 := ss 1 h.proc.1
  have a3 := ss 2 h.obj.1
  have a4 := ss 3 (by have : 1 ≤ signed (l.getD 3 0) := h.kind.1; omega)
  have a5 := ss 4 (by have : 1 ≤ signed (l.getD 4 0) := h.meth.1; omega)
  have a6 := ss 5 h.arg.1
  have a7 := ss 6 h.sec.1
  have a8 := ss 7 h.inv.1
  have hv := h.inv
  have hy := h.yes
  rcases hl with hl | hl
  · have hd : (opOf l).done = false := by show (l.length == 10) = false; rw [hl]; rfl
    unfold recL tailL
    rw [hd]
    match l, hl with
    | [x0, x1, x2, x3, x4, x5, x6, x7], _ =>
      show [signed x0, signed x1, signed x2, signed x3, signed x4, signed x5, signed x6, signed x7] ++ [] = _
      rw [show signed x0 = x0 from a1, show signed x1 = x1 from a2, show signed x2 = x2 from a3, show signed x3 = x3 from a4, show signed x4 = x4 from a5, show signed x5 = x5 from a6, show signed x6 = x6 from a7, show signed x7 = x7 from a8]
      rfl
  · have hd : (opOf l).done = true := by show (l.length == 10) = true; rw [hl]; rfl
    unfold recL tailL
    rw [hd]
    match l, hl with
    | [x0, x1, x2, x3, x4, x5, x6, x7, x8, x9], _ =>
      have hv' : 0 ≤ signed x7 ∧ signed x7 ≤ 1099511627776 := hv
      have hy' : signed x7 < IntKind.i64.wrap (signed x7 + signed x8) ∧ IntKind.i64.wrap (signed x7 + signed x8) ≤ 1099511627776 := hy hd
      obtain ⟨b0, b1⟩ := hb x8 (by simp)
      obtain ⟨c0, c1⟩ := hb x9 (by simp)
      have e8 : IntKind.i64.wrap (signed x7 + signed x8) - signed x7 = x8 := by
        unfold signed at *
        simp only [IntKind.wrap_i64] at *
        omega
      show [signed x0, signed x1, signed x2, signed x3, signed x4, signed x5, signed x6, signed x7] ++ [IntKind.i64.wrap (signed x7 + signed x8) - signed x7, foldZ (unfoldZ x9)] = _
      rw [e8, fold_unfold x9 c0, show signed x0 = x0 from a1, show signed x1 = x1 from a2, show signed x2 = x2 from a3, show signed x3 = x3 from a4, show signed x4 = x4 from a5, show signed x5 = x5 from a6, show signed x6 = x6 from a7, show signed x7 = x7 from a8]
      rfl
theorem enc_dec {s : ByteArray} {o : OpV} (h : decZ s = some o) : checkZ o = 0 ∧ recS o = s := by
  unfold decZ at h
  split at h
  · cases h
  · rename_i l r hn
    split at h
    · rename_i hr
      unfold ofList at h
      split at h
      · rename_i hc
        cases h
        obtain ⟨t1, t2, t3⟩ := nums_text 10 s hn
        refine ⟨hc.2, ?_⟩
        have e : r = ⟨#[]⟩ := by
          apply ByteArray.ext
          exact Array.eq_empty_of_size_eq_zero hr
        unfold recS
        rw [rec_op t2 hc.1 (fine_of hc.2)]
        rw [e, cat_nil] at t1
        exact t1
      · cases h
    · cases h
theorem other_no {l : List Int} (h : ¬ (l.length = 8 ∨ l.length = 10)) : ofList l = none := by
  unfold ofList
  rw [if_neg fun c => h c.1]
end Go.Proofs.YtcjfnfdinhbdlaaGreatDoor
namespace Go.Proofs.YtcjfnfdinhbdlaaGreatDoor
set_option maxRecDepth 100000
open Go.ChangeShapes Go.WideShapes Go.ChangeAt Go.RowKit Go.PlainAid
open Go.Sort (grow)
theorem varsS_len : ∀ (l : List Int), (∀ n ∈ l, 0 ≤ n ∧ n ≤ 1099511627776) → (varsS l).size ≤ 10 * l.length
  | [], _ => Nat.zero_le _
  | n :: l, h => by
    have h1 := h n (by simp)
    have e := varS_size n (by omega) (by omega)
    have e2 := varsS_len l fun m hm => h m (by simp [hm])
    show (varS n ++ varsS l).size ≤ _
    rw [ByteArray.size_append, List.length_cons]
    omega
def idx8 (v i : Value) : Sem Value := Instr.index 252 v i
theorem index_8 (v i : Value) : Instr.index 252 v i = idx8 v i := rfl
theorem run_idx8 (x0 x1 x2 x3 x4 x5 x6 x7 : Int) (w : World) : ∀ (k : Nat) (x : Int), [x0, x1, x2, x3, x4, x5, x6, x7][k]? = some x → (idx8 (.agg #[.int .i64 x0, .int .i64 x1, .int .i64 x2, .int .i64 x3, .int .i64 x4, .int .i64 x5, .int .i64 x6, .int .i64 x7]) (.int .i64 k)).run Tryz.prog w = .ok (.int .i64 x) w
  | 0, _, h => by cases h; kernel_rfl
  | 1, _, h => by cases h; kernel_rfl
  | 2, _, h => by cases h; kernel_rfl
  | 3, _, h => by cases h; kernel_rfl
  | 4, _, h => by cases h; kernel_rfl
  | 5, _, h => by cases h; kernel_rfl
  | 6, _, h => by cases h; kernel_rfl
  | 7, _, h => by cases h; kernel_rfl
  | k + 8, _, h => by simp at h
attribute [local go_sem ↓ high] load_op index_8
theorem fold_u64 {n : Int} (h : -1073741824 ≤ n ∧ n ≤ 1073741824) : 0 ≤ foldZ n ∧ foldZ n ≤ 18446744073709551615 := by have := fold_b31 h; omega
set_option maxHeartbeats 1000000 in
theorem encode_no (o : OpV) (w : World) (hR : RulesAt w) (h : checkZ o ≠ 0) : Calls Tryz.prog 133 #[Value.agg #[Value.int .i64 o.id, Value.int .i64 o.proc, Value.int .i64 o.obj, Value.int .i64 o.kind, Value.int .i64 o.meth, Value.int .i64 o.arg, Value.int .i64 o.sec, Value.bool o.done, Value.int .i64 o.res, Value.int .i64 o.inv, Value.int .i64 o.ret]] w fun e w' => e = .returned (.tuple #[.string ⟨#[]⟩, .int .i64 (checkZ o)]) ∧ Below w.heap.size w w' := by
  have HB := Lib.hid (show Below w.heap.size w (w.alloc (.cells #[Value.int .i64 o.id, Value.int .i64 o.proc, Value.int .i64 o.obj, Value.int .i64 o.kind, Value.int .i64 o.meth, Value.int .i64 o.arg, Value.int .i64 o.sec, Value.bool o.done, Value.int .i64 o.res, Value.int .i64 o.inv, Value.int .i64 o.ret] 32)) by go_grown)
  have l0 := (OpAt.box w o).load
  have HR := Lib.hid (hR.on HB.out)
  obtain ⟨z, hz⟩ : ∃ z, checkZ o = z := ⟨_, rfl⟩
  rw [hz] at h ⊢
  have HZ := Lib.hid hz
  have h' : (z == 0) = false := beq_eq_false_iff_ne.2 h
  clear hR hz
  go_enter Tryz.func133, Tryz.ntmps133
  go_wp2_with fail
  refine (ocheck_any o _ HR.out).mono ?_
  rintro _ w1 ⟨rfl, hb1⟩
  rw [HZ.out]
  have HB1 := Lib.hid (HB.out.on hb1)
  clear hb1
  go_wp2_with fail
  go_returns
  exact ⟨rfl, HB1.out⟩
set_option maxHeartbeats 2000000 in
theorem encode_ok (o : OpV) (w : World) (hR : RulesAt w) (h : checkZ o = 0) : Calls Tryz.prog 133 #[Value.agg #[Value.int .i64 o.id, Value.int .i64 o.proc, Value.int .i64 o.obj, Value.int .i64 o.kind, Value.int .i64 o.meth, Value.int .i64 o.arg, Value.int .i64 o.sec, Value.bool o.done, Value.int .i64 o.res, Value.int .i64 o.inv, Value.int .i64 o.ret]] w fun e w' => e = .returned (.tuple #[.string (recS o), .int .i64 0]) ∧ Below w.heap.size w w' := by
  have HB := Lib.hid (show Below w.heap.size w (w.alloc (.cells #[Value.int .i64 o.id, Value.int .i64 o.proc, Value.int .i64 o.obj, Value.int .i64 o.kind, Value.int .i64 o.meth, Value.int .i64 o.arg, Value.int .i64 o.sec, Value.bool o.done, Value.int .i64 o.res, Value.int .i64 o.inv, Value.int .i64 o.ret] 32)) by go_grown)
  have l0 := (OpAt.box w o).load
  have HR := Lib.hid (hR.on HB.out)
  have HF := Lib.hid (fine_of h)
  have HZ := Lib.hid h
  clear hR h
  go_enter Tryz.func133, Tryz.ntmps133
  go_wp2_with fail
  clear l0
  refine (ocheck_any o _ HR.out).mono ?_
  rintro _ w1 ⟨rfl, hb1⟩
  rw [HZ.out]
  have OA1 := Lib.hid ((OpAt.box w o).on hb1)
  have HB1 := Lib.hid (HB.out.on hb1)
  obtain ⟨k0, k1, k2, k3, k4, k5, k6, k7, k8, k9, k10⟩ := OA1.out.cell
  clear hb1
  go_wp2_with fail
  clear k0 k1 k2 k3 k4 k5 k6 k7 k8 k9 k10
  go_loopw [5, 30] (fun s i wr => ∃ k : Nat, k ≤ 8 ∧ i = .int .i64 k ∧ s = .string (varsS ((headL o).take k)) ∧ Below w1.heap.size w1 wr) (fun _ i _ => 8 - (intOf i).toNat)
  case atStart => exact ⟨0, Nat.zero_le _, rfl, rfl, Below.refl _ _⟩
  case round =>
    obtain ⟨k, hk, rfl, rfl, hb⟩ := hrel
    have HW := Lib.hid hb
    clear hb
    by_cases hlt : k < 8
    · obtain ⟨x, hx⟩ : ∃ x, (headL o)[k]? = some x := ⟨_, List.getElem?_eq_getElem hlt⟩
      have hi := run_idx8 o.id o.proc o.obj o.kind o.meth o.arg o.sec o.inv wr k x hx
      have hxb := headL_b HF.out x (List.mem_of_getElem? hx)
      obtain ⟨x0, x1⟩ := hxb
      have hn := Lib.hid (show varsS ((headL o).take (k + 1)) = varsS ((headL o).take k) ++ varS x by rw [List.take_add_one, hx]; exact varsS_snoc _ _)
      have hs1 : (varsS ((headL o).take k)).size ≤ 80 := Nat.le_trans (varsS_len _ fun n hn => headL_b HF.out n (List.mem_of_mem_take hn)) (by rw [List.length_take]; omega)
      have hs2 := varS_size x x0 (by omega)
      clear hx
      go_wp2_with fail
      refine (var_any x x0 (by omega) _).mono ?_
      rintro _ w2 ⟨rfl, hb2⟩
      have HB2 := Lib.hid (HW.out.on hb2)
      clear hb2
      go_wp2_with fail
      go_roundw
      case rel => exact ⟨k + 1, by omega, by go_num, by rw [hn.out], HB2.out⟩
      case measure => simp [intOf]; omega
    · obtain rfl : k = 8 := by omega
      have HB2 := Lib.hid (HB1.out.on HW.out)
      have oa := OA1.out.on HW.out
      have ht := Lib.hid (show (headL o).take 8 = headL o from rfl)
      obtain ⟨_, _, _, _, _, _, _, k7, k8, k9, k10⟩ := oa.cell
      cases hd : o.done
      · have hn := Lib.hid (rec_no hd)
        rw [hd] at k7
        clear hd
        go_wp2_with fail
        go_returns
        exact ⟨by rw [hn.out]; rfl, HB2.out⟩
      · have hn := Lib.hid (rec_yes hd)
        obtain ⟨y1, y2⟩ := HF.out.yes hd
        obtain ⟨v1, v2⟩ := HF.out.inv
        obtain ⟨f1, f2⟩ := fold_u64 HF.out.res
        have hr := HF.out.res
        rw [hd] at k7
        rw [ht.out]
        have c8 := fun d os => cell_regrown k8 d os
        have c9 := fun d os => cell_regrown k9 d os
        have c10 := fun d os => cell_regrown k10 d os
        have hs1 := head_size HF.out
        have hs2 := varS_size (o.ret - o.inv) (by omega) (by omega)
        have hs3 := varS_size (foldZ o.res) f1 f2
        have C1 := Lib.hid (show ∀ d os, Calls Tryz.prog 186 #[.int .u64 (o.ret - o.inv)] (grow (redrawn wr d) os) fun e w'' => e = .returned (.string (varS (o.ret - o.inv))) ∧ ∃ p : Regrown, w'' = grow (redrawn wr p.d) p.os from fun d os => Calls.regrown_of (var_any _ (by omega) (by omega) _))
        have C2 := Lib.hid (show ∀ d os, Calls Tryz.prog 187 #[.int .i64 o.res] (grow (redrawn wr d) os) fun e w'' => e = .returned (.int .u64 (foldZ o.res)) ∧ ∃ p : Regrown, w'' = grow (redrawn wr p.d) p.os from fun d os => Calls.regrown_of ((fold_any o.res _ (by omega) (by omega)).mono fun _ _ ⟨he, hw⟩ => ⟨he, hw ▸ Below.refl _ _⟩))
        have C3 := Lib.hid (show ∀ d os, Calls Tryz.prog 186 #[.int .u64 (foldZ o.res)] (grow (redrawn wr d) os) fun e w'' => e = .returned (.string (varS (foldZ o.res))) ∧ ∃ p : Regrown, w'' = grow (redrawn wr p.d) p.os from fun d os => Calls.regrown_of (var_any _ f1 f2 _))
        have s1 : IntKind.i64.wrap (o.ret - o.inv) = o.ret - o.inv := IntWalk.i64_in _ (by omega)
        have s2 : IntKind.u64.wrap (o.ret - o.inv) = o.ret - o.inv := IntWalk.u64_in _ (by omega)
        clear hd oa
        go_wp2_with fail
        clear k7 k8 k9 k10
        refine wp_region_quiet_below (by kernel_rfl) (by kernel_rfl) ?_
        repeat (go_big_quiet_step (first | (with_reducible exact C1.out _ _) | (with_reducible exact C2.out _ _) | (with_reducible exact C3.out _ _)))
        refine wpQuiet_nil ?_
        intro _ hw'
        obtain ⟨⟨dq, osq⟩, hw''⟩ := hw'
        subst hw''
        go_wp2
        go_returns
        exact ⟨by rw [hn.out]; rfl, HB2.out.on (below_regrown wr dq osq)⟩
end Go.Proofs.YtcjfnfdinhbdlaaGreatDoor
