/- Records of operations: what is written is read, what is read is how it is written, and the document's way to read is that of the code. -/
import Derived.Test.YthgibogdbbebaaaDoorOpP
namespace Go.Proofs.YthgibogdbbebaaaDoor
set_option maxRecDepth 100000
open Go.ChangeShapes Go.WideShapes Go.ChangeAt Go.RowKit Go.PlainAid

theorem signed_is {n : Int} (h0 : 0 ≤ n) (h1 : n ≤ 1099511627776) : signed n = n := by
  unfold signed
  rw [IntKind.wrap_i64]
  omega
theorem head_len (o : OpV) : (headL o).length = 8 := rfl
theorem rec_len (o : OpV) : (recL o).length = if o.done then 10 else 8 := by
  unfold recL tailL
  rw [List.length_append, head_len]
  split <;> rfl
theorem op_rec {o : OpV} (h : Fine o) : opOf (recL o) = o := by
  have a1 := h.id; have a2 := h.proc; have a3 := h.obj; have a4 := h.kind; have a5 := h.meth; have a6 := h.arg; have a7 := h.sec; have a8 := h.inv
  cases hd : o.done
  · obtain ⟨n1, n2⟩ := h.no hd
    obtain ⟨i, p, b, k, m, a, s, d, r, v, t⟩ := o
    simp only at *
    subst hd n1 n2
    have s0 : signed i = i := signed_is (by omega) (by omega)
    have s1 : signed p = p := signed_is (by omega) (by omega)
    have s2 : signed b = b := signed_is (by omega) (by omega)
    have s3 : signed k = k := signed_is (by omega) (by omega)
    have s4 : signed m = m := signed_is (by omega) (by omega)
    have s5 : signed a = a := signed_is (by omega) (by omega)
    have s6 : signed s = s := signed_is (by omega) (by omega)
    have s7 : signed v = v := signed_is (by omega) (by omega)
    simp [opOf, recL, headL, tailL, s0, s1, s2, s3, s4, s5, s6, s7]
  · obtain ⟨y1, y2⟩ := h.yes hd
    have hr := h.res
    obtain ⟨i, p, b, k, m, a, s, d, r, v, t⟩ := o
    simp only at *
    subst hd
    have e1 : signed (t - v) = t - v := signed_is (by omega) (by omega)
    have e2 : IntKind.i64.wrap (v + (t - v)) = t := by rw [IntKind.wrap_i64]; omega
    have s0 : signed i = i := signed_is (by omega) (by omega)
    have s1 : signed p = p := signed_is (by omega) (by omega)
    have s2 : signed b = b := signed_is (by omega) (by omega)
    have s3 : signed k = k := signed_is (by omega) (by omega)
    have s4 : signed m = m := signed_is (by omega) (by omega)
    have s5 : signed a = a := signed_is (by omega) (by omega)
    have s6 : signed s = s := signed_is (by omega) (by omega)
    have s7 : signed v = v := signed_is (by omega) (by omega)
    simp [opOf, recL, headL, tailL, s0, s1, s2, s3, s4, s5, s6, s7, e1, e2, unfold_fold]
theorem of_rec {o : OpV} (h : checkZ o = 0) : ofList (recL o) = some o := by
  unfold ofList
  rw [op_rec (fine_of h), if_pos ⟨by rw [rec_len]; split <;> simp, h⟩]
/-- What is written is read. -/
theorem dec_enc {o : OpV} (h : checkZ o = 0) : decZ (recS o) = some o := by
  have e := nums_back 10 (recL o) (by rw [rec_len]; split <;> omega) (fun n hn => by have := recL_b (fine_of h) n hn; omega)
  unfold decZ recS
  rw [e]
  show (if (⟨#[]⟩ : ByteArray).size = 0 then ofList (recL o) else none) = some o
  rw [if_pos (show (⟨#[]⟩ : ByteArray).size = 0 from rfl), of_rec h]
theorem rec_op {l : List Int} (hb : ∀ n ∈ l, 0 ≤ n ∧ n ≤ 18446744073709551615) (hl : l.length = 8 ∨ l.length = 10) (h : Fine (opOf l)) : recL (opOf l) = l := by
  have ss : ∀ (i : Nat), 0 ≤ signed (l.getD i 0) → signed (l.getD i 0) = l.getD i 0 := fun i hi => by
    rw [List.getD_eq_getElem?_getD] at *
    cases hn : l[i]? with
    | none => rfl
    | some n =>
      rw [hn] at hi
      obtain ⟨b0, b1⟩ := hb n (List.mem_of_getElem? hn)
      exact signed_small b0 b1 hi
  have a1 := ss 0 (by have : 1 ≤ signed (l.getD 0 0) := h.id.1; omega)
  have a2 := ss 1 h.proc.1
  have a3 := ss 2 h.obj.1
  have a4 := ss 3 (by have : 1 ≤ signed (l.getD 3 0) := h.kind.1; omega)
  have a5 := ss 4 (by have : 1 ≤ signed (l.getD 4 0) := h.meth.1; omega)
  have a6 := ss 5 h.arg.1
  have a7 := ss 6 h.sec.1
  have a8 := ss 7 h.inv.1
  have hv := h.inv
  have hy := h.yes
  rcases hl with hl | hl
  · have hd : (opOf l).done = false := by show (l.length == 10) = false; rw [hl]; rfl
    unfold recL tailL
    rw [hd]
    match l, hl with
    | [x0, x1, x2, x3, x4, x5, x6, x7], _ =>
      show [signed x0, signed x1, signed x2, signed x3, signed x4, signed x5, signed x6, signed x7] ++ [] = _
      rw [show signed x0 = x0 from a1, show signed x1 = x1 from a2, show signed x2 = x2 from a3, show signed x3 = x3 from a4, show signed x4 = x4 from a5, show signed x5 = x5 from a6, show signed x6 = x6 from a7, show signed x7 = x7 from a8]
      rfl
  · have hd : (opOf l).done = true := by show (l.length == 10) = true; rw [hl]; rfl
    unfold recL tailL
    rw [hd]
    match l, hl with
    | [x0, x1, x2, x3, x4, x5, x6, x7, x8, x9], _ =>
      have hv' : 0 ≤ signed x7 ∧ signed x7 ≤ 1099511627776 := hv
      have hy' : signed x7 < IntKind.i64.wrap (signed x7 + signed x8) ∧ IntKind.i64.wrap (signed x7 + signed x8) ≤ 1099511627776 := hy hd
      obtain ⟨b0, b1⟩ := hb x8 (by simp)
      obtain ⟨c0, c1⟩ := hb x9 (by simp)
      have e8 : IntKind.i64.wrap (signed x7 + signed x8) - signed x7 = x8 := by
        unfold signed at *
        simp only [IntKind.wrap_i64] at *
        omega
      show [signed x0, signed x1, signed x2, signed x3, signed x4, signed x5, signed x6, signed x7] ++ [IntKind.i64.wrap (signed x7 + signed x8) - signed x7, foldZ (unfoldZ x9)] = _
      rw [e8, fold_unfold x9 c0, show signed x0 = x0 from a1, show signed x1 = x1 from a2, show signed x2 = x2 from a3, show signed x3 = x3 from a4, show signed x4 = x4 from a5, show signed x5 = x5 from a6, show signed x6 = x6 from a7, show signed x7 = x7 from a8]
      rfl
/-- What is read is how it is written. -/
theorem enc_dec {s : ByteArray} {o : OpV} (h : decZ s = some o) : checkZ o = 0 ∧ recS o = s := by
  unfold decZ at h
  split at h
  · cases h
  · rename_i l r hn
    split at h
    · rename_i hr
      unfold ofList at h
      split at h
      · rename_i hc
        cases h
        obtain ⟨t1, t2, t3⟩ := nums_text 10 s hn
        refine ⟨hc.2, ?_⟩
        have e : r = ⟨#[]⟩ := by
          apply ByteArray.ext
          exact Array.eq_empty_of_size_eq_zero hr
        unfold recS
        rw [rec_op t2 hc.1 (fine_of hc.2)]
        rw [e, cat_nil] at t1
        exact t1
      · cases h
    · cases h
/-- A list with a number that is too great is no operation's. -/
theorem big_no {l : List Int} (hb : ∀ n ∈ l, 0 ≤ n ∧ n ≤ 18446744073709551615) {n : Int} (hn : n ∈ l) (h : 1099511627776 < n) : ofList l = none := by
  unfold ofList
  split
  · rename_i hc
    have e := rec_op hb hc.1 (fine_of hc.2)
    have := recL_b (fine_of hc.2) n (by rw [e]; exact hn)
    omega
  · rfl
theorem other_no {l : List Int} (h : ¬ (l.length = 8 ∨ l.length = 10)) : ofList l = none := by
  unfold ofList
  rw [if_neg fun c => h c.1]
/-- The document's way to read is that of the code. -/
theorem ref_dec (s : ByteArray) : decZ s = (refP 11 s).bind ofList := by
  unfold decZ
  cases hn : numsP 10 s with
  | none =>
    cases hr : refP 11 s with
    | none => rfl
    | some l =>
      show none = ofList l
      by_cases hl : l.length ≤ 10
      · obtain ⟨r, h1, _⟩ := ref_nums 10 s hr hl
        rw [hn] at h1; cases h1
      · rw [other_no (by omega)]
  | some x =>
    obtain ⟨l, r⟩ := x
    show (if r.size = 0 then ofList l else none) = _
    by_cases hr : r.size = 0
    · rw [if_pos hr]
      rcases nums_ref 10 s hn hr with ⟨i1, _⟩ | ⟨i1, n, i2, i3⟩
      · rw [i1]; rfl
      · rw [i1, big_no (nums_text 10 s hn).2.1 i2 i3]; rfl
    · rw [if_neg hr]
      cases hq : refP 11 s with
      | none => rfl
      | some l' =>
        show none = ofList l'
        by_cases hl : l'.length ≤ 10
        · obtain ⟨r', h1, h2⟩ := ref_nums 10 s hq hl
          rw [hn] at h1
          cases h1
          exact absurd h2 hr
        · rw [other_no (by omega)]
end Go.Proofs.YthgibogdbbebaaaDoor
