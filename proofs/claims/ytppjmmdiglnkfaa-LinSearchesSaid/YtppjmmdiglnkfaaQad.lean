/- Histories as plain lists, over no dump: what may be, and what edits leave. O: operations; H: what is asked of one. -/
import Derived.WalkKit
namespace Go.Proofs.Ytppjmmdiglnkfaa.Hs

/-- What a history asks of its operations. -/
structure Look (O : Type) where
  id : O → Int
  obj : O → Int
  kind : O → Int
  proc : O → Int
  done : O → Bool
  chk : O → Int
  bef : O → O → Bool
section
variable {O : Type} (H : Look O)

/-- Another operation of its object has another kind. -/
def otherKind (a o : O) : Prop := H.id a ≠ H.id o ∧ H.obj a = H.obj o ∧ H.kind a ≠ H.kind o
/-- Another operation of its process overlaps it. -/
def overlaps (a o : O) : Prop := H.id a ≠ H.id o ∧ H.proc a = H.proc o ∧ H.bef a o = false ∧ H.bef o a = false
theorem otherKind_symm {a o : O} : otherKind H a o → otherKind H o a := fun ⟨h1, h2, h3⟩ => ⟨fun e => h1 e.symm, h2.symm, fun e => h3 e.symm⟩
theorem overlaps_symm {a o : O} : overlaps H a o → overlaps H o a := fun ⟨h1, h2, h3, h4⟩ => ⟨fun e => h1 e.symm, h2.symm, h4, h3⟩
open Classical in
/-- What is wrong with an operation beside others. -/
noncomputable def besideZ (l : List O) (o : O) : Int := if ∃ a ∈ l, otherKind H a o then 33 else if ∃ a ∈ l, overlaps H a o then 32 else 0
theorem beside_ok {l : List O} {o : O} : besideZ H l o = 0 ↔ ∀ a ∈ l, ¬ otherKind H a o ∧ ¬ overlaps H a o := by
  unfold besideZ
  constructor
  · intro h a ha
    by_cases c : ∃ a ∈ l, otherKind H a o
    · rw [if_pos c] at h; exact absurd h (by decide)
    · rw [if_neg c] at h
      by_cases d : ∃ a ∈ l, overlaps H a o
      · rw [if_pos d] at h; exact absurd h (by decide)
      · exact ⟨fun e => c ⟨a, ha, e⟩, fun e => d ⟨a, ha, e⟩⟩
  · intro h
    rw [if_neg (fun ⟨a, ha, e⟩ => (h a ha).1 e), if_neg (fun ⟨a, ha, e⟩ => (h a ha).2 e)]
/-- Is an operation not behind the one ahead? -/
def lateB (p : Option O) (o : O) : Bool := match p with | some q => decide (H.id o ≤ H.id q) | none => false
/-- Operation by operation: its own fault, or that its ID does not rise. -/
def scanZ : Option O → List O → Int
  | _, [] => 0
  | p, o :: r => if H.chk o ≠ 0 then H.chk o else if lateB H p o = true then 7 else scanZ (some o) r
/-- Operation by operation: what is wrong with it beside the others. -/
noncomputable def sidesZ (L : List O) : List O → Int
  | [] => 0
  | o :: r => if besideZ H L o ≠ 0 then besideZ H L o else sidesZ L r
noncomputable def checkL (l : List O) : Int := if 64 < l.length then 34 else if scanZ H none l ≠ 0 then scanZ H none l else sidesZ H l l
/-- A history may be. -/
structure Valid (l : List O) : Prop where
  few : l.length ≤ 64
  chk : ∀ o ∈ l, H.chk o = 0
  rise : l.Pairwise fun a b => H.id a < H.id b
  side : ∀ o ∈ l, ∀ a ∈ l, ¬ otherKind H a o ∧ ¬ overlaps H a o
theorem scan_ok : ∀ (l : List O) (p : Option O), scanZ H p l = 0 ↔ (∀ o ∈ l, H.chk o = 0) ∧ l.Pairwise (fun a b => H.id a < H.id b) ∧ (∀ q, p = some q → ∀ o, l.head? = some o → H.id q < H.id o)
  | [], p => by simp [scanZ]
  | o :: r, p => by
    rw [scanZ]
    by_cases c : H.chk o = 0
    · rw [if_neg (by rw [c]; simp)]
      have ih := scan_ok r (some o)
      constructor
      · intro h
        by_cases d : lateB H p o = true
        · rw [if_pos d] at h; exact absurd h (by decide)
        · rw [if_neg d] at h
          obtain ⟨h1, h2, h3⟩ := ih.1 h
          refine ⟨fun x hx => ?_, ?_, fun q hq x hx => ?_⟩
          · rcases List.mem_cons.1 hx with e | e
            · rw [e]; exact c
            · exact h1 x e
          · refine List.pairwise_cons.2 ⟨fun x hx => ?_, h2⟩
            cases r with
            | nil => cases hx
            | cons y s =>
              have hy := h3 o rfl y rfl
              rcases List.mem_cons.1 hx with e | e
              · rw [e]; exact hy
              · exact Int.lt_trans hy ((List.pairwise_cons.1 h2).1 x e)
          · subst hq
            have : x = o := by simpa using hx.symm
            subst this
            have d' : ¬ H.id x ≤ H.id q := by simpa [lateB] using d
            omega
      · rintro ⟨h1, h2, h3⟩
        rw [if_neg, ih]
        · obtain ⟨p1, p2⟩ := List.pairwise_cons.1 h2
          exact ⟨fun x hx => h1 x (List.mem_cons_of_mem _ hx), p2, fun q hq x hx => by cases hq; exact p1 x (List.mem_of_mem_head? (Option.mem_def.2 hx))⟩
        · cases p with
          | none => simp [lateB]
          | some q => have := h3 q rfl o rfl; simp [lateB]; omega
    · rw [if_pos c]
      constructor
      · intro h; exact absurd h c
      · rintro ⟨h1, _⟩; exact absurd (h1 o List.mem_cons_self) c
theorem sides_ok (L : List O) : ∀ l : List O, sidesZ H L l = 0 ↔ ∀ o ∈ l, besideZ H L o = 0
  | [] => by simp [sidesZ]
  | o :: r => by
    rw [sidesZ]
    by_cases c : besideZ H L o = 0
    · rw [if_neg (by rw [c]; simp), sides_ok L r]
      constructor
      · intro h x hx
        rcases List.mem_cons.1 hx with e | e
        · rw [e]; exact c
        · exact h x e
      · exact fun h x hx => h x (List.mem_cons_of_mem _ hx)
    · rw [if_pos c]
      exact ⟨fun h => absurd h c, fun h => absurd (h o List.mem_cons_self) c⟩
theorem check_ok {l : List O} : checkL H l = 0 ↔ Valid H l := by
  unfold checkL
  by_cases c : 64 < l.length
  · rw [if_pos c]
    exact ⟨fun h => absurd h (by decide), fun h => absurd h.few (by omega)⟩
  · rw [if_neg c]
    by_cases d : scanZ H none l = 0
    · rw [if_neg (by rw [d]; simp), sides_ok]
      obtain ⟨h1, h2, _⟩ := (scan_ok H l none).1 d
      exact ⟨fun h => ⟨by omega, h1, h2, fun o ho => (beside_ok H).1 (h o ho)⟩, fun h o ho => (beside_ok H).2 (h.side o ho)⟩
    · rw [if_pos d]
      exact ⟨fun h => absurd h d, fun h => absurd ((scan_ok H l none).2 ⟨h.chk, h.rise, fun q hq => by cases hq⟩) d⟩
/-- Two histories of one set of operations, by rising IDs, are one. -/
theorem sorted_ext : ∀ {a b : List O}, a.Pairwise (fun x y => H.id x < H.id y) → b.Pairwise (fun x y => H.id x < H.id y) → (∀ o, o ∈ a ↔ o ∈ b) → a = b
  | [], [], _, _, _ => rfl
  | [], y :: s, _, _, h => absurd ((h y).2 List.mem_cons_self) (by simp)
  | x :: r, [], _, _, h => absurd ((h x).1 List.mem_cons_self) (by simp)
  | x :: r, y :: s, ha, hb, h => by
    obtain ⟨a1, a2⟩ := List.pairwise_cons.1 ha
    obtain ⟨b1, b2⟩ := List.pairwise_cons.1 hb
    have e : x = y := by
      rcases List.mem_cons.1 ((h x).1 List.mem_cons_self) with c | c
      · exact c
      · rcases List.mem_cons.1 ((h y).2 List.mem_cons_self) with d | d
        · exact d.symm
        · exact absurd (Int.lt_trans (a1 y d) (b1 x c)) (by omega)
    subst e
    rw [sorted_ext a2 b2 fun o => ?_]
    constructor
    · intro ho
      rcases List.mem_cons.1 ((h o).1 (List.mem_cons_of_mem _ ho)) with c | c
      · exact absurd (a1 o ho) (by rw [c]; omega)
      · exact c
    · intro ho
      rcases List.mem_cons.1 ((h o).2 (List.mem_cons_of_mem _ ho)) with c | c
      · exact absurd (b1 o ho) (by rw [c]; omega)
      · exact c
theorem same_id {l : List O} (h : l.Pairwise fun x y => H.id x < H.id y) {a b : O} (ha : a ∈ l) (hb : b ∈ l) (e : H.id a = H.id b) : a = b := by
  obtain ⟨i, hi, rfl⟩ := List.mem_iff_getElem.1 ha
  obtain ⟨j, hj, rfl⟩ := List.mem_iff_getElem.1 hb
  rcases Nat.lt_trichotomy i j with c | c | c
  · exact absurd (List.pairwise_iff_getElem.1 h i j hi hj c) (by omega)
  · subst c; rfl
  · exact absurd (List.pairwise_iff_getElem.1 h j i hj hi c) (by omega)
/-- A history without an ID. -/
def outL (l : List O) (i : Int) : List O := l.filter fun o => decide (H.id o ≠ i)
theorem out_mem {l : List O} {i : Int} {o : O} : o ∈ outL H l i ↔ o ∈ l ∧ H.id o ≠ i := by unfold outL; rw [List.mem_filter]; simp
theorem out_rise {l : List O} {i : Int} (h : l.Pairwise fun x y => H.id x < H.id y) : (outL H l i).Pairwise fun x y => H.id x < H.id y := h.sublist List.filter_sublist
/-- A history with an operation, in the place of one of its ID. -/
def inL (l : List O) (o : O) : List O := (l.filter fun a => decide (H.id a < H.id o)) ++ o :: l.filter fun a => decide (H.id o < H.id a)
theorem in_mem {l : List O} {o a : O} : a ∈ inL H l o ↔ a = o ∨ (a ∈ l ∧ H.id a ≠ H.id o) := by
  unfold inL
  rw [List.mem_append, List.mem_cons, List.mem_filter, List.mem_filter]
  simp only [decide_eq_true_eq]
  constructor
  · rintro (⟨h, c⟩ | h | ⟨h, c⟩)
    · exact .inr ⟨h, by omega⟩
    · exact .inl h
    · exact .inr ⟨h, by omega⟩
  · rintro (h | ⟨h, c⟩)
    · exact .inr (.inl h)
    · rcases Int.lt_or_gt_of_ne c with d | d
      · exact .inl ⟨h, d⟩
      · exact .inr (.inr ⟨h, d⟩)
theorem in_rise {l : List O} {o : O} (h : l.Pairwise fun x y => H.id x < H.id y) : (inL H l o).Pairwise fun x y => H.id x < H.id y := by
  unfold inL
  refine List.pairwise_append.2 ⟨h.sublist List.filter_sublist, List.pairwise_cons.2 ⟨fun a ha => ?_, h.sublist List.filter_sublist⟩, fun a ha b hb => ?_⟩
  · simpa using (List.mem_filter.1 ha).2
  · have h1 : H.id a < H.id o := by simpa using (List.mem_filter.1 ha).2
    rcases List.mem_cons.1 hb with e | e
    · rw [e]; exact h1
    · have h2 : H.id o < H.id b := by simpa using (List.mem_filter.1 e).2
      omega
theorem out_len {l : List O} {i : Int} : (outL H l i).length ≤ l.length := List.length_filter_le _ _
theorem parts_len (l : List O) (i : Int) : (l.filter fun a => decide (H.id a < i)).length + (l.filter fun a => decide (i < H.id a)).length = (outL H l i).length := by
  unfold outL
  induction l with
  | nil => rfl
  | cons x r ih =>
    rw [List.filter_cons, List.filter_cons, List.filter_cons]
    by_cases c : H.id x < i
    · rw [if_pos (by simpa using c), if_neg (by simp; omega), if_pos (by simp; omega)]
      simp only [List.length_cons]
      omega
    · by_cases d : i < H.id x
      · rw [if_neg (by simpa using c), if_pos (by simpa using d), if_pos (by simp; omega)]
        simp only [List.length_cons]
        omega
      · rw [if_neg (by simpa using c), if_neg (by simpa using d), if_neg (by simp; omega)]
        exact ih
theorem in_len (l : List O) (o : O) : (inL H l o).length = (outL H l (H.id o)).length + 1 := by
  unfold inL
  rw [List.length_append, List.length_cons, ← parts_len H l (H.id o)]
  omega
theorem out_none {l : List O} {i : Int} (h : ∀ o ∈ l, H.id o ≠ i) : outL H l i = l := List.filter_eq_self.2 fun o ho => by simpa using h o ho
theorem out_one {l : List O} {o : O} (hr : l.Pairwise fun x y => H.id x < H.id y) (ho : o ∈ l) : (outL H l (H.id o)).length + 1 = l.length := by
  have e : inL H l o = l := sorted_ext H (in_rise H hr) hr fun a => by
    rw [in_mem]
    constructor
    · rintro (c | c)
      · rw [c]; exact ho
      · exact c.1
    · intro ha
      by_cases d : H.id a = H.id o
      · exact .inl (same_id H hr ha ho d)
      · exact .inr ⟨ha, d⟩
  rw [← in_len, e]
theorem valid_out {l : List O} (h : Valid H l) (i : Int) : Valid H (outL H l i) :=
  ⟨Nat.le_trans (out_len H) h.few, fun o ho => h.chk o ((out_mem H).1 ho).1, out_rise H h.rise, fun o ho a ha => h.side o ((out_mem H).1 ho).1 a ((out_mem H).1 ha).1⟩
theorem not_self (o : O) : ¬ otherKind H o o ∧ ¬ overlaps H o o := ⟨fun h => h.1 rfl, fun h => h.1 rfl⟩
theorem valid_in {l : List O} (h : Valid H l) {o : O} (hc : H.chk o = 0) (hs : besideZ H l o = 0) (hl : (outL H l (H.id o)).length < 64) : Valid H (inL H l o) := by
  have hb := (beside_ok H).1 hs
  refine ⟨by rw [in_len]; omega, fun a ha => ?_, in_rise H h.rise, fun a ha b hb' => ?_⟩
  · rcases (in_mem H).1 ha with e | e
    · rw [e]; exact hc
    · exact h.chk a e.1
  · rcases (in_mem H).1 ha with e | e
    · subst e
      rcases (in_mem H).1 hb' with f | f
      · rw [f]; exact not_self H a
      · exact hb b f.1
    · rcases (in_mem H).1 hb' with f | f
      · subst f
        exact ⟨fun c => (hb a e.1).1 (otherKind_symm H c), fun c => (hb a e.1).2 (overlaps_symm H c)⟩
      · exact h.side a e.1 b f.1
/-- The operation of an ID. -/
def getL (l : List O) (i : Int) : Option O := l.find? fun o => decide (H.id o = i)
theorem get_some {l : List O} {i : Int} {o : O} (h : getL H l i = some o) : o ∈ l ∧ H.id o = i := ⟨List.mem_of_find?_eq_some h, by simpa using List.find?_some h⟩
theorem get_none {l : List O} {i : Int} (h : getL H l i = none) : ∀ o ∈ l, H.id o ≠ i := fun o ho => by simpa using List.find?_eq_none.1 h o ho
theorem get_is {l : List O} (hr : l.Pairwise fun x y => H.id x < H.id y) {o : O} (ho : o ∈ l) : getL H l (H.id o) = some o := by
  cases h : getL H l (H.id o) with
  | none => exact absurd rfl (get_none H h o ho)
  | some a => rw [same_id H hr (get_some H h).1 ho (get_some H h).2]
theorem get_no {l : List O} {i : Int} (h : ∀ o ∈ l, H.id o ≠ i) : getL H l i = none := List.find?_eq_none.2 fun o ho => by simpa using h o ho
end
end Go.Proofs.Ytppjmmdiglnkfaa.Hs
