/- Package hist: beside, and its closures. -/
import Derived.Test.YtgedlfilhpbfaaaHtC
namespace Go.Proofs.Ytgedlfilhpbfaaa
set_option maxRecDepth 100000
open Go.ChangeShapes Go.WideShapes Go.ChangeAt Go.RowKit Go.PlainAid Go.Deep

attribute [local go_sem ↓ high] load_op store_o
/-- Of one object, and of other kinds. -/
def kindC (o x : OpV) : Bool := x.obj == o.obj && x.kind != o.kind
/-- Of one process, and they overlap. -/
def busyC (o x : OpV) : Bool := x.proc == o.proc && overB x o
/-- Another operation, of which that is so. -/
def otherC (p : OpV → Bool) (o x : OpV) : Bool := x.id != o.id && p x
theorem other_no {p : OpV → Bool} {o x : OpV} (h : x.id = o.id) : otherC p o x = false := by unfold otherC; rw [h]; simp
theorem other_yes {p : OpV → Bool} {o x : OpV} (h : ¬ x.id = o.id) : otherC p o x = p x := by unfold otherC; simp [h]
theorem kind_yes {o x : OpV} (h : x.obj = o.obj) : kindC o x = (x.kind != o.kind) := by unfold kindC; simp [h]
theorem kind_no {o x : OpV} (h : ¬ x.obj = o.obj) : kindC o x = false := by unfold kindC; simp [h]
theorem busy_yes {o x : OpV} (h : x.proc = o.proc) : busyC o x = overB x o := by unfold busyC; simp [h]
theorem busy_no {o x : OpV} (h : ¬ x.proc = o.proc) : busyC o x = false := by unfold busyC; simp [h]
/-- A list in a box. -/
def SlAt (w : World) (b : Nat) (v : Value) : Prop := w.heap[b]? = some (.cells #[v] 22 (0, 0))
theorem SlAt.on {w w' : World} {b : Nat} {f : Value} (h : SlAt w b f) (hb : Below w.heap.size w w') : SlAt w' b f := (hb.block b (heap_inO h)).trans h
theorem SlAt.cell {w : World} {b : Nat} {f : Value} (h : SlAt w b f) : w.cell? ⟨b, 0, none⟩ = some f := by unfold SlAt at h; rw [cell_of_row _ _ _ _ _ _ h]; rfl
theorem any_snoc {p : OpV → Bool} {l : List OpV} {k : Nat} {x : OpV} (hk : l[k]? = some x) (e : p x = true) : l.any p = true := List.any_eq_true.2 ⟨x, List.mem_of_getElem? hk, e⟩
theorem any_none {p : OpV → Bool} {l : List OpV} {k : Nat} (h : ∀ (t : Nat) (a : OpV), t < k → l[t]? = some a → p a = false) (hk : l.length ≤ k) : l.any p = false := by
  rw [List.any_eq_false]
  intro a ha
  obtain ⟨t, ht, rfl⟩ := List.mem_iff_getElem.1 ha
  rw [h t _ (by omega) (List.getElem?_eq_getElem ht)]
  decide
/-- What is wrong with an operation beside others. -/
theorem side_kind {l : List OpV} {o : OpV} (h : l.any (otherC (kindC o) o) = true) : Hs.besideZ HL l o = 33 := by
  unfold Hs.besideZ
  rw [if_pos]
  obtain ⟨x, hx, hc⟩ := List.any_eq_true.1 h
  unfold otherC kindC at hc
  simp only [Bool.and_eq_true, bne_iff_ne, beq_iff_eq] at hc
  exact ⟨x, hx, hc.1, hc.2.1, hc.2.2⟩
theorem side_nokind {l : List OpV} {o : OpV} (h : l.any (otherC (kindC o) o) = false) : ¬ ∃ a ∈ l, Hs.otherKind HL a o := by
  rintro ⟨x, hx, h1, h2, h3⟩
  have := List.any_eq_false.1 h x hx
  apply this
  unfold otherC kindC
  simp only [Bool.and_eq_true, bne_iff_ne, beq_iff_eq]
  exact ⟨h1, h2, h3⟩
theorem side_busy {l : List OpV} {o : OpV} (h : l.any (otherC (kindC o) o) = false) (h2 : l.any (otherC (busyC o) o) = true) : Hs.besideZ HL l o = 32 := by
  unfold Hs.besideZ
  rw [if_neg (side_nokind h), if_pos]
  obtain ⟨x, hx, hc⟩ := List.any_eq_true.1 h2
  unfold otherC busyC overB at hc
  simp only [Bool.and_eq_true, bne_iff_ne, beq_iff_eq, Bool.not_eq_true'] at hc
  exact ⟨x, hx, hc.1, hc.2.1, hc.2.2.1, hc.2.2.2⟩
theorem side_none {l : List OpV} {o : OpV} (h : l.any (otherC (kindC o) o) = false) (h2 : l.any (otherC (busyC o) o) = false) : Hs.besideZ HL l o = 0 := by
  unfold Hs.besideZ
  rw [if_neg (side_nokind h), if_neg]
  rintro ⟨x, hx, h1, h3, h4, h5⟩
  have := List.any_eq_false.1 h2 x hx
  apply this
  unfold otherC busyC overB
  simp only [Bool.and_eq_true, bne_iff_ne, beq_iff_eq, Bool.not_eq_true']
  exact ⟨h1, h3, h4, h5⟩
end Go.Proofs.Ytgedlfilhpbfaaa
