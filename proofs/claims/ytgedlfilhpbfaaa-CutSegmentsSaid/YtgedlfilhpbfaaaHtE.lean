/- Package hist: Check. -/
import Derived.Test.YtgedlfilhpbfaaaHtD
namespace Go.Proofs.Ytgedlfilhpbfaaa
set_option maxRecDepth 100000
open Go.ChangeShapes Go.WideShapes Go.ChangeAt Go.RowKit Go.PlainAid Go.Deep

attribute [local go_sem ↓ high] load_op store_o
/-- The operation ahead of a place. -/
def prevO (l : List OpV) (k : Nat) : Option OpV := if k = 0 then none else l[k - 1]?
theorem prev_next {l : List OpV} {k : Nat} {o : OpV} (h : l[k]? = some o) : prevO l (k + 1) = some o := by unfold prevO; rw [if_neg (by omega), Nat.add_sub_cancel, h]
theorem prev_some {l : List OpV} {k : Nat} (h0 : 0 < k) (hk : k ≤ l.length) : ∃ (j : Nat) (q : OpV), k = j + 1 ∧ l[j]? = some q ∧ prevO l k = some q := by
  obtain ⟨j, rfl⟩ : ∃ j, k = j + 1 := ⟨k - 1, by omega⟩
  exact ⟨j, _, rfl, List.getElem?_eq_getElem (by omega), prev_next (List.getElem?_eq_getElem (by omega))⟩
theorem drop_getO {l : List OpV} {k : Nat} {x : OpV} (h : l[k]? = some x) : l.drop k = x :: l.drop (k + 1) := by
  obtain ⟨hk, rfl⟩ := List.getElem?_eq_some_iff.1 h
  exact List.drop_eq_getElem_cons hk
theorem scan_bad {l : List OpV} {k : Nat} {o : OpV} (h : l[k]? = some o) (c : checkZ o ≠ 0) : Hs.scanZ HL (prevO l k) (l.drop k) = checkZ o := by
  rw [drop_getO h, Hs.scanZ, if_pos (show HL.chk o ≠ 0 from c)]
  rfl
theorem scan_late {l : List OpV} {k : Nat} {o q : OpV} (h : l[k]? = some o) (c : checkZ o = 0) (hp : prevO l k = some q) (d : o.id ≤ q.id) : Hs.scanZ HL (prevO l k) (l.drop k) = 7 := by
  rw [drop_getO h, Hs.scanZ, if_neg (by rw [show HL.chk o = 0 from c]; simp), hp, if_pos (show Hs.lateB HL (some q) o = true from decide_eq_true (show HL.id o ≤ HL.id q from d))]
theorem scan_on {l : List OpV} {k : Nat} {o : OpV} (h : l[k]? = some o) (c : checkZ o = 0) (d : ∀ q, prevO l k = some q → ¬ o.id ≤ q.id) : Hs.scanZ HL (prevO l k) (l.drop k) = Hs.scanZ HL (prevO l (k + 1)) (l.drop (k + 1)) := by
  rw [drop_getO h, Hs.scanZ, if_neg (by rw [show HL.chk o = 0 from c]; simp), if_neg, prev_next h]
  cases hp : prevO l k with
  | none => simp [Hs.lateB]
  | some q =>
    show ¬ decide (HL.id o ≤ HL.id q) = true
    rw [decide_eq_true_eq]
    exact d q hp
theorem sides_bad {L l : List OpV} {k : Nat} {o : OpV} (h : l[k]? = some o) (c : Hs.besideZ HL L o ≠ 0) : Hs.sidesZ HL L (l.drop k) = Hs.besideZ HL L o := by
  rw [drop_getO h, Hs.sidesZ, if_pos c]
theorem sides_on {L l : List OpV} {k : Nat} {o : OpV} (h : l[k]? = some o) (c : Hs.besideZ HL L o = 0) : Hs.sidesZ HL L (l.drop k) = Hs.sidesZ HL L (l.drop (k + 1)) := by
  rw [drop_getO h, Hs.sidesZ, if_neg (by rw [c]; simp)]
theorem check_many {l : List OpV} (h : 64 < l.length) : Hs.checkL HL l = 34 := by unfold Hs.checkL; rw [if_pos h]
theorem check_scan {l : List OpV} {z : Int} (h : ¬ 64 < l.length) (hs : Hs.scanZ HL none l = z) (hz : z ≠ 0) : Hs.checkL HL l = z := by unfold Hs.checkL; rw [if_neg h, if_pos (by rw [hs]; exact hz), hs]
theorem check_side {l : List OpV} (h : ¬ 64 < l.length) (hs : Hs.scanZ HL none l = 0) : Hs.checkL HL l = Hs.sidesZ HL l l := by unfold Hs.checkL; rw [if_neg h, if_neg (by rw [hs]; simp)]
end Go.Proofs.Ytgedlfilhpbfaaa
