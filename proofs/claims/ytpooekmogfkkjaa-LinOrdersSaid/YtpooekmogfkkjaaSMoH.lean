/- Package model: contracts of Runs, First; lists of operations in memory. -/
import Derived.Test.YtpooekmogfkkjaaSMoG
namespace Go.Proofs.Ytpooekmogfkkjaa
set_option maxRecDepth 100000
open Go.ChangeShapes Go.WideShapes Go.ChangeAt Go.RowKit Go.PlainAid Go.Deep

attribute [local go_sem ↓ high] load_op
attribute [local go_sem ↓ high] store_o
/-- Steps, one after the other. -/
noncomputable def runsC : List OpV → List Int → List Int × Bool
  | [], L => (L, true)
  | o :: r, L => if (stepC o L).2 = true then runsC r (stepC o L).1 else ([], false)
theorem runsC_yes {o : OpV} {r : List OpV} {L L' : List Int} (h : stepC o L = (L', true)) : runsC (o :: r) L = runsC r L' := by rw [runsC, h]; rfl
theorem runsC_no {o : OpV} {r : List OpV} {L L' : List Int} (h : stepC o L = (L', false)) : runsC (o :: r) L = ([], false) := by rw [runsC, h]; rfl
theorem doC_len (o : OpV) (L : List Int) : (doC o L).1.length ≤ L.length + 1 := by
  unfold doC
  split
  · unfold regC noA; split <;> (repeat' split) <;> simp
  split
  · unfold ctrC noA; split <;> (repeat' split) <;> simp
  split
  · unfold queC noA; split <;> (repeat' split) <;> (try simp) <;> omega
  split
  · unfold stkC noA; split <;> (repeat' split) <;> (try simp) <;> omega
  split
  · unfold setC noA
    have h1 : (insL L o.arg).length = L.length + 1 := by unfold insL; exact ins_len List.countP_le_length _
    have h2 : (delL L o.arg).length ≤ L.length + 1 := by unfold delL; rw [List.length_append, List.length_take, List.length_drop]; omega
    split <;> (repeat' split) <;> (try simp) <;> (try omega)
  split
  · unfold mtxC noA; split <;> (repeat' split) <;> simp
  · simp [noA]
theorem stepC_len (o : OpV) (L : List Int) : (stepC o L).1.length ≤ L.length + 1 := by
  unfold stepC
  split
  · exact doC_len o L
  · simp
theorem drop_get {α : Type} {l : List α} {k : Nat} {x : α} (h : l[k]? = some x) : l.drop k = x :: l.drop (k + 1) := by
  obtain ⟨hk, rfl⟩ := List.getElem?_eq_some_iff.1 h
  exact List.drop_eq_getElem_cons hk
def firstC (k : Int) : List Int := if k = 1 ∨ k = 2 then [0] else []
theorem rfirst_any (k : Int) (w : World) : Calls Try.prog 20 #[.int .i64 k] w fun e w' => ∃ v', e = .returned v' ∧ IntsOf w' v' (firstC k) ∧ Below w.heap.size w w' := by
  by_cases c1 : k = 1
  · have HA := Lib.hid (show firstC k = [0] by simp [firstC, c1])
    subst c1
    go_enter Try.func20, Try.ntmps20
    go_wp2_with fail
    go_returns
    exact ⟨_, rfl, by rw [HA.out]; exact (OwnI.fresh w (Nat.le_refl _) 0 (by omega)).reads, by go_grown⟩
  · have q1 : (k == 1) = false := beq_eq_false_iff_ne.2 c1
    by_cases c2 : k = 2
    · have HA := Lib.hid (show firstC k = [0] by simp [firstC, c2])
      subst c2
      clear c1 q1
      go_enter Try.func20, Try.ntmps20
      go_wp2_with fail
      go_returns
      exact ⟨_, rfl, by rw [HA.out]; exact (OwnI.fresh w (Nat.le_refl _) 0 (by omega)).reads, by go_grown⟩
    · have q2 : (k == 2) = false := beq_eq_false_iff_ne.2 c2
      have HA := Lib.hid (show firstC k = [] by simp [firstC, c1, c2])
      clear c1 c2
      go_enter Try.func20, Try.ntmps20
      go_wp2_with fail
      go_returns
      exact ⟨_, rfl, by rw [HA.out]; exact .inl ⟨rfl, none, 0, rfl⟩, by go_grown⟩
end Go.Proofs.Ytpooekmogfkkjaa
