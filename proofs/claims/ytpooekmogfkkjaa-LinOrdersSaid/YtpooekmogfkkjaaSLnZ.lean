/- Plain: the chapter's examples. -/
import Derived.Test.YtpooekmogfkkjaaSLnW
namespace Go.Proofs.Ytpooekmogfkkjaa
set_option maxRecDepth 100000
open Go.ChangeShapes Go.WideShapes Go.ChangeAt Go.RowKit Go.PlainAid
namespace Ln
def oA : OpV := ⟨1, 0, 0, 1, 2, 1, 0, true, 0, 0, 9⟩
def oB (r : Int) : OpV := ⟨2, 0, 0, 1, 1, 0, 0, true, r, 1, 8⟩
def lP (r : Int) : List OpV := [oA, oB r]
theorem bef_pair (r : Int) (i k : Nat) : befP (lP r) i k = false := by
  unfold befP lP
  match i, k with
  | 0, 0 => simp [befB, oA]
  | 0, 1 => simp [befB, oA, oB]
  | 1, 0 => simp [befB, oA, oB]
  | 1, 1 => simp [befB, oA, oB]
  | 0, k + 2 => simp
  | 1, k + 2 => simp
  | i + 2, 0 => simp
  | i + 2, 1 => simp
  | i + 2, k + 2 => simp
theorem may_pair (r : Int) (m i : Nat) : mayB (lP r) m i = (decide (i < 2) && !m.testBit i) := by
  cases h : mayB (lP r) m i with
  | true =>
    obtain ⟨h1, h2, _⟩ := may_iff.1 h
    have : i < 2 := h1
    simp [this, h2]
  | false =>
    by_cases c : i < 2
    · cases c2 : m.testBit i with
      | true => simp
      | false =>
        have := may_iff.2 (show i < (lP r).length ∧ m.testBit i = false ∧ ∀ k, befP (lP r) i k = true → m.testBit k = true from ⟨c, c2, fun k hk => by rw [bef_pair] at hk; cases hk⟩)
        rw [h] at this
        cases this
    · simp [c]
theorem st_a (x : Int) : stO oA [x] = some [1] := by simp [stO, stepC, doC, regC, oA]
theorem st_b (r x : Int) : stO (oB r) [x] = if x = r then some [x] else none := by
  by_cases c : x = r
  · simp [stO, stepC, doC, regC, oB, c]
  · simp [stO, stepC, doC, regC, oB, c]
theorem nx_pair (r : Int) (m : Nat) (x : Int) : nx (lP r) (m, [x]) = (if m.testBit 0 = false then [(m ||| 2 ^ 0, [1])] else []) ++ (if m.testBit 1 = false ∧ x = r then [(m ||| 2 ^ 1, [x])] else []) := by
  show nxK (lP r) (m, [x]) 2 = _
  rw [nxK_succ, nxK_succ]
  have h0 : nxK (lP r) (m, [x]) 0 = [] := rfl
  rw [h0, List.nil_append]
  congr 1
  · unfold nx1
    rw [may_pair]
    cases m.testBit 0 <;> simp [lP, st_a]
  · unfold nx1
    rw [may_pair]
    cases m.testBit 1
    · by_cases d : x = r
      · simp [lP, st_b, d]
      · simp [lP, st_b, d]
    · simp
theorem us_zero : US [[0]] [[0]] := ⟨fun _ => Iff.rfl, List.pairwise_singleton _ _⟩
theorem bfs_zero : bfs (lP 0) 9 most 0 (starts [[0]]) = [(0, [0]), (1, [1]), (2, [0]), (3, [1])] := by
  show bfs (lP 0) 9 (39996 + 1 + 1 + 1 + 1) 0 [(0, [0])] = _
  rw [bfs_go (p := (0, [0])) rfl (by decide), nx_pair]
  rw [show adds [(0, [0])] ((if Nat.testBit 0 0 = false then [(0 ||| 2 ^ 0, [(1 : Int)])] else []) ++ (if Nat.testBit 0 1 = false ∧ (0 : Int) = 0 then [(0 ||| 2 ^ 1, [(0 : Int)])] else [])) = [(0, [0]), (1, [1]), (2, [0])] by decide]
  rw [bfs_go (p := (1, [1])) rfl (by decide), nx_pair]
  rw [show adds [(0, [0]), (1, [1]), (2, [0])] ((if Nat.testBit 1 0 = false then [(1 ||| 2 ^ 0, [(1 : Int)])] else []) ++ (if Nat.testBit 1 1 = false ∧ (1 : Int) = 0 then [(1 ||| 2 ^ 1, [(1 : Int)])] else [])) = [(0, [0]), (1, [1]), (2, [0])] by decide]
  rw [bfs_go (p := (2, [0])) rfl (by decide), nx_pair]
  rw [show adds [(0, [0]), (1, [1]), (2, [0])] ((if Nat.testBit 2 0 = false then [(2 ||| 2 ^ 0, [(1 : Int)])] else []) ++ (if Nat.testBit 2 1 = false ∧ (0 : Int) = 0 then [(2 ||| 2 ^ 1, [(0 : Int)])] else [])) = [(0, [0]), (1, [1]), (2, [0]), (3, [1])] by decide]
  rw [bfs_go (p := (3, [1])) rfl (by decide), nx_pair]
  rw [show adds [(0, [0]), (1, [1]), (2, [0]), (3, [1])] ((if Nat.testBit 3 0 = false then [(3 ||| 2 ^ 0, [(1 : Int)])] else []) ++ (if Nat.testBit 3 1 = false ∧ (1 : Int) = 0 then [(3 ||| 2 ^ 1, [(1 : Int)])] else [])) = [(0, [0]), (1, [1]), (2, [0]), (3, [1])] by decide]
  exact bfs_end (by decide)
theorem bfs_two : bfs (lP 2) 9 most 0 (starts [[0]]) = [(0, [0]), (1, [1])] := by
  show bfs (lP 2) 9 (39998 + 1 + 1) 0 [(0, [0])] = _
  rw [bfs_go (p := (0, [0])) rfl (by decide), nx_pair]
  rw [show adds [(0, [0])] ((if Nat.testBit 0 0 = false then [(0 ||| 2 ^ 0, [(1 : Int)])] else []) ++ (if Nat.testBit 0 1 = false ∧ (0 : Int) = 2 then [(0 ||| 2 ^ 1, [(0 : Int)])] else [])) = [(0, [0]), (1, [1])] by decide]
  rw [bfs_go (p := (1, [1])) rfl (by decide), nx_pair]
  rw [show adds [(0, [0]), (1, [1])] ((if Nat.testBit 1 0 = false then [(1 ||| 2 ^ 0, [(1 : Int)])] else []) ++ (if Nat.testBit 1 1 = false ∧ (1 : Int) = 2 then [(1 ||| 2 ^ 1, [(1 : Int)])] else [])) = [(0, [0]), (1, [1])] by decide]
  exact bfs_end (by decide)
theorem exit_pair (r : Int) (m : Nat) : exitB (lP r) m = (m.testBit 0 && m.testBit 1) := by
  cases h : exitB (lP r) m with
  | true =>
    have := exit_iff.1 h
    simp [this 0 rfl, this 1 rfl]
  | false =>
    cases c : (m.testBit 0 && m.testBit 1) with
    | false => rfl
    | true =>
      have c := (Bool.and_eq_true _ _).mp c
      have := exit_iff.2 (show ∀ k, doneP (lP r) k = true → m.testBit k = true from fun k hk => by
        match k, hk with
        | 0, _ => exact c.1
        | 1, _ => exact c.2
        | k + 2, hk => simp [doneP, lP] at hk)
      rw [h] at this; cases this
theorem us_eq_nil {Q : List (List Int)} (h : US [] Q) : Q = [] := List.eq_nil_iff_forall_not_mem.2 fun s hs => by have := (h.mem s).1 hs; simp at this
theorem us_eq_one {Q : List (List Int)} {s : List Int} (h : US [s] Q) : Q = [s] := h.eq (⟨fun _ => Iff.rfl, List.pairwise_singleton _ _⟩ : US [s] [s]) (fun _ => Iff.rfl)
theorem ans_zero {P Q : List (List Int)} {n z : Int} (h : Ans (lP 0) [[0]] 9 P Q n z) : z = 0 ∧ n = 4 ∧ Q = [[1]] := by
  obtain ⟨h1, _, h3, h4⟩ := h.good (by decide) _ us_zero (by rw [bfs_zero]; decide)
  rw [bfs_zero] at h3 h4
  refine ⟨h1, h4, us_eq_one ?_⟩
  have : exitsL (lP 0) [(0, [0]), (1, [1]), (2, [0]), (3, [1])] = [[1]] := by
    unfold exitsL
    simp [exit_pair, show Nat.testBit 1 1 = false by decide, show Nat.testBit 3 1 = true by decide]
  rw [this] at h3
  exact h3
theorem ans_two {P Q : List (List Int)} {n z : Int} (h : Ans (lP 2) [[0]] 9 P Q n z) : z = 0 ∧ n = 2 ∧ Q = [] := by
  obtain ⟨h1, _, h3, h4⟩ := h.good (by decide) _ us_zero (by rw [bfs_two]; decide)
  rw [bfs_two] at h3 h4
  refine ⟨h1, h4, us_eq_nil ?_⟩
  have : exitsL (lP 2) [(0, [0]), (1, [1])] = [] := by
    unfold exitsL
    simp [exit_pair, show Nat.testBit 1 1 = false by decide]
  rw [this] at h3
  exact h3
end Ln
end Go.Proofs.Ytpooekmogfkkjaa
