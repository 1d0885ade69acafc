/- Slices of numbers without a sign that the call itself makes. -/
import Derived.Test.YthgibogdbbebaaaDoorRows
import Derived.Test.YthgibogdbbebaaaDoorAid
import Derived.OpenShut
import Derived.SizedLaws
import Derived.OwnWalk
import Derived.Deep.Slices
import Derived.Deep.Fields
import Derived.Deep.MidRow
import Derived.Deep.AppendLies
namespace Go.Proofs.YthgibogdbbebaaaDoor
set_option maxRecDepth 100000
open Go.ChangeShapes Go.WideShapes Go.ChangeAt Go.RowKit Go.PlainAid Go.Deep

theorem heap_inU {w : World} {k : Nat} {o : Obj} (h : w.heap[k]? = some o) : k < w.heap.size := (Array.getElem?_eq_some_iff.1 h).1
theorem ownsRow_onU {w w' : World} {base : Nat} {e : TypeId} {size : Nat} {v : Value} {n : Nat} {xs : List Value} (h : w.ownsRow base e size v n xs) (b : Below w.heap.size w w') : w'.ownsRow base e size v n xs := by
  obtain ⟨h1, h2⟩ := h
  refine ⟨h1, ?_⟩
  rcases h2 with h2 | ⟨g, cap, cur, hv, hb, hg, h3⟩
  · exact .inl h2
  · exact .inr ⟨g, cap, cur, hv, hb, (b.block g (heap_inU hg)).trans hg, h3⟩
theorem ownsRow_baseU {w : World} {base base' : Nat} {e : TypeId} {size : Nat} {v : Value} {n : Nat} {xs : List Value} (h : w.ownsRow base e size v n xs) (b : base' ≤ base) : w.ownsRow base' e size v n xs := by
  obtain ⟨h1, h2⟩ := h
  refine ⟨h1, ?_⟩
  rcases h2 with h2 | ⟨g, cap, cur, hv, hb, h3⟩
  · exact .inl h2
  · exact .inr ⟨g, cap, cur, hv, Nat.le_trans b hb, h3⟩
theorem info_u64U : (Tryd.prog.info? 54).map (fun i => (i.zero, i.size, i.bytes)) = some (some (.int .u64 0), 1, 8) := by kernel_rfl
/-- An append to a slice of numbers, as one action. -/
def appUU (vs : Array Value) : Sem Value := Builtin.append_ #[57, 57] 57 vs
theorem app_u64U (vs : Array Value) : Builtin.append_ #[57, 57] 57 vs = appUU vs := rfl
/-- A slice of the call's own with these numbers. -/
def UnsOwn (n₀ : Nat) (W : World) (v : Value) (L : List Int) : Prop := W.ownsRow n₀ 54 1 v L.length (L.map (Value.int .u64))
/-- One number more. -/
theorem row_pushU {n₀ : Nat} {W : World} {L : List Int} {v : Value} (hrow : UnsOwn n₀ W v L) (hn : n₀ ≤ W.heap.size) (hlen : L.length ≤ 1048576) (x : Int) (m : Nat) (hm : L.length = m) :
    ∃ g cap w2, (appUU #[v, .slice (some ⟨W.heap.size, 0, none⟩) 1 1]).run Tryd.prog (W.alloc (.cells #[.int .u64 x] 54)) = .ok (.slice (some ⟨g, 0, none⟩) (m + 1) cap) w2 ∧
      UnsOwn n₀ w2 (.slice (some ⟨g, 0, none⟩) (m + 1) cap) (L ++ [x]) ∧ (W.alloc (.cells #[.int .u64 x] 54)).grownBy w2 v.ownBlock ∧ Below n₀ W w2 := by
  subst hm
  obtain ⟨i0, hi, hz0, hz1, hz2⟩ := info_parts info_u64U
  have hq := heap_alloc_new W (.cells #[.int .u64 x] 54)
  have hba : Below W.heap.size W (W.alloc (.cells #[.int .u64 x] 54)) := by go_grown
  obtain ⟨g, cap, w2, hr, h2, h3, _, _⟩ := run_append_lies (P := Tryd.prog) (w := W.alloc (.cells #[.int .u64 x] 54)) 57 57 n₀ 54 i0 (.int .u64 0) 1 8 Tryd.underlying57 hi hz0 hz1 hz2 rfl (by decide) v L.length (L.map (Value.int .u64)) (ownsRow_onU hrow hba) ⟨W.heap.size, 0, none⟩ 1 1 [.int .u64 x] rfl
    (fun j u hu => by
      rcases j with _ | j
      · have : Value.int .u64 x = u := by simpa using hu
        rw [← this]
        show (W.alloc (.cells #[.int .u64 x] 54)).cell? ⟨W.heap.size, 0, none⟩ = _
        rw [cell_of_row _ _ _ _ _ _ hq]
        rfl
      · simp at hu) (fun u hu => by have : u = .int .u64 x := by simpa using hu
                                    rw [this]; rfl) (by decide) (by unfold maxLen; omega) (by omega) (by rw [World.size_alloc]; omega) _ rfl
  refine ⟨g, cap, w2, hr, ?_, h3, (hba.mono hn).grown h3 (by rw [World.size_alloc]; omega) (fun k e => (hrow.lt k e).1)⟩
  unfold UnsOwn
  rw [List.length_append, List.map_append]
  exact h2
/-- A slice of the call's own, and its numbers one by one. -/
theorem UnsOwn.cells {n₀ : Nat} {W : World} {v : Value} {L : List Int} (h : UnsOwn n₀ W v L) : ∃ ao cap, v = .slice ao L.length cap ∧ ∀ (i : Nat) (x : Int), L[i]? = some x → ∃ g, ao = some ⟨g, 0, none⟩ ∧ g < W.heap.size ∧ n₀ ≤ g ∧ W.cell? ⟨g, i, none⟩ = some (.int .u64 x) := by
  obtain ⟨h1, h2⟩ := h
  rcases h2 with ⟨rfl, h0⟩ | ⟨g, cap, cur, rfl, hn, hg, hm, hc, hsz, ht⟩
  · have h0' : L.length = 0 := by simpa using h0
    exact ⟨none, 0, by rw [h0'], fun i x hx => by rw [List.length_eq_zero_iff.1 h0'] at hx; simp at hx⟩
  · refine ⟨_, cap, rfl, fun i x hx => ⟨g, rfl, heap_inU hg, hn, ?_⟩⟩
    rw [cell_of_row _ _ _ _ _ _ hg]
    have hi : i < L.length := (List.getElem?_eq_some_iff.1 hx).1
    have := congrArg (fun l => l[i]?) ht
    simp only [List.getElem?_map, hx, Option.map_some] at this
    rw [← this, Nat.mul_one, List.getElem?_take_of_lt hi, Array.getElem?_toList]
end Go.Proofs.YthgibogdbbebaaaDoor
