/- A row of states that grows, the states below a world's end; an answer stored into a block laid ahead. -/
import Derived.Test.YtpooekmogfkkjaaSLoG
namespace Go.Proofs.Ytpooekmogfkkjaa
set_option maxRecDepth 100000
open Go.ChangeShapes Go.WideShapes Go.ChangeAt Go.RowKit Go.PlainAid Go.Deep
namespace Ln
/-- A row of the call's own of states that lie in a world's heap. -/
def RowS (U w : World) (v : Value) (l : List (List Int)) : Prop := Below U.heap.size U w ∧ ∃ xs, w.ownsRow U.heap.size 36 1 v l.length xs ∧ ∀ (i : Nat) (u : Value) (s : List Int), xs[i]? = some u → l[i]? = some s → IntsOf U u s
theorem RowS.on {U w w' : World} {v : Value} {l : List (List Int)} (h : RowS U w v l) (hb : Below w.heap.size w w') : RowS U w' v l := by
  obtain ⟨h0, xs, h1, h2⟩ := h
  exact ⟨h0.on hb, xs, ownsRow_onI h1 hb, h2⟩
theorem RowS.grow {U w : World} {v : Value} {l : List (List Int)} (h : RowS U w v l) (o : Obj) : RowS U (w.alloc o) v l := h.on (by go_grown)
theorem RowS.sts {U w : World} {v : Value} {l : List (List Int)} (h : RowS U w v l) : Sts w v l := by
  obtain ⟨h0, xs, h1, h2⟩ := h
  exact ⟨xs, own_rd h1, fun i u s hu hs => (h2 i u s hu hs).on h0⟩
theorem RowS.made {U w : World} (h : Below U.heap.size U w) : RowS U (w.alloc (.cells #[] 36)) (.slice (some ⟨w.heap.size, 0, none⟩) 0 0) [] :=
  ⟨h.alloc h.size _, [], ownsRow_baseI (World.ownsRow_made w #[] 0 (Nat.le_refl _) (Nat.zero_le _) rfl) h.size, fun i u s hu => by simp at hu⟩
theorem RowS.app {U w : World} {v : Value} {l l2 : List (List Int)} {a2 : Option Addr} {c2 : Nat} (h : RowS U w v l) (h2 : Sts U (.slice a2 l2.length c2) l2) (n : Nat) (hn : n = l.length + l2.length) (hl : n ≤ 1000000) :
    ∃ a' c' w', (appSt #[v, .slice a2 l2.length c2]).run Try.prog w = .ok (.slice a' n c') w' ∧ RowS U w' (.slice a' n c') (l ++ l2) ∧ ∀ (b : Nat) (c : Array Value), w.heap[b]? = some (.cells c 27 (0, 0)) → w'.heap[b]? = some (.cells c 27 (0, 0)) := by
  subst hn
  obtain ⟨h0, xs, r, e⟩ := h
  obtain ⟨x2, r2, e2⟩ := h2
  obtain ⟨v', W', hr, ho, hg⟩ := row_app rtSt_good r (r2.on h0) (Sts.one r2 e2) h0.size (by omega)
  obtain ⟨a', c', rfl, _⟩ := own_len ho
  have hb' := h0.grown hg h0.size (fun k e => (row_block r e).1)
  refine ⟨a', c', W', hr, ⟨hb', xs ++ x2, by rw [List.length_append]; exact ho, fun i u s hu hs => ?_⟩, fun b c hc => (hg.block b (heap_inO hc) (fun e => by
    obtain ⟨_, cur, hcur⟩ := row_block r e.symm
    rw [hc] at hcur
    exact absurd (Obj.cells.inj (Option.some.inj hcur)).2.1 (by decide))).trans hc⟩
  have hx1 : xs.length = l.length := by rw [r.1, Nat.mul_one]
  by_cases c : i < l.length
  · rw [List.getElem?_append_left (by omega)] at hu
    rw [List.getElem?_append_left c] at hs
    exact e i u s hu hs
  · rw [List.getElem?_append_right (by omega)] at hu hs
    rw [hx1] at hu
    exact e2 _ u s hu hs
/-- An answer stored into a block laid ahead. -/
theorem sum_at {w : World} {b : Nat} {c0 c1 c2 : Value} (x y z : Value) (h : w.heap[b]? = some (.cells #[c0, c1, c2] 27 (0, 0))) (hx : x.oneCell' = true := by rfl) (hy : y.oneCell' = true := by rfl) (hz : z.oneCell' = true := by rfl) :
    (storeS 27 (.pointer (some ⟨b, 0, none⟩)) (.agg #[x, y, z])).run Try.prog w = .ok () (w.setRow b #[x, y, z]) ∧ (w.setRow b #[x, y, z]).heap[b]? = some (.cells #[x, y, z] 27 (0, 0)) ∧ Keeps (fun k => k = b) w (w.setRow b #[x, y, z]) := by
  have hsz : (Try.prog.info? 27).map (·.size) = some 3 := by kernel_rfl
  refine ⟨?_, setRow_heap w b _ _ _ _ h, (Keeps.refl (fun k => k = b) w).setRow (.inl rfl) _⟩
  have h := run_storeVar_row (P := Try.prog) w b 27 27 _ #[x, y, z] h (by rw [hsz]; rfl) rfl (by simp [hx, hy, hz])
  unfold storeS
  simp only [Instr.storeAt, Instr.sureAddr, Sem.run_bind, Sem.run_pure, Result.andThen_ok]
  exact h
/-- Rows of states are kept where an answer's block changes. -/
theorem sum_kept {w w' : World} {b : Nat} {c : Array Value} {v : Value} {l : List (List Int)} (h : w.heap[b]? = some (.cells c 27 (0, 0))) (hk : Keeps (fun k => k = b) w w') (hs : StsOwn 0 w v l) : StsOwn 0 w' v l :=
  sts_keep hs hk (fun g cur e hg => by
    rw [e, h] at hg
    exact absurd (Obj.cells.inj (Option.some.inj hg)).2.1 (by decide)) (fun g cur e hg => by
    rw [e, h] at hg
    exact absurd (Obj.cells.inj (Option.some.inj hg)).2.1 (by decide))
theorem put_in {U w : World} {b : Nat} {c0 c1 c2 : Value} {ae ax : Option Addr} {ce cx : Nat} {P Q : List (List Int)} (n : Int) (hu : Below U.heap.size U w) (hB : U.heap.size ≤ b) (h : w.heap[b]? = some (.cells #[c0, c1, c2] 27 (0, 0))) (hQ : StsOwn 0 w (.slice ax Q.length cx) Q) :
    ∃ W, (storeS 27 (.pointer (some ⟨b, 0, none⟩)) (.agg #[.slice ae P.length ce, .slice ax Q.length cx, .int .i64 n])).run Try.prog w = .ok () W ∧ W.heap[b]? = some (.cells #[.slice ae P.length ce, .slice ax Q.length cx, .int .i64 n] 27 (0, 0)) ∧ Sts W (.slice ax Q.length cx) Q ∧ Below U.heap.size U W := by
  obtain ⟨h1, h2, h3⟩ := sum_at (.slice ae P.length ce) (.slice ax Q.length cx) (.int .i64 n) h
  exact ⟨_, h1, h2, (sum_kept h h3 hQ).reads, hu.trans (h3.below (fun k e => by omega) hu.size)⟩
theorem put_new {U w : World} {ae ax : Option Addr} {ce cx : Nat} {P Q : List (List Int)} (n : Int) (hu : Below U.heap.size U w) (hQ : StsOwn 0 w (.slice ax Q.length cx) Q) :
    ∃ W, (storeS 27 (.pointer (some ⟨w.heap.size, 0, none⟩)) (.agg #[.slice ae P.length ce, .slice ax Q.length cx, .int .i64 n])).run Try.prog (w.alloc (.cells #[.slice none 0 0, .slice none 0 0, .int .i64 0] 27)) = .ok () W ∧ W.heap[w.heap.size]? = some (.cells #[.slice ae P.length ce, .slice ax Q.length cx, .int .i64 n] 27 (0, 0)) ∧ Sts W (.slice ax Q.length cx) Q ∧ Below U.heap.size U W :=
  ⟨_, sum_new w (.slice ae P.length ce) (.slice ax Q.length cx) (.int .i64 n), heap_alloc_new w _, (hQ.on (by go_grown)).reads, hu.alloc hu.size _⟩
end Ln
end Go.Proofs.Ytpooekmogfkkjaa
