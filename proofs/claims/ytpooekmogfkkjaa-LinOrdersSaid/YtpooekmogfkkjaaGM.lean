/- States that lie below a bound, or in blocks of numbers; rows of them. Rows of bools of the call's own. A row of bools copied, and one of them set. -/
import Derived.Test.YtpooekmogfkkjaaGL
import Derived.Test.YtpooekmogfkkjaaSLoB
namespace Go.Proofs.Ytpooekmogfkkjaa
set_option maxRecDepth 100000
open Go.ChangeShapes Go.WideShapes Go.ChangeAt Go.RowKit Go.PlainAid Go.Deep
namespace Ln
/-- Where a state may lie: below a bound, or in a block of numbers. -/
def Loc (n : Nat) (w : World) (u : Value) : Prop := ∀ b, u.ownBlock = some b → b < n ∨ ∃ cur, w.heap[b]? = some (.cells cur 3 (0, 0))
/-- A state to be read that lies so. -/
def Lie (n : Nat) (w : World) (u : Value) (s : List Int) : Prop := IntsC w u s ∧ (s = [] ∨ Loc n w u)
theorem Loc.keep {n : Nat} {w w' : World} {u : Value} {own : Nat → Prop} (h : Loc n w u) (hk : Keeps own w w') (h2 : ∀ g cur, own g → w.heap[g]? = some (.cells cur 3 (0, 0)) → False) : Loc n w' u := fun b hb => by
  rcases h b hb with c | ⟨cur, c⟩
  · exact .inl c
  · exact .inr ⟨cur, (hk.block b (heap_inO c) (fun o => h2 b cur o c)).trans c⟩
theorem ints_block {w w' : World} {u : Value} {s : List Int} (h : IntsOf w u s) (hs : w.heap.size ≤ w'.heap.size) (hb : ∀ b, u.ownBlock = some b → b < w.heap.size → w'.heap[b]? = w.heap[b]?) : IntsOf w' u s := by
  rcases h with h | ⟨b, o, cap, rfl, hlt, h0, hm, hr⟩
  · exact .inl h
  · refine .inr ⟨b, o, cap, rfl, Nat.lt_of_lt_of_le hlt hs, h0, hm, fun i x hi => ⟨(hr i x hi).1, ?_⟩⟩
    exact (World.cell?_of_block (w := w) (hb b rfl hlt)).trans (hr i x hi).2
theorem Lie.keep {n : Nat} {w w' : World} {u : Value} {s : List Int} {own : Nat → Prop} (h : Lie n w u s) (hk : Keeps own w w') (h1 : ∀ g, own g → n ≤ g) (h2 : ∀ g cur, own g → w.heap[g]? = some (.cells cur 3 (0, 0)) → False) : Lie n w' u s := by
  rcases h.2 with rfl | hL
  · refine ⟨⟨?_, h.1.cap⟩, .inl rfl⟩
    rcases h.1.ints with ⟨_, ao, cap, rfl⟩ | ⟨b, o, cap, rfl, _, h0, _⟩
    · exact .inl ⟨rfl, ao, cap, rfl⟩
    · exact absurd h0 (by simp)
  · exact ⟨⟨ints_block h.1.ints hk.size (fun b hb hlt => hk.block b hlt (fun o => by
      rcases hL b hb with c | ⟨cur, c⟩
      · have := h1 b o; omega
      · exact h2 b cur o c)), h.1.cap⟩, .inr (hL.keep hk h2)⟩
theorem Lie.on {n : Nat} {w w' : World} {u : Value} {s : List Int} (h : Lie n w u s) (hb : Below w.heap.size w w') : Lie n w' u s :=
  ⟨h.1.on hb, h.2.imp id fun hL b e => (hL b e).imp id fun ⟨cur, c⟩ => ⟨cur, (hb.block b (heap_inO c)).trans c⟩⟩
/-- States that lie so, in a row of the call's own. -/
def Out (n n₀ : Nat) (w : World) (v : Value) (l : List (List Int)) : Prop := ∃ vs, w.ownsRow n₀ 36 1 v l.length vs ∧ ∀ (i : Nat) (u : Value) (s : List Int), vs[i]? = some u → l[i]? = some s → Lie n w u s
theorem Out.nil (n n₀ : Nat) (w : World) : Out n n₀ w (.slice none 0 0) [] := ⟨[], World.ownsRow_nil _ _ _ _, fun i u s hu => by simp at hu⟩
theorem Out.on {n n₀ : Nat} {w w' : World} {v : Value} {l : List (List Int)} (h : Out n n₀ w v l) (hb : Below w.heap.size w w') : Out n n₀ w' v l := by
  obtain ⟨vs, h1, h2⟩ := h
  exact ⟨vs, ownsRow_onI h1 hb, fun i u s hu hs => (h2 i u s hu hs).on hb⟩
theorem Out.len {n n₀ : Nat} {w : World} {v : Value} {l : List (List Int)} (h : Out n n₀ w v l) : ∃ ao cap, v = .slice ao l.length cap := by
  obtain ⟨vs, h1, _⟩ := h
  obtain ⟨ao, cap, e, _⟩ := own_len h1
  exact ⟨ao, cap, e⟩
theorem Out.sts {n n₀ : Nat} {w : World} {v : Value} {l : List (List Int)} (h : Out n n₀ w v l) : Sts w v l := by
  obtain ⟨vs, h1, h2⟩ := h
  exact ⟨vs, own_rd h1, fun i u s hu hs => (h2 i u s hu hs).1.ints⟩
theorem Out.keep {n n₀ : Nat} {w w' : World} {v : Value} {l : List (List Int)} {own : Nat → Prop} (h : Out n n₀ w v l) (hk : Keeps own w w') (h1 : ∀ g, own g → n ≤ g) (h2 : ∀ g cur, own g → w.heap[g]? = some (.cells cur 3 (0, 0)) → False) (h3 : ∀ g cur, own g → w.heap[g]? = some (.cells cur 36 (0, 0)) → False) : Out n n₀ w' v l := by
  obtain ⟨vs, a, b⟩ := h
  exact ⟨vs, row_keep a hk h3, fun i u s hu hs => (b i u s hu hs).keep hk h1 h2⟩
/-- A row of such states, one behind another's. -/
theorem Out.app {n n₀ n₁ : Nat} {w : World} {v v2 : Value} {l l2 : List (List Int)} (h : Out n n₀ w v l) (h2 : Out n n₁ w v2 l2) (hn : n ≤ n₀) (hn0 : n₀ ≤ w.heap.size) (hl : l.length + l2.length ≤ 1000000) :
    ∃ v' w', (appSt #[v, v2]).run Try.prog w = .ok v' w' ∧ Out n n₀ w' v' (l ++ l2) ∧ Below n₀ w w' := by
  obtain ⟨x1, r1, e1⟩ := h
  obtain ⟨x2, r2, e2⟩ := h2
  obtain ⟨v', W', hr, ho, hg⟩ := row_app rtSt_good r1 (own_rd r2) (Sts.one (own_rd r2) fun i u s hu hs => (e2 i u s hu hs).1.ints) hn0 (by omega)
  have hk : Keeps (fun k => v.ownBlock = some k) w W' := (Keeps.refl _ w).grown hg (fun k e => .inl e)
  have q1 : ∀ g, v.ownBlock = some g → n ≤ g := fun g e => Nat.le_trans hn (row_block r1 e).1
  have q2 : ∀ g cur, v.ownBlock = some g → w.heap[g]? = some (.cells cur 3 (0, 0)) → False := fun g cur e hc => by
    obtain ⟨_, cur', hc'⟩ := row_block r1 e
    rw [hc] at hc'
    exact absurd (Obj.cells.inj (Option.some.inj hc')).2.1 (by decide)
  refine ⟨v', W', hr, ⟨x1 ++ x2, by rw [List.length_append]; exact ho, fun i u s hu hs => ?_⟩, (Below.refl n₀ w).grown hg hn0 (fun k e => (row_block r1 e).1)⟩
  have hx1 : x1.length = l.length := by rw [r1.1, Nat.mul_one]
  by_cases c : i < l.length
  · rw [List.getElem?_append_left (by omega)] at hu
    rw [List.getElem?_append_left c] at hs
    exact (e1 i u s hu hs).keep hk q1 q2
  · rw [List.getElem?_append_right (by omega)] at hu hs
    rw [hx1] at hu
    exact (e2 _ u s hu hs).keep hk q1 q2
/-- One such state. -/
theorem Out.one {n : Nat} {w : World} {u : Value} {s : List Int} (h : Lie n w u s) : Out n w.heap.size (w.alloc (.cells #[u] 36)) (.slice (some ⟨w.heap.size, 0, none⟩) 1 1) [s] := by
  refine ⟨[u], ⟨rfl, .inr ⟨w.heap.size, 1, #[u], rfl, Nat.le_refl _, heap_alloc_new w _, Nat.le_refl _, by unfold maxLen; omega, rfl, rfl⟩⟩, fun i u' s' hu hs => ?_⟩
  have hi : i = 0 := by
    have := (List.getElem?_eq_some_iff.1 hu).1
    simp at this; exact this
  subst hi
  simp at hu hs
  subst hu hs
  exact h.on (by go_grown)
/-- A step's answer lies as its state does, or is new. -/
theorem Lie.step {n : Nat} {w w' : World} {v v' : Value} {s t : List Int} (h : Lie n w v s) (hi : IntsC w' v' t) (hb : Below w.heap.size w w') (hl : SameB v v' ∨ OwnI w.heap.size w' v' t) : Lie n w' v' t := by
  refine ⟨hi, ?_⟩
  rcases hl with ⟨hl, hn⟩ | hl
  · obtain ⟨ao, ca, rfl, _⟩ := h.1.ints.parts
    obtain ⟨ao', ca', rfl, _⟩ := hi.ints.parts
    have hn : t.length ≤ s.length := hn
    by_cases ht : t = []
    · exact .inl ht
    · have hs : s ≠ [] := fun e => ht (by subst e; exact List.length_eq_zero_iff.1 (Nat.le_zero.1 hn))
      right
      intro b e
      rcases hl with hl | hl
      · rcases (h.on hb).2 with c | c
        · exact absurd c hs
        · exact c b (hl ▸ e)
      · rw [hl] at e; cases e
  · rcases hl.1 with ⟨rfl, _⟩ | ⟨g, o, cap, cur, rfl, _, hg, _⟩
    · exact .inl rfl
    · right
      intro b e
      obtain rfl : g = b := Option.some.inj e
      exact .inr ⟨cur, hg⟩
/-- Bools. -/
def rtBl : RT := ⟨4, 41, .bool false, 1, 1⟩
theorem rtBl_good : rtBl.Good := ⟨Try.underlying41, by kernel_rfl, rfl, by decide, by decide⟩
def appBl (vs : Array Value) : Sem Value := Builtin.append_ #[41, 41] 41 vs
theorem app_bl (vs : Array Value) : Builtin.append_ #[41, 41] 41 vs = appBl vs := rfl
end Ln
end Go.Proofs.Ytpooekmogfkkjaa
namespace Go.Proofs.Ytpooekmogfkkjaa
set_option maxRecDepth 100000
open Go.ChangeShapes Go.WideShapes Go.ChangeAt Go.RowKit Go.PlainAid Go.Deep
namespace Ln
/-- One cell of a row of the call's own is set. -/
theorem own_set {w : World} {n₀ g n cap : Nat} {T : TypeId} {cs : List Value} (h : w.ownsRow n₀ T 1 (.slice (some ⟨g, 0, none⟩) n cap) n cs) (i : Nat) (u : Value) :
    (w.setCell ⟨g, i, none⟩ u).ownsRow n₀ T 1 (.slice (some ⟨g, 0, none⟩) n cap) n (cs.set i u) ∧ Keeps (fun k => k = g) w (w.setCell ⟨g, i, none⟩ u) ∧ n₀ ≤ g ∧ (∃ cur, w.heap[g]? = some (.cells cur T (0, 0))) := by
  rcases h.2 with ⟨e, _⟩ | ⟨g', cap', cur, e, hb, hg, hl, hc, hsz, ht⟩
  · cases e
  · obtain ⟨e1, _, e2⟩ := Value.slice.inj e
    cases e1
    subst e2
    refine ⟨⟨by rw [List.length_set]; exact h.1, .inr ⟨g, cap, cur.setIfInBounds i u, rfl, hb, heap_setCell_same _ _ _ _ _ _ hg, hl, hc, by rw [Array.size_setIfInBounds]; exact hsz, ?_⟩⟩, (Keeps.refl (fun k => k = g) w).setCell (.inl rfl) u, hb, cur, hg⟩
    rw [← ht, Array.toList_setIfInBounds, List.take_set]
/-- Bools copied into a new row. -/
theorem bools_copy {w : World} {vd : Value} {d : List Bool} (h : Rd w vd 1 d.length (d.map Value.bool)) (h0 : 0 < d.length) (hl : d.length ≤ 100000) :
    ∃ g cap w', (appBl #[.slice (some ⟨w.heap.size, 0, none⟩) 0 0, vd]).run Try.prog (w.alloc (.cells #[] 4)) = .ok (.slice (some ⟨g, 0, none⟩) d.length cap) w' ∧ w'.ownsRow w.heap.size 4 1 (.slice (some ⟨g, 0, none⟩) d.length cap) d.length (d.map Value.bool) ∧ Below w.heap.size w w' := by
  have hba : Below w.heap.size w (w.alloc (.cells #[] 4)) := by go_grown
  have hm0 : (w.alloc (.cells #[] 4)).ownsRow w.heap.size 4 1 (.slice (some ⟨w.heap.size, 0, none⟩) 0 0) 0 [] := World.ownsRow_made w #[] 0 (Nat.le_refl _) (Nat.zero_le _) rfl
  obtain ⟨v', W', hr, ho, hg⟩ := row_app rtBl_good hm0 (h.on hba) (fun x hx => by
    obtain ⟨b, _, rfl⟩ := List.mem_map.1 hx
    rfl) hba.size (by omega)
  rw [Nat.zero_add, List.nil_append] at ho
  have hb' := hba.grown hg hba.size (fun k e => (row_block hm0 e).1)
  rcases ho.2 with ⟨_, e⟩ | ⟨g, cap, cur, rfl, _⟩
  · omega
  · exact ⟨g, cap, W', hr, ho, hb'⟩
/-- The next row of bools: a copy, with one place used. -/
theorem bools_set {w : World} {n₀ g cap i : Nat} {d : List Bool} (h : w.ownsRow n₀ 4 1 (.slice (some ⟨g, 0, none⟩) d.length cap) d.length (d.map Value.bool)) :
    Rd (w.setCell ⟨g, i, none⟩ (.bool true)) (.slice (some ⟨g, 0, none⟩) d.length cap) 1 (d.set i true).length ((d.set i true).map Value.bool) ∧ Keeps (fun k => k = g) w (w.setCell ⟨g, i, none⟩ (.bool true)) ∧ n₀ ≤ g ∧ (∃ cur, w.heap[g]? = some (.cells cur 4 (0, 0))) := by
  obtain ⟨h1, h2⟩ := own_set h i (.bool true)
  refine ⟨?_, h2⟩
  rw [List.length_set, List.map_set]
  exact own_rd h1
end Ln
end Go.Proofs.Ytpooekmogfkkjaa
