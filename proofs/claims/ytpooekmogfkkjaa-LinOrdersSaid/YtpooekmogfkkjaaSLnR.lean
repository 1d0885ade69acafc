/- Rows of any elements: read, of the call's own, one behind another. States in memory. -/
import Derived.Test.YtpooekmogfkkjaaGE
import Derived.Test.YtpooekmogfkkjaaSMoA
namespace Go.Proofs.Ytpooekmogfkkjaa
set_option maxRecDepth 100000
open Go.ChangeShapes Go.WideShapes Go.ChangeAt Go.RowKit Go.PlainAid Go.Deep
namespace Ln
/-- A slice of n elements of k cells each, that can be read. -/
def Rd (w : World) (v : Value) (k n : Nat) (cs : List Value) : Prop :=
  cs.length = n * k ∧ ((n = 0 ∧ ∃ ao cap, v = .slice ao 0 cap) ∨ ∃ b p cap, v = .slice (some ⟨b, p, none⟩) n cap ∧ b < w.heap.size ∧ 0 < n ∧ ∀ (j : Nat) (u : Value), cs[j]? = some u → w.cell? ⟨b, p + j, none⟩ = some u)
theorem Rd.on {w w' : World} {v : Value} {k n : Nat} {cs : List Value} (h : Rd w v k n cs) (hb : Below w.heap.size w w') : Rd w' v k n cs := by
  refine ⟨h.1, ?_⟩
  rcases h.2 with h | ⟨b, p, cap, hv, hlt, h0, hr⟩
  · exact .inl h
  · exact .inr ⟨b, p, cap, hv, Nat.lt_of_lt_of_le hlt hb.size, h0, fun j u hj => (hb.cell (p := ⟨b, p + j, none⟩) hlt).trans (hr j u hj)⟩
theorem Rd.len {w : World} {v : Value} {k n : Nat} {cs : List Value} (h : Rd w v k n cs) : ∃ ao cap, v = .slice ao n cap := by
  rcases h.2 with ⟨rfl, ao, cap, rfl⟩ | ⟨b, p, cap, rfl, _⟩
  · exact ⟨_, _, rfl⟩
  · exact ⟨_, _, rfl⟩
theorem Rd.nil (w : World) (ao : Option Addr) (cap k : Nat) : Rd w (.slice ao 0 cap) k 0 [] := ⟨by simp, .inl ⟨rfl, ao, cap, rfl⟩⟩
theorem Rd.at {w : World} {v : Value} {k n : Nat} {cs : List Value} (h : Rd w v k n cs) (hn : 0 < n) : ∃ b p cap, v = .slice (some ⟨b, p, none⟩) n cap ∧ b < w.heap.size ∧ ∀ (j : Nat) (u : Value), cs[j]? = some u → w.cell? ⟨b, p + j, none⟩ = some u := by
  rcases h.2 with ⟨rfl, _⟩ | ⟨b, p, cap, hv, hlt, _, hr⟩
  · omega
  · exact ⟨b, p, cap, hv, hlt, hr⟩
theorem own_rd {w : World} {n₀ : Nat} {T : TypeId} {v : Value} {k n : Nat} {cs : List Value} (h : w.ownsRow n₀ T k v n cs) : Rd w v k n cs := by
  refine ⟨h.1, ?_⟩
  rcases h.2 with ⟨rfl, rfl⟩ | ⟨g, cap, cur, rfl, hb, hg, hl, hc, hsz, ht⟩
  · exact .inl ⟨rfl, _, _, rfl⟩
  · by_cases h0 : n = 0
    · subst h0; exact .inl ⟨rfl, _, _, rfl⟩
    · refine .inr ⟨g, 0, cap, rfl, heap_inO hg, by omega, fun j u hj => ?_⟩
      rw [Nat.zero_add, cell_of_row _ _ _ _ _ _ hg]
      rw [← ht, List.getElem?_take] at hj
      split at hj
      · rw [← hj, Array.getElem?_toList]
      · cases hj
theorem own_len {w : World} {n₀ : Nat} {T : TypeId} {v : Value} {k n : Nat} {cs : List Value} (h : w.ownsRow n₀ T k v n cs) : ∃ ao cap, v = .slice ao n cap ∧ n ≤ cap := by
  rcases h.2 with ⟨rfl, rfl⟩ | ⟨g, cap, cur, rfl, hb, hg, hl, hc, hsz, ht⟩
  · exact ⟨_, _, rfl, Nat.le_refl _⟩
  · exact ⟨_, _, rfl, hl⟩
theorem own_cell {w : World} {n₀ : Nat} {T : TypeId} {g p : Nat} {k n cap : Nat} {cs : List Value} (h : w.ownsRow n₀ T k (.slice (some ⟨g, p, none⟩) n cap) n cs) : p = 0 ∧ n₀ ≤ g ∧ ∃ cur, w.heap[g]? = some (.cells cur T (0, 0)) := by
  rcases h.2 with ⟨e, _⟩ | ⟨g', cap', cur, e, hb, hg, _⟩
  · cases e
  · obtain ⟨e1, _, _⟩ := Value.slice.inj e
    cases e1
    exact ⟨rfl, hb, cur, hg⟩
theorem Rd.take {w : World} {ao : Option Addr} {cap k n m : Nat} {cs : List Value} (h : Rd w (.slice ao n cap) k n cs) (hm : m ≤ n) (c : Nat) : Rd w (.slice ao m c) k m (cs.take (m * k)) := by
  have hle : m * k ≤ n * k := Nat.mul_le_mul_right k hm
  refine ⟨by rw [List.length_take, h.1]; omega, ?_⟩
  by_cases h0 : m = 0
  · subst h0; exact .inl ⟨rfl, _, _, rfl⟩
  · rcases h.2 with ⟨rfl, _⟩ | ⟨b, p, cap', e, hlt, _, hr⟩
    · omega
    · obtain ⟨e1, _, _⟩ := Value.slice.inj e
      subst e1
      refine .inr ⟨b, p, c, rfl, hlt, by omega, fun j u hj => hr j u ?_⟩
      rw [List.getElem?_take] at hj
      split at hj
      · exact hj
      · cases hj
theorem Rd.drop {w : World} {b p cap k n m : Nat} {cs : List Value} (h : Rd w (.slice (some ⟨b, p, none⟩) n cap) k n cs) (hm : m < n) (c : Nat) : Rd w (.slice (some ⟨b, p + m * k, none⟩) (n - m) c) k (n - m) (cs.drop (m * k)) := by
  refine ⟨by rw [List.length_drop, h.1, Nat.sub_mul], ?_⟩
  rcases h.2 with ⟨rfl, _⟩ | ⟨b', p', cap', e, hlt, _, hr⟩
  · omega
  · obtain ⟨e1, _, _⟩ := Value.slice.inj e
    cases e1
    refine .inr ⟨b, p + m * k, c, rfl, hlt, by omega, fun j u hj => ?_⟩
    rw [List.getElem?_drop] at hj
    rw [Nat.add_assoc]
    exact hr _ u hj
/-- What a type of slices is. -/
structure RT where
  T : TypeId
  TS : TypeId
  z : Value
  k : Nat
  bytes : Nat
structure RT.Good (R : RT) : Prop where
  hu : Try.prog.underlying R.TS = some (.slice R.T)
  info : (Try.prog.info? R.T).map (fun i => (i.zero, i.size, i.bytes)) = some (some R.z, R.k, R.bytes)
  hz : R.z.cells.size = R.k
  hk : 0 < R.k
  hb : R.bytes ≤ 1000
/-- One row behind another. -/
theorem row_app {R : RT} (hR : R.Good) {n₀ : Nat} {W : World} {v u : Value} {n m : Nat} {a b : List Value} (h : W.ownsRow n₀ R.T R.k v n a) (hu : Rd W u R.k m b) (h1 : ∀ x ∈ b, x.oneCell' = true) (hn : n₀ ≤ W.heap.size) (hl : n + m ≤ 100000000) :
    ∃ v' W', (Builtin.append_ #[R.TS, R.TS] R.TS #[v, u]).run Try.prog W = .ok v' W' ∧ W'.ownsRow n₀ R.T R.k v' (n + m) (a ++ b) ∧ W.grownBy W' v.ownBlock := by
  obtain ⟨i0, hi, hz0, hz1, hz2⟩ := info_parts hR.info
  rcases hu.2 with ⟨rfl, ao, cap, rfl⟩ | ⟨bk, p, cap, rfl, hlt, h0, hr⟩
  · obtain rfl : b = [] := List.length_eq_zero_iff.1 (by rw [hu.1, Nat.zero_mul])
    rw [List.append_nil, Nat.add_zero]
    refine ⟨v, W, ?_, h, ⟨rfl, rfl, rfl, Nat.le_refl _, fun _ _ _ => rfl⟩⟩
    obtain ⟨ao', c', rfl, hle⟩ := own_len h
    cases ao with
    | none => cases ao' <;> simp [Builtin.append_, run_underlying hR.hu, sizeOf, typeInfo, hi, Builtin.lenOf, Builtin.firstCells, storeCells, hle]
    | some ad =>
      have hfc := run_firstCells_some (P := Try.prog) W i0.size 0 ad 0 cap [] (by simp) (fun j u hu => by simp at hu)
      cases ao' <;> simp [Builtin.append_, run_underlying hR.hu, sizeOf, typeInfo, hi, Builtin.lenOf, hfc, storeCells, hle]
  · obtain ⟨v', W', hrun, h1', h2, _⟩ := run_append_own (P := Try.prog) W n₀ R.TS R.TS R.T i0 _ R.k R.bytes hR.hu hi hz0 hz1 hz2 hR.hz hR.hk v n a h ⟨bk, p, none⟩ m cap b hu.1 (fun j x hj => by
      rw [Addr.add_lit]
      exact hr j x hj) h1 (by unfold maxLen; omega) (by have := hR.hb; exact Nat.le_trans (Nat.mul_le_mul_left (n + m) this) (by omega)) hn
    exact ⟨v', W', hrun, h1', h2⟩
/-- One element more. -/
theorem row_push {R : RT} (hR : R.Good) {n₀ : Nat} {W : World} {v : Value} {n : Nat} {a : List Value} (h : W.ownsRow n₀ R.T R.k v n a) (b : List Value) (hb : b.length = R.k) (h1 : ∀ x ∈ b, x.oneCell' = true) (hn : n₀ ≤ W.heap.size) (hl : n < 100000000) :
    ∃ v' W', (Builtin.append_ #[R.TS, R.TS] R.TS #[v, .slice (some ⟨W.heap.size, 0, none⟩) 1 1]).run Try.prog (W.alloc (.cells b.toArray R.T)) = .ok v' W' ∧ W'.ownsRow n₀ R.T R.k v' (n + 1) (a ++ b) ∧ Keeps (fun k => v.ownBlock = some k) W W' := by
  have hq := heap_alloc_new W (.cells b.toArray R.T)
  have hba : Below W.heap.size W (W.alloc (.cells b.toArray R.T)) := by go_grown
  obtain ⟨v', W', hr, ho, hg⟩ := row_app hR (ownsRow_onI h hba) (u := .slice (some ⟨W.heap.size, 0, none⟩) 1 1) (m := 1) (b := b) ⟨by rw [hb, Nat.one_mul], .inr ⟨_, 0, 1, rfl, by rw [World.size_alloc]; omega, by omega, fun j u hj => by
    rw [cell_of_row _ _ _ _ _ _ hq, Nat.zero_add]
    simpa using hj⟩⟩ h1 (by rw [World.size_alloc]; omega) (by omega)
  refine ⟨v', W', hr, ho, ?_⟩
  exact (Keeps.of_below hba).grown hg (fun k e => .inl e)
/-- States in memory, to be read. -/
def Sts (w : World) (v : Value) (l : List (List Int)) : Prop := ∃ vs, Rd w v 1 l.length vs ∧ ∀ (i : Nat) (u : Value) (s : List Int), vs[i]? = some u → l[i]? = some s → IntsOf w u s
/-- States in memory, of the call's own. -/
def StsOwn (n₀ : Nat) (w : World) (v : Value) (l : List (List Int)) : Prop := ∃ vs, w.ownsRow n₀ 36 1 v l.length vs ∧ ∀ (i : Nat) (u : Value) (s : List Int), vs[i]? = some u → l[i]? = some s → OwnI 0 w u s
theorem Sts.on {w w' : World} {v : Value} {l : List (List Int)} (h : Sts w v l) (hb : Below w.heap.size w w') : Sts w' v l := by
  obtain ⟨vs, h1, h2⟩ := h
  exact ⟨vs, h1.on hb, fun i u s hu hs => (h2 i u s hu hs).on hb⟩
theorem StsOwn.on {n₀ : Nat} {w w' : World} {v : Value} {l : List (List Int)} (h : StsOwn n₀ w v l) (hb : Below w.heap.size w w') : StsOwn n₀ w' v l := by
  obtain ⟨vs, h1, h2⟩ := h
  exact ⟨vs, ownsRow_onI h1 hb, fun i u s hu hs => (h2 i u s hu hs).on hb⟩
theorem StsOwn.base {n₀ n₁ : Nat} {w : World} {v : Value} {l : List (List Int)} (h : StsOwn n₀ w v l) (hb : n₁ ≤ n₀) : StsOwn n₁ w v l := by
  obtain ⟨vs, h1, h2⟩ := h
  exact ⟨vs, ownsRow_baseI h1 hb, h2⟩
theorem StsOwn.reads {n₀ : Nat} {w : World} {v : Value} {l : List (List Int)} (h : StsOwn n₀ w v l) : Sts w v l := by
  obtain ⟨vs, h1, h2⟩ := h
  exact ⟨vs, own_rd h1, fun i u s hu hs => (h2 i u s hu hs).reads⟩
theorem Sts.len {w : World} {v : Value} {l : List (List Int)} (h : Sts w v l) : ∃ ao cap, v = .slice ao l.length cap := by
  obtain ⟨vs, h1, _⟩ := h
  exact h1.len
theorem Sts.nil (w : World) (ao : Option Addr) (cap : Nat) : Sts w (.slice ao 0 cap) [] := ⟨[], Rd.nil w ao cap 1, fun i u s hu => by simp at hu⟩
theorem StsOwn.nil (n₀ : Nat) (w : World) : StsOwn n₀ w (.slice none 0 0) [] := ⟨[], World.ownsRow_nil _ _ _ _, fun i u s hu => by simp at hu⟩
/-- A state of a list. -/
theorem Sts.at {w : World} {v : Value} {l : List (List Int)} (h : Sts w v l) {i : Nat} {s : List Int} (hi : l[i]? = some s) : ∃ b p cap u, v = .slice (some ⟨b, p, none⟩) l.length cap ∧ b < w.heap.size ∧ w.cell? ⟨b, p + i, none⟩ = some u ∧ IntsOf w u s := by
  obtain ⟨vs, h1, h2⟩ := h
  have hlt : i < l.length := (List.getElem?_eq_some_iff.1 hi).1
  obtain ⟨b, p, cap, hv, hb, hr⟩ := h1.at (by omega)
  have hu : vs[i]? = some (vs[i]'(by rw [h1.1]; omega)) := List.getElem?_eq_getElem _
  exact ⟨b, p, cap, _, hv, hb, hr i _ hu, h2 i _ s hu hi⟩
theorem ints_one {w : World} {u : Value} {s : List Int} (h : IntsOf w u s) : u.oneCell' = true := by
  rcases h with ⟨_, ao, cap, rfl⟩ | ⟨b, o, cap, rfl, _⟩ <;> rfl
theorem Sts.one {w : World} {v : Value} {l : List (List Int)} {vs : List Value} (h1 : Rd w v 1 l.length vs) (h2 : ∀ (i : Nat) (u : Value) (s : List Int), vs[i]? = some u → l[i]? = some s → IntsOf w u s) : ∀ x ∈ vs, x.oneCell' = true := by
  intro x hx
  obtain ⟨i, hi⟩ := List.getElem?_of_mem hx
  have hlt := (List.getElem?_eq_some_iff.1 hi).1
  rw [h1.1, Nat.mul_one] at hlt
  exact ints_one (h2 i x _ hi (List.getElem?_eq_getElem hlt))
def rtSt : RT := ⟨36, 25, .slice none 0 0, 1, 24⟩
theorem rtSt_good : rtSt.Good := ⟨Try.underlying25, by kernel_rfl, rfl, by decide, by decide⟩
def appSt (vs : Array Value) : Sem Value := Builtin.append_ #[25, 25] 25 vs
theorem app_st (vs : Array Value) : Builtin.append_ #[25, 25] 25 vs = appSt vs := rfl
def rtTx : RT := ⟨9, 67, .string ⟨#[]⟩, 1, 16⟩
theorem rtTx_good : rtTx.Good := ⟨Try.underlying67, by kernel_rfl, rfl, by decide, by decide⟩
def appTx (vs : Array Value) : Sem Value := Builtin.append_ #[67, 67] 67 vs
theorem app_tx (vs : Array Value) : Builtin.append_ #[67, 67] 67 vs = appTx vs := rfl
/-- A row of slices of numbers is no block of numbers. -/
theorem ownI_keep {n₀ : Nat} {W W' : World} {u : Value} {s : List Int} {own : Nat → Prop} (h : OwnI n₀ W u s) (hk : Keeps own W W') (hno : ∀ k cur, own k → W.heap[k]? = some (.cells cur 3 (0, 0)) → False) : OwnI n₀ W' u s := by
  refine ⟨?_, h.2⟩
  rcases h.1 with h | ⟨g, o, cap, cur, hv, hn, hg, hr⟩
  · exact .inl h
  · exact .inr ⟨g, o, cap, cur, hv, hn, (hk.block g (heap_inO hg) (fun c => hno g cur c hg)).trans hg, hr⟩
/-- One state more. -/
theorem sts_push {n₀ : Nat} {W : World} {v u : Value} {l : List (List Int)} {s : List Int} (h : StsOwn n₀ W v l) (hu : OwnI 0 W u s) (hn : n₀ ≤ W.heap.size) (hl : l.length < 100000000) :
    ∃ v' W', (appSt #[v, .slice (some ⟨W.heap.size, 0, none⟩) 1 1]).run Try.prog (W.alloc (.cells #[u] 36)) = .ok v' W' ∧ StsOwn n₀ W' v' (l ++ [s]) ∧ Keeps (fun k => v.ownBlock = some k) W W' := by
  obtain ⟨vs, h1, h2⟩ := h
  obtain ⟨v', W', hr, ho, hk⟩ := row_push rtSt_good (v := v) (n := l.length) (a := vs) h1 [u] rfl (fun x hx => by rw [List.mem_singleton.1 hx]; exact ints_one hu.reads) hn hl
  have hno : ∀ k cur, v.ownBlock = some k → W.heap[k]? = some (.cells cur 3 (0, 0)) → False := fun k cur e hg => by
    rcases h1.2 with ⟨rfl, _⟩ | ⟨g, cap, cur', rfl, _, hg', _⟩
    · simp [Value.ownBlock] at e
    · obtain rfl : g = k := by simpa [Value.ownBlock] using e
      rw [hg'] at hg
      have := Option.some.inj hg
      cases this
  have hlen : vs.length = l.length := by rw [h1.1, Nat.mul_one]
  refine ⟨v', W', hr, ⟨vs ++ [u], by rw [List.length_append]; exact ho, fun i x t hx ht => ?_⟩, hk⟩
  by_cases c : i < l.length
  · rw [List.getElem?_append_left (by omega)] at hx
    rw [List.getElem?_append_left c] at ht
    exact ownI_keep (h2 i x t hx ht) hk hno
  · have hi : i = l.length := by
      have := (List.getElem?_eq_some_iff.1 ht).1
      rw [List.length_append, List.length_singleton] at this
      omega
    subst hi
    rw [← hlen, List.getElem?_concat_length] at hx
    rw [List.getElem?_concat_length] at ht
    obtain rfl := Option.some.inj hx
    obtain rfl := Option.some.inj ht
    exact ownI_keep hu hk hno
end Ln
end Go.Proofs.Ytpooekmogfkkjaa
