/- Plain: all orders, and what a search's spots are. Plain: how many spots a search of five operations has. States that lie below a bound, or in blocks of numbers; rows of them. Rows of bools of the call's own. A row of bools copied, and one of them set. -/
import Derived.Test.YtppjmmdiglnkfaaQbh
import Derived.Test.YtppjmmdiglnkfaaQbd
namespace Go.Proofs.Ytppjmmdiglnkfaa
set_option maxRecDepth 100000
open Go.ChangeShapes Go.WideShapes Go.ChangeAt Go.RowKit Go.PlainAid Go.Deep
namespace Ln
/-- A mask that says what a row of bools says. -/
def Bt (d : List Bool) (m : Nat) : Prop := ∀ k, m.testBit k = (d[k]?).getD false
theorem Bt.set {d : List Bool} {m : Nat} (h : Bt d m) {i : Nat} (hi : i < d.length) : Bt (d.set i true) (m ||| 2 ^ i) := by
  intro k
  rw [Nat.testBit_or, Nat.testBit_two_pow, h k]
  by_cases e : i = k
  · subst e
    rw [List.getElem?_set_self hi]
    simp
  · rw [List.getElem?_set_ne e]
    simp [e]
theorem Bt.zero (n : Nat) : Bt (List.replicate n false) 0 := by
  intro k
  rw [Nat.zero_testBit]
  by_cases h : k < n
  · rw [List.getElem?_replicate, if_pos h]; rfl
  · rw [List.getElem?_replicate, if_neg h]; rfl
theorem fulB_eq (l : List OpV) (d : List Bool) (k : Nat) : fulB l d k = (!doneP l k || (d[k]?).getD false) := by
  unfold fulB doneP
  cases l[k]? <;> rfl
theorem wayB_eq {l : List OpV} (d : List Bool) {i : Nat} {o : OpV} (hi : l[i]? = some o) (k : Nat) : wayB l d o k = ((d[k]?).getD false || !befP l i k) := by
  unfold wayB befP
  rw [hi]
  cases l[k]? <;> rfl
theorem full_exit {l : List OpV} {d : List Bool} {m : Nat} (h : Bt d m) : fullB l d = true ↔ exitB l m = true := by
  rw [exit_iff]
  unfold fullB
  rw [List.all_eq_true]
  constructor
  · intro f k hk
    have hlt : k < l.length := by
      rcases Nat.lt_or_ge k l.length with c | c
      · exact c
      · rw [doneP_far c] at hk; cases hk
    have := f k (List.mem_range.2 hlt)
    rw [fulB_eq, hk] at this
    rw [h k]
    simpa using this
  · intro f k _
    rw [fulB_eq]
    cases hd : doneP l k with
    | false => rfl
    | true =>
      have := f k hd
      rw [h k] at this
      rw [this]; rfl
/-- May the i-th be the next one? -/
noncomputable def mayR (l : List OpV) (d : List Bool) (i : Nat) (o : OpV) : Bool := !(d[i]?).getD false && freeB l d o
theorem may_mask {l : List OpV} {d : List Bool} {m i : Nat} {o : OpV} (h : Bt d m) (hi : l[i]? = some o) : mayR l d i o = true ↔ mayB l m i = true := by
  have hlt := (List.getElem?_eq_some_iff.1 hi).1
  rw [may_iff]
  unfold mayR freeB
  rw [Bool.and_eq_true, List.all_eq_true]
  constructor
  · rintro ⟨a, f⟩
    refine ⟨hlt, by rw [h i]; simpa using a, fun k hk => ?_⟩
    have hkl : k < l.length := by
      rcases Nat.lt_or_ge k l.length with c | c
      · exact c
      · rw [befP_far c] at hk; cases hk
    have := f k (List.mem_range.2 hkl)
    rw [wayB_eq d hi, hk] at this
    rw [h k]
    simpa using this
  · rintro ⟨_, a, f⟩
    refine ⟨by rw [h i] at a; rw [a]; rfl, fun k _ => ?_⟩
    rw [wayB_eq d hi]
    cases hb : befP l i k with
    | false => simp
    | true =>
      have := f k hb
      rw [h k] at this
      rw [this]; rfl
/-- One operation's part of all orders. -/
noncomputable def ord1 (l : List OpV) (d : List Bool) (s : List Int) (rec : List Bool → List Int → List (List Int)) (i : Nat) : List (List Int) :=
  match l[i]? with
  | some o => if mayR l d i o = true ∧ (stepC o s).2 = true then rec (d.set i true) (stepC o s).1 else []
  | none => []
/-- The states that all orders lead to; f operations at most are left. -/
noncomputable def ordL (l : List OpV) : Nat → List Bool → List Int → List (List Int)
  | 0, d, s => if fullB l d = true then [s] else []
  | f + 1, d, s => (if fullB l d = true then [s] else []) ++ (List.range l.length).flatMap (ord1 l d s (ordL l f))
/-- What steps lead to. -/
inductive Reach (l : List OpV) : Spt → Spt → Prop
  | refl (p : Spt) : Reach l p p
  | step {p q r : Spt} : q ∈ nx l p → Reach l q r → Reach l p r
theorem Reach.last {l : List OpV} {p q r : Spt} (h : Reach l p q) (hr : r ∈ nx l q) : Reach l p r := by
  induction h with
  | refl p => exact .step hr (.refl _)
  | step h1 _ ih => exact .step h1 (ih hr)
/-- Places not used yet. -/
def left (d : List Bool) : Nat := d.countP (!·)
theorem left_set : ∀ (d : List Bool) (i : Nat), d[i]? = some false → left (d.set i true) + 1 = left d
  | [], _, h => by simp at h
  | b :: d, 0, h => by
    simp at h
    subst h
    simp [left]
  | b :: d, i + 1, h => by
    have := left_set d i (by simpa using h)
    unfold left at *
    rw [List.set_cons_succ, List.countP_cons, List.countP_cons]
    omega
theorem ord_mem {l : List OpV} : ∀ (f : Nat) (d : List Bool) (m : Nat) (s t : List Int), Bt d m → d.length = l.length → left d ≤ f → (t ∈ ordL l f d s ↔ ∃ m', Reach l (m, s) (m', t) ∧ exitB l m' = true) := by
  intro f
  induction f with
  | zero =>
    intro d m s t hb hl hf
    have hno : ∀ q, q ∈ nx l (m, s) → False := fun q hq => by
      obtain ⟨i, hi, h1⟩ := nxK_mem.1 hq
      obtain ⟨hm, _⟩ := nx1_some h1
      have h0 := (may_iff.1 hm).2.1
      rw [hb i] at h0
      obtain ⟨c, hc⟩ : ∃ c, d[i]? = some c := ⟨_, List.getElem?_eq_getElem (by omega)⟩
      rw [hc] at h0
      have : c = false := h0
      subst this
      have := left_set d i hc
      omega
    unfold ordL
    constructor
    · intro h
      split at h
      · rename_i hfu
        obtain rfl : t = s := by simpa using h
        exact ⟨m, .refl _, (full_exit hb).1 hfu⟩
      · cases h
    · rintro ⟨m', hr, he⟩
      cases hr with
      | refl => rw [if_pos ((full_exit hb).2 he)]; exact List.mem_singleton.2 rfl
      | step hq _ => exact (hno _ hq).elim
  | succ f ih =>
    intro d m s t hb hl hf
    unfold ordL
    rw [List.mem_append]
    constructor
    · rintro (h | h)
      · split at h
        · rename_i hfu
          obtain rfl : t = s := by simpa using h
          exact ⟨m, .refl _, (full_exit hb).1 hfu⟩
        · cases h
      · obtain ⟨i, hi, ht⟩ := List.mem_flatMap.1 h
        have hi := List.mem_range.1 hi
        unfold ord1 at ht
        obtain ⟨o, ho⟩ : ∃ o, l[i]? = some o := ⟨_, List.getElem?_eq_getElem hi⟩
        rw [ho] at ht
        simp only at ht
        split at ht
        · rename_i hc
          have hmb := (may_mask hb ho).1 hc.1
          have h0 := (may_iff.1 hmb).2.1
          rw [hb i] at h0
          obtain ⟨c, hcc⟩ : ∃ c, d[i]? = some c := ⟨_, List.getElem?_eq_getElem (by omega)⟩
          rw [hcc] at h0
          have : c = false := h0
          subst this
          have hls := left_set d i hcc
          obtain ⟨m', hr, he⟩ := (ih (d.set i true) (m ||| 2 ^ i) _ t (hb.set (by omega)) (by rw [List.length_set]; exact hl) (by omega)).1 ht
          refine ⟨m', .step (nxK_mem.2 ⟨i, hi, ?_⟩) hr, he⟩
          unfold nx1 stO
          simp only
          rw [if_pos hmb, ho]
          simp [hc.2]
        · cases ht
    · rintro ⟨m', hr, he⟩
      cases hr with
      | refl => exact .inl (by rw [if_pos ((full_exit hb).2 he)]; exact List.mem_singleton.2 rfl)
      | step hq hr2 =>
        right
        obtain ⟨i, hi, h1⟩ := nxK_mem.1 hq
        obtain ⟨hmb, o, u, ho, hst, rfl⟩ := nx1_some h1
        simp only at hmb hst hr2
        have h0 := (may_iff.1 hmb).2.1
        rw [hb i] at h0
        obtain ⟨c, hcc⟩ : ∃ c, d[i]? = some c := ⟨_, List.getElem?_eq_getElem (by omega)⟩
        rw [hcc] at h0
        have : c = false := h0
        subst this
        have hls := left_set d i hcc
        have hs2 : (stepC o s).2 = true ∧ (stepC o s).1 = u := by
          unfold stO at hst
          split at hst
          · rename_i hh; exact ⟨hh, Option.some.inj hst⟩
          · cases hst
        refine List.mem_flatMap.2 ⟨i, List.mem_range.2 hi, ?_⟩
        unfold ord1
        rw [ho]
        simp only
        rw [if_pos ⟨(may_mask hb ho).2 hmb, hs2.1⟩, hs2.2]
        exact (ih (d.set i true) (m ||| 2 ^ i) u t (hb.set (by omega)) (by rw [List.length_set]; exact hl) (by omega)).2 ⟨m', hr2, he⟩
/-- The exits of a whole search from one state are what all orders lead to. -/
theorem exits_orders {l : List OpV} {s : List Int} {F : List Spt} (h : Full l [s] F) (t : List Int) : t ∈ exitsL l F ↔ t ∈ ordL l l.length (List.replicate l.length false) s := by
  rw [exits_mem, ord_mem l.length (List.replicate l.length false) 0 s t (Bt.zero _) List.length_replicate (by
    unfold left
    exact Nat.le_trans List.countP_le_length (by rw [List.length_replicate]; exact Nat.le_refl _))]
  have hR : ∀ p, p ∈ F ↔ Reach l (0, s) p := fun p => by
    constructor
    · exact h.least (Reach l (0, s)) (fun e he => by rw [List.mem_singleton.1 he]; exact .refl _) (fun p hp q hq => hp.last hq) p
    · intro hr
      have hin : (0, s) ∈ F := h.start s (List.mem_singleton.2 rfl)
      generalize (0, s) = x at hr hin
      induction hr with
      | refl p => exact hin
      | step h1 _ ih => exact ih (h.step _ hin _ h1)
  exact ⟨fun ⟨m, hm, he⟩ => ⟨m, (hR _).1 hm, he⟩, fun ⟨m, hm, he⟩ => ⟨m, (hR _).2 hm, he⟩⟩
/-- How many states all orders lead to. -/
theorem ord_len {l : List OpV} (hl : l.length ≤ 5) : ∀ (f : Nat) (d : List Bool) (s : List Int), (ordL l f d s).length ≤ 6 ^ f := by
  intro f
  induction f with
  | zero =>
    intro d s
    unfold ordL
    split <;> simp
  | succ f ih =>
    intro d s
    unfold ordL
    have h1 : ∀ i, (ord1 l d s (ordL l f) i).length ≤ 6 ^ f := fun i => by
      unfold ord1
      split
      · split
        · exact ih _ _
        · exact Nat.zero_le _
      · exact Nat.zero_le _
    have h2 : ∀ n, ((List.range n).flatMap (ord1 l d s (ordL l f))).length ≤ n * 6 ^ f := fun n => by
      induction n with
      | zero => simp
      | succ n ihn =>
        rw [List.range_succ, List.flatMap_append, List.length_append, Nat.succ_mul]
        have := h1 n
        have e : List.flatMap (ord1 l d s (ordL l f)) [n] = ord1 l d s (ordL l f) n := by simp
        rw [e]
        omega
    have h3 := h2 l.length
    have h4 : l.length * 6 ^ f ≤ 5 * 6 ^ f := Nat.mul_le_mul_right _ hl
    have h5 : 0 < 6 ^ f := Nat.pow_pos (by decide)
    rw [List.length_append, Nat.pow_succ]
    split
    · rw [List.length_singleton]; omega
    · rw [List.length_nil]; omega
end Ln
end Go.Proofs.Ytppjmmdiglnkfaa
namespace Go.Proofs.Ytppjmmdiglnkfaa
set_option maxRecDepth 100000
open Go.ChangeShapes Go.WideShapes Go.ChangeAt Go.RowKit Go.PlainAid Go.Deep
namespace Ln
/-- All that steps lead to, way by way. -/
noncomputable def treeL (l : List OpV) : Nat → Spt → List Spt
  | 0, p => [p]
  | f + 1, p => p :: (nx l p).flatMap (treeL l f)
theorem tree_len {l : List OpV} (hl : l.length ≤ 5) : ∀ (f : Nat) (p : Spt), (treeL l f p).length ≤ 6 ^ f := by
  intro f
  induction f with
  | zero => intro p; unfold treeL; simp
  | succ f ih =>
    intro p
    unfold treeL
    have h2 : ∀ x : List Spt, (x.flatMap (treeL l f)).length ≤ x.length * 6 ^ f := fun x => by
      induction x with
      | nil => simp
      | cons a x ihx =>
        rw [List.flatMap_cons, List.length_append, List.length_cons, Nat.succ_mul]
        have := ih a
        omega
    have h3 := h2 (nx l p)
    have hn : (nx l p).length ≤ 5 := Nat.le_trans (nxK_len l p l.length) hl
    have h4 : (nx l p).length * 6 ^ f ≤ 5 * 6 ^ f := Nat.mul_le_mul_right _ hn
    have h5 : 0 < 6 ^ f := Nat.pow_pos (by decide)
    rw [List.length_cons, Nat.pow_succ]
    omega
theorem nx_left {l : List OpV} {d : List Bool} {m : Nat} {s : List Int} {q : Spt} (hb : Bt d m) (hl : d.length = l.length) (hq : q ∈ nx l (m, s)) : ∃ d', Bt d' q.1 ∧ d'.length = l.length ∧ left d' + 1 = left d := by
  obtain ⟨i, hi, h1⟩ := nxK_mem.1 hq
  obtain ⟨hmb, o, u, _, _, rfl⟩ := nx1_some h1
  have h0 := (may_iff.1 hmb).2.1
  rw [hb i] at h0
  obtain ⟨c, hcc⟩ : ∃ c, d[i]? = some c := ⟨_, List.getElem?_eq_getElem (by omega)⟩
  rw [hcc] at h0
  have : c = false := h0
  subst this
  exact ⟨d.set i true, hb.set (by omega), by rw [List.length_set]; exact hl, left_set d i hcc⟩
theorem reach_tree {l : List OpV} {p q : Spt} (h : Reach l p q) : ∀ (f : Nat) (d : List Bool), Bt d p.1 → d.length = l.length → left d ≤ f → q ∈ treeL l f p := by
  induction h with
  | refl p =>
    intro f d _ _ _
    cases f <;> simp [treeL]
  | step hq _ ih =>
    intro f d hb hl hf
    obtain ⟨d', hb', hl', hs⟩ := nx_left hb hl hq
    cases f with
    | zero => omega
    | succ f =>
      unfold treeL
      exact List.mem_cons_of_mem _ (List.mem_flatMap.2 ⟨_, hq, ih f d' hb' hl' (by omega)⟩)
theorem spots_few {l : List OpV} (hl : l.length ≤ 5) {s : List Int} {first : List (List Int)} (hf : US [s] first) (lim : Int) : (bfs l lim most 0 (starts first)).length ≤ 7776 := by
  have hm : ∀ p ∈ bfs l lim most 0 (starts first), Reach l (0, s) p := bfs_sound l lim (S := Reach l (0, s)) (fun p hp q hq => hp.last hq) most 0 _ (fun p hp => by
    obtain ⟨e, he, rfl⟩ := List.mem_map.1 hp
    obtain rfl : e = s := by simpa using (hf.mem e).1 he
    exact .refl _)
  have hnd : (bfs l lim most 0 (starts first)).Nodup := bfs_nodup l lim _ _ _ (by
    unfold starts
    rw [List.Nodup, List.pairwise_map]
    exact hf.nodup.imp fun {a b} h e => h (Prod.mk.inj e).2)
  refine Nat.le_trans (List.Nodup.length_le_of_subset (l₂ := treeL l l.length (0, s)) hnd fun p hp => reach_tree (hm p hp) l.length (List.replicate l.length false) (Bt.zero _) List.length_replicate (by
    unfold left
    exact Nat.le_trans List.countP_le_length (by rw [List.length_replicate]; exact Nat.le_refl _))) ?_
  exact Nat.le_trans (tree_len hl _ _) (Nat.le_trans (Nat.pow_le_pow_right (by decide) hl) (by decide))
end Ln
end Go.Proofs.Ytppjmmdiglnkfaa
namespace Go.Proofs.Ytppjmmdiglnkfaa
set_option maxRecDepth 100000
open Go.ChangeShapes Go.WideShapes Go.ChangeAt Go.RowKit Go.PlainAid Go.Deep
namespace Ln
/-- Where a state may lie: below a bound, or in a block of numbers. -/
def Loc (n : Nat) (w : World) (u : Value) : Prop := ∀ b, u.ownBlock = some b → b < n ∨ ∃ cur, w.heap[b]? = some (.cells cur 3 (0, 0))
/-- A state to be read that lies so. -/
def Lie (n : Nat) (w : World) (u : Value) (s : List Int) : Prop := IntsC w u s ∧ (s = [] ∨ Loc n w u)
theorem Loc.keep {n : Nat} {w w' : World} {u : Value} {own : Nat → Prop} (h : Loc n w u) (hk : Keeps own w w') (h2 : ∀ g cur, own g → w.heap[g]? = some (.cells cur 3 (0, 0)) → False) : Loc n w' u := fun b hb => by
  rcases h b hb with c | ⟨cur, c⟩
  · exact .inl c
  · exact .inr ⟨cur, (hk.block b (heap_inO c) (fun o => h2 b cur o c)).trans c⟩
theorem ints_block {w w' : World} {u : Value} {s : List Int} (h : IntsOf w u s) (hs : w.heap.size ≤ w'.heap.size) (hb : ∀ b, u.ownBlock = some b → b < w.heap.size → w'.heap[b]? = w.heap[b]?) : IntsOf w' u s := by
  rcases h with h | ⟨b, o, cap, rfl, hlt, h0, hm, hr⟩
  · exact .inl h
  · refine .inr ⟨b, o, cap, rfl, Nat.lt_of_lt_of_le hlt hs, h0, hm, fun i x hi => ⟨(hr i x hi).1, ?_⟩⟩
    exact (World.cell?_of_block (w := w) (hb b rfl hlt)).trans (hr i x hi).2
theorem Lie.keep {n : Nat} {w w' : World} {u : Value} {s : List Int} {own : Nat → Prop} (h : Lie n w u s) (hk : Keeps own w w') (h1 : ∀ g, own g → n ≤ g) (h2 : ∀ g cur, own g → w.heap[g]? = some (.cells cur 3 (0, 0)) → False) : Lie n w' u s := by
  rcases h.2 with rfl | hL
  · refine ⟨⟨?_, h.1.cap⟩, .inl rfl⟩
    rcases h.1.ints with ⟨_, ao, cap, rfl⟩ | ⟨b, o, cap, rfl, _, h0, _⟩
    · exact .inl ⟨rfl, ao, cap, rfl⟩
    · exact absurd h0 (by simp)
  · exact ⟨⟨ints_block h.1.ints hk.size (fun b hb hlt => hk.block b hlt (fun o => by
      rcases hL b hb with c | ⟨cur, c⟩
      · have := h1 b o; omega
      · exact h2 b cur o c)), h.1.cap⟩, .inr (hL.keep hk h2)⟩
theorem Lie.on {n : Nat} {w w' : World} {u : Value} {s : List Int} (h : Lie n w u s) (hb : Below w.heap.size w w') : Lie n w' u s :=
  ⟨h.1.on hb, h.2.imp id fun hL b e => (hL b e).imp id fun ⟨cur, c⟩ => ⟨cur, (hb.block b (heap_inO c)).trans c⟩⟩
/-- States that lie so, in a row of the call's own. -/
def Out (n n₀ : Nat) (w : World) (v : Value) (l : List (List Int)) : Prop := ∃ vs, w.ownsRow n₀ 27 1 v l.length vs ∧ ∀ (i : Nat) (u : Value) (s : List Int), vs[i]? = some u → l[i]? = some s → Lie n w u s
theorem Out.nil (n n₀ : Nat) (w : World) : Out n n₀ w (.slice none 0 0) [] := ⟨[], World.ownsRow_nil _ _ _ _, fun i u s hu => by simp at hu⟩
theorem Out.on {n n₀ : Nat} {w w' : World} {v : Value} {l : List (List Int)} (h : Out n n₀ w v l) (hb : Below w.heap.size w w') : Out n n₀ w' v l := by
  obtain ⟨vs, h1, h2⟩ := h
  exact ⟨vs, ownsRow_onI h1 hb, fun i u s hu hs => (h2 i u s hu hs).on hb⟩
theorem Out.len {n n₀ : Nat} {w : World} {v : Value} {l : List (List Int)} (h : Out n n₀ w v l) : ∃ ao cap, v = .slice ao l.length cap := by
  obtain ⟨vs, h1, _⟩ := h
  obtain ⟨ao, cap, e, _⟩ := own_len h1
  exact ⟨ao, cap, e⟩
theorem Out.sts {n n₀ : Nat} {w : World} {v : Value} {l : List (List Int)} (h : Out n n₀ w v l) : Sts w v l := by
  obtain ⟨vs, h1, h2⟩ := h
  exact ⟨vs, own_rd h1, fun i u s hu hs => (h2 i u s hu hs).1.ints⟩
theorem Out.keep {n n₀ : Nat} {w w' : World} {v : Value} {l : List (List Int)} {own : Nat → Prop} (h : Out n n₀ w v l) (hk : Keeps own w w') (h1 : ∀ g, own g → n ≤ g) (h2 : ∀ g cur, own g → w.heap[g]? = some (.cells cur 3 (0, 0)) → False) (h3 : ∀ g cur, own g → w.heap[g]? = some (.cells cur 27 (0, 0)) → False) : Out n n₀ w' v l := by
  obtain ⟨vs, a, b⟩ := h
  exact ⟨vs, row_keep a hk h3, fun i u s hu hs => (b i u s hu hs).keep hk h1 h2⟩
/-- A row of such states, one behind another's. -/
theorem Out.app {n n₀ n₁ : Nat} {w : World} {v v2 : Value} {l l2 : List (List Int)} (h : Out n n₀ w v l) (h2 : Out n n₁ w v2 l2) (hn : n ≤ n₀) (hn0 : n₀ ≤ w.heap.size) (hl : l.length + l2.length ≤ 1000000) :
    ∃ v' w', (appSt #[v, v2]).run Try.prog w = .ok v' w' ∧ Out n n₀ w' v' (l ++ l2) ∧ Below n₀ w w' := by
  obtain ⟨x1, r1, e1⟩ := h
  obtain ⟨x2, r2, e2⟩ := h2
  obtain ⟨v', W', hr, ho, hg⟩ := row_app rtSt_good r1 (own_rd r2) (Sts.one (own_rd r2) fun i u s hu hs => (e2 i u s hu hs).1.ints) hn0 (by omega)
  have hk : Keeps (fun k => v.ownBlock = some k) w W' := (Keeps.refl _ w).grown hg (fun k e => .inl e)
  have q1 : ∀ g, v.ownBlock = some g → n ≤ g := fun g e => Nat.le_trans hn (row_block r1 e).1
  have q2 : ∀ g cur, v.ownBlock = some g → w.heap[g]? = some (.cells cur 3 (0, 0)) → False := fun g cur e hc => by
    obtain ⟨_, cur', hc'⟩ := row_block r1 e
    rw [hc] at hc'
    exact absurd (Obj.cells.inj (Option.some.inj hc')).2.1 (by decide)
  refine ⟨v', W', hr, ⟨x1 ++ x2, by rw [List.length_append]; exact ho, fun i u s hu hs => ?_⟩, (Below.refl n₀ w).grown hg hn0 (fun k e => (row_block r1 e).1)⟩
  have hx1 : x1.length = l.length := by rw [r1.1, Nat.mul_one]
  by_cases c : i < l.length
  · rw [List.getElem?_append_left (by omega)] at hu
    rw [List.getElem?_append_left c] at hs
    exact (e1 i u s hu hs).keep hk q1 q2
  · rw [List.getElem?_append_right (by omega)] at hu hs
    rw [hx1] at hu
    exact (e2 _ u s hu hs).keep hk q1 q2
/-- One such state. -/
theorem Out.one {n : Nat} {w : World} {u : Value} {s : List Int} (h : Lie n w u s) : Out n w.heap.size (w.alloc (.cells #[u] 27)) (.slice (some ⟨w.heap.size, 0, none⟩) 1 1) [s] := by
  refine ⟨[u], ⟨rfl, .inr ⟨w.heap.size, 1, #[u], rfl, Nat.le_refl _, heap_alloc_new w _, Nat.le_refl _, by unfold maxLen; omega, rfl, rfl⟩⟩, fun i u' s' hu hs => ?_⟩
  have hi : i = 0 := by
    have := (List.getElem?_eq_some_iff.1 hu).1
    simp at this; exact this
  subst hi
  simp at hu hs
  subst hu hs
  exact h.on (by go_grown)
/-- A step's answer lies as its state does, or is new. -/
theorem Lie.step {n : Nat} {w w' : World} {v v' : Value} {s t : List Int} (h : Lie n w v s) (hi : IntsC w' v' t) (hb : Below w.heap.size w w') (hl : SameB v v' ∨ OwnI w.heap.size w' v' t) : Lie n w' v' t := by
  refine ⟨hi, ?_⟩
  rcases hl with ⟨hl, hn⟩ | hl
  · obtain ⟨ao, ca, rfl, _⟩ := h.1.ints.parts
    obtain ⟨ao', ca', rfl, _⟩ := hi.ints.parts
    have hn : t.length ≤ s.length := hn
    by_cases ht : t = []
    · exact .inl ht
    · have hs : s ≠ [] := fun e => ht (by subst e; exact List.length_eq_zero_iff.1 (Nat.le_zero.1 hn))
      right
      intro b e
      rcases hl with hl | hl
      · rcases (h.on hb).2 with c | c
        · exact absurd c hs
        · exact c b (hl ▸ e)
      · rw [hl] at e; cases e
  · rcases hl.1 with ⟨rfl, _⟩ | ⟨g, o, cap, cur, rfl, _, hg, _⟩
    · exact .inl rfl
    · right
      intro b e
      obtain rfl : g = b := Option.some.inj e
      exact .inr ⟨cur, hg⟩
/-- Bools. -/
def rtBl : RT := ⟨4, 59, .bool false, 1, 1⟩
theorem rtBl_good : rtBl.Good := ⟨Try.underlying59, by kernel_rfl, rfl, by decide, by decide⟩
def appBl (vs : Array Value) : Sem Value := Builtin.append_ #[59, 59] 59 vs
theorem app_bl (vs : Array Value) : Builtin.append_ #[59, 59] 59 vs = appBl vs := rfl
end Ln
end Go.Proofs.Ytppjmmdiglnkfaa
namespace Go.Proofs.Ytppjmmdiglnkfaa
set_option maxRecDepth 100000
open Go.ChangeShapes Go.WideShapes Go.ChangeAt Go.RowKit Go.PlainAid Go.Deep
namespace Ln
/-- One cell of a row of the call's own is set. -/
theorem own_set {w : World} {n₀ g n cap : Nat} {T : TypeId} {cs : List Value} (h : w.ownsRow n₀ T 1 (.slice (some ⟨g, 0, none⟩) n cap) n cs) (i : Nat) (u : Value) :
    (w.setCell ⟨g, i, none⟩ u).ownsRow n₀ T 1 (.slice (some ⟨g, 0, none⟩) n cap) n (cs.set i u) ∧ Keeps (fun k => k = g) w (w.setCell ⟨g, i, none⟩ u) ∧ n₀ ≤ g ∧ (∃ cur, w.heap[g]? = some (.cells cur T (0, 0))) := by
  rcases h.2 with ⟨e, _⟩ | ⟨g', cap', cur, e, hb, hg, hl, hc, hsz, ht⟩
  · cases e
  · obtain ⟨e1, _, e2⟩ := Value.slice.inj e
    cases e1
    subst e2
    refine ⟨⟨by rw [List.length_set]; exact h.1, .inr ⟨g, cap, cur.setIfInBounds i u, rfl, hb, heap_setCell_same _ _ _ _ _ _ hg, hl, hc, by rw [Array.size_setIfInBounds]; exact hsz, ?_⟩⟩, (Keeps.refl (fun k => k = g) w).setCell (.inl rfl) u, hb, cur, hg⟩
    rw [← ht, Array.toList_setIfInBounds, List.take_set]
/-- Bools copied into a new row. -/
theorem bools_copy {w : World} {vd : Value} {d : List Bool} (h : Rd w vd 1 d.length (d.map Value.bool)) (h0 : 0 < d.length) (hl : d.length ≤ 100000) :
    ∃ g cap w', (appBl #[.slice (some ⟨w.heap.size, 0, none⟩) 0 0, vd]).run Try.prog (w.alloc (.cells #[] 4)) = .ok (.slice (some ⟨g, 0, none⟩) d.length cap) w' ∧ w'.ownsRow w.heap.size 4 1 (.slice (some ⟨g, 0, none⟩) d.length cap) d.length (d.map Value.bool) ∧ Below w.heap.size w w' := by
  have hba : Below w.heap.size w (w.alloc (.cells #[] 4)) := by go_grown
  have hm0 : (w.alloc (.cells #[] 4)).ownsRow w.heap.size 4 1 (.slice (some ⟨w.heap.size, 0, none⟩) 0 0) 0 [] := World.ownsRow_made w #[] 0 (Nat.le_refl _) (Nat.zero_le _) rfl
  obtain ⟨v', W', hr, ho, hg⟩ := row_app rtBl_good hm0 (h.on hba) (fun x hx => by
    obtain ⟨b, _, rfl⟩ := List.mem_map.1 hx
    rfl) hba.size (by omega)
  rw [Nat.zero_add, List.nil_append] at ho
  have hb' := hba.grown hg hba.size (fun k e => (row_block hm0 e).1)
  rcases ho.2 with ⟨_, e⟩ | ⟨g, cap, cur, rfl, _⟩
  · omega
  · exact ⟨g, cap, W', hr, ho, hb'⟩
/-- The next row of bools: a copy, with one place used. -/
theorem bools_set {w : World} {n₀ g cap i : Nat} {d : List Bool} (h : w.ownsRow n₀ 4 1 (.slice (some ⟨g, 0, none⟩) d.length cap) d.length (d.map Value.bool)) :
    Rd (w.setCell ⟨g, i, none⟩ (.bool true)) (.slice (some ⟨g, 0, none⟩) d.length cap) 1 (d.set i true).length ((d.set i true).map Value.bool) ∧ Keeps (fun k => k = g) w (w.setCell ⟨g, i, none⟩ (.bool true)) ∧ n₀ ≤ g ∧ (∃ cur, w.heap[g]? = some (.cells cur 4 (0, 0))) := by
  obtain ⟨h1, h2⟩ := own_set h i (.bool true)
  refine ⟨?_, h2⟩
  rw [List.length_set, List.map_set]
  exact own_rd h1
end Ln
end Go.Proofs.Ytppjmmdiglnkfaa
