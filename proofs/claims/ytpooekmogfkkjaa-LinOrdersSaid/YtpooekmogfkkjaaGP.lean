/- Plain: what a search reaches. Two rows of states, one behind the other; an answer stored. A row of states that grows, the states below a world's end; an answer stored into a block laid ahead. -/
import Derived.Test.YtpooekmogfkkjaaSLoE
import Derived.Test.YtpooekmogfkkjaaSLnY
namespace Go.Proofs.Ytpooekmogfkkjaa
set_option maxRecDepth 100000
open Go.ChangeShapes Go.WideShapes Go.ChangeAt Go.RowKit Go.PlainAid
namespace Ln
theorem bfs_sound (l : List OpV) (lim : Int) {S : Spt → Prop} (hS : ∀ p, S p → ∀ q ∈ nx l p, S q) : ∀ (f i : Nat) (out : List Spt), (∀ p ∈ out, S p) → ∀ p ∈ bfs l lim f i out, S p
  | 0, _, _, h => h
  | f + 1, i, out, h => by
    rw [bfs]
    split
    · rename_i p hp
      split
      · refine bfs_sound l lim hS f (i + 1) _ fun q hq => ?_
        rcases adds_mem.1 hq with hq | hq
        · exact h q hq
        · exact hS p (h p (List.mem_of_getElem? hp)) q hq
      · exact h
    · exact h
theorem bfs_sub (l : List OpV) (lim : Int) : ∀ (f i : Nat) (out : List Spt), ∀ p ∈ out, p ∈ bfs l lim f i out
  | 0, _, _, _, h => h
  | f + 1, i, out, p, h => by
    rw [bfs]
    split
    · split
      · exact bfs_sub l lim f (i + 1) _ p (adds_mem.2 (.inl h))
      · exact h
    · exact h
theorem bfs_closed (l : List OpV) (lim : Int) : ∀ (f i : Nat) (out : List Spt), ((bfs l lim f i out).length : Int) ≤ lim → (bfs l lim f i out).length ≤ i + f → (∀ j p, j < i → out[j]? = some p → ∀ q ∈ nx l p, q ∈ out) → ∀ p ∈ bfs l lim f i out, ∀ q ∈ nx l p, q ∈ bfs l lim f i out
  | 0, i, out, _, hf, hc => fun p hp q hq => by
    obtain ⟨j, hj⟩ := List.getElem?_of_mem (show p ∈ out from hp)
    have := (List.getElem?_eq_some_iff.1 hj).1
    exact hc j p (by have : out.length ≤ i + 0 := hf; omega) hj q hq
  | f + 1, i, out, hl, hf, hc => by
    cases hp : out[i]? with
    | none =>
      have e : bfs l lim (f + 1) i out = out := bfs_end (List.getElem?_eq_none_iff.1 hp)
      rw [e]
      intro p hpo q hq
      obtain ⟨j, hj⟩ := List.getElem?_of_mem hpo
      have := (List.getElem?_eq_some_iff.1 hj).1
      have := List.getElem?_eq_none_iff.1 hp
      exact hc j p (by omega) hj q hq
    | some x =>
      have h0 := bfs_len l lim (f + 1) i out
      have e := bfs_go (l := l) (f := f) hp (show (out.length : Int) ≤ lim by omega)
      rw [e] at hl hf ⊢
      refine bfs_closed l lim f (i + 1) _ hl (by omega) fun j p hj hjp q hq => ?_
      by_cases c : j < i
      · have hjo : j < out.length := by have := (List.getElem?_eq_some_iff.1 hp).1; omega
        have := adds_get (l := nx l x) (List.getElem?_eq_getElem hjo)
        rw [this] at hjp
        exact adds_mem.2 (.inl (hc j p c (by rw [← hjp]; exact List.getElem?_eq_getElem hjo) q hq))
      · obtain rfl : j = i := by omega
        rw [adds_get hp] at hjp
        obtain rfl := Option.some.inj hjp
        exact adds_mem.2 (.inr hq)
/-- All that is reached from entries, where the limit was enough. -/
structure Full (l : List OpV) (ents : List (List Int)) (F : List Spt) : Prop where
  start : ∀ s ∈ ents, (0, s) ∈ F
  step : ∀ p ∈ F, ∀ q ∈ nx l p, q ∈ F
  least : ∀ S : Spt → Prop, (∀ s ∈ ents, S (0, s)) → (∀ p, S p → ∀ q ∈ nx l p, S q) → ∀ p ∈ F, S p
  nodup : F.Nodup
theorem full_of {l : List OpV} {ents first : List (List Int)} {lim : Int} (hf : US ents first) (hl : ((bfs l lim most 0 (starts first)).length : Int) ≤ lim) (hlim : lim ≤ 32768) : Full l ents (bfs l lim most 0 (starts first)) := by
  refine ⟨fun s hs => bfs_sub l lim _ _ _ _ (List.mem_map.2 ⟨s, (hf.mem s).2 hs, rfl⟩), bfs_closed l lim most 0 _ hl (by unfold most at *; omega) (fun j p hj => by omega), fun S h0 h1 => bfs_sound l lim h1 _ _ _ fun p hp => ?_, bfs_nodup l lim _ _ _ ?_⟩
  · obtain ⟨s, hs, rfl⟩ := List.mem_map.1 hp
    exact h0 s ((hf.mem s).1 hs)
  · unfold starts
    rw [List.Nodup, List.pairwise_map]
    exact hf.nodup.imp fun {a b} h e => h (Prod.mk.inj e).2
theorem Full.sub {l : List OpV} {a b : List (List Int)} {F G : List Spt} (h : Full l a F) (k : Full l b G) (hs : ∀ s ∈ a, s ∈ b) : ∀ p ∈ F, p ∈ G := h.least (fun p => p ∈ G) (fun s hs' => k.start s (hs s hs')) k.step
theorem exits_mem {l : List OpV} {F : List Spt} {s : List Int} : s ∈ exitsL l F ↔ ∃ m, (m, s) ∈ F ∧ exitB l m = true := by
  unfold exitsL
  rw [List.mem_map]
  constructor
  · rintro ⟨⟨m, t⟩, hp, rfl⟩
    obtain ⟨h1, h2⟩ := List.mem_filter.1 hp
    exact ⟨m, h1, h2⟩
  · rintro ⟨m, h1, h2⟩
    exact ⟨(m, s), List.mem_filter.2 ⟨h1, h2⟩, rfl⟩
/-- Two lists of entries together. -/
theorem full_join {l : List OpV} {a b : List (List Int)} {F G H : List Spt} (hF : Full l a F) (hG : Full l b G) (hH : Full l (a ++ b) H) : (∀ p, p ∈ H ↔ p ∈ F ∨ p ∈ G) ∧ H.length ≤ F.length + G.length ∧ F.length ≤ H.length ∧ G.length ≤ H.length := by
  have h1 : ∀ p ∈ F, p ∈ H := hF.sub hH fun s hs => List.mem_append_left _ hs
  have h2 : ∀ p ∈ G, p ∈ H := hG.sub hH fun s hs => List.mem_append_right _ hs
  have h3 : ∀ p ∈ H, p ∈ F ∨ p ∈ G := hH.least _ (fun s hs => (List.mem_append.1 hs).imp (hF.start s) (hG.start s)) fun p hp q hq => hp.imp (fun h => hF.step p h q hq) (fun h => hG.step p h q hq)
  refine ⟨fun p => ⟨h3 p, fun h => h.elim (h1 p) (h2 p)⟩, ?_, List.Nodup.length_le_of_subset hF.nodup h1, List.Nodup.length_le_of_subset hG.nodup h2⟩
  have := List.Nodup.length_le_of_subset hH.nodup (l₂ := F ++ G) fun p hp => List.mem_append.2 (h3 p hp)
  rwa [List.length_append] at this
/-- What two searches and the one of both say. -/
theorem ans_join {l : List OpV} {a b : List (List Int)} {lim : Int} {P Q n z P2 Q2 n2 z2 P3 Q3 n3 z3} (h : Ans l a lim P Q n z) (h2 : Ans l b lim P2 Q2 n2 z2) (h3 : Ans l (a ++ b) lim P3 Q3 n3 z3) (hl : l.length ≤ 16) (hlim : lim ≤ 32768) (ha : ∃ r, US a r) (hb : ∃ r, US b r) (hc : ∃ r, US (a ++ b) r) (e : z = 0) (e2 : z2 = 0) (e3 : z3 = 0) :
    (∀ B, US (Q ++ Q2) B → Q3 = B) ∧ n3 ≤ n + n2 ∧ n ≤ n3 ∧ n2 ≤ n3 := by
  obtain ⟨fa, ha⟩ := ha
  obtain ⟨fb, hb⟩ := hb
  obtain ⟨fc, hc⟩ := hc
  obtain ⟨a1, _, a3, a4⟩ := h.ok hl ha e
  obtain ⟨b1, _, b3, b4⟩ := h2.ok hl hb e2
  obtain ⟨c1, _, c3, c4⟩ := h3.ok hl hc e3
  obtain ⟨hm, k1, k2, k3⟩ := full_join (full_of ha a1 hlim) (full_of hb b1 hlim) (full_of hc c1 hlim)
  refine ⟨fun B hB => c3.eq hB fun s => ?_, by omega, by omega, by omega⟩
  rw [List.mem_append, a3.mem s, b3.mem s, exits_mem, exits_mem, exits_mem]
  constructor
  · rintro ⟨m, hp, he⟩
    exact ((hm _).1 hp).imp (fun h => ⟨m, h, he⟩) (fun h => ⟨m, h, he⟩)
  · rintro (⟨m, hp, he⟩ | ⟨m, hp, he⟩)
    · exact ⟨m, (hm _).2 (.inl hp), he⟩
    · exact ⟨m, (hm _).2 (.inr hp), he⟩
end Ln
end Go.Proofs.Ytpooekmogfkkjaa
namespace Go.Proofs.Ytpooekmogfkkjaa
set_option maxRecDepth 100000
open Go.ChangeShapes Go.WideShapes Go.ChangeAt Go.RowKit Go.PlainAid Go.Deep
namespace Ln
theorem store_sum (p v : Value) : Instr.storeAt 27 p v = storeS 27 p v := rfl
theorem sum_new (w : World) (x y z : Value) (hx : x.oneCell' = true := by rfl) (hy : y.oneCell' = true := by rfl) (hz : z.oneCell' = true := by rfl) :
    (storeS 27 (.pointer (some ⟨w.heap.size, 0, none⟩)) (.agg #[x, y, z])).run Try.prog (w.alloc (.cells #[.slice none 0 0, .slice none 0 0, .int .i64 0] 27)) = .ok () (w.alloc (.cells #[x, y, z] 27)) := by
  have hsz : (Try.prog.info? 27).map (·.size) = some 3 := by kernel_rfl
  have h := run_storeVar_row (P := Try.prog) (w.alloc (.cells #[.slice none 0 0, .slice none 0 0, .int .i64 0] 27)) w.heap.size 27 27 _ #[x, y, z] (heap_alloc_new w _) (by rw [hsz]; rfl) rfl (by simp [hx, hy, hz])
  rw [setRow_alloc] at h
  unfold storeS
  simp only [Instr.storeAt, Instr.sureAddr, Sem.run_bind, Sem.run_pure, Result.andThen_ok]
  exact h
/-- An empty row, and behind it two rows. -/
theorem two_rows {W : World} {a1 a2 : Option Addr} {c1 c2 : Nat} {l1 l2 : List (List Int)} (h1 : Sts W (.slice a1 l1.length c1) l1) (h2 : Sts W (.slice a2 l2.length c2) l2) (hl : l1.length + l2.length ≤ 1000000) :
    Below W.heap.size W (W.alloc (.cells #[] 36)) ∧ ∃ a6 c6 W6 a7 c7 W7, (appSt #[.slice (some ⟨W.heap.size, 0, none⟩) 0 0, .slice a1 l1.length c1]).run Try.prog (W.alloc (.cells #[] 36)) = .ok (.slice a6 l1.length c6) W6 ∧
      (appSt #[.slice a6 l1.length c6, .slice a2 l2.length c2]).run Try.prog W6 = .ok (.slice a7 (l1.length + l2.length) c7) W7 ∧ Below W.heap.size W W6 ∧ Below W.heap.size W W7 ∧ Sts W7 (.slice a7 (l1.length + l2.length) c7) (l1 ++ l2) := by
  obtain ⟨x1, r1, e1⟩ := h1
  obtain ⟨x2, r2, e2⟩ := h2
  have hba : Below W.heap.size W (W.alloc (.cells #[] 36)) := by go_grown
  have hm0 : (W.alloc (.cells #[] 36)).ownsRow W.heap.size 36 1 (.slice (some ⟨W.heap.size, 0, none⟩) 0 0) 0 [] := World.ownsRow_made W #[] 0 (Nat.le_refl _) (Nat.zero_le _) rfl
  obtain ⟨v6, W6, hr6, ho6, hg6⟩ := row_app rtSt_good hm0 (r1.on hba) (Sts.one r1 e1) hba.size (by omega)
  rw [Nat.zero_add, List.nil_append] at ho6
  obtain ⟨a6, c6, rfl, _⟩ := own_len ho6
  have hb6 : Below W.heap.size W W6 := hba.grown hg6 hba.size (fun k e => by simp [Value.ownBlock] at e; omega)
  obtain ⟨v7, W7, hr7, ho7, hg7⟩ := row_app rtSt_good ho6 (r2.on hb6) (Sts.one r2 e2) hb6.size (by omega)
  obtain ⟨a7, c7, rfl, _⟩ := own_len ho7
  have hb7 : Below W.heap.size W W7 := hb6.grown hg7 hb6.size (fun k e => (row_block ho6 e).1)
  refine ⟨hba, a6, c6, W6, a7, c7, W7, hr6, hr7, hb6, hb7, x1 ++ x2, by rw [List.length_append]; exact own_rd ho7, fun i u s hu hs => ?_⟩
  have hx1 : x1.length = l1.length := by rw [r1.1, Nat.mul_one]
  by_cases c : i < l1.length
  · rw [List.getElem?_append_left (by omega)] at hu
    rw [List.getElem?_append_left c] at hs
    exact (e1 i u s hu hs).on hb7
  · rw [List.getElem?_append_right (by omega)] at hu hs
    rw [hx1] at hu
    exact (e2 _ u s hu hs).on hb7
end Ln
end Go.Proofs.Ytpooekmogfkkjaa
namespace Go.Proofs.Ytpooekmogfkkjaa
set_option maxRecDepth 100000
open Go.ChangeShapes Go.WideShapes Go.ChangeAt Go.RowKit Go.PlainAid Go.Deep
namespace Ln
/-- A row of the call's own of states that lie in a world's heap. -/
def RowS (U w : World) (v : Value) (l : List (List Int)) : Prop := Below U.heap.size U w ∧ ∃ xs, w.ownsRow U.heap.size 36 1 v l.length xs ∧ ∀ (i : Nat) (u : Value) (s : List Int), xs[i]? = some u → l[i]? = some s → IntsOf U u s
theorem RowS.on {U w w' : World} {v : Value} {l : List (List Int)} (h : RowS U w v l) (hb : Below w.heap.size w w') : RowS U w' v l := by
  obtain ⟨h0, xs, h1, h2⟩ := h
  exact ⟨h0.on hb, xs, ownsRow_onI h1 hb, h2⟩
theorem RowS.grow {U w : World} {v : Value} {l : List (List Int)} (h : RowS U w v l) (o : Obj) : RowS U (w.alloc o) v l := h.on (by go_grown)
theorem RowS.sts {U w : World} {v : Value} {l : List (List Int)} (h : RowS U w v l) : Sts w v l := by
  obtain ⟨h0, xs, h1, h2⟩ := h
  exact ⟨xs, own_rd h1, fun i u s hu hs => (h2 i u s hu hs).on h0⟩
theorem RowS.made {U w : World} (h : Below U.heap.size U w) : RowS U (w.alloc (.cells #[] 36)) (.slice (some ⟨w.heap.size, 0, none⟩) 0 0) [] :=
  ⟨h.alloc h.size _, [], ownsRow_baseI (World.ownsRow_made w #[] 0 (Nat.le_refl _) (Nat.zero_le _) rfl) h.size, fun i u s hu => by simp at hu⟩
theorem RowS.app {U w : World} {v : Value} {l l2 : List (List Int)} {a2 : Option Addr} {c2 : Nat} (h : RowS U w v l) (h2 : Sts U (.slice a2 l2.length c2) l2) (n : Nat) (hn : n = l.length + l2.length) (hl : n ≤ 1000000) :
    ∃ a' c' w', (appSt #[v, .slice a2 l2.length c2]).run Try.prog w = .ok (.slice a' n c') w' ∧ RowS U w' (.slice a' n c') (l ++ l2) ∧ ∀ (b : Nat) (c : Array Value), w.heap[b]? = some (.cells c 27 (0, 0)) → w'.heap[b]? = some (.cells c 27 (0, 0)) := by
  subst hn
  obtain ⟨h0, xs, r, e⟩ := h
  obtain ⟨x2, r2, e2⟩ := h2
  obtain ⟨v', W', hr, ho, hg⟩ := row_app rtSt_good r (r2.on h0) (Sts.one r2 e2) h0.size (by omega)
  obtain ⟨a', c', rfl, _⟩ := own_len ho
  have hb' := h0.grown hg h0.size (fun k e => (row_block r e).1)
  refine ⟨a', c', W', hr, ⟨hb', xs ++ x2, by rw [List.length_append]; exact ho, fun i u s hu hs => ?_⟩, fun b c hc => (hg.block b (heap_inO hc) (fun e => by
    obtain ⟨_, cur, hcur⟩ := row_block r e.symm
    rw [hc] at hcur
    exact absurd (Obj.cells.inj (Option.some.inj hcur)).2.1 (by decide))).trans hc⟩
  have hx1 : xs.length = l.length := by rw [r.1, Nat.mul_one]
  by_cases c : i < l.length
  · rw [List.getElem?_append_left (by omega)] at hu
    rw [List.getElem?_append_left c] at hs
    exact e i u s hu hs
  · rw [List.getElem?_append_right (by omega)] at hu hs
    rw [hx1] at hu
    exact e2 _ u s hu hs
/-- An answer stored into a block laid ahead. -/
theorem sum_at {w : World} {b : Nat} {c0 c1 c2 : Value} (x y z : Value) (h : w.heap[b]? = some (.cells #[c0, c1, c2] 27 (0, 0))) (hx : x.oneCell' = true := by rfl) (hy : y.oneCell' = true := by rfl) (hz : z.oneCell' = true := by rfl) :
    (storeS 27 (.pointer (some ⟨b, 0, none⟩)) (.agg #[x, y, z])).run Try.prog w = .ok () (w.setRow b #[x, y, z]) ∧ (w.setRow b #[x, y, z]).heap[b]? = some (.cells #[x, y, z] 27 (0, 0)) ∧ Keeps (fun k => k = b) w (w.setRow b #[x, y, z]) := by
  have hsz : (Try.prog.info? 27).map (·.size) = some 3 := by kernel_rfl
  refine ⟨?_, setRow_heap w b _ _ _ _ h, (Keeps.refl (fun k => k = b) w).setRow (.inl rfl) _⟩
  have h := run_storeVar_row (P := Try.prog) w b 27 27 _ #[x, y, z] h (by rw [hsz]; rfl) rfl (by simp [hx, hy, hz])
  unfold storeS
  simp only [Instr.storeAt, Instr.sureAddr, Sem.run_bind, Sem.run_pure, Result.andThen_ok]
  exact h
/-- Rows of states are kept where an answer's block changes. -/
theorem sum_kept {w w' : World} {b : Nat} {c : Array Value} {v : Value} {l : List (List Int)} (h : w.heap[b]? = some (.cells c 27 (0, 0))) (hk : Keeps (fun k => k = b) w w') (hs : StsOwn 0 w v l) : StsOwn 0 w' v l :=
  sts_keep hs hk (fun g cur e hg => by
    rw [e, h] at hg
    exact absurd (Obj.cells.inj (Option.some.inj hg)).2.1 (by decide)) (fun g cur e hg => by
    rw [e, h] at hg
    exact absurd (Obj.cells.inj (Option.some.inj hg)).2.1 (by decide))
theorem put_in {U w : World} {b : Nat} {c0 c1 c2 : Value} {ae ax : Option Addr} {ce cx : Nat} {P Q : List (List Int)} (n : Int) (hu : Below U.heap.size U w) (hB : U.heap.size ≤ b) (h : w.heap[b]? = some (.cells #[c0, c1, c2] 27 (0, 0))) (hQ : StsOwn 0 w (.slice ax Q.length cx) Q) :
    ∃ W, (storeS 27 (.pointer (some ⟨b, 0, none⟩)) (.agg #[.slice ae P.length ce, .slice ax Q.length cx, .int .i64 n])).run Try.prog w = .ok () W ∧ W.heap[b]? = some (.cells #[.slice ae P.length ce, .slice ax Q.length cx, .int .i64 n] 27 (0, 0)) ∧ Sts W (.slice ax Q.length cx) Q ∧ Below U.heap.size U W := by
  obtain ⟨h1, h2, h3⟩ := sum_at (.slice ae P.length ce) (.slice ax Q.length cx) (.int .i64 n) h
  exact ⟨_, h1, h2, (sum_kept h h3 hQ).reads, hu.trans (h3.below (fun k e => by omega) hu.size)⟩
theorem put_new {U w : World} {ae ax : Option Addr} {ce cx : Nat} {P Q : List (List Int)} (n : Int) (hu : Below U.heap.size U w) (hQ : StsOwn 0 w (.slice ax Q.length cx) Q) :
    ∃ W, (storeS 27 (.pointer (some ⟨w.heap.size, 0, none⟩)) (.agg #[.slice ae P.length ce, .slice ax Q.length cx, .int .i64 n])).run Try.prog (w.alloc (.cells #[.slice none 0 0, .slice none 0 0, .int .i64 0] 27)) = .ok () W ∧ W.heap[w.heap.size]? = some (.cells #[.slice ae P.length ce, .slice ax Q.length cx, .int .i64 n] 27 (0, 0)) ∧ Sts W (.slice ax Q.length cx) Q ∧ Below U.heap.size U W :=
  ⟨_, sum_new w (.slice ae P.length ce) (.slice ax Q.length cx) (.int .i64 n), heap_alloc_new w _, (hQ.on (by go_grown)).reads, hu.alloc hu.size _⟩
end Ln
end Go.Proofs.Ytpooekmogfkkjaa
