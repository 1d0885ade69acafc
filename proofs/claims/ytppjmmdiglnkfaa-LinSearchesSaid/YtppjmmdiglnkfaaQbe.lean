/- The document's helpers: Same; small segments. Plain: what budgets change. -/
import Derived.Test.YtppjmmdiglnkfaaQbd
import Derived.Test.YtppjmmdiglnkfaaQax
namespace Go.Proofs.Ytppjmmdiglnkfaa
set_option maxRecDepth 100000
open Go.ChangeShapes Go.WideShapes Go.ChangeAt Go.RowKit Go.PlainAid Go.Deep
namespace Ln
/-- A small segment, of one kind, with states that may be. -/
structure SmallP (kind : Int) (l : List OpV) (ents : List (List Int)) (most : Int) : Prop where
  few : (l.length : Int) ≤ most
  kinds : ∀ o ∈ l, o.kind = kind
  short : ShortP kind ents
set_option maxHeartbeats 4000000 in
theorem small_any {obj kind : Int} {vo v : Value} {l : List OpV} {ents : List (List Int)} {w : World} (most : Int) (h : OpsOf w vo l) (hE : Sts w v ents) (hz : ∀ s ∈ ents, s.length ≤ 17592186044416) (hmost : most ≤ 1000) : Calls Try.prog 19 #[.agg #[.int .i64 obj, .int .i64 kind, vo], v, .int .i64 most] w (IfB (SmallP kind l ents most) w) := by
  obtain ⟨ao, co, rfl⟩ := h.len
  have hbw : Below w.heap.size w (w.alloc (.cells #[.int .i64 obj, .int .i64 kind, .slice ao l.length co] 24)) := by go_grown
  have hbx := heap_alloc_new w (.cells #[.int .i64 obj, .int .i64 kind, .slice ao l.length co] 24)
  obtain ⟨W1, hW1⟩ : ∃ W, w.alloc (.cells #[.int .i64 obj, .int .i64 kind, .slice ao l.length co] 24) = W := ⟨_, rfl⟩
  rw [hW1] at hbw hbx
  have g0 : W1.cell? ⟨w.heap.size, 0, none⟩ = some (.int .i64 obj) := by rw [cell_of_row _ _ _ _ _ _ hbx]; rfl
  have g1 : W1.cell? ⟨w.heap.size, 1, none⟩ = some (.int .i64 kind) := by rw [cell_of_row _ _ _ _ _ _ hbx]; rfl
  have g2 : W1.cell? ⟨w.heap.size, 2, none⟩ = some (.slice ao l.length co) := by rw [cell_of_row _ _ _ _ _ _ hbx]; rfl
  have HB := Lib.hid hbw
  have HX := Lib.hid hbx
  have H := Lib.hid (h.on hbw)
  have HE := Lib.hid hE
  have HZ := Lib.hid hz
  clear hbw hbx h hE hz
  by_cases hm : (l.length : Int) ≤ most
  case neg =>
    have q1 : ¬ ((l.length : Int) ≤ most) := hm
    go_enter Try.func19, Try.ntmps19
    go_wp2_with fail
    go_returns
    exact ⟨false, rfl, fun h => (by cases h), HB.out⟩
  case pos =>
    go_enter Try.func19, Try.ntmps19
    go_wp2_with fail
    refine (alike_any H.out (by omega)).mono ?_
    rintro _ w2 ⟨b, rfl, hk, hb2⟩
    have HB2 := Lib.hid hb2
    have HK := Lib.hid hk
    have hx2 := (hb2.block _ (heap_inO HX.out)).trans HX.out
    have d1 : w2.cell? ⟨w.heap.size, 1, none⟩ = some (.int .i64 kind) := by rw [cell_of_row _ _ _ _ _ _ hx2]; rfl
    clear hb2 hk hx2 g0 g1 g2
    cases b with
    | false =>
      go_wp2_with fail
      go_returns
      exact ⟨false, rfl, fun h => (by cases h), HB.out.on HB2.out⟩
    | true =>
      have HSH := Lib.hid (short_any (kind := kind) (HE.out.on (HB.out.on HB2.out)) HZ.out)
      go_wp2_with fail
      refine HSH.out.mono ?_
      rintro _ w3 ⟨b3, rfl, hs, hb3⟩
      have HE3 := Lib.hid (show IfB (SmallP kind l ents most) w (.returned (.bool b3)) w3 from ⟨b3, rfl, fun h => ⟨hm, HK.out (by first | rfl | trivial), hs h⟩, HB.out.on (HB2.out.on hb3)⟩)
      clear hs hb3
      cases b3 with
      | false =>
        go_wp2_with fail
        go_returns
        exact HE3.out
      | true =>
        go_wp2_with fail
        go_returns
        exact HE3.out
set_option maxHeartbeats 4000000 in
theorem same_any {v1 v2 v3 v4 : Value} {P Q P2 Q2 : List (List Int)} {n n2 : Int} {w : World} (h1 : Sts w v1 P) (h2 : Sts w v2 Q) (h3 : Sts w v3 P2) (h4 : Sts w v4 Q2) (l1 : P.length ≤ 1000000000) (l2 : Q.length ≤ 1000000000) :
    Calls Try.prog 17 #[.agg #[v1, v2, .int .i64 n], .agg #[v3, v4, .int .i64 n2]] w fun e w' => e = .returned (.bool (decide (P = P2) && decide (Q = Q2) && decide (n = n2))) ∧ Below w.heap.size w w' := by
  obtain ⟨a1, c1, rfl⟩ := h1.len
  obtain ⟨a2, c2, rfl⟩ := h2.len
  obtain ⟨a3, c3, rfl⟩ := h3.len
  obtain ⟨a4, c4, rfl⟩ := h4.len
  have hbw : Below w.heap.size w ((w.alloc (.cells #[.slice a1 P.length c1, .slice a2 Q.length c2, .int .i64 n] 33)).alloc (.cells #[.slice a3 P2.length c3, .slice a4 Q2.length c4, .int .i64 n2] 33)) := by go_grown
  have hbx0 := heap_alloc_new w (.cells #[.slice a1 P.length c1, .slice a2 Q.length c2, .int .i64 n] 33)
  have hbx := (Below.heap_alloc (w.alloc (.cells #[.slice a1 P.length c1, .slice a2 Q.length c2, .int .i64 n] 33)) (.cells #[.slice a3 P2.length c3, .slice a4 Q2.length c4, .int .i64 n2] 33) w.heap.size (by rw [World.size_alloc]; omega)).trans hbx0
  have hby := heap_alloc_new (w.alloc (.cells #[.slice a1 P.length c1, .slice a2 Q.length c2, .int .i64 n] 33)) (.cells #[.slice a3 P2.length c3, .slice a4 Q2.length c4, .int .i64 n2] 33)
  rw [World.size_alloc] at hby
  obtain ⟨W1, hW1⟩ : ∃ W, (w.alloc (.cells #[.slice a1 P.length c1, .slice a2 Q.length c2, .int .i64 n] 33)).alloc (.cells #[.slice a3 P2.length c3, .slice a4 Q2.length c4, .int .i64 n2] 33) = W := ⟨_, rfl⟩
  rw [hW1] at hbw hbx hby
  have HC := Lib.hid (show ∀ W, Below W1.heap.size W1 W → W.cell? ⟨w.heap.size, 0, none⟩ = some (.slice a1 P.length c1) ∧ W.cell? ⟨w.heap.size, 1, none⟩ = some (.slice a2 Q.length c2) ∧ W.cell? ⟨w.heap.size, 2, none⟩ = some (.int .i64 n) ∧ W.cell? ⟨w.heap.size + 1, 0, none⟩ = some (.slice a3 P2.length c3) ∧ W.cell? ⟨w.heap.size + 1, 1, none⟩ = some (.slice a4 Q2.length c4) ∧ W.cell? ⟨w.heap.size + 1, 2, none⟩ = some (.int .i64 n2) from fun W hb => by
    have hx := (hb.block _ (heap_inO hbx)).trans hbx
    have hy := (hb.block _ (heap_inO hby)).trans hby
    refine ⟨?_, ?_, ?_, ?_, ?_, ?_⟩
    · rw [cell_of_row _ _ _ _ _ _ hx]; rfl
    · rw [cell_of_row _ _ _ _ _ _ hx]; rfl
    · rw [cell_of_row _ _ _ _ _ _ hx]; rfl
    · rw [cell_of_row _ _ _ _ _ _ hy]; rfl
    · rw [cell_of_row _ _ _ _ _ _ hy]; rfl
    · rw [cell_of_row _ _ _ _ _ _ hy]; rfl)
  have HB := Lib.hid hbw
  have HA := Lib.hid (states_any (h1.on hbw) (h3.on hbw) l1)
  have HQ := Lib.hid fun (W : World) (hb : Below W1.heap.size W1 W) => states_any ((h2.on hbw).on hb) ((h4.on hbw).on hb) l2
  obtain ⟨g0, g1, g2, g3, g4, g5⟩ := HC.out W1 (Below.refl _ _)
  clear hbw hbx0 hbx hby h1 h2 h3 h4
  go_enter Try.func17, Try.ntmps17
  go_wp2_with fail
  refine HA.out.mono ?_
  rintro _ w2 ⟨rfl, hb2⟩
  obtain ⟨d0, d1, d2, d3, d4, d5⟩ := HC.out w2 hb2
  have HB2 := Lib.hid hb2
  clear hb2 g0 g1 g2 g3 g4 g5 d0 d3
  by_cases e1 : P = P2
  case neg =>
    have HD := Lib.hid (show decide (P = P2) = false from decide_eq_false e1)
    rw [HD.out]
    clear e1
    go_wp2_with fail
    go_returns
    exact ⟨by rw [HD.out]; rfl, HB.out.on HB2.out⟩
  have HD := Lib.hid (show decide (P = P2) = true from decide_eq_true e1)
  rw [HD.out]
  clear e1
  go_wp2_with fail
  refine (HQ.out _ HB2.out).mono ?_
  rintro _ w3 ⟨rfl, hb3⟩
  obtain ⟨k0, k1, k2, k3, k4, k5⟩ := HC.out w3 (HB2.out.on hb3)
  have HB3 := Lib.hid (HB2.out.on hb3)
  clear hb3 k0 k1 k3 k4 d1 d2 d4 d5
  by_cases e2 : Q = Q2
  case neg =>
    have HD2 := Lib.hid (show decide (Q = Q2) = false from decide_eq_false e2)
    rw [HD2.out]
    clear e2
    go_wp2_with fail
    go_returns
    exact ⟨by rw [HD.out, HD2.out]; rfl, HB.out.on HB3.out⟩
  have HD2 := Lib.hid (show decide (Q = Q2) = true from decide_eq_true e2)
  rw [HD2.out]
  clear e2
  by_cases e3 : n = n2
  · have HD3 := Lib.hid (show decide (n = n2) = true from decide_eq_true e3)
    subst e3
    go_wp2_with fail
    go_returns
    exact ⟨by rw [HD.out, HD2.out]; simp, HB.out.on HB3.out⟩
  · have q : (n == n2) = false := beq_eq_false_iff_ne.2 e3
    have HD3 := Lib.hid (show decide (n = n2) = false from decide_eq_false e3)
    clear e3
    go_wp2_with fail
    go_returns
    exact ⟨by rw [HD.out, HD2.out, HD3.out]; simp, HB.out.on HB3.out⟩
end Ln
end Go.Proofs.Ytppjmmdiglnkfaa
namespace Go.Proofs.Ytppjmmdiglnkfaa
set_option maxRecDepth 100000
open Go.ChangeShapes Go.WideShapes Go.ChangeAt Go.RowKit Go.PlainAid
namespace Ln
theorem us_exists {l : List (List Int)} (h : ∀ s ∈ l, Okz s) : ∃ r, US l r := ⟨_, us_sorted h⟩
theorem sts_okz {w : World} {v : Value} {l : List (List Int)} (h : Sts w v l) (hk : ∀ s ∈ l, s.length ≤ 1000000000) : ∀ s ∈ l, Okz s := fun s hs => by
  obtain ⟨i, hi⟩ := List.getElem?_of_mem hs
  obtain ⟨b, p, cap, u, _, _, _, hu⟩ := h.at hi
  exact ⟨hu.inI, by have := hk s hs; omega⟩
/-- A search that answers. -/
theorem Ans.ok {l : List OpV} {ents : List (List Int)} {lim : Int} {P Q : List (List Int)} {n z : Int} (h : Ans l ents lim P Q n z) (hl : l.length ≤ 16) {first : List (List Int)} (hf : US ents first) (hz : z = 0) : ((bfs l lim most 0 (starts first)).length : Int) ≤ lim ∧ P = first ∧ US (exitsL l (bfs l lim most 0 (starts first))) Q ∧ n = ((bfs l lim most 0 (starts first)).length : Int) := by
  by_cases c : ((bfs l lim most 0 (starts first)).length : Int) ≤ lim
  · exact ⟨c, (h.good hl first hf c).2⟩
  · have := (h.over hl first hf (by omega)).1
    omega
theorem Ans.same {l : List OpV} {ents : List (List Int)} {lim lim' : Int} {P Q P' Q' : List (List Int)} {n z n' z' : Int} (h : Ans l ents lim P Q n z) (h' : Ans l ents lim' P' Q' n' z') (hl : l.length ≤ 16) (hx : ∃ r, US ents r) (hz : z = 0) (hn : n ≤ lim') : z' = 0 ∧ P' = P ∧ Q' = Q ∧ n' = n := by
  obtain ⟨first, hf⟩ := hx
  obtain ⟨h1, h2, h3, h4⟩ := h.ok hl hf hz
  have e := bfs_same l (lim := lim) (lim' := lim') most 0 (starts first) h1 (by omega)
  obtain ⟨k1, k2, k3, k4⟩ := h'.good hl first hf (by rw [e]; omega)
  rw [e] at k3 k4
  exact ⟨k1, k2.trans h2.symm, k3.eq h3 (fun _ => Iff.rfl), k4.trans h4.symm⟩
theorem Ans.less {l : List OpV} {ents : List (List Int)} {lim lim' : Int} {P Q P' Q' : List (List Int)} {n z n' z' : Int} (h : Ans l ents lim P Q n z) (h' : Ans l ents lim' P' Q' n' z') (hl : l.length ≤ 16) (hx : ∃ r, US ents r) (hz : z = 0) (hn : lim' < n) : z' = 35 := by
  obtain ⟨first, hf⟩ := hx
  obtain ⟨h1, h2, h3, h4⟩ := h.ok hl hf hz
  exact (h'.over hl first hf (bfs_less l most 0 (starts first) h1 (by omega))).1
theorem Ans.count {l : List OpV} {ents : List (List Int)} {lim : Int} {P Q : List (List Int)} {n z : Int} (h : Ans l ents lim P Q n z) (hl : l.length ≤ 16) (hx : ∃ r, US ents r) (hz : z = 0) : 0 ≤ n ∧ n ≤ lim ∧ P.length ≤ ents.length ∧ Q.length ≤ n := by
  obtain ⟨first, hf⟩ := hx
  obtain ⟨h1, h2, h3, h4⟩ := h.ok hl hf hz
  refine ⟨by omega, by omega, by rw [h2]; exact hf.len, ?_⟩
  have := h3.len
  unfold exitsL at this
  rw [List.length_map] at this
  have := Nat.le_trans this (List.length_filter_le _ _)
  omega
theorem ShortP.each {kind : Int} {l : List (List Int)} (h : ShortP kind l) : ∀ s ∈ l, s.length ≤ 200 := fun s hs => by
  have key : ∀ (l : List Nat) (x : Nat), x ∈ l → x ≤ l.sum := fun l => by
    induction l with
    | nil => intro x hx; cases hx
    | cons y r ih =>
      intro x hx
      rw [List.sum_cons]
      rcases List.mem_cons.1 hx with rfl | hx
      · omega
      · have := ih x hx; omega
  exact Nat.le_trans (key _ _ (List.mem_map.2 ⟨s, hs, rfl⟩)) h.sum
/-- The cells of an answer. -/
theorem sum_cells {W w : World} {b : Nat} {x y z : Value} (h : W.heap[b]? = some (.cells #[x, y, z] 33 (0, 0))) (hb : Below W.heap.size W w) : w.cell? ⟨b, 0, none⟩ = some x ∧ w.cell? ⟨b, 1, none⟩ = some y ∧ w.cell? ⟨b, 2, none⟩ = some z := by
  have hx := (hb.block _ (heap_inO h)).trans h
  refine ⟨?_, ?_, ?_⟩
  · rw [cell_of_row _ _ _ _ _ _ hx]; rfl
  · rw [cell_of_row _ _ _ _ _ _ hx]; rfl
  · rw [cell_of_row _ _ _ _ _ _ hx]; rfl
theorem seg_cells {W w : World} {b : Nat} {x y z : Value} (h : W.heap[b]? = some (.cells #[x, y, z] 24 (0, 0))) (hb : Below W.heap.size W w) : w.cell? ⟨b, 0, none⟩ = some x ∧ w.cell? ⟨b, 1, none⟩ = some y ∧ w.cell? ⟨b, 2, none⟩ = some z := by
  have hx := (hb.block _ (heap_inO h)).trans h
  refine ⟨?_, ?_, ?_⟩
  · rw [cell_of_row _ _ _ _ _ _ hx]; rfl
  · rw [cell_of_row _ _ _ _ _ _ hx]; rfl
  · rw [cell_of_row _ _ _ _ _ _ hx]; rfl
end Ln
end Go.Proofs.Ytppjmmdiglnkfaa
