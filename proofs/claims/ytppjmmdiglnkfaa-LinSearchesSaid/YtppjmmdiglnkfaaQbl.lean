/- The document's Search: plain. The document's Search. -/
import Derived.Test.YtppjmmdiglnkfaaQbk
import Derived.Test.YtppjmmdiglnkfaaQbh
import Derived.Test.YtppjmmdiglnkfaaQax
namespace Go.Proofs.Ytppjmmdiglnkfaa
set_option maxRecDepth 100000
open Go.ChangeShapes Go.WideShapes Go.ChangeAt Go.RowKit Go.PlainAid Go.Deep
namespace Ln
/-- The limit that a budget is. -/
def Clamp (budget lim : Int) : Prop := -1 ≤ lim ∧ lim ≤ 32768 ∧ ((budget < 0 ∧ lim = -1) ∨ (0 ≤ budget ∧ lim = min budget 32768))
/-- The states of the spots that lack nothing. -/
noncomputable def exR (l : List OpV) (rs : List RSp) : List (List Int) := (rs.filter fun p => fullB l p.1).map Prod.snd
theorem exR_yes {l : List OpV} {rs : List RSp} {i : Nat} {p : RSp} (hp : rs[i]? = some p) (h : fullB l p.1 = true) : exR l (rs.take (i + 1)) = exR l (rs.take i) ++ [p.2] := by
  unfold exR
  rw [List.take_add_one, hp, Option.toList_some, List.filter_append, List.map_append]
  simp [h]
theorem exR_no {l : List OpV} {rs : List RSp} {i : Nat} {p : RSp} (hp : rs[i]? = some p) (h : fullB l p.1 = false) : exR l (rs.take (i + 1)) = exR l (rs.take i) := by
  unfold exR
  rw [List.take_add_one, hp, Option.toList_some, List.filter_append, List.map_append]
  simp [h]
theorem exR_len (l : List OpV) (rs : List RSp) (i : Nat) : (exR l (rs.take i)).length ≤ rs.length := by
  unfold exR
  rw [List.length_map]
  refine Nat.le_trans (List.length_filter_le _ _) ?_
  rw [List.length_take]
  omega
theorem exR_mem {l : List OpV} {rs : List RSp} (s : List Int) : s ∈ exR l rs ↔ s ∈ exitsL l (rs.map cvS) := by
  rw [exits_mem]
  unfold exR
  rw [List.mem_map]
  constructor
  · rintro ⟨p, hp, rfl⟩
    obtain ⟨h1, h2⟩ := List.mem_filter.1 hp
    exact ⟨maskOf p.1, List.mem_map.2 ⟨p, h1, rfl⟩, (full_exit (mask_bt p.1)).1 h2⟩
  · rintro ⟨m, hm, he⟩
    obtain ⟨p, hp, e⟩ := List.mem_map.1 hm
    obtain ⟨rfl, rfl⟩ := Prod.mk.inj e
    exact ⟨p, List.mem_filter.2 ⟨hp, (full_exit (mask_bt p.1)).2 he⟩, rfl⟩
theorem SpsR.split {l : List OpV} {first : List (List Int)} {lim : Int} {rs : List RSp} (h : SpsR l first lim rs) : (¬ (lim < (rs.length : Int)) ∧ rs.map cvS = bfs l lim most 0 (starts first) ∧ ((bfs l lim most 0 (starts first)).length : Int) ≤ lim) ∨ (lim < (rs.length : Int) ∧ lim < ((bfs l lim most 0 (starts first)).length : Int)) := by
  rcases h with ⟨h1, h2⟩ | ⟨h1, h2⟩
  · refine .inl ⟨?_, h2, h1⟩
    rw [← h2, List.length_map] at h1
    omega
  · exact .inr ⟨h2, h1⟩
theorem ans_good {l : List OpV} {ents first Q : List (List Int)} {budget lim : Int} {rs : List RSp} (hc : Clamp budget lim) (hl : l.length ≤ 16) (hus : US ents first) (h1 : rs.map cvS = bfs l lim most 0 (starts first)) (h2 : ((bfs l lim most 0 (starts first)).length : Int) ≤ lim) (hq : US (exR l rs) Q) : Ans l ents (min budget 32768) first Q (rs.length : Int) 0 := by
  obtain ⟨c1, c2, c3⟩ := hc
  obtain ⟨c4, rfl⟩ : 0 ≤ budget ∧ lim = min budget 32768 := by
    rcases c3 with ⟨_, e⟩ | c3
    · omega
    · exact c3
  refine ⟨fun h => absurd h (by omega), fun _ f hf hgt => absurd hgt ?_, fun _ f hf _ => ?_⟩
  · rw [hf.eq hus (fun _ => Iff.rfl)]; omega
  · obtain rfl := hf.eq hus (fun _ => Iff.rfl)
    refine ⟨rfl, rfl, ?_, ?_⟩
    · rw [← h1]
      exact hq.congr fun s => exR_mem s
    · rw [← h1, List.length_map]
theorem ans_over {l : List OpV} {ents first : List (List Int)} {budget lim : Int} (hc : Clamp budget lim) (hl : l.length ≤ 16) (hus : US ents first) (h2 : lim < ((bfs l lim most 0 (starts first)).length : Int)) : Ans l ents (min budget 32768) [] [] 0 35 := by
  refine ⟨fun h => absurd h (by omega), fun _ f hf _ => ⟨rfl, rfl, rfl, rfl⟩, fun _ f hf hle => absurd hle ?_⟩
  obtain ⟨c1, c2, c3⟩ := hc
  rcases c3 with ⟨c4, _⟩ | ⟨_, rfl⟩
  · omega
  · rw [hf.eq hus (fun _ => Iff.rfl)]; omega
end Ln
end Go.Proofs.Ytppjmmdiglnkfaa
namespace Go.Proofs.Ytppjmmdiglnkfaa
set_option maxRecDepth 100000
open Go.ChangeShapes Go.WideShapes Go.ChangeAt Go.RowKit Go.PlainAid Go.Deep
namespace Ln
/-- A search's answer, and what it lies in. -/
def SrPost (l : List OpV) (ents : List (List Int)) (budget : Int) (w : World) (e : Ending) (w' : World) : Prop := ∃ ve vx n z, e = .returned (.tuple #[.agg #[ve, vx, .int .i64 n], .int .i64 z]) ∧ ∃ P Q, Ans l ents (min budget 32768) P Q n z ∧ Sts w' ve P ∧ Sts w' vx Q ∧ Below w.heap.size w w'
/-- What the loop over the spots keeps. -/
structure SxI (l : List OpV) (rs : List RSp) (n : Nat) (ve : Value) (wS wr : World) (i : Nat) : Prop where
  bel : Below wS.heap.size wS wr
  box : ∃ vx, wr.heap[wS.heap.size]? = some (.cells #[ve, vx, .int .i64 (rs.length : Int)] 33 (0, 0)) ∧ Out n (wS.heap.size + 1) wr vx (exR l (rs.take i))
theorem SxI.on {l : List OpV} {rs : List RSp} {n : Nat} {ve : Value} {wS wr w' : World} {i : Nat} (h : SxI l rs n ve wS wr i) (hb : Below wr.heap.size wr w') : SxI l rs n ve wS w' i := by
  obtain ⟨vx, h1, h2⟩ := h.box
  exact ⟨h.bel.on hb, vx, (hb.block _ (heap_inO h1)).trans h1, h2.on hb⟩
theorem SxI.next {l : List OpV} {rs : List RSp} {n : Nat} {ve : Value} {wS wr : World} {i : Nat} (h : SxI l rs n ve wS wr i) {p : RSp} (hp : rs[i]? = some p) (hf : fullB l p.1 = true) {u : Value} (hu : Lie n wr u p.2) (hn : n ≤ wS.heap.size) (hl : rs.length ≤ 400000) :
    ∃ vx v3 w3, wr.cell? ⟨wS.heap.size, 1, none⟩ = some vx ∧ (wr.alloc (.cells #[u] 27)).cell? ⟨wS.heap.size, 1, none⟩ = some vx ∧ (∃ a c, vx = .slice a (exR l (rs.take i)).length c) ∧ (∃ a c, v3 = .slice a ((exR l (rs.take i)).length + 1) c) ∧ (appSt #[vx, .slice (some ⟨wr.heap.size, 0, none⟩) 1 1]).run Try.prog (wr.alloc (.cells #[u] 27)) = .ok v3 w3 ∧ w3.cell? ⟨wS.heap.size, 1, none⟩ = some vx ∧ w3.frozen? ⟨wS.heap.size, 1, none⟩ = false ∧ SxI l rs n ve wS (w3.setCell ⟨wS.heap.size, 1, none⟩ v3) (i + 1) := by
  obtain ⟨vx, h1, h2⟩ := h.box
  have hlt := heap_inO h1
  have hal : Below wr.heap.size wr (wr.alloc (.cells #[u] 27)) := by go_grown
  have hone := Out.one hu
  have hlen := exR_len l rs i
  obtain ⟨v3, w3, r3, h3, hb3⟩ := Out.app (h2.on hal) hone (by omega) (by have := hal.size; omega) (by simp; omega)
  have e1 : (wr.alloc (.cells #[u] 27)).heap[wS.heap.size]? = some (.cells #[ve, vx, .int .i64 (rs.length : Int)] 33 (0, 0)) := (hal.block _ hlt).trans h1
  have e3 : w3.heap[wS.heap.size]? = some (.cells #[ve, vx, .int .i64 (rs.length : Int)] 33 (0, 0)) := (hb3.block _ (by omega)).trans e1
  have hk : Keeps (fun k => k = wS.heap.size) w3 (w3.setCell ⟨wS.heap.size, 1, none⟩ v3) := (Keeps.refl (fun k => k = wS.heap.size) w3).setCell (.inl (by rfl)) _
  have hb13 : Below wS.heap.size wr w3 := (hal.mono h.bel.size).trans (hb3.mono (by omega))
  have hb : Below wS.heap.size wS (w3.setCell ⟨wS.heap.size, 1, none⟩ v3) := (h.bel.trans hb13).trans (hk.below (fun k e => by omega) (by have := hb13.size; omega))
  obtain ⟨ax, cx, rfl⟩ := h2.len
  obtain ⟨a3, c3, hv3⟩ := h3.len
  rw [List.length_append, List.length_singleton] at hv3
  have hno : ∀ T, T ≠ 33 → ∀ g cur, g = wS.heap.size → w3.heap[g]? = some (.cells cur T (0, 0)) → False := fun T hT g cur e hg => by
    rw [e, e3] at hg
    exact hT (Obj.cells.inj (Option.some.inj hg)).2.1.symm
  refine ⟨_, v3, w3, by rw [cell_of_row _ _ _ _ _ _ h1]; rfl, by rw [cell_of_row _ _ _ _ _ _ e1]; rfl, ⟨_, _, rfl⟩, ⟨a3, c3, hv3⟩, r3, by rw [cell_of_row _ _ _ _ _ _ e3]; rfl, cells_thaw e3 1, hb, v3, heap_setCell_same _ _ _ _ _ _ e3, ?_⟩
  rw [exR_yes hp hf]
  exact h3.keep hk (fun g e => by omega) (hno _ (by decide)) (hno _ (by decide))
theorem soq_keep {own : Nat → Prop} {n₀ : Nat} {w0 w w' : World} {v : Value} {l : List (List Int)} (h : SoQ (OnlyB (fun b => ¬ own b)) n₀ w0 w v l) (hb : Below w0.heap.size w0 w) (hk : Keeps own w w') (hT : ∀ g cur, own g → w.heap[g]? = some (.cells cur 27 (0, 0)) → False) : Sts w' v l := by
  obtain ⟨vs, h1, h2⟩ := h
  refine ⟨vs, own_rd (row_keep h1 hk hT), fun i u s hu hs => ?_⟩
  obtain ⟨hI, hQ⟩ := h2 i u s hu hs
  rcases hI with h | ⟨b', o, c', e', hlt, h0, hr⟩
  · exact .inl h
  · have hne := hQ _ _ _ e' h0
    refine ints_block (IntsOf.on (.inr ⟨b', o, c', e', hlt, h0, hr⟩) hb) hk.size fun b hbb hbl => ?_
    subst e'
    obtain rfl : b' = b := by simpa [Value.ownBlock] using hbb
    exact hk.block _ hbl hne
theorem Lie.only {n g : Nat} {w : World} {u : Value} {s : List Int} {T : TypeId} {cur : Array Value} (h : Lie n w u s) (hn : n ≤ g) (hg : w.heap[g]? = some (.cells cur T (0, 0))) (hT : T ≠ 3) : OnlyB (fun b => ¬ b = g) u := by
  intro a k c e hk eb
  rcases h.2 with rfl | hl
  · obtain ⟨ao, ca, e', _⟩ := h.1.ints.parts
    rw [e] at e'
    have := (Value.slice.inj e').2.1
    simp at this; omega
  · rcases hl a.block (by rw [e]; rfl) with hlt | ⟨cur', hc⟩
    · omega
    · rw [eb, hg] at hc
      exact hT (Obj.cells.inj (Option.some.inj hc)).2.1
theorem Out.soq {n n₀ g : Nat} {w : World} {v : Value} {l : List (List Int)} {T : TypeId} {cur : Array Value} (h : Out n n₀ w v l) (hn : n ≤ g) (hg : w.heap[g]? = some (.cells cur T (0, 0))) (hT : T ≠ 3) : StsQ (OnlyB (fun b => ¬ b = g)) w v l := by
  obtain ⟨vs, h1, h2⟩ := h
  exact ⟨vs, own_rd h1, fun i u s hu hs => ⟨(h2 i u s hu hs).1.ints, (h2 i u s hu hs).only hn hg hT⟩⟩
theorem Out.soq2 {n n₀ g k : Nat} {w : World} {v : Value} {l : List (List Int)} {T : TypeId} {cur cur2 : Array Value} (h : Out n n₀ w v l) (hn : n ≤ g) (hg : w.heap[g]? = some (.cells cur T (0, 0))) (hn2 : n ≤ k) (hk : w.heap[k]? = some (.cells cur2 T (0, 0))) (hT : T ≠ 3) : StsQ (OnlyB (fun b => ¬ (b = g ∨ b = k))) w v l := by
  obtain ⟨vs, h1, h2⟩ := h
  refine ⟨vs, own_rd h1, fun i u s hu hs => ⟨(h2 i u s hu hs).1.ints, fun a n c e h0 hor => ?_⟩⟩
  rcases hor with e1 | e1
  · exact (h2 i u s hu hs).only hn hg hT a n c e h0 e1
  · exact (h2 i u s hu hs).only hn2 hk hT a n c e h0 e1
theorem StsQ.mono {Q Q' : Value → Prop} {w : World} {v : Value} {l : List (List Int)} (h : StsQ Q w v l) (hq : ∀ u, Q u → Q' u) : StsQ Q' w v l := by
  obtain ⟨vs, h1, h2⟩ := h
  exact ⟨vs, h1, fun i u s hu hs => ⟨(h2 i u s hu hs).1, hq u (h2 i u s hu hs).2⟩⟩
attribute [local go_sem ↓ high] load_op store_o app_st app_rs
set_option maxHeartbeats 8000000 in
theorem rsearch_any {R : List Int → Prop} {obj kind : Int} {vo vE : Value} {l : List OpV} {ents : List (List Int)} {E : Nat} {w : World} (hO : OpsOf w vo l) (hl : l.length ≤ 7) (hE : StsQ CapOk w vE ents) (hR : RK R l) (hent : ∀ s ∈ ents, s.length ≤ E ∧ R s) (hEl : E ≤ 10000) (hel : ents.length ≤ 100000) (budget : Int) (hbd : -9223372036854775808 ≤ budget ∧ budget ≤ 9223372036854775807) :
    Calls Try.prog 12 #[.agg #[.int .i64 obj, .int .i64 kind, vo], vE, .int .i64 budget] w (SrPost l ents budget w) := by
  obtain ⟨ao, co, rfl⟩ := hO.len
  obtain ⟨aE, cE, rfl⟩ := hE.sts.len
  have hbw : Below w.heap.size w ((w.alloc (.cells #[.int .i64 obj, .int .i64 kind, .slice ao l.length co] 24)).alloc (.cells #[.slice none 0 0, .slice none 0 0, .int .i64 0] 33)) := by go_grown
  have hbx0 := heap_alloc_new w (.cells #[.int .i64 obj, .int .i64 kind, .slice ao l.length co] 24)
  have hbx := (Below.heap_alloc (w.alloc (.cells #[.int .i64 obj, .int .i64 kind, .slice ao l.length co] 24)) (.cells #[.slice none 0 0, .slice none 0 0, .int .i64 0] 33) w.heap.size (by rw [World.size_alloc]; omega)).trans hbx0
  have hby := heap_alloc_new (w.alloc (.cells #[.int .i64 obj, .int .i64 kind, .slice ao l.length co] 24)) (.cells #[.slice none 0 0, .slice none 0 0, .int .i64 0] 33)
  rw [World.size_alloc] at hby
  obtain ⟨W1, hW1⟩ : ∃ W, (w.alloc (.cells #[.int .i64 obj, .int .i64 kind, .slice ao l.length co] 24)).alloc (.cells #[.slice none 0 0, .slice none 0 0, .int .i64 0] 33) = W := ⟨_, rfl⟩
  rw [hW1] at hbw hbx hby
  have HSEG := Lib.hid (show ∀ W, Below W1.heap.size W1 W → W.cell? ⟨w.heap.size, 2, none⟩ = some (.slice ao l.length co) from fun W hb => by rw [cell_of_row _ _ _ _ _ _ ((hb.block _ (heap_inO hbx)).trans hbx)]; rfl)
  have k0 := HSEG.out W1 (Below.refl _ _)
  have HO := Lib.hid hO
  have HE := Lib.hid hE
  have HB := Lib.hid hbw
  have HY := Lib.hid hby
  have HEN := Lib.hid hent
  have HSPT := Lib.hid fun (lim : Int) (h : -1 ≤ lim ∧ lim ≤ 32768) => spots_any hbw hO hl hE hR hent hEl hel lim h
  have HSZ := Lib.hid (show w.heap.size + 2 ≤ W1.heap.size by rw [← hW1, World.size_alloc, World.size_alloc]; omega)
  have HW := Lib.hid hW1
  have q0 : ¬ ((16 : Int) < (l.length : Int)) := by omega
  clear hO hE hbw hbx hby hbx0 hR hent hW1
  go_enter Try.func12, Try.ntmps12
  rcases (by omega : budget < 0 ∨ (¬ budget < 0 ∧ ¬ 32768 < budget) ∨ (¬ budget < 0 ∧ 32768 < budget)) with q2 | ⟨q2, q3⟩ | ⟨q2, q3⟩
  all_goals first
    | have HCL := Lib.hid (show Clamp budget (-1) from ⟨by omega, by omega, .inl ⟨q2, rfl⟩⟩)
    | have HCL := Lib.hid (show Clamp budget budget from ⟨by omega, by omega, .inr ⟨by omega, by omega⟩⟩)
    | have HCL := Lib.hid (show Clamp budget 32768 from ⟨by omega, by omega, .inr ⟨by omega, by omega⟩⟩)
  all_goals
    go_wp2_with fail
    rw [HW.out]
    clear q0 q2 k0
    try clear q3
    refine (HSPT.out _ ⟨HCL.out.1, HCL.out.2.1⟩).mono ?_
    rintro _ w2 ⟨v2, rfl, rs, first, bM, ks, hus, hsps, hspr, hlen⟩
    obtain ⟨a2, c2, rfl⟩ := hspr.len
    have hb2 := hspr.bel
    have hy2 : w2.heap[w.heap.size + 1]? = some (.cells #[.slice none 0 0, .slice none 0 0, .int .i64 0] 33 (0, 0)) := (hb2.block _ (heap_inO HY.out)).trans HY.out
    have HSP := Lib.hid hspr
    have HUS := Lib.hid hus
    rcases hsps.split.symm with ⟨q5, h6⟩ | ⟨q5, h5, h6⟩
    · have HAN := Lib.hid (ans_over (ents := ents) HCL.out (by omega) hus h6)
      have r0 : w2.cell? ⟨w.heap.size + 1, 0, none⟩ = some (.slice none 0 0) := by rw [cell_of_row _ _ _ _ _ _ hy2]; rfl
      have r1 : w2.cell? ⟨w.heap.size + 1, 1, none⟩ = some (.slice none 0 0) := by rw [cell_of_row _ _ _ _ _ _ hy2]; rfl
      have r2 : w2.cell? ⟨w.heap.size + 1, 2, none⟩ = some (.int .i64 0) := by rw [cell_of_row _ _ _ _ _ _ hy2]; rfl
      have f0 := cells_thaw hy2 0
      have f1 := cells_thaw hy2 1
      have f2 := cells_thaw hy2 2
      have hss := sum_set (.slice none 0 0) (.slice none 0 0) (.int .i64 0) hy2
      have HBL := Lib.hid hss.1
      have HKP := Lib.hid ((HB.out.trans (hb2.mono (by have := HSZ.out; omega))).trans (hss.2.below (fun k e => by omega) (by have := HB.out.size; have := hb2.size; omega) : Below w.heap.size w2 _))
      clear hss hy2 hus hsps hspr h6 hb2 HSPT
      go_wp2_with fail
      generalize (((w2.setCell ⟨w.heap.size + 1, 0, none⟩ (.slice none 0 0)).setCell ⟨w.heap.size + 1, 1, none⟩ (.slice none 0 0)).setCell ⟨w.heap.size + 1, 2, none⟩ (.int .i64 0)) = W9 at HBL HKP ⊢
      have z0 : W9.cell? ⟨w.heap.size + 1, 0, none⟩ = some (.slice none 0 0) := by rw [cell_of_row _ _ _ _ _ _ HBL.out]; rfl
      have z1 : W9.cell? ⟨w.heap.size + 1, 1, none⟩ = some (.slice none 0 0) := by rw [cell_of_row _ _ _ _ _ _ HBL.out]; rfl
      have z2 : W9.cell? ⟨w.heap.size + 1, 2, none⟩ = some (.int .i64 0) := by rw [cell_of_row _ _ _ _ _ _ HBL.out]; rfl
      refine bodyPost_ret (v := .tuple #[.agg #[.slice none 0 0, .slice none 0 0, .int .i64 0], .int .i64 35]) (by simp [results, Try.results12, go_sem, z0, z1, z2]) rfl ?_
      exact ⟨_, _, _, _, rfl, [], [], HAN.out, (StsOwn.nil 0 _).reads, (StsOwn.nil 0 _).reads, HKP.out⟩
    all_goals try (exfalso; omega)
    all_goals
      have HAN := Lib.hid fun (Q : List (List Int)) (hq : US (exR l rs) Q) => ans_good HCL.out (by omega) hus h5 h6 hq
      have HSO := Lib.hid (rsorted_q (((StsQ.low HE.out).on (HB.out.on hb2)).mono (Q' := OnlyB (fun b => ¬ b = w.heap.size + 1)) fun u h a n c e hn => by have := h.2 a n c e hn; omega) (fun s hs => by have := (HEN.out s hs).1; omega) (by omega))
      have HY2 := Lib.hid hy2
      have HL := Lib.hid hlen
      clear hus hsps hspr h5 h6 hy2 hb2 HSPT HCL
      go_wp2_with fail
      refine HSO.out.mono ?_
      rintro _ w3 ⟨v3, rfl, r3, h3, hu3, hb3⟩
      obtain rfl := hu3.eq HUS.out (fun _ => Iff.rfl)
      obtain ⟨a3, c3, rfl⟩ := (h3.reads hb3).len
      have HSP3 := Lib.hid (HSP.out.on hb3)
      have HY3 := Lib.hid ((hb3.block _ (heap_inO HY2.out)).trans HY2.out)
      have HS3 := Lib.hid (And.intro h3 hb3)
      have hal3 : Below w3.heap.size w3 (w3.alloc (.cells #[.slice a3 r3.length c3, .slice none 0 0, .int .i64 (rs.length : Int)] 33)) := by go_grown
      have HI0 := Lib.hid (show SxI l rs w.heap.size (.slice a3 r3.length c3) w3 (w3.alloc (.cells #[.slice a3 r3.length c3, .slice none 0 0, .int .i64 (rs.length : Int)] 33)) 0 from ⟨hal3, _, heap_alloc_new w3 _, Out.nil _ _ _⟩)
      have HSZ3 := Lib.hid (show W1.heap.size ≤ w3.heap.size from HSP3.out.bel.size)
      clear h3 hu3 hb3 HSO hal3 q5
      go_wp2_with fail
      go_loopw [10] (fun s10 wr => ∃ i : Nat, s10 = .int .i64 i ∧ i ≤ rs.length ∧ Hid (SxI l rs w.heap.size (.slice a3 r3.length c3) w3 wr i)) (fun s10 _ => rs.length - (intOf s10).toNat)
      case atStart => exact ⟨0, rfl, Nat.zero_le _, HI0⟩
      case round =>
        clear HI0
        obtain ⟨i, rfl, hi, HI⟩ := hrel
        rename World => wr
        by_cases hil : i < rs.length
        · have q1 : (i : Int) < (rs.length : Int) := by omega
          have q2 : IntKind.i64.wrap ((i : Int) + 1) = (i : Int) + 1 := IntWalk.i64_in _ (by have := HL.out; omega)
          have q3 : (0 : Int) ≤ i := by omega
          obtain ⟨p, hp⟩ : ∃ p, rs[i]? = some p := ⟨_, List.getElem?_eq_getElem hil⟩
          have hspr := HSP3.out.on HI.out.bel
          obtain ⟨b, cap, vd, vs, hv, hbq, hc0, hc1, hsc⟩ := hspr.at hp
          obtain ⟨rfl, _, rfl⟩ := Value.slice.inj hv
          obtain ⟨ad, cd, rfl⟩ := (own_rd hsc.dn).len
          obtain ⟨au, cu, rfl, _⟩ := hsc.st.1.ints.parts
          have hpl := (hspr.fit p (List.mem_of_getElem? hp)).len
          have HC := Lib.hid (show ∀ W, Below wr.heap.size wr W → W.cell? ⟨w.heap.size, 2, none⟩ = some (.slice ao l.length co) ∧ W.cell? ⟨b, i * 2, none⟩ = some (.slice ad p.1.length cd) ∧ W.cell? ⟨b, i * 2 + 1, none⟩ = some (.slice au p.2.length cu) from fun W hb => ⟨HSEG.out W (hspr.bel.on hb), (hb.cell (p := ⟨b, i * 2, none⟩) hbq).trans hc0, (hb.cell (p := ⟨b, i * 2 + 1, none⟩) hbq).trans hc1⟩)
          have hb0 : Below wr.heap.size wr wr.drew := (Below.refl _ _).drew
          have HF := Lib.hid (rfull_any ((HO.out.on (HB.out.on hspr.bel)).on hb0) ((own_rd hsc.dn).on hb0) hpl (by omega))
          have HSC := Lib.hid hsc
          have HP := Lib.hid hp
          have HIL := Lib.hid hil
          obtain ⟨k1, k2, _⟩ := HC.out _ hb0
          clear hv hbq hc0 hc1 hsc hspr hpl hp hil hi
          go_wp2_with fail
          go_region_held3 (fun w' => w'.cell? ⟨w.heap.size, 2, none⟩ = some (.slice ao l.length co) ∧ w'.cell? ⟨b, i * 2, none⟩ = some (.slice ad p.1.length cd)) (first | (exact ⟨(HC.out _ (by assumption)).1, (HC.out _ (by assumption)).2.1⟩) | go_keep) (first | (go_at_call 30; (with_reducible refine HF.out.mono ?_); rintro _ w4 ⟨rfl, hb4⟩; have hb34 := hb0.on hb4) | fail)
          have HI4 := Lib.hid (HI.out.on hb34)
          have HC4 := Lib.hid (show ∀ W, Below w4.heap.size w4 W → W.cell? ⟨b, i * 2 + 1, none⟩ = some (.slice au p.2.length cu) from fun W hb => (HC.out W (hb34.on hb)).2.2)
          have hst4 := (HSC.out.on hb34).st
          clear hb0 hb34 hb4 k1 k2 HF HC HSC
          cases hf : fullB l p.1 with
          | false =>
            have HN1 := Lib.hid (show SxI l rs w.heap.size (.slice a3 r3.length c3) w3 w4 (i + 1) from by
              obtain ⟨vx, x1, x2⟩ := HI4.out.box
              exact ⟨HI4.out.bel, vx, x1, by rw [exR_no HP.out hf]; exact x2⟩)
            clear hf hst4
            go_wp2_with fail
            go_roundw
            case measure => have := HIL.out; simp [intOf] <;> omega
            case rel => exact ⟨i + 1, by simp, by have := HIL.out; omega, HN1⟩
          | true =>
            have hd4 : Below w4.heap.size w4 w4.drew := (Below.refl _ _).drew
            have hal : Below w4.heap.size w4 (w4.alloc (.cells #[.slice au p.2.length cu] 27)).drew := (show Below w4.heap.size w4 (w4.alloc (.cells #[.slice au p.2.length cu] 27)) by go_grown).drew
            obtain ⟨vx, v5, w5, e1, e2, ⟨ax, cx, rfl⟩, ⟨a5, c5, rfl⟩, e3, e4, e5, hN⟩ := (HI4.out.on hd4).next HP.out hf (hst4.on hd4) (by have := HSZ3.out; have := HSZ.out; omega) HL.out
            have HN1 := Lib.hid hN
            have k1 := HC4.out w4.drew hd4
            have k2 := HC4.out _ hal
            have e6 : (w4.alloc (.cells #[.slice au p.2.length cu] 27)).drew.cell? ⟨w3.heap.size, 1, none⟩ = some (.slice ax (exR l (rs.take i)).length cx) := e2
            have r5 : (appSt #[.slice ax (exR l (rs.take i)).length cx, .slice (some ⟨w4.heap.size, 0, none⟩) 1 1]).run Try.prog (w4.alloc (.cells #[.slice au p.2.length cu] 27)).drew = .ok (.slice a5 ((exR l (rs.take i)).length + 1) c5) w5 := e3
            have hx5 := exR_len l rs i
            have hx6 := HL.out
            clear hf hst4 hN hd4 hal e2 e3
            go_wp2_with fail
            go_region
            all_goals
              go_wp2_with fail
              go_roundw
              case measure => have := HIL.out; simp [intOf] <;> omega
              case rel => exact ⟨i + 1, by simp, by have := HIL.out; omega, HN1⟩
        · obtain rfl : i = rs.length := by omega
          have q1 : ¬ ((rs.length : Int) < (rs.length : Int)) := by omega
          obtain ⟨vx, x1, x2⟩ := HI.out.box
          rw [List.take_length] at x2
          have hbel := HI.out.bel
          have hyr : wr.heap[w.heap.size + 1]? = some (.cells #[.slice none 0 0, .slice none 0 0, .int .i64 0] 33 (0, 0)) := (hbel.block _ (heap_inO HY3.out)).trans HY3.out
          obtain ⟨ax, cx, rfl⟩ := x2.len
          have k1 : wr.cell? ⟨w3.heap.size, 1, none⟩ = some (.slice ax (exR l rs).length cx) := by rw [cell_of_row _ _ _ _ _ _ x1]; rfl
          have HQ := Lib.hid (rsorted_q (x2.soq2 (g := w.heap.size + 1) (k := w3.heap.size) (by omega) hyr (by have := HSZ3.out; have := HSZ.out; omega) x1 (by decide)) (fun s hs => by
            unfold exR at hs
            obtain ⟨p, hp, rfl⟩ := List.mem_map.1 hs
            have := (HSP3.out.fit p (List.mem_filter.1 hp).1).sz
            omega) (by have := exR_len l rs rs.length; rw [List.take_length] at this; have := HL.out; omega))
          have HX1 := Lib.hid (And.intro x1 (And.intro hyr hbel))
          clear x1 x2 hbel hyr hi
          go_wp2_with fail
          refine HQ.out.mono ?_
          rintro _ w6 ⟨v6, rfl, r6, h6, hu6, hb6⟩
          obtain ⟨a6, c6, rfl⟩ := (h6.reads hb6).len
          have hx6 := (hb6.block _ (heap_inO HX1.out.1)).trans HX1.out.1
          have hy6 := (hb6.block _ (heap_inO HX1.out.2.1)).trans HX1.out.2.1
          have hne : w.heap.size + 1 ≠ w3.heap.size := by have := HSZ3.out; have := HSZ.out; omega
          have e6 : w6.cell? ⟨w3.heap.size, 1, none⟩ = some (.slice ax (exR l rs).length cx) := by rw [cell_of_row _ _ _ _ _ _ hx6]; rfl
          have f6 := cells_thaw hx6 1
          have hk7 : Keeps (fun k => k = w3.heap.size) w6 (w6.setCell ⟨w3.heap.size, 1, none⟩ (.slice a6 r6.length c6)) := (Keeps.refl (fun k => k = w3.heap.size) w6).setCell (.inl (by rfl)) _
          have hx7 := heap_setCell_same w6 w3.heap.size 1 _ _ (.slice a6 r6.length c6) hx6
          have hy7 := (hk7.block _ (heap_inO hy6) hne).trans hy6
          have g0 : (w6.setCell ⟨w3.heap.size, 1, none⟩ (.slice a6 r6.length c6)).cell? ⟨w3.heap.size, 0, none⟩ = some (.slice a3 r3.length c3) := by rw [cell_of_row _ _ _ _ _ _ hx7]; rfl
          have g1 : (w6.setCell ⟨w3.heap.size, 1, none⟩ (.slice a6 r6.length c6)).cell? ⟨w3.heap.size, 1, none⟩ = some (.slice a6 r6.length c6) := by rw [cell_of_row _ _ _ _ _ _ hx7]; rfl
          have g2 : (w6.setCell ⟨w3.heap.size, 1, none⟩ (.slice a6 r6.length c6)).cell? ⟨w3.heap.size, 2, none⟩ = some (.int .i64 (rs.length : Int)) := by rw [cell_of_row _ _ _ _ _ _ hx7]; rfl
          have r0 : (w6.setCell ⟨w3.heap.size, 1, none⟩ (.slice a6 r6.length c6)).cell? ⟨w.heap.size + 1, 0, none⟩ = some (.slice none 0 0) := by rw [cell_of_row _ _ _ _ _ _ hy7]; rfl
          have r1 : (w6.setCell ⟨w3.heap.size, 1, none⟩ (.slice a6 r6.length c6)).cell? ⟨w.heap.size + 1, 1, none⟩ = some (.slice none 0 0) := by rw [cell_of_row _ _ _ _ _ _ hy7]; rfl
          have r2 : (w6.setCell ⟨w3.heap.size, 1, none⟩ (.slice a6 r6.length c6)).cell? ⟨w.heap.size + 1, 2, none⟩ = some (.int .i64 0) := by rw [cell_of_row _ _ _ _ _ _ hy7]; rfl
          have f0 := cells_thaw hy7 0
          have f1 := cells_thaw hy7 1
          have f2 := cells_thaw hy7 2
          have hss := sum_set (.slice a3 r3.length c3) (.slice a6 r6.length c6) (.int .i64 (rs.length : Int)) hy7
          have HBL := Lib.hid hss.1
          have HKS := Lib.hid hss.2
          have HK7 := Lib.hid (And.intro hk7 (And.intro hy7 hx6))
          have H6 := Lib.hid (And.intro h6 (And.intro hu6 hb6))
          clear hss hk7 hx7 hy7 h6 hu6 hb6 hx6 hy6 hne k1
          go_wp2_with fail
          generalize ((((w6.setCell ⟨w3.heap.size, 1, none⟩ (.slice a6 r6.length c6)).setCell ⟨w.heap.size + 1, 0, none⟩ (.slice a3 r3.length c3)).setCell ⟨w.heap.size + 1, 1, none⟩ (.slice a6 r6.length c6)).setCell ⟨w.heap.size + 1, 2, none⟩ (.int .i64 (rs.length : Int))) = W9 at HBL HKS ⊢
          have z0 : W9.cell? ⟨w.heap.size + 1, 0, none⟩ = some (.slice a3 r3.length c3) := by rw [cell_of_row _ _ _ _ _ _ HBL.out]; rfl
          have z1 : W9.cell? ⟨w.heap.size + 1, 1, none⟩ = some (.slice a6 r6.length c6) := by rw [cell_of_row _ _ _ _ _ _ HBL.out]; rfl
          have z2 : W9.cell? ⟨w.heap.size + 1, 2, none⟩ = some (.int .i64 (rs.length : Int)) := by rw [cell_of_row _ _ _ _ _ _ HBL.out]; rfl
          refine bodyPost_ret (v := .tuple #[.agg #[.slice a3 r3.length c3, .slice a6 r6.length c6, .int .i64 (rs.length : Int)], .int .i64 0]) (by simp [results, Try.results12, go_sem, z0, z1, z2]) rfl ?_
          have hs3 := HSZ3.out
          have hs1 := HSZ.out
          have hs6 := HX1.out.2.2.size
          have hs7 := H6.out.2.2.size
          have hb67 : Below w3.heap.size w6 (w6.setCell ⟨w3.heap.size, 1, none⟩ (.slice a6 r6.length c6)) := HK7.out.1.below (fun k e => by omega) (by omega)
          have hb37 : Below w3.heap.size w3 (w6.setCell ⟨w3.heap.size, 1, none⟩ (.slice a6 r6.length c6)) := (HX1.out.2.2.trans (H6.out.2.2.mono hs6)).trans hb67
          have hb27 := HS3.out.2.trans (hb37.mono HS3.out.2.size)
          have hb17 : Below W1.heap.size W1 (w6.setCell ⟨w3.heap.size, 1, none⟩ (.slice a6 r6.length c6)) := HSP.out.bel.trans (hb27.mono HSP.out.bel.size)
          have hb19 : Below w.heap.size w W9 := (HB.out.trans (hb17.mono (by omega))).trans (HKS.out.below (fun k e => by omega) (by have := hb17.size; omega))
          have hsq3 := HS3.out.1.on hb37
          have hsx : Sts W9 (.slice a3 r3.length c3) r3 := soq_keep hsq3 hb27 HKS.out fun g cur e hg => by
            rw [e, HK7.out.2.1] at hg
            exact absurd (Obj.cells.inj (Option.some.inj hg)).2.1 (by decide)
          have hk9 : Keeps (fun k => k = w.heap.size + 1 ∨ k = w3.heap.size) w6 W9 := (HK7.out.1.mono fun k e => .inl (.inr e)).trans HKS.out fun k e => .inl (.inl e)
          have hsy : Sts W9 (.slice a6 r6.length c6) r6 := soq_keep H6.out.1 H6.out.2.2 hk9 fun g cur e hg => by
            rcases e with e | e
            · rw [e, (H6.out.2.2.block _ (heap_inO HX1.out.2.1)).trans HX1.out.2.1] at hg
              exact absurd (Obj.cells.inj (Option.some.inj hg)).2.1 (by decide)
            · rw [e, HK7.out.2.2] at hg
              exact absurd (Obj.cells.inj (Option.some.inj hg)).2.1 (by decide)
          exact ⟨_, _, _, _, rfl, r3, r6, HAN.out _ H6.out.2.1, hsx, hsy, hb19⟩
end Ln
end Go.Proofs.Ytppjmmdiglnkfaa
