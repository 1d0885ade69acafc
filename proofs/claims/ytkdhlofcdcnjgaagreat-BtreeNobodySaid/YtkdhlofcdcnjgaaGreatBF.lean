/- Package btree: the law's lists of records. Package btree: some, all. Package btree: Depth, Open. Package btree: the law's begun. Package btree: a page's records, given to a loop. Package btree: From's iterator, with a loop. Package btree: Count. -/
import Derived.Test.YtkdhlofcdcnjgaaGreatBE
import Derived.Test.YtkdhlofcdcnjgaaGreatBD
import Derived.Test.YtkdhlofcdcnjgaaGreatGN
import Derived.Test.YtkdhlofcdcnjgaaGreatBB
import Derived.Stop.RegionWithIn
namespace Go.Proofs.YtkdhlofcdcnjgaaGreat
set_option maxRecDepth 100000
open Go.ChangeShapes Go.WideShapes Go.ChangeAt Go.RowKit Go.PlainAid Go.Shelf
open Go.Sort (grow)

/-- A row of pairs of the call's own. -/
def rowC (cur : Array Value) : Obj := .cells cur 47 (0, 0)
def RowR (lo : Nat) (L : List Pr) (v : Value) (Y : List (Nat × Obj)) : Prop :=
  (L = [] ∧ v = .slice none 0 0 ∧ Y = []) ∨ ∃ g cap cur, v = .slice (some ⟨g, 0, none⟩) L.length cap ∧ Y = [(g, rowC cur)] ∧ lo ≤ g ∧ L.length ≤ cap ∧ cap ≤ maxLen ∧ cur.size = cap * 2 ∧ RowP cur L
def appQ (vs : Array Value) : Sem Value := Builtin.append_ #[39, 39] 39 vs
theorem app_q (vs : Array Value) : Builtin.append_ #[39, 39] 39 vs = appQ vs := rfl
theorem boxL_cell {w : World} {b : Nat} {v : Value} (h : w.heap[b]? = some (boxL v)) : w.cell? ⟨b, 0, none⟩ = some v ∧ w.frozen? ⟨b, 0, none⟩ = false := by
  unfold boxL at h
  refine ⟨?_, frozen_of_row _ _ _ _ _ h⟩
  rw [cell_of_row _ _ _ _ _ _ h]
  rfl
def boxI (k : Int) : Obj := .cells #[.int .i64 k] 3 (0, 0)
theorem boxI_cell {w : World} {b : Nat} {k : Int} (h : w.heap[b]? = some (boxI k)) : w.cell? ⟨b, 0, none⟩ = some (.int .i64 k) ∧ w.frozen? ⟨b, 0, none⟩ = false := by
  unfold boxI at h
  refine ⟨?_, frozen_of_row _ _ _ _ _ h⟩
  rw [cell_of_row _ _ _ _ _ _ h]
  rfl
section
variable {w0 w w' : World} {pp n c tb : Nat} {V : Int → ByteArray} {R : List (Nat × Obj)} {i : Int}
set_option maxHeartbeats 1000000 in
/-- A pair more. -/
theorem pr_push {L : List Pr} {v : Value} {Rw Y : List (Nat × Obj)} (H : PV w0 pp n c V (Rw ++ Y) w) (hr : RowR w0.heap.size L v Rw) (hap : ∀ y ∈ Rw, ∀ z ∈ Y, z.1 ≠ y.1) (x : Pr) (hlen : L.length ≤ 65536) :
    ∃ g cap cur w2, (appQ #[v, .slice (some ⟨w.heap.size, 0, none⟩) 1 1]).run Tryz.prog (w.alloc (prO x)) = .ok (.slice (some ⟨g, 0, none⟩) (L.length + 1) cap) w2 ∧
      PV w0 pp n c V ((g, rowC cur) :: Y) w2 ∧ RowR w0.heap.size (L ++ [x]) (.slice (some ⟨g, 0, none⟩) (L.length + 1) cap) [(g, rowC cur)] ∧ ∀ z ∈ Y, z.1 ≠ g := by
  have hown : w.ownsRow w0.heap.size 47 2 v L.length (flatP L) := by
    refine ⟨flatP_len L, ?_⟩
    rcases hr with ⟨rfl, rfl, rfl⟩ | ⟨g, cap, cur, rfl, rfl, h1, h2, h3, h4, h5⟩
    · exact .inl ⟨rfl, rfl⟩
    · exact .inr ⟨g, cap, cur, rfl, h1, H.mem (x := (g, rowC cur)) (by simp), h2, h3, h4, h5⟩
  have hn := H.below.size
  have hlt := fun (z : Nat × Obj) (hz : z ∈ Y) => H.lt (x := z) (List.mem_append_right _ hz)
  obtain ⟨i0, hi, hz0, hz1, hz2⟩ := info_parts info_pair
  have hq := heap_alloc_new w (prO x)
  have hba : Below w.heap.size w (w.alloc (prO x)) := by go_grown
  obtain ⟨g, cap, w2, hrn, h2, h3, h4, _⟩ := run_append_lies (P := Tryz.prog) (w := w.alloc (prO x)) 39 39 w0.heap.size 47 i0 _ 2 32 Tryz.underlying39 hi hz0 hz1 hz2 (by simp [Value.cells]) (by decide) v L.length (flatP L) (World.ownsRow.alloc hown _) ⟨w.heap.size, 0, none⟩ 1 1 (flatP [x]) rfl
    (World.news_of_block hq) (flatP_one [x]) (by decide) (by unfold maxLen; omega) (by omega) (by rw [World.size_alloc]; omega) _ rfl
  have hbel : Below w0.heap.size w0 w2 := H.below.trans ((hba.mono hn).grown h3 (by rw [World.size_alloc]; omega) (fun k e => (hown.lt k e).1))
  obtain ⟨_, hh⟩ := h2
  rcases hh with ⟨hz, h00⟩ | ⟨g2, cap2, cur2, hv, hlo, hgb, k1, k2, k3, k4⟩
  · omega
  · cases hv
    have hsz : w.heap.size ≤ w2.heap.size := Nat.le_trans hba.size h3.size
    have hoth : ∀ k, k < w.heap.size → v.ownBlock ≠ some k → w2.heap[k]? = w.heap[k]? := fun k hk hne => (h3.block k (Nat.lt_of_lt_of_le hk hba.size) (fun e => hne e.symm)).trans (hba.block k hk)
    have hrow : RowP cur2 (L ++ [x]) := by
      unfold RowP
      rw [flatP_app, List.length_append]
      exact k4
    refine ⟨g, cap, cur2, w2, hrn, ?_, .inr ⟨g, cap, cur2, by simp, rfl, hlo, by simpa using k1, k2, k3, hrow⟩, ?_⟩
    · rcases hr with ⟨rfl, rfl, rfl⟩ | ⟨g1, cap1, cur1, rfl, rfl, _⟩
      · have hg2 : w.heap.size ≤ g := by
          rcases h4 with h | h
          · cases h
          · rw [h, World.size_alloc]; omega
        exact PV.add (R := Y) H ⟨h3.os.trans hba.os, h3.tape.trans hba.tape, h3.output.trans hba.output, hsz, fun k hk => hoth k hk (by simp [Value.ownBlock])⟩ hg2 hgb
      · have hne : pp ≠ g1 := PV.ne (x := (g1, rowC cur1)) H (by simp) rfl (by decide)
        have hg2 : g = g1 ∨ w.heap.size ≤ g := by
          rcases h4 with h | h
          · exact .inl (Option.some.inj (by simpa [Value.ownBlock] using h)).symm
          · exact .inr (by rw [h, World.size_alloc]; omega)
        exact PV.swap (R := Y) H (fun z hz => hap (g1, rowC cur1) (by simp) z hz) hne hsz (fun k hk hkb => hoth k hk (by simp [Value.ownBlock]; omega)) hg2 hgb hbel
    · intro z hz e
      rcases h4 with h | h
      · rcases hr with ⟨rfl, rfl, rfl⟩ | ⟨g1, cap1, cur1, rfl, rfl, _⟩
        · cases h
        · have h : some g1 = some g := by simpa [Value.ownBlock] using h
          cases h
          exact hap (_, rowC cur1) List.mem_cons_self z hz e
      · have := hlt z hz
        rw [World.size_alloc] at h
        omega
/-- What the law's lists keep: the list's box, boxes that stay, the row. -/
def LiK (w0 : World) (lb : Nat) (B : List (Nat × Obj)) (pre : List Pr) (Rc : List (Nat × Obj)) : Prop :=
  ∃ v Y, Rc = (lb, boxL v) :: (B ++ Y) ∧ RowR w0.heap.size pre v Y ∧ (∀ y ∈ Y, y.1 ≠ lb) ∧ Ap B Y ∧ ∀ y ∈ B, y.1 ≠ lb
def LiS (w0 : World) (lb : Nat) (B : List (Nat × Obj)) (M : Int) (pre : List Pr) (Rc : List (Nat × Obj)) : Prop := (pre.length : Int) < M ∧ LiK w0 lb B pre Rc
def LiX (w0 : World) (lb : Nat) (B : List (Nat × Obj)) (M : Int) (pre : List Pr) (Rc : List (Nat × Obj)) : Prop := (pre.length : Int) = M ∧ LiK w0 lb B pre Rc
theorem li_step {lb : Nat} {B X Rc : List (Nat × Obj)} {pre : List Pr} (hK : LiK w0 lb B pre Rc) (hA : Ap X Rc) (H : PV w0 pp n c V (X ++ Rc) w) (p : Pr) (hlb : w0.heap.size ≤ lb) (hlen : pre.length ≤ 65536) :
    ∃ v g cap w2 Rc', (appQ #[v, .slice (some ⟨w.heap.size, 0, none⟩) 1 1]).run Tryz.prog (w.alloc (prO p)) = .ok (.slice (some ⟨g, 0, none⟩) (pre.length + 1) cap) w2 ∧
      (∃ Y, Rc = (lb, boxL v) :: (B ++ Y)) ∧ w2.cell? ⟨lb, 0, none⟩ = some v ∧ w2.frozen? ⟨lb, 0, none⟩ = false ∧
      (lb, boxL (.slice (some ⟨g, 0, none⟩) (pre.length + 1) cap)) ∈ Rc' ∧ LiK w0 lb B (pre ++ [p]) Rc' ∧ (∀ y ∈ B, y ∈ Rc') ∧ Ap X Rc' ∧
      PV w0 pp n c V (X ++ Rc') (w2.setCell ⟨lb, 0, none⟩ (.slice (some ⟨g, 0, none⟩) (pre.length + 1) cap)) := by
  obtain ⟨v, Y, rfl, hr, hY, hB, hBl⟩ := hK
  obtain ⟨g, cap, cur, w2, hrun, H2, hr2, hg2⟩ := pr_push (Y := X ++ ((lb, boxL v) :: B)) (H.sub _ fun y hy => by
    simp only [List.mem_append, List.mem_cons] at hy ⊢
    rcases hy with h | h | h | h <;> simp [h]) hr (fun y hy z hz => by
      simp only [List.mem_append, List.mem_cons] at hz
      rcases hz with hz | rfl | hz
      · exact hA z hz y (by simp [hy])
      · exact (hY y hy).symm
      · exact hB z hz y hy) p hlen
  obtain ⟨k1, k2⟩ := boxL_cell (H2.mem (x := (lb, boxL v)) (by simp))
  have H3 := (H2.sub ((lb, boxL v) :: (g, rowC cur) :: (X ++ B)) fun y hy => by
    simp only [List.mem_append, List.mem_cons] at hy ⊢
    rcases hy with h | h | h | h <;> simp [h]).into (o := 0) (v := .slice (some ⟨g, 0, none⟩) (pre.length + 1) cap) (fun y hy => by
      simp only [List.mem_cons, List.mem_append] at hy
      rcases hy with rfl | hy | hy
      · exact fun e => hg2 (lb, boxL v) (by simp) e.symm
      · exact hA y hy (lb, boxL v) (by simp)
      · exact hBl y hy) (by decide) hlb
  have hgl : g ≠ lb := fun e => hg2 (lb, boxL v) (by simp) e.symm
  refine ⟨v, g, cap, w2, (lb, boxL (.slice (some ⟨g, 0, none⟩) (pre.length + 1) cap)) :: (B ++ [(g, rowC cur)]), hrun, ⟨Y, rfl⟩, k1, k2, by simp, ⟨_, _, rfl, hr2, fun y hy => by rw [List.mem_singleton] at hy; rw [hy]; exact hgl, fun z hz y hy => by rw [List.mem_singleton] at hy; rw [hy]; exact hg2 z (by simp [hz]), hBl⟩, fun y hy => by simp [hy], fun z hz y hy => ?_, H3.sub _ fun y hy => ?_⟩
  · simp only [List.mem_cons, List.mem_append, List.not_mem_nil, or_false] at hy
    rcases hy with rfl | hy | rfl
    · exact hA z hz (lb, boxL v) (by simp)
    · exact hA z hz y (by simp [hy])
    · exact hg2 z (by simp [hz])
  · simp only [List.mem_append, List.mem_cons, List.not_mem_nil, or_false] at hy ⊢
    rcases hy with h | h | h | h
    · exact .inr (.inr (.inl h))
    · exact .inl (by rw [h]; rfl)
    · exact .inr (.inr (.inr h))
    · exact .inr (.inl h)
theorem li_end {lb : Nat} {B X Rc : List (Nat × Obj)} {pre : List Pr} {M : Int} {W : World} {p : Pr} (hK : LiK w0 lb B (pre ++ [p]) Rc) (hA : Ap X Rc) (H : PV w0 pp n c V (X ++ Rc) W) (hlt : (pre.length : Int) < M) :
    ∀ b, b = decide ((pre.length : Int) + 1 < M) → TakePost w0 pp n c V (LiS w0 lb B M) (LiX w0 lb B M) X pre [p] (.returned (.bool b)) W := by
  intro b hb
  have hl : ((pre ++ [p]).length : Int) = (pre.length : Int) + 1 := by simp
  cases b with
  | true =>
    have h := of_decide_eq_true hb.symm
    exact .inl ⟨rfl, Rc, ⟨⟨by rw [hl]; exact h, hK⟩, hA⟩, H⟩
  | false =>
    have h := of_decide_eq_false hb.symm
    exact .inr ⟨rfl, [p], Rc, List.prefix_refl _, ⟨⟨by rw [hl]; omega, hK⟩, hA⟩, H⟩
attribute [local go_sem ↓ high] app_q
theorem some_takes (lb mb : Nat) (M : Int) (hM : M ≤ 65536) (hlb : w0.heap.size ≤ lb) :
    Takes w0 pp n c V 37 #[.pointer (some ⟨lb, 0, none⟩), .pointer (some ⟨mb, 0, none⟩)] (LiS w0 lb [(mb, boxI M)] M) (LiX w0 lb [(mb, boxI M)] M) := by
  rintro pre X Rc p W ⟨⟨hlt, hK⟩, hA⟩ H hk hv
  obtain ⟨v, g, cap, w2, Rc', hrun, ⟨Y, rfl⟩, k1, k2, h1, hK', hB, hA', H'⟩ := li_step hK hA H p hlb (by omega)
  obtain ⟨l1, l2⟩ := boxL_cell (H.mem (x := (lb, boxL v)) (by simp))
  have k3 := (boxL_cell (H'.mem (x := (lb, _)) (List.mem_append_right _ h1))).1
  have k4 := (boxI_cell (H'.mem (x := (mb, boxI M)) (List.mem_append_right _ (hB _ (by simp))))).1
  have HZ := Lib.hid (li_end hK' hA' H' hlt)
  have hlen : pre.length ≤ 65536 := by omega
  unfold prO at hrun
  clear H H' hK hK' hA hA' hB hlt h1
  go_enter Tryz.func37, Tryz.ntmps37
  go_wp2_with fail
  go_returns
  exact HZ.out _ rfl
theorem all_takes (lb : Nat) (hlb : w0.heap.size ≤ lb) :
    Takes w0 pp n c V 44 #[.pointer (some ⟨lb, 0, none⟩)] (LiS w0 lb [] 5000) (LiX w0 lb [] 5000) := by
  rintro pre X Rc p W ⟨⟨hlt, hK⟩, hA⟩ H hk hv
  obtain ⟨v, g, cap, w2, Rc', hrun, ⟨Y, rfl⟩, k1, k2, h1, hK', hB, hA', H'⟩ := li_step hK hA H p hlb (by omega)
  obtain ⟨l1, l2⟩ := boxL_cell (H.mem (x := (lb, boxL v)) (by simp))
  have k3 := (boxL_cell (H'.mem (x := (lb, _)) (List.mem_append_right _ h1))).1
  have HZ := Lib.hid (li_end hK' hA' H' hlt)
  have hlen : pre.length ≤ 65536 := by omega
  unfold prO at hrun
  clear H H' hK hK' hA hA' hB hlt h1
  go_enter Tryz.func44, Tryz.ntmps44
  go_wp2_with fail
  go_returns
  exact HZ.out _ rfl
end
end Go.Proofs.YtkdhlofcdcnjgaaGreat
namespace Go.Proofs.YtkdhlofcdcnjgaaGreat
set_option maxRecDepth 100000
open Go.ChangeShapes Go.WideShapes Go.ChangeAt Go.RowKit Go.PlainAid Go.Shelf
open Go.Sort (grow)

theorem eq_seqS (fn : Fn) (a b : Array Value) (w : World) : (binOp .eql 81 (.func fn a b) .nilFunc).run Tryz.prog w = .ok (.bool false) w := by kernel_rfl
theorem take_of {α : Type} {q l : List α} {M : Int} (h : (q = l ∧ (q.length : Int) < M) ∨ (q <+: l ∧ (q.length : Int) = M)) : q = l.take M.toNat := by
  rcases h with ⟨rfl, h⟩ | ⟨⟨t, rfl⟩, h⟩
  · exact (List.take_of_length_le (by omega)).symm
  · have : M.toNat = q.length := by omega
    rw [this, List.take_left']
    rfl
section
variable {w0 w w' : World} {pp n c tb : Nat} {V : Int → ByteArray} {R : List (Nat × Obj)} {i : Int}
/-- A list of records that a call gives. -/
def GivesL (w0 : World) (pp n c : Nat) (V : Int → ByteArray) (R : List (Nat × Obj)) (l : List Pr) (e : Ending) (w' : World) : Prop :=
  ∃ v Y, e = .returned v ∧ RowR w0.heap.size l v Y ∧ PV w0 pp n c V (Y ++ R) w'
theorem some_any (key : ByteArray) (hk : key.size ≤ 65536) (M : Int) (hM : 0 < M ∧ M ≤ 65536) (H : PV w0 pp n c V R w) (hT : (tb, treeO pp i) ∈ R) (hn : 1 < n) (hi : 0 ≤ i ∧ i < 16) :
    Calls Tryz.prog 11 #[.pointer (some ⟨tb, 0, none⟩), .string key, .int .i64 M] w (GivesL w0 pp n c V R ((fromL key (visA V n i key)).take M.toNat)) := by
  have hmf := make_func
  have H1 := (H.push (boxI M)).push (boxL (.slice none 0 0))
  rw [World.size_alloc] at H1
  have HF := Lib.hid (from_mk (tb := tb) key hk H1)
  have HL := Lib.hid (fun (z : Nat × Obj) (hz : z ∈ R) => H.lt hz)
  have hlo := H.below.size
  have hsz : ((w.alloc (boxI M)).alloc (boxL (.slice none 0 0))).heap.size = w.heap.size + 2 := by simp
  clear H H1
  unfold boxI boxL at HF hsz
  go_enter Tryz.func11, Tryz.ntmps11
  go_wp2_with fail
  refine HF.out.mono ?_
  rintro e w5 ⟨bt, bf, rfl, H5, hb1, hb2⟩
  rw [hsz] at hb1
  have heq := eq_seqS
  have hmf2 := make_func
  obtain ⟨mb, hmb⟩ : ∃ mb, w.heap.size = mb := ⟨_, rfl⟩
  obtain ⟨lb, hlb⟩ : ∃ lb, mb + 1 = lb := ⟨_, rfl⟩
  have HC := Lib.hid (from1_c (enters_of Tryz.func37 (by kernel_rfl) rfl) (some_takes (pp := pp) (n := n) (c := c) (V := V) lb mb M hM.2 (by omega)) hn hi key bt bf ((bt, boxT tb) :: R) [(lb, boxL (.slice none 0 0)), (mb, boxI M)] w5
    ⟨⟨by simpa using hM.1, .slice none 0 0, [], rfl, .inl ⟨rfl, rfl, rfl⟩, (fun y hy => by cases hy), (fun _ _ y hy => by cases hy), fun y hy => by rw [List.mem_singleton] at hy; subst hy; simp only; omega⟩, by
      intro z hz y hy
      simp only [List.mem_cons, List.not_mem_nil, or_false] at hz hy
      rcases hz with rfl | hz
      · rcases hy with rfl | rfl | rfl <;> simp only <;> omega
      · have := HL.out z hz
        rcases hy with rfl | rfl | rfl <;> simp only <;> omega, by
      intro z hz y hy
      simp only [List.mem_cons, List.not_mem_nil, or_false] at hz hy
      rcases hz with rfl
      rcases hy with rfl | rfl <;> simp only <;> omega⟩
    (H5.sub _ fun y hy => by
      simp only [List.cons_append, List.mem_append, List.mem_cons, List.not_mem_nil, or_false] at hy
      subst hlb hmb
      rcases hy with h | h | h | h | h <;> simp [h, boxL, boxI]) (List.mem_cons_of_mem _ hT) (by simp))
  clear H5
  go_wp2_with fail
  refine HC.out.mono ?_
  rintro e w6 ⟨rfl, Rc', H6, hK⟩
  have HQ : ∃ l v Y, l = (fromL key (visA V n i key)).take M.toNat ∧ RowR w0.heap.size l v Y ∧ PV w0 pp n c V ((lb, boxL v) :: (Y ++ R)) w6 := by
    rcases hK with ⟨hl, v, Y, rfl, hr, _⟩ | ⟨q, hq, hl, v, Y, rfl, hr, _⟩
    · exact ⟨_, v, Y, take_of (.inl ⟨rfl, hl⟩), hr, H6.sub _ fun y hy => by
        simp only [List.cons_append, List.mem_append, List.mem_cons, List.nil_append] at hy ⊢
        rcases hy with h | h | h <;> simp [h]⟩
    · exact ⟨_, v, Y, take_of (.inr ⟨hq, hl⟩), hr, H6.sub _ fun y hy => by
        simp only [List.cons_append, List.mem_append, List.mem_cons, List.nil_append] at hy ⊢
        rcases hy with h | h | h <;> simp [h]⟩
  obtain ⟨l, v, Y, hl, hr, H7⟩ := HQ
  have k1 := (boxL_cell (H7.mem (x := (lb, boxL v)) (by simp))).1
  have HZ : Hid (GivesL w0 pp n c V R ((fromL key (visA V n i key)).take M.toNat) (.returned v) w6) := Lib.hid ⟨v, Y, rfl, by rw [← hl]; exact hr, H7.drop⟩
  clear hK H6 H7 hr hl HC
  go_wp2_with fail
  go_returns
  exact HZ.out
theorem all_any (H : PV w0 pp n c V R w) (hT : (tb, treeO pp i) ∈ R) (hn : 1 < n) (hi : 0 ≤ i ∧ i < 16) :
    Calls Tryz.prog 18 #[.pointer (some ⟨tb, 0, none⟩)] w (GivesL w0 pp n c V R ((fromL ⟨#[]⟩ (visA V n i ⟨#[]⟩)).take 5000)) := by
  have H1 := H.push (boxL (.slice none 0 0))
  have HF := Lib.hid (all_mk (tb := tb) H1)
  have HL := Lib.hid (fun (z : Nat × Obj) (hz : z ∈ R) => H.lt hz)
  have hlo := H.below.size
  have hsz : (w.alloc (boxL (.slice none 0 0))).heap.size = w.heap.size + 1 := by simp
  clear H H1
  unfold boxL at HF hsz
  go_enter Tryz.func18, Tryz.ntmps18
  go_wp2_with fail
  refine HF.out.mono ?_
  rintro e w5 ⟨bt, bf, rfl, H5, hb1, hb2⟩
  rw [hsz] at hb1
  have heq := eq_seqS
  have hmf2 := make_func
  obtain ⟨lb, hlb⟩ : ∃ lb, w.heap.size = lb := ⟨_, rfl⟩
  have HC := Lib.hid (from1_c (enters_of Tryz.func44 (by kernel_rfl) rfl) (all_takes (pp := pp) (n := n) (c := c) (V := V) lb (by omega)) hn hi ⟨#[]⟩ bt bf ((bt, boxT tb) :: R) [(lb, boxL (.slice none 0 0))] w5
    ⟨⟨by simp, .slice none 0 0, [], rfl, .inl ⟨rfl, rfl, rfl⟩, (fun y hy => by cases hy), (fun _ h => by cases h), fun y hy => by cases hy⟩, by
      intro z hz y hy
      simp only [List.mem_cons, List.not_mem_nil, or_false] at hz hy
      rcases hz with rfl | hz
      · rcases hy with rfl | rfl <;> simp only <;> omega
      · have := HL.out z hz
        rcases hy with rfl | rfl <;> simp only <;> omega, by
      intro z hz y hy
      simp only [List.mem_cons, List.not_mem_nil, or_false] at hz hy
      rcases hz with rfl
      rcases hy with rfl
      simp only; omega⟩
    (H5.sub _ fun y hy => by
      simp only [List.cons_append, List.mem_append, List.mem_cons, List.not_mem_nil, or_false] at hy
      subst hlb
      rcases hy with h | h | h | h <;> simp [h, boxL]) (List.mem_cons_of_mem _ hT) (by simp))
  clear H5
  go_wp2_with fail
  refine HC.out.mono ?_
  rintro e w6 ⟨rfl, Rc', H6, hK⟩
  have HQ : ∃ l v Y, l = (fromL ⟨#[]⟩ (visA V n i ⟨#[]⟩)).take 5000 ∧ RowR w0.heap.size l v Y ∧ PV w0 pp n c V ((lb, boxL v) :: (Y ++ R)) w6 := by
    rcases hK with ⟨hl, v, Y, rfl, hr, _⟩ | ⟨q, hq, hl, v, Y, rfl, hr, _⟩
    · exact ⟨_, v, Y, take_of (M := 5000) (.inl ⟨rfl, hl⟩), hr, H6.sub _ fun y hy => by
        simp only [List.cons_append, List.mem_append, List.mem_cons, List.nil_append] at hy ⊢
        rcases hy with h | h | h <;> simp [h]⟩
    · exact ⟨_, v, Y, take_of (M := 5000) (.inr ⟨hq, hl⟩), hr, H6.sub _ fun y hy => by
        simp only [List.cons_append, List.mem_append, List.mem_cons, List.nil_append] at hy ⊢
        rcases hy with h | h | h <;> simp [h]⟩
  obtain ⟨l, v, Y, hl, hr, H7⟩ := HQ
  have k1 := (boxL_cell (H7.mem (x := (lb, boxL v)) (by simp))).1
  have HZ : Hid (GivesL w0 pp n c V R ((fromL ⟨#[]⟩ (visA V n i ⟨#[]⟩)).take 5000) (.returned v) w6) := Lib.hid ⟨v, Y, rfl, by rw [← hl]; exact hr, H7.drop⟩
  clear hK H6 H7 hr hl HC
  go_wp2_with fail
  go_returns
  exact HZ.out
end
end Go.Proofs.YtkdhlofcdcnjgaaGreat
namespace Go.Proofs.YtkdhlofcdcnjgaaGreat
set_option maxRecDepth 100000
open Go.ChangeShapes Go.WideShapes Go.ChangeAt Go.RowKit Go.PlainAid Go.Shelf
open Go.Sort (grow)

attribute [local go_sem ↓ high] store_n
section
variable {w0 w w' : World} {pp n c tb : Nat} {V : Int → ByteArray} {R : List (Nat × Obj)} {i : Int}
theorem depth_any (H : PV w0 pp n c V R w) (hT : (tb, treeO pp i) ∈ R) (hn : 1 < n) (hi : 0 ≤ i ∧ i < 16) :
    Calls Tryz.prog 13 #[.pointer (some ⟨tb, 0, none⟩)] w fun e w' => (∃ k, e = .returned (.int .i64 k)) ∧ PV w0 pp n c V R w' := by
  have HS := Lib.hid (start_any H hT hn hi)
  clear H
  go_enter Tryz.func13, Tryz.ntmps13
  go_wp2_with fail
  refine HS.out.mono ?_
  clear HS
  intro e w4 h4
  obtain ⟨x, z, RX, rfl, hz, H4⟩ := start_s h4
  clear h4
  have hst := store_nd_fresh w4 x
  have H5 := H4.push (ndO x)
  obtain ⟨k0, k1, k2, k3, k4, k5⟩ := nd_cells (H5.mem List.mem_cons_self)
  simp only at k0 k1 k2 k3 k4 k5
  obtain ⟨W5, hW5⟩ : ∃ W5, w4.alloc (ndO x) = W5 := ⟨_, rfl⟩
  rw [hW5] at hst H5 k0 k1 k2 k3 k4 k5
  have H5' : Hid (PV w0 pp n c V R W5) := Lib.hid (H5.sub _ fun y hy => by simp [hy])
  clear H4 H5 hW5
  rcases hz with rfl | ⟨rfl, _⟩
  · go_wp2_with fail
    go_returns
    exact ⟨⟨_, rfl⟩, H5'.out⟩
  · by_cases ha : x.at_ = 0
    · have e1 : (x.at_ != 0) = false := by simpa using ha
      go_wp2_with fail
      go_returns
      exact ⟨⟨_, rfl⟩, H5'.out⟩
    · have e1 : (x.at_ != 0) = true := by simpa using ha
      go_wp2_with fail
      go_returns
      exact ⟨⟨_, rfl⟩, H5'.out⟩
theorem open_any (H : PV w0 pp n c V R w) (hn : 1 < n) (hi : 0 ≤ i ∧ i < 16) :
    Calls Tryz.prog 19 #[.pointer (some ⟨pp, 0, none⟩), .int .i64 i] w fun e w' => ∃ tb, e = .returned (.tuple #[.pointer (some ⟨tb, 0, none⟩), .int .i64 0]) ∧ PV w0 pp n c V ((tb, treeO pp i) :: R) w' := by
  have HS := Lib.hid (H.root i hi hn)
  clear H
  go_enter Tryz.func19, Tryz.ntmps19
  go_wp2_with fail
  refine HS.out.mono ?_
  rintro e w4 ⟨rfl, H4⟩
  have H5 := H4.push (treeO pp i)
  have HZ : Hid (PV w0 pp n c V ((w4.heap.size, treeO pp i) :: R) (w4.alloc (treeO pp i))) := Lib.hid H5
  clear H4 H5 HS
  go_wp2_with fail
  go_returns
  exact ⟨_, rfl, HZ.out⟩
theorem open_no (H : PV w0 pp n c V R w) (hi : i < 0 ∨ 16 ≤ i) :
    Calls Tryz.prog 19 #[.pointer (some ⟨pp, 0, none⟩), .int .i64 i] w fun e w' => e = .returned (.tuple #[.pointer none, .int .i64 1]) ∧ PV w0 pp n c V R w' := by
  have HS := Lib.hid (H.root_no i hi)
  clear H hi
  go_enter Tryz.func19, Tryz.ntmps19
  go_wp2_with fail
  refine HS.out.mono ?_
  rintro e w4 ⟨rfl, H4⟩
  have HZ := Lib.hid H4
  clear H4 HS
  go_wp2_with fail
  go_returns
  exact ⟨rfl, HZ.out⟩
theorem opened_any (H : PV w0 pp n c V R w) (hn : 1 < n) (hi : 0 ≤ i ∧ i < 16) :
    Calls Tryz.prog 6 #[.pointer (some ⟨pp, 0, none⟩), .int .i64 i] w fun e w' => ∃ tb, e = .returned (.pointer (some ⟨tb, 0, none⟩)) ∧ PV w0 pp n c V ((tb, treeO pp i) :: R) w' := by
  have HS := Lib.hid (open_any H hn hi)
  clear H
  go_enter Tryz.func6, Tryz.ntmps6
  go_wp2_with fail
  refine HS.out.mono ?_
  rintro e w4 ⟨tb, rfl, H4⟩
  have HZ := Lib.hid H4
  clear H4 HS
  go_wp2_with fail
  go_returns
  exact ⟨_, rfl, HZ.out⟩
end
end Go.Proofs.YtkdhlofcdcnjgaaGreat
namespace Go.Proofs.YtkdhlofcdcnjgaaGreat
set_option maxRecDepth 100000
open Go.ChangeShapes Go.WideShapes Go.ChangeAt Go.RowKit Go.PlainAid Go.Shelf
open Go.Sort (grow)

set_option maxHeartbeats 1000000 in
/-- A new disk with a pager that is made ready. -/
theorem begun8_any (n : Nat) (w : World) (h1 : 3 ≤ n) (h2 : n ≤ 450) :
    Calls Tryz.prog 5 #[.int .i64 n] w fun e w' => ∃ pp p V, e = .returned (.tuple #[.pointer (some ⟨p, 0, none⟩), .pointer (some ⟨pp, 0, none⟩)]) ∧ PV w pp n 2 (fmtV V) [] w' := by
  have HN := Lib.hid (new_any ((n : Int) + 462) w (by omega) (by omega))
  rw [show ((n : Int) + 462).toNat = n + 462 by omega] at HN
  have hst := formatted_settled (n + 462) 460 (by omega) (by omega) (by omega)
  have HST := Lib.hid hst
  have hpg : (firstHd (n + 462) 460).pages = n := by show min _ _ = _; omega
  have hok : ∀ p q bm, (⟨p, q, bm, 0, formatted (newD (n + 462)) 460, firstHd (n + 462) 460, noPages⟩ : Sto).Ok := fun p q bm =>
    ⟨⟨by show 2 ≤ _; omega, by show 0 ≤ _; omega, by show 460 ≤ _; omega, by rw [hpg]; omega⟩, hst.free.2, by rw [hpg]; show 2 + 460 + n ≤ _; rw [formatted_n (n + 462) 460 (by omega)]; omega, noPages_ok _⟩
  have HOK := Lib.hid hok
  have HPG := Lib.hid hpg
  clear hst hok hpg
  go_enter Tryz.func5, Tryz.ntmps5
  go_wp2_with fail
  refine HN.out.mono ?_
  rintro e w1 ⟨F, rfl, hd, hb, ho⟩
  have H1 : OwnL w F.p (newD (n + 462)) [] w1 := OwnAt.owns ⟨F, rfl, hd, hb, ho⟩
  have HF := Lib.hid (format_any H1 ⟨rfl, rfl⟩ 460 (by omega) (by show 460 + 3 ≤ n + 462; omega) (by show 0 < 100000; omega))
  clear HN hd hb ho H1
  generalize F.p = p at *
  go_wp2_with fail
  refine HF.out.mono ?_
  rintro e w2 ⟨rfl, H2⟩
  have HO := Lib.hid (HST.out.opens H2)
  clear HF H2
  go_wp2_with fail
  refine HO.out.mono ?_
  rintro e w3 ⟨q, bm, rfl, hq, hbm, H3⟩
  have HP := Lib.hid (pnew_any H3 (HOK.out p q bm) (by rw [HPG.out]; omega))
  clear HO H3
  go_wp2_with fail
  refine HP.out.mono ?_
  rintro e w4 ⟨pp, hc, rfl, H4⟩
  have HV : Hid (∃ V, PV w pp n 0 V [] w4) := Lib.hid ⟨_, _, H4, HPG.out, rfl⟩
  clear H4 HP
  obtain ⟨V, H5⟩ := HV.out
  have HFM := Lib.hid (H5.format (by omega) (by omega))
  clear H5 HV
  go_wp2_with fail
  refine HFM.out.mono ?_
  rintro e w6 ⟨rfl, H6⟩
  have H6' := Lib.hid H6
  clear H6 HFM
  go_wp2
  go_returns
  exact ⟨pp, p, V, rfl, H6'.out⟩
end Go.Proofs.YtkdhlofcdcnjgaaGreat
namespace Go.Proofs.YtkdhlofcdcnjgaaGreat
set_option maxRecDepth 100000
open Go.ChangeShapes Go.WideShapes Go.ChangeAt Go.RowKit Go.PlainAid Go.Shelf
open Go.Sort (grow)

attribute [local go_sem ↓ high] store_n
attribute [local go_sem] Oper.semAt_some
/-- A record as a round is handed it. -/
def encP (p : Pr) : Array Value := #[.string p.key, .string p.val]
def FitR (_ : List (Nat × Obj)) (p : Pr) : Prop := p.key.size ≤ 65536 ∧ p.val.size ≤ 65536
section
variable {w0 : World} {pp n c : Nat} {V : Int → ByteArray}
set_option maxHeartbeats 4000000 in
theorem give_y (B : Nat) {K Kx : List Pr → List (Nat × Obj) → Prop} (hY : RoundsG id encP FitR w0 pp n c V B K Kx) (from_ : ByteArray) (pre : List Pr) (X Rc : List (Nat × Obj)) (nb : Nat) (x : NdM) (W : World)
    (hK : K pre Rc ∧ Ap X Rc) (H : PV w0 pp n c V (X ++ Rc) W) (hnb : (nb, ndO x) ∈ X) (hF : FitN X x false) (hG : GB B X) :
    CallsIn Fence.wide 6 Tryz.prog 77 #[.pointer (some ⟨nb, 0, none⟩), .string from_, .func (.yield (B + 1)) #[] #[]] W (TakePost w0 pp n c V K Kx X pre (givP from_ x.D)) := by
  obtain ⟨d0, d1, d2, d3, d4, d5⟩ := nd_cells (H.mem (x := (nb, ndO x)) (List.mem_append_left _ hnb))
  simp only at d0 d1 d2 d3 d4 d5
  have hlaw := hF.law rfl
  have hpos := hlaw.pos
  have hsm := hF.small
  by_cases h1 : x.level = 1
  · have f1 : decide ((1 : Int) < x.level) = false := decide_eq_false (by omega)
    have hN := ndIs_of (H.mem (x := (nb, ndO x)) (List.mem_append_left _ hnb)) (H.kn ((hF.kn rfl).mono fun y hy => List.mem_append_left _ hy)) hsm
    have HFI := Lib.hid (find_any from_ hN (risB_srt hlaw.rise))
    have hle := posP_le from_ x.L
    obtain ⟨t, ht⟩ : ∃ t, posP from_ x.L = t := ⟨_, rfl⟩
    rw [ht] at HFI hle
    have HG : Hid (givP from_ x.D = x.L.drop t) := Lib.hid (by
      unfold givP
      rw [if_pos (show x.D.level = 1 from h1)]
      show x.L.drop (posP from_ x.L) = _
      rw [ht])
    obtain ⟨p0, hp0⟩ : ∃ p, x.L[0]? = some p := ⟨_, List.getElem?_eq_getElem (recB_iff.1 (hlaw.recs h1)).2⟩
    obtain ⟨g, o, hsl, _, _, _⟩ := (H.kn ((hF.kn rfl).mono fun y hy => List.mem_append_left _ hy)).at hp0
    have hcap := hF.cap rfl
    have hadd : (⟨g, o, none⟩ : Addr).add (t * 2) = ⟨g, o + t * 2, none⟩ := by unfold Addr.add; split <;> simp_all
    have HX := Lib.hid (And.intro hK (And.intro H (And.intro hnb hF)))
    have HSL := Lib.hid hsl
    rw [hsl] at d4
    clear hK H hnb hF hlaw hN h1 ht hp0 hsl
    refine callsIn_of_wp Tryz.func77 rfl trivial ?_ rfl
    simp only [Tryz.ntmps77, List.size_toArray, List.length_cons, List.length_nil, Nat.reduceAdd, Nat.reduceSub, Array.replicate_succ, Array.replicate_zero, List.push_toArray, List.append_toArray, List.nil_append, List.cons_append]
    gi_wp2_with fail
    refine ⟨trivial, (callsIn_wide.2 HFI.out).mono ?_⟩
    rintro e w2 ⟨rfl, hb2⟩
    have H2 := HX.out.2.1.on hb2
    clear HFI hb2 d0 d1 d2 d3 d4 d5
    obtain ⟨d0, d1, d2, d3, d4, d5⟩ := nd_cells (H2.mem (x := (nb, ndO x)) (List.mem_append_left _ HX.out.2.2.1))
    simp only at d0 d1 d2 d3 d4 d5
    rw [HSL.out] at d4
    by_cases htl : t < x.L.length
    · have hcne : ¬ (x.c = t) := by omega
      have htc : t ≤ x.c := by omega
      have H2' := Lib.hid H2
      clear H2
      gi_wp2_with fail
      gi_loopw [29] (fun iv wr => ∃ (k : Nat) (Rc' : List (Nat × Obj)), k ≤ x.L.length - t ∧ iv = .int .i64 k ∧ Hid ((K (pre ++ (x.L.drop t).take k) Rc' ∧ Ap X Rc') ∧ PV w0 pp n c V (X ++ Rc') wr)) (fun iv _ => x.L.length - t - (intOf iv).toNat)
      case atStart => exact ⟨0, Rc, Nat.zero_le _, rfl, Lib.hid ⟨by rw [List.take_zero, List.append_nil]; exact HX.out.1, H2'.out⟩⟩
      case round =>
        obtain ⟨k, Rc', hk, rfl, HP⟩ := hrel
        clear H2' d0 d1 d2 d3 d4 d5
        by_cases hlt : k < x.L.length - t
        · obtain ⟨p, hp⟩ : ∃ p, x.L[t + k]? = some p := ⟨_, List.getElem?_eq_getElem (by omega)⟩
          obtain ⟨g', o', he, hg', c0, c1⟩ := (HP.out.2.kn ((HX.out.2.2.2.kn rfl).mono fun y hy => List.mem_append_left _ hy)).at hp
          rw [HSL.out] at he
          cases he
          have hpm := HX.out.2.2.2.mod rfl p (List.mem_of_getElem? hp)
          rw [show o + (t + k) * 2 = o + t * 2 + k * 2 by omega] at c0 c1
          have HPP := Lib.hid hp
          have H4 := HP.out.2.push (prO p)
          obtain ⟨m0, m1⟩ := pr_cellsN (H4.mem List.mem_cons_self)
          simp only at m0 m1
          have HPD : Hid (PV w0 pp n c V (((wr.heap.size, prO p) :: X) ++ Rc') (wr.alloc (prO p)).drew) := Lib.hid H4.drew
          have HAP : Hid (Ap ((wr.heap.size, prO p) :: X) Rc') := Lib.hid (HP.out.1.2.push HP.out.2 _)
          clear hp H4
          gi_wp2_with fail
          have HYF := Lib.hid hY
          have htk : Hid ((x.L.drop t).take (k + 1) = (x.L.drop t).take k ++ [p]) := Lib.hid (take_snoc2 (by rw [List.getElem?_drop]; exact HPP.out))
          gi_region_with (first
              | (refine ⟨by exact trivial, ?_⟩
                 with_reducible refine (callsIn_wide.2 (clone_any p.key _ (by omega))).mono ?_
                 rintro e w5 ⟨rfl, hb5⟩
                 have H5 := HPD.out.on hb5
                 obtain ⟨y0, y1⟩ := pr_cellsN (H5.mem List.mem_cons_self)
                 simp only at y0 y1
                 have HP5 := Lib.hid H5
                 clear H5 hb5)
              | (refine ⟨by exact trivial, ?_⟩
                 with_reducible refine (callsIn_wide.2 (clone_any p.val _ (by omega))).mono ?_
                 rintro e w6 ⟨rfl, hb6⟩
                 have H6 := HP5.out.on hb6
                 obtain ⟨z0, z1⟩ := pr_cellsN (H6.mem List.mem_cons_self)
                 simp only at z0 z1
                 have HP6 := Lib.hid H6
                 obtain ⟨fn, tmps, assign, body, hyy, hR⟩ := HYF.out (pre ++ (x.L.drop t).take k) ((wr.heap.size, prO p) :: X) Rc' p w6 ⟨HP.out.1.1, HAP.out⟩ H6 hpm ((hG.cons rfl))
                 have HR := Lib.hid (RoundIn.wide (m' := 5) hR)
                 unfold encP at hyy
                 clear H6 hb6 hR)
              | (refine HR.out.mono ?_
                 rintro e w7 hpost
                 have H7 : ∃ b, e = .returned (.bool b) ∧ PV w0 pp n c V [(wr.heap.size, prO p)] w7 := by
                   rcases hpost with ⟨rfl, Rc2, _, h⟩ | ⟨rfl, Rc2, _, h⟩
                   · exact ⟨_, rfl, h.sub _ fun y hy => by rw [List.mem_singleton] at hy; rw [hy]; exact List.mem_cons_self⟩
                   · exact ⟨_, rfl, h.sub _ fun y hy => by rw [List.mem_singleton] at hy; rw [hy]; exact List.mem_cons_self⟩
                 obtain ⟨b7, rfl, H7⟩ := H7
                 have HPO := Lib.hid hpost
                 clear H7 hpost))
          all_goals
            clear hyy HR HYF hY
            cases b7 with
            | true =>
              have hp : ∃ Rc2, (K (pre ++ (x.L.drop t).take (k + 1)) Rc2 ∧ Ap X Rc2) ∧ PV w0 pp n c V (X ++ Rc2) w7 := by
                rcases HPO.out with ⟨_, Rc2, ⟨h1, h2⟩, h3⟩ | ⟨h, _⟩
                · exact ⟨Rc2, ⟨by rw [htk.out, ← List.append_assoc]; exact h1, h2.tail⟩, h3.drop⟩
                · cases h
              obtain ⟨Rc2, hp⟩ := hp
              have HZ := Lib.hid hp
              clear hp HPO y0 y1 z0 z1
              gi_wp2
              go_roundw
              case rel => exact ⟨k + 1, Rc2, by omega, by go_num, HZ⟩
              case measure => simp [intOf]; omega
            | false =>
              have hp : ∃ Rc2, (Kx (pre ++ (x.L.drop t).take (k + 1)) Rc2 ∧ Ap X Rc2) ∧ PV w0 pp n c V (X ++ Rc2) w7 := by
                rcases HPO.out with ⟨h, _⟩ | ⟨_, Rc2, ⟨h1, h2⟩, h3⟩
                · cases h
                · exact ⟨Rc2, ⟨by rw [htk.out, ← List.append_assoc]; exact h1, h2.tail⟩, h3.drop⟩
              obtain ⟨Rc2, h1, h3⟩ := hp
              have HZ : Hid (TakePost w0 pp n c V K Kx X pre (givP from_ x.D) (.returned (.bool false)) w7) := Lib.hid (.inr ⟨rfl, (x.L.drop t).take (k + 1), Rc2, by rw [HG.out]; exact List.take_prefix _ _, h1, h3⟩)
              clear h1 h3 HPO y0 y1 z0 z1
              gi_wp2
              go_returns
              exact HZ.out
        · obtain rfl : k = x.L.length - t := by omega
          have HZ : Hid (TakePost w0 pp n c V K Kx X pre (givP from_ x.D) (.returned (.bool true)) wr) := Lib.hid (.inl ⟨rfl, Rc', by
            have h := HP.out.1
            rw [List.take_of_length_le (by rw [List.length_drop]; exact Nat.le_refl _)] at h
            rw [HG.out]
            exact h, HP.out.2⟩)
          clear HP hk hY
          gi_wp2
          go_returns
          exact HZ.out
    · have hte : t = x.L.length := by omega
      have HZ : Hid (TakePost w0 pp n c V K Kx X pre (givP from_ x.D) (.returned (.bool true)) w2) := Lib.hid (.inl ⟨rfl, Rc, by
        rw [HG.out, hte, List.drop_length, List.append_nil]
        exact HX.out.1, H2⟩)
      have hz0 : x.L.length - t = 0 := by omega
      have htc : t ≤ x.c := by omega
      clear H2 hY hte
      gi_wp2_with fail
      all_goals
        gi_loopw [29] (fun iv wr => iv = .int .i64 0 ∧ wr = w2) (fun _ _ => 0)
        case atStart => exact ⟨rfl, rfl⟩
        case round =>
          obtain ⟨rfl, rfl⟩ := hrel
          gi_wp2
          go_returns
          exact HZ.out
  · have f1 : decide ((1 : Int) < x.level) = true := decide_eq_true (by omega)
    have HZ : Hid (TakePost w0 pp n c V K Kx X pre (givP from_ x.D) (.returned (.bool true)) W) := Lib.hid (.inl ⟨rfl, Rc, by
      unfold givP
      rw [if_neg (show ¬ x.D.level = 1 from h1), List.append_nil]
      exact hK, H⟩)
    clear hK H hnb hF hlaw hY h1
    refine callsIn_of_wp Tryz.func77 rfl trivial ?_ rfl
    simp only [Tryz.ntmps77, List.size_toArray, List.length_cons, List.length_nil, Nat.reduceAdd, Nat.reduceSub, Array.replicate_succ, Array.replicate_zero, List.push_toArray, List.append_toArray, List.nil_append, List.cons_append]
    gi_wp2
    go_returns
    exact HZ.out
end
end Go.Proofs.YtkdhlofcdcnjgaaGreat
namespace Go.Proofs.YtkdhlofcdcnjgaaGreat
set_option maxRecDepth 100000
open Go.ChangeShapes Go.WideShapes Go.ChangeAt Go.RowKit Go.PlainAid Go.Shelf
open Go.Sort (grow)

section
variable {w0 : World} {pp n c : Nat} {V : Int → ByteArray}
/-- A loop's rounds; what the rounds keep has the loop's two blocks. -/
theorem wpIn_rounds2 {α β : Type} {key : α → β} {encs : α → Array Value} {Fit : List (Nat × Obj) → α → Prop} {g : Operand} {ps : Array Tmp} {assign body : Code} {Q : Exit → Act → World → Prop} {a : Act} {w : World} {m : Nat}
    (X Rc : List (Nat × Obj)) {gf : Nat} {lb : Array Value}
    (hg : a.eval g = .func (.func gf) #[] lb) (eg : ∀ args w, (callFunc gf args).run Tryz.prog w = .ok (.enter gf args) w)
    (hps : ∀ x, (encs x).size = ps.size)
    (H : PV w0 pp n c V (X ++ Rc) w) (hX : GB w.heap.size X) (hR : GB w.heap.size Rc)
    (K : List β → List (Nat × Obj) → Prop) (Kx : Code → List β → List (Nat × Obj) → Prop) (h0 : K [] Rc ∧ Ap X Rc)
    (S Sp : List β → Prop)
    (hseq : ∀ (K' Kx' : List β → List (Nat × Obj) → Prop) (R' : List (Nat × Obj)) (W : World), RoundsG key encs Fit w0 pp n c V w.heap.size K' Kx' → K' [] R' ∧ Ap X R' → PV w0 pp n c V (X ++ R') W → (∀ pre R', K' pre R' → ∀ b, b = w.heap.size ∨ b = w.heap.size + 1 → ∃ o, (b, o) ∈ R') →
      CallsIn Fence.wide (m - 1) Tryz.prog gf (#[.func (.yield (w.heap.size + 1)) #[] #[]] ++ lb) W fun e W' => (∃ v, e = .returned v) ∧ ((∃ xs R'', S xs ∧ K' xs R'' ∧ PV w0 pp n c V (X ++ R'') W') ∨ (∃ xs R'', Sp xs ∧ Kx' xs R'' ∧ PV w0 pp n c V (X ++ R'') W')))
    (Ax : List (Nat × Obj) → α → Act → Prop)
    (hassign : ∀ (l : Nat) (x : α) (W : World) (X' : List (Nat × Obj)) (Kc : Act → World → Prop), Fit X' x → (∀ y ∈ X', W.heap[y.1]? = some y.2) → (∀ a' W' X1, Adds W W' X1 → Ax X1 x a' → Kc a' W') →
      assign.wpIn (Fence.wide.inRound l) 7 Tryz.prog (Exit.then Kc (fun _ _ _ => False)) { tmps := (ps.zip (encs x)).foldl (fun t (p, v) => t.setIfInBounds p v) a.tmps, defers := [] } W)
    (hbody : ∀ (l : Nat) (r : Loop) (pre : List β) (x : α) (X' X1 R' : List (Nat × Obj)) (a' : Act) (W : World), K pre R' ∧ Ap (X1 ++ X') R' → Fit X' x → Ax X1 x a' → GB w.heap.size X' → GB w.heap.size R' →
      PV w0 pp n c V ((w.heap.size + 1, .loop r) :: (w.heap.size, .deferred (some [])) :: (X1 ++ (X' ++ R'))) W → body.wpIn (Fence.wide.inRound l) 7 Tryz.prog (BodyPost w0 pp n c V w.heap.size r K Kx X' (pre ++ [key x])) a' W)
    (hdone : ∀ (xs : List β) (R' : List (Nat × Obj)) (W : World), S xs → K xs R' → PV w0 pp n c V ((w.heap.size, .deferred (some [])) :: (X ++ R')) W → (∀ x ∈ X ++ R', x.1 ≠ w.heap.size) → Q .normal { a with defers := { target := .collected w.heap.size, args := #[] } :: a.defers } W)
    (hstop : ∀ (cd : Code) (xs : List β) (R' : List (Nat × Obj)) (W : World), Sp xs → Kx cd xs R' → PV w0 pp n c V ((w.heap.size, .deferred (some [])) :: (X ++ R')) W → (∀ x ∈ X ++ R', x.1 ≠ w.heap.size) → cd.wpIn Fence.wide m Tryz.prog Q { a with defers := { target := .collected w.heap.size, args := #[] } :: a.defers } W) :
    (Code.rangeFunc g ps assign body).wpIn Fence.wide m Tryz.prog Q a w := by
  refine wpIn_rangeFunc ?_
  intro fn hfn
  obtain ⟨rec, hrec⟩ : ∃ rec : LoopState → Option Code → Loop, rec = fun st pe => { state := st, pending := pe, fn, tmps := a.tmps, params := ps, assign, body, defers := w.heap.size } := ⟨_, rfl⟩
  obtain ⟨W1, hW1⟩ : ∃ W1, (w.alloc (.deferred (some []))).alloc (.loop (rec .ready none)) = W1 := ⟨_, rfl⟩
  have H1 := (H.push (.deferred (some []))).push (.loop (rec .ready none))
  rw [World.size_alloc, hW1] at H1
  have hlt0 := H.below.size
  -- any order of the blocks
  have front : ∀ {o : Obj} {X' R' : List (Nat × Obj)} {W : World}, PV w0 pp n c V (X' ++ ((w.heap.size + 1, o) :: (w.heap.size, .deferred (some [])) :: R')) W → PV w0 pp n c V ((w.heap.size + 1, o) :: (w.heap.size, .deferred (some [])) :: (X' ++ R')) W := fun h => h.sub _ fun y hy => by
    simp only [List.mem_cons, List.mem_append] at hy ⊢
    rcases hy with h | h | h | h
    · exact .inr (.inl h)
    · exact .inr (.inr (.inl h))
    · exact .inl h
    · exact .inr (.inr (.inr h))
  have back : ∀ {o : Obj} {X' R' : List (Nat × Obj)} {W : World}, PV w0 pp n c V ((w.heap.size + 1, o) :: (w.heap.size, .deferred (some [])) :: (X' ++ R')) W → PV w0 pp n c V (X' ++ ((w.heap.size + 1, o) :: (w.heap.size, .deferred (some [])) :: R')) W := fun h => h.sub _ fun y hy => by
    simp only [List.mem_cons, List.mem_append] at hy ⊢
    rcases hy with h | h | h | h
    · exact .inr (.inr (.inl h))
    · exact .inl h
    · exact .inr (.inl h)
    · exact .inr (.inr (.inr h))
  -- the loop's record is turned
  have turn : ∀ {r r' : Loop} {Y : List (Nat × Obj)} {W : World}, PV w0 pp n c V ((w.heap.size + 1, .loop r) :: (w.heap.size, .deferred (some [])) :: Y) W → GB w.heap.size Y → PV w0 pp n c V ((w.heap.size + 1, .loop r') :: (w.heap.size, .deferred (some [])) :: Y) (W.putObj (w.heap.size + 1) (.loop r')) := fun {r r' Y W} h hG => by
    refine h.obj (fun x hx => ?_) rfl rfl (by omega) _
    rcases List.mem_cons.1 hx with rfl | hx
    · show w.heap.size ≠ w.heap.size + 1
      omega
    · exact (h.apart rfl rfl hG).1 x hx
  have ends : ∀ {r : Loop} {R' : List (Nat × Obj)} {W : World}, PV w0 pp n c V ((w.heap.size + 1, .loop r) :: (w.heap.size, .deferred (some [])) :: (X ++ R')) W → GB w.heap.size R' → ∀ r', PV w0 pp n c V ((w.heap.size, .deferred (some [])) :: (X ++ R')) (W.putObj (w.heap.size + 1) (.loop r')) ∧ ∀ x ∈ X ++ R', x.1 ≠ w.heap.size := fun {r R' W} h hG r' =>
    ⟨(turn h (hX.app hG)).drop, (h.apart rfl rfl (hX.app hG)).2⟩
  have apX : ∀ {o o2 : Obj}, Ap X Rc → Ap X ((w.heap.size + 1, o) :: (w.heap.size, o2) :: Rc) := fun {o o2} h z hz y hy => by
    have := H.lt (x := z) (List.mem_append_left _ hz)
    rcases List.mem_cons.1 hy with rfl | hy
    · simp only; omega
    · rcases List.mem_cons.1 hy with rfl | hy
      · simp only; omega
      · exact h z hz y hy
  refine ⟨w.heap.size + 1, [{ target := .collected w.heap.size, args := #[] }], W1, { target := .fn (.func gf) lb, args := #[.func (.yield (w.heap.size + 1)) #[] #[]] }, W1, gf,
    #[.func (.yield (w.heap.size + 1)) #[] #[]] ++ lb, W1, ?_, ?_, ?_, ?_, (fun h => by cases h), ?_⟩
  · rw [← hW1, hrec]; exact run_enterLoop_outer _ _ _ _ _
  · simp only [resolve, hg]
    simp [go_sem]
  · intro f' _
    trivial
  · simp [invoke, go_sem, eg]
  · refine (hseq
      (fun pre R' => ∃ R'', R' = (w.heap.size + 1, .loop (rec .ready none)) :: (w.heap.size, .deferred (some [])) :: R'' ∧ K pre R'' ∧ GB w.heap.size R'')
      (fun pre R' => ∃ cd R'', R' = (w.heap.size + 1, .loop (rec .done (some cd))) :: (w.heap.size, .deferred (some [])) :: R'' ∧ Kx cd pre R'' ∧ GB w.heap.size R'')
      ((w.heap.size + 1, .loop (rec .ready none)) :: (w.heap.size, .deferred (some [])) :: Rc) W1 ?_ ⟨⟨Rc, rfl, h0.1, hR⟩, apX h0.2⟩ (back H1) (by
        rintro pre R' ⟨R'', rfl, _⟩ b (rfl | rfl)
        · exact ⟨_, List.mem_cons_of_mem _ List.mem_cons_self⟩
        · exact ⟨_, List.mem_cons_self⟩)).mono ?_
    · rintro pre X' R' x W ⟨⟨Ri, rfl, hK, hGi⟩, hAp⟩ hW hFx hGX
      have hW2 := front hW
      have hApR : Ap X' Ri := fun z hz y hy => hAp z hz y (List.mem_cons_of_mem _ (List.mem_cons_of_mem _ hy))
      have apB : ∀ {o o2 : Obj} {R' : List (Nat × Obj)}, Ap X' R' → Ap X' ((w.heap.size + 1, o) :: (w.heap.size, o2) :: R') := fun {o o2 R'} h z hz y hy => by
        rcases List.mem_cons.1 hy with rfl | hy
        · exact hAp z hz (w.heap.size + 1, .loop (rec .ready none)) List.mem_cons_self
        · rcases List.mem_cons.1 hy with rfl | hy
          · exact hAp z hz (w.heap.size, .deferred (some [])) (List.mem_cons_of_mem _ List.mem_cons_self)
          · exact h z hz y hy
      have hl := hW2.mem List.mem_cons_self
      have hy := run_yield (P := Tryz.prog) (args := encs x) hl (by rw [hrec]; exact hps x)
      rw [hrec] at hy
      refine ⟨fn, _, assign, body, hy, roundIn_of_wpIn hfn (hassign _ x W X' _ hFx (fun y hy => hW.mem (List.mem_append_left _ hy)) ?_)⟩
      clear hy
      intro a' Wa X1 hor hax
      obtain ⟨hXc, hWa, hA1⟩ : GB w.heap.size X1 ∧ PV w0 pp n c V ((w.heap.size + 1, .loop (rec .ready none)) :: (w.heap.size, .deferred (some [])) :: (X1 ++ (X' ++ Ri))) Wa ∧ Ap (X1 ++ X') Ri := by
        rcases hor with ⟨rfl, rfl⟩ | ⟨o, ho, rfl, rfl⟩
        · exact ⟨GB.nil _, hW2, hApR⟩
        · refine ⟨(GB.nil _).cons ho, (hW2.push o).sub _ fun y hy => ?_, hApR.cons fun y hy e => ?_⟩
          · simp only [List.mem_cons, List.mem_append, List.not_mem_nil, or_false] at hy ⊢
            rcases hy with h | h | h | h | h
            · exact .inr (.inl h)
            · exact .inr (.inr (.inl h))
            · exact .inl h
            · exact .inr (.inr (.inr (.inl h)))
            · exact .inr (.inr (.inr (.inr h)))
          · have := hW.lt (x := y) (List.mem_append_right _ (List.mem_cons_of_mem _ (List.mem_cons_of_mem _ hy)))
            simp only at e
            omega
      have hlW := hWa.mem List.mem_cons_self
      refine ⟨_, run_beginRound hlW (by rw [hrec]), ?_⟩
      refine wpIn_mono (hbody _ { rec .ready none with state := .busy } pre x X' X1 Ri a' _ ⟨hK, hA1⟩ hFx hax hGX hGi (turn hWa (hXc.app (hGX.app hGi)))) ?_
      have fin : ∀ (jump : Option Code) (R' : List (Nat × Obj)) (W3 : World), GB w.heap.size R' → PV w0 pp n c V ((w.heap.size + 1, .loop { rec .ready none with state := .busy }) :: (w.heap.size, .deferred (some [])) :: (X' ++ R')) W3 →
          (Instr.endRound (w.heap.size + 1) jump).run Tryz.prog W3 = .ok (.bool jump.isNone) (W3.putObj (w.heap.size + 1) (.loop (rec (if jump.isNone then .ready else .done) jump))) ∧
          PV w0 pp n c V (X' ++ ((w.heap.size + 1, .loop (rec (if jump.isNone then .ready else .done) jump)) :: (w.heap.size, .deferred (some [])) :: R')) (W3.putObj (w.heap.size + 1) (.loop (rec (if jump.isNone then .ready else .done) jump))) := fun jump R' W3 hG3 h3 => by
        have := run_endRound (P := Tryz.prog) jump (h3.mem List.mem_cons_self)
        rw [hrec] at this h3 ⊢
        exact ⟨this, back (turn h3 (hGX.app hG3))⟩
      rintro e a3 W3 hp
      cases e with
      | normal =>
        obtain ⟨R', hk3, hg3, h3⟩ := hp
        obtain ⟨hr, h4⟩ := fin none R' W3 hg3 h3
        exact ⟨_, _, hr, .inl ⟨rfl, _, ⟨⟨R', rfl, hk3.1, hg3⟩, apB hk3.2⟩, h4⟩⟩
      | ret =>
        obtain ⟨R', hk3, hg3, h3⟩ := hp
        obtain ⟨hr, h4⟩ := fin (some .ret) R' W3 hg3 h3
        exact ⟨_, _, hr, .inr ⟨rfl, _, ⟨⟨.ret, R', rfl, hk3.1, hg3⟩, apB hk3.2⟩, h4⟩⟩
      | exit id =>
        obtain ⟨R', hk3, hg3, h3⟩ := hp
        obtain ⟨hr, h4⟩ := fin (some (.exit id)) R' W3 hg3 h3
        exact ⟨_, _, hr, .inr ⟨rfl, _, ⟨⟨.exit id, R', rfl, hk3.1, hg3⟩, apB hk3.2⟩, h4⟩⟩
      | goto t =>
        obtain ⟨R', hk3, hg3, h3⟩ := hp
        obtain ⟨hr, h4⟩ := fin (some (.goto t)) R' W3 hg3 h3
        exact ⟨_, _, hr, .inr ⟨rfl, _, ⟨⟨.goto t, R', rfl, hk3.1, hg3⟩, apB hk3.2⟩, h4⟩⟩
      | panic ch => exact hp.elim
      | outgrown => exact hp.elim
    · rintro e W2 ⟨⟨v, rfl⟩, (⟨xs, R', hS, ⟨R'', rfl, hK, hG2⟩, h2⟩ | ⟨xs, R', hS, ⟨cd, R'', rfl, hK, hG2⟩, h2⟩)⟩
      · have h3 := front h2
        have hend := run_endLoop (P := Tryz.prog) (h3.mem List.mem_cons_self) (by rw [hrec]; simp)
        rw [hrec] at hend
        obtain ⟨h4, h5⟩ := ends h3 hG2 { state := .exhausted, pending := none, fn, tmps := a.tmps, params := ps, assign, body, defers := w.heap.size }
        exact ⟨none, _, hend, hdone xs R'' _ hS hK h4 h5⟩
      · have h3 := front h2
        have hend := run_endLoop (P := Tryz.prog) (h3.mem List.mem_cons_self) (by rw [hrec]; simp)
        rw [hrec] at hend
        obtain ⟨h4, h5⟩ := ends h3 hG2 { state := .exhausted, pending := some cd, fn, tmps := a.tmps, params := ps, assign, body, defers := w.heap.size }
        exact ⟨some cd, _, hend, hstop cd xs R'' _ hS hK h4 h5⟩
end
attribute [local go_sem ↓ high] store_n
attribute [local go_sem] Oper.semAt_some
/-- The box of a loop's yield. -/
def boxY (B : Nat) : Obj := .cells #[.func (.yield (B + 1)) #[] #[]] 83 (0, 0)
theorem boxY_cell {w : World} {b B : Nat} (h : w.heap[b]? = some (boxY B)) : w.cell? ⟨b, 0, none⟩ = some (.func (.yield (B + 1)) #[] #[]) := by
  unfold boxY at h
  rw [cell_of_row _ _ _ _ _ _ h]
  rfl
/-- What a round of From keeps. -/
def FrKy (bf b0 : Nat) (f : ByteArray) (B : Nat) (K : List Pr → List (Nat × Obj) → Prop) (pre : List (NdD × Bool)) (Rc : List (Nat × Obj)) : Prop := (∀ y ∈ pre, y.2 = false) ∧
  ∃ R0, Rc = (bf, boxS f) :: (b0, boxY B) :: R0 ∧ Ap [(bf, boxS f), (b0, boxY B)] R0 ∧ K (fromL f pre) R0
def FrXy (bf b0 : Nat) (f : ByteArray) (B : Nat) (K Kx : List Pr → List (Nat × Obj) → Prop) (cd : Code) (pre : List (NdD × Bool)) (Rc : List (Nat × Obj)) : Prop := cd = .ret ∧
  ∃ R0, Rc = (bf, boxS f) :: (b0, boxY B) :: R0 ∧ Ap [(bf, boxS f), (b0, boxY B)] R0 ∧ ((∃ a y, pre = a ++ [(y, true)] ∧ (∀ z ∈ a, z.2 = false) ∧ K (fromL f a) R0) ∨ ∃ q, q <+: fromL f pre ∧ Kx q R0)
section
variable {w0 : World} {pp n c tb : Nat} {V : Int → ByteArray} {i : Int}
set_option maxHeartbeats 4000000 in
theorem from1_y (B : Nat) {K Kx : List Pr → List (Nat × Obj) → Prop} (hY : RoundsG id encP FitR w0 pp n c V B K Kx) (hKB : ∀ pre Rc, K pre Rc → ∀ b, b = B ∨ b = B + 1 → ∃ o, (b, o) ∈ Rc) (hn : 1 < n) (hi : 0 ≤ i ∧ i < 16) (from_ : ByteArray) (bt bf : Nat) (X Rc : List (Nat × Obj)) (W : World)
    (hK : K [] Rc ∧ Ap X ((bf, boxS from_) :: Rc) ∧ Ap [(bf, boxS from_)] Rc) (H : PV w0 pp n c V (X ++ ((bf, boxS from_) :: Rc)) W) (hT : (tb, treeO pp i) ∈ X) (h1 : (bt, boxT tb) ∈ X) :
    CallsIn Fence.wide 9 Tryz.prog 76 #[.func (.yield (B + 1)) #[] #[], .pointer (some ⟨bt, 0, none⟩), .pointer (some ⟨bf, 0, none⟩)] W (FromPost w0 pp n c V K Kx (X ++ [(bf, boxS from_)]) (fromL from_ (visA V n i from_))) := by
  have hnil := eq_yieldS
  have H1 : PV w0 pp n c V ((W.heap.size, boxY B) :: (X ++ ((bf, boxS from_) :: Rc))) (W.alloc (boxY B)) := H.push (boxY B)
  have c1 := boxT_cell (H1.mem (x := (bt, boxT tb)) (by simp [h1]))
  have c2 := boxS_cell (H1.mem (x := (bf, boxS from_)) (by simp))
  have c3 := boxY_cell (H1.mem (x := (W.heap.size, boxY B)) (by simp))
  have H1' := Lib.hid H1
  clear H1
  unfold boxY at c1 c2 c3
  refine callsIn_wide.2 ((callsIn_wide (n := 10)).1 ?_)
  refine callsIn_of_wp_marks Tryz.func76 rfl trivial ?_ rfl
  simp only [Tryz.ntmps76, List.size_toArray, List.length_cons, List.length_nil, Nat.reduceAdd, Nat.reduceSub, Array.replicate_succ, Array.replicate_zero, List.push_toArray, List.append_toArray, List.nil_append, List.cons_append]
  refine wpIn_wide.2 ?_
  go_wp2_with fail
  refine (nodes_mk _ _).mono ?_
  rintro e _ ⟨rfl, rfl⟩
  go_wp2_with fail
  obtain ⟨b0, hb0⟩ : ∃ b0, W.heap.size = b0 := ⟨_, rfl⟩
  have H7 : PV w0 pp n c V (((b0 + 1 + 1, boxS from_) :: (b0 + 1, boxT tb) :: X) ++ ((bf, boxS from_) :: (b0, boxY B) :: Rc)) (((W.alloc (boxY B)).alloc (boxT tb)).alloc (boxS from_)) := by
    have h := (H1'.out.push (boxT tb)).push (boxS from_)
    rw [World.size_alloc, World.size_alloc, hb0] at h
    refine h.sub _ fun y hy => ?_
    simp only [List.mem_append, List.mem_cons] at hy ⊢
    rcases hy with (h | h | h) | h | h | h
    · exact .inl h
    · exact .inr (.inl h)
    · exact .inr (.inr (.inr (.inl h)))
    · exact .inr (.inr (.inr (.inr (.inl h))))
    · exact .inr (.inr (.inl h))
    · exact .inr (.inr (.inr (.inr (.inr h))))
  have hAp : Ap ((b0 + 1 + 1, boxS from_) :: (b0 + 1, boxT tb) :: X) ((bf, boxS from_) :: (b0, boxY B) :: Rc) := fun z hz y hy => by
    have hzl : z ∈ X → z.1 < b0 := fun h => by rw [← hb0]; exact H.lt (x := z) (by simp [h])
    have hyl : y.1 ≤ b0 := by
      simp only [List.mem_cons] at hy
      rw [← hb0]
      rcases hy with rfl | rfl | hy
      · exact Nat.le_of_lt (H.lt (x := (bf, boxS from_)) (by simp))
      · exact Nat.le_of_eq hb0.symm
      · exact Nat.le_of_lt (H.lt (x := y) (by simp [hy]))
    rcases List.mem_cons.1 hz with rfl | hz
    · simp only; omega
    · rcases List.mem_cons.1 hz with rfl | hz
      · simp only; omega
      · simp only [List.mem_cons] at hy
        rcases hy with rfl | rfl | hy
        · exact hK.2.1 z hz _ (by simp)
        · have := hzl hz
          simp only; omega
        · exact hK.2.1 z hz _ (by simp [hy])
  have hAq : Ap [(bf, boxS from_), (b0, boxY B)] Rc := fun z hz y hy => by
    have hyl : y.1 < b0 := by rw [← hb0]; exact H.lt (x := y) (by simp [hy])
    simp only [List.mem_cons, List.not_mem_nil, or_false] at hz
    rcases hz with rfl | rfl
    · exact hK.2.2 _ (by simp) y hy
    · simp only; omega
  have hW7e : ((W.alloc (.cells #[.func (.yield (B + 1)) #[] #[]] 83)).alloc (boxT tb)).alloc (boxS from_) = ((W.alloc (boxY B)).alloc (boxT tb)).alloc (boxS from_) := rfl
  obtain ⟨W7, hW7⟩ : ∃ W7, ((W.alloc (boxY B)).alloc (boxT tb)).alloc (boxS from_) = W7 := ⟨_, rfl⟩
  rw [hW7] at H7 hW7e
  rw [hW7e, hb0]
  clear c1 c2 c3 H1' H hW7e hW7 hb0
  have hGB := H7.gb
  have hHK := Lib.hid (And.intro hK.1 hAq)
  clear hK hAq
  refine (wpIn_wide (n := 9)).1 ?_
  refine wpIn_rounds (key := keyN) (encs := encN) (Fit := FitX) ((b0 + 1 + 1, boxS from_) :: (b0 + 1, boxT tb) :: X) ((bf, boxS from_) :: (b0, boxY B) :: Rc) (gf := 74) (lb := #[.pointer (some ⟨b0 + 1, 0, none⟩), .pointer (some ⟨b0 + 1 + 1, 0, none⟩)]) rfl (enters_of Tryz.func74 (by kernel_rfl) rfl) (fun _ => rfl) H7 (hGB.sub fun y hy => List.mem_append_left _ hy) (hGB.sub fun y hy => List.mem_append_right _ hy)
    (FrKy bf b0 from_ B K) (FrXy bf b0 from_ B K Kx) ⟨⟨(fun _ h => by cases h), Rc, rfl, hHK.out.2, hHK.out.1⟩, hAp⟩
    (fun xs => xs = visA V n i from_) (fun xs => xs <+: visA V n i from_)
    (fun K' Kx' R' W hY hK H => nodes_seq (tb := tb) (bt := b0 + 1) (bf := b0 + 1 + 1) hn hi from_ (by simp [hT]) (by simp) (by simp) (hGB.sub fun y hy => List.mem_append_left _ hy) K' Kx' R' W hY hK H _)
    (fun X1 y a' => ∃ nb : Nat, X1 = [(nb, ndO y.1)] ∧ a' = { tmps := #[.func (.yield (B + 1)) #[] #[], .pointer (some ⟨bt, 0, none⟩), .pointer (some ⟨bf, 0, none⟩), .pointer (some ⟨b0, 0, none⟩), .pointer (some ⟨nb, 0, none⟩), errV y.2, .func (.yield (B + 1)) #[] #[], .bool false, .pointer (some ⟨tb, 0, none⟩), .string from_, .func (.func 74) #[] #[.pointer (some ⟨b0 + 1, 0, none⟩), .pointer (some ⟨b0 + 1 + 1, 0, none⟩)], .agg y.1.cells, errV y.2, undef, undef, undef, undef, undef, undef, undef, undef], defers := [] }) ?assign ?body ?done ?stop
  case assign =>
    intro l x W X' Kc hF hk hK
    obtain ⟨ev, hev⟩ : ∃ ev : Int, (if x.2 = true then (6 : Int) else 0) = ev := ⟨_, rfl⟩
    have he : encN x = #[.agg x.1.cells, .int .i64 ev] := by
      unfold encN errV
      rw [hev]
    rw [he]
    have hst := store_nd_fresh W x.1
    obtain ⟨W5, hW5⟩ : ∃ W5, W.alloc (ndO x.1) = W5 := ⟨_, rfl⟩
    rw [hW5] at hst
    gi_wp2
    refine hK _ _ _ (.inr ⟨ndO x.1, rfl, hW5.symm, rfl⟩) ⟨W.heap.size, rfl, ?_⟩
    unfold errV
    rw [hev]
  case body =>
    rintro l r pre y X' X1 R' a' W ⟨⟨hgood, R0, rfl, hA0, hK⟩, hA⟩ hF ⟨nb, rfl, rfl⟩ hGX hGR h
    obtain ⟨ny, b⟩ := y
    have c2 := boxS_cell (h.mem (x := (bf, boxS from_)) (by simp))
    have c3 := boxY_cell (h.mem (x := (b0, boxY B)) (by simp))
    cases b with
    | true =>
      have HP := Lib.hid (And.intro hgood (And.intro hK (And.intro hA (And.intro hA0 (And.intro hGR (h.sub ((W7.heap.size + 1, .loop r) :: (W7.heap.size, .deferred (some [])) :: (X' ++ ((bf, boxS from_) :: (b0, boxY B) :: R0))) fun y hy => by simp only [List.mem_cons, List.mem_append] at hy ⊢; rcases hy with h | h | h | h | h | h <;> simp [h]))))))
      clear h hgood hGR hK hA hA0
      unfold errV
      gi_wp2
      refine ⟨trivial, ?_⟩
      gi_wp2
      exact ⟨_, ⟨⟨rfl, R0, rfl, HP.out.2.2.2.1, .inl ⟨pre, ny.D, rfl, HP.out.1, HP.out.2.1⟩⟩, fun z hz => HP.out.2.2.1 z (by simp [hz])⟩, HP.out.2.2.2.2.1, HP.out.2.2.2.2.2⟩
    | false =>
      have hF' : FitN X' ny false := hF
      have hAg : Ap ((W7.heap.size + 1, .loop r) :: (W7.heap.size, .deferred (some [])) :: (nb, ndO ny) :: (bf, boxS from_) :: (b0, boxY B) :: X') R0 := fun z hz y hy => by
        simp only [List.mem_cons] at hz
        have hyR := hGR y (by simp [hy])
        have hPa := h.apart rfl rfl (by
          refine (GB.cons (GB.nil _) rfl).app (hGX.app hGR))
        rcases hz with rfl | rfl | rfl | rfl | rfl | hz
        · exact fun e => hPa.1 y (by simp [hy]) e.symm
        · exact fun e => hPa.2 y (by simp [hy]) e.symm
        · exact hA (nb, ndO ny) (by simp) y (by simp [hy])
        · exact hA0 _ (by simp) y hy
        · exact hA0 _ (by simp) y hy
        · exact hA z (by simp [hz]) y (by simp [hy])
      have HG := Lib.hid (give_y B hY from_ (fromL from_ pre) ((W7.heap.size + 1, .loop r) :: (W7.heap.size, .deferred (some [])) :: (nb, ndO ny) :: (bf, boxS from_) :: (b0, boxY B) :: X') R0 nb ny W ⟨hK, hAg⟩ (h.sub _ fun y hy => by simp only [List.mem_cons, List.mem_append, List.cons_append] at hy ⊢; rcases hy with h | h | h | h | h | h | h <;> simp [h]) (by simp) { hF' with kn := fun h => (hF'.kn h).mono fun y hy => by simp [hy] } (fun z hz => .inr ⟨fun e => by
        obtain ⟨o, ho⟩ := hKB _ _ hK B (.inl rfl)
        exact hAg z hz _ ho e, fun e => by
        obtain ⟨o, ho⟩ := hKB _ _ hK (B + 1) (.inr rfl)
        exact hAg z hz _ ho e⟩))
      have HX := Lib.hid (And.intro hgood (And.intro hA (And.intro hA0 hGR)))
      clear h hgood hA hA0 hGR hK hAg hF' hF hGX
      unfold errV
      gi_wp2
      refine ⟨trivial, (HG.out.inRound l).mono ?_⟩
      rintro e w8 (⟨rfl, Rc', ⟨hK, hA⟩, h⟩ | ⟨rfl, q, Rc', hq, ⟨hK, hA⟩, h⟩)
      · have HZ : Hid (∃ R', (FrKy bf b0 from_ B K (pre ++ [keyN (ny, false)]) R' ∧ Ap X' R') ∧ GB W7.heap.size R' ∧ PV w0 pp n c V ((W7.heap.size + 1, .loop r) :: (W7.heap.size, .deferred (some [])) :: (X' ++ R')) w8) := Lib.hid (by
          refine ⟨(bf, boxS from_) :: (b0, boxY B) :: Rc', ⟨⟨?_, Rc', rfl, fun z hz y hy => hA z (by simp only [List.mem_cons, List.not_mem_nil, or_false] at hz ⊢; rcases hz with h | h <;> simp [h]) y hy, ?_⟩, ?_⟩, ?_, ?_⟩
          · intro z hz
            rcases List.mem_append.1 hz with hz | hz
            · exact HX.out.1 z hz
            · rw [List.mem_singleton] at hz
              rw [hz]
              rfl
          · rw [show keyN (ny, false) = (ny.D, false) from rfl, fromL_one from_ pre _ HX.out.1]
            exact hK
          · intro z hz y hy
            simp only [List.mem_cons] at hy
            rcases hy with rfl | rfl | hy
            · exact HX.out.2.1 z (by simp [hz]) _ (by simp)
            · exact HX.out.2.1 z (by simp [hz]) _ (by simp)
            · exact hA z (by simp [hz]) y hy
          · refine (GB.cons (GB.cons (fun y hy => .inr ⟨?_, ?_⟩) rfl) rfl)
            · exact fun e => hA (W7.heap.size, .deferred (some [])) (by simp) y hy e.symm
            · exact fun e => hA (W7.heap.size + 1, .loop r) (by simp) y hy e.symm
          · exact h.sub _ fun y hy => by simp only [List.mem_cons, List.mem_append, List.cons_append] at hy ⊢; rcases hy with h | h | h | h | h | h <;> simp [h])
        clear hK hA h HG
        gi_wp2
        exact HZ.out
      · have HZ : Hid (∃ R', (FrXy bf b0 from_ B K Kx .ret (pre ++ [keyN (ny, false)]) R' ∧ Ap X' R') ∧ GB W7.heap.size R' ∧ PV w0 pp n c V ((W7.heap.size + 1, .loop r) :: (W7.heap.size, .deferred (some [])) :: (X' ++ R')) w8) := Lib.hid (by
          refine ⟨(bf, boxS from_) :: (b0, boxY B) :: Rc', ⟨⟨rfl, Rc', rfl, fun z hz y hy => hA z (by simp only [List.mem_cons, List.not_mem_nil, or_false] at hz ⊢; rcases hz with h | h <;> simp [h]) y hy, .inr ⟨fromL from_ pre ++ q, ?_, hK⟩⟩, ?_⟩, ?_, ?_⟩
          · rw [show keyN (ny, false) = (ny.D, false) from rfl, fromL_one from_ pre _ HX.out.1]
            exact (List.prefix_append_right_inj _).2 hq
          · intro z hz y hy
            simp only [List.mem_cons] at hy
            rcases hy with rfl | rfl | hy
            · exact HX.out.2.1 z (by simp [hz]) _ (by simp)
            · exact HX.out.2.1 z (by simp [hz]) _ (by simp)
            · exact hA z (by simp [hz]) y hy
          · refine (GB.cons (GB.cons (fun y hy => .inr ⟨?_, ?_⟩) rfl) rfl)
            · exact fun e => hA (W7.heap.size, .deferred (some [])) (by simp) y hy e.symm
            · exact fun e => hA (W7.heap.size + 1, .loop r) (by simp) y hy e.symm
          · exact h.sub _ fun y hy => by simp only [List.mem_cons, List.mem_append, List.cons_append] at hy ⊢; rcases hy with h | h | h | h | h | h <;> simp [h])
        clear hK hA h HG hq
        gi_wp2
        exact HZ.out
  case done =>
    intro xs R' W hS hK h hne
    obtain ⟨hgood, R0, rfl, hA0, hK⟩ := hK
    have h3 := h.obj (o' := .deferred none) hne rfl rfl H7.below.size
    have hd := h.mem (x := (W7.heap.size, .deferred (some []))) (by simp)
    have HP := Lib.hid (And.intro (h3.sub (X ++ ((bf, boxS from_) :: R0)) fun y hy => by simp only [List.mem_cons, List.mem_append, List.cons_append] at hy ⊢; rcases hy with h | h | h <;> simp [h]) (And.intro hd (And.intro hS hK)))
    clear h h3 hd hS hgood hne hK hA0
    go_wp2_with fail
    refine ⟨by simp, .inl ⟨_, _, rfl, run_takeDeferred HP.out.2.1, ?_⟩⟩
    exact ⟨.tuple #[], by simp [results, Tryz.results76, go_sem], rfl, _, HP.out.1.sub ((X ++ [(bf, boxS from_)]) ++ R0) fun y hy => by simp only [List.mem_append, List.mem_cons, List.not_mem_nil, or_false] at hy ⊢; rcases hy with (h | h) | h <;> simp [h], .inl (by rw [← HP.out.2.2.1]; exact HP.out.2.2.2)⟩
  case stop =>
    intro cd xs R' W hSp hK h hne
    obtain ⟨rfl, R0, rfl, hA0, hK⟩ := hK
    have h3 := h.obj (o' := .deferred none) hne rfl rfl H7.below.size
    have hd := h.mem (x := (W7.heap.size, .deferred (some []))) (by simp)
    have HP := Lib.hid (And.intro (h3.sub (X ++ ((bf, boxS from_) :: R0)) fun y hy => by simp only [List.mem_cons, List.mem_append, List.cons_append] at hy ⊢; rcases hy with h | h | h <;> simp [h]) (And.intro hd (And.intro hSp hK)))
    clear h h3 hd hSp hne hK hA0
    refine wpIn_wide.2 ?_
    go_wp2_with fail
    refine ⟨by simp, .inl ⟨_, _, rfl, run_takeDeferred HP.out.2.1, ?_⟩⟩
    exact ⟨.tuple #[], by simp [results, Tryz.results76, go_sem], rfl, _, HP.out.1.sub ((X ++ [(bf, boxS from_)]) ++ R0) fun y hy => by simp only [List.mem_append, List.mem_cons, List.not_mem_nil, or_false] at hy ⊢; rcases hy with (h | h) | h <;> simp [h], from_end HP.out.2.2.1 HP.out.2.2.2⟩
end
end Go.Proofs.YtkdhlofcdcnjgaaGreat
namespace Go.Proofs.YtkdhlofcdcnjgaaGreat
set_option maxRecDepth 100000
open Go.ChangeShapes Go.WideShapes Go.ChangeAt Go.RowKit Go.PlainAid Go.Shelf
open Go.Sort (grow)

attribute [local go_sem ↓ high] store_n
attribute [local go_sem] Oper.semAt_some
/-- A counter, as the machine counts. -/
def cntV : Nat → Int
  | 0 => 0
  | k + 1 => wrap64 (cntV k + 1)
theorem cntV_eq : ∀ k : Nat, k < 1000000 → cntV k = k
  | 0, _ => rfl
  | k + 1, h => by
    show wrap64 (cntV k + 1) = _
    rw [cntV_eq k (by omega)]
    rw [show ((k : Int) + 1) = ((k + 1 : Nat) : Int) by omega]
    unfold wrap64
    omega
def CntK (cb : Nat) (pre : List Pr) (Rc : List (Nat × Obj)) : Prop := Rc = [(cb, boxI (cntV pre.length))]
section
variable {w0 w w' : World} {pp n c tb : Nat} {V : Int → ByteArray} {R : List (Nat × Obj)} {i : Int}
set_option maxHeartbeats 4000000 in
theorem count_any (H : PV w0 pp n c V R w) (hT : (tb, treeO pp i) ∈ R) (hn : 1 < n) (hi : 0 ≤ i ∧ i < 16) (l : List Pr) (hl : l = fromL ⟨#[]⟩ (visA V n i ⟨#[]⟩)) (hlen : l.length < 1000000) :
    Calls Tryz.prog 17 #[.pointer (some ⟨tb, 0, none⟩)] w fun e w' => e = .returned (.int .i64 l.length) ∧ PV w0 pp n c V R w' := by
  have H1 := H.push (boxI 0)
  have HA := Lib.hid (all_mk (tb := tb) H1)
  have hlo := H.below.size
  have HRB : Hid (∀ y ∈ R, y.1 < w.heap.size) := Lib.hid fun y hy => H.lt hy
  have hsz : (w.alloc (boxI 0)).heap.size = w.heap.size + 1 := by simp
  clear H H1
  unfold boxI at HA hsz
  refine (callsIn_wide (n := 10)).1 ?_
  refine callsIn_of_wp_marks Tryz.func17 rfl trivial ?_ rfl
  simp only [Tryz.ntmps17, List.size_toArray, List.length_cons, List.length_nil, Nat.reduceAdd, Nat.reduceSub, Array.replicate_succ, Array.replicate_zero, List.push_toArray, List.append_toArray, List.nil_append, List.cons_append]
  refine wpIn_wide.2 ?_
  go_wp2_with fail
  refine HA.out.mono ?_
  rintro e w5 ⟨bt, bf, rfl, H5, hb1, hb2⟩
  rw [hsz] at hb1
  have H5' := Lib.hid H5
  clear H5
  go_wp2_with fail
  obtain ⟨cb, hcb⟩ : ∃ cb, w.heap.size = cb := ⟨_, rfl⟩
  rw [hcb] at hlo hb1 HRB
  have H6 : PV w0 pp n c V ((((bt, boxT tb) :: R) ++ [(bf, boxS ⟨#[]⟩)]) ++ [(cb, boxI (cntV 0))]) w5 := H5'.out.sub _ fun y hy => by
    subst hcb
    simp only [List.cons_append, List.mem_append, List.mem_cons, List.not_mem_nil, or_false] at hy ⊢
    rcases hy with h | (h | h) | h
    · exact .inr (.inl h)
    · exact .inr (.inr (.inr h))
    · exact .inl h
    · exact .inr (.inr (.inl h))
  have hGB := H6.gb
  have hAp : Ap (((bt, boxT tb) :: R) ++ [(bf, boxS ⟨#[]⟩)]) [(cb, boxI (cntV 0))] := fun z hz y hy => by
    rw [List.mem_singleton] at hy
    subst hy
    simp only [List.cons_append, List.mem_append, List.mem_cons, List.not_mem_nil, or_false] at hz
    rcases hz with rfl | hz | rfl
    · simp only; omega
    · have := HRB.out z hz
      simp only; omega
    · simp only; omega
  rw [hcb]
  clear H5' HA hsz
  have HT := Lib.hid hT
  clear hT
  refine (wpIn_wide (n := 10)).1 ?_
  refine wpIn_rounds2 (key := id) (encs := encP) (Fit := FitR) (((bt, boxT tb) :: R) ++ [(bf, boxS ⟨#[]⟩)]) [(cb, boxI (cntV 0))] (gf := 76) (lb := #[.pointer (some ⟨bt, 0, none⟩), .pointer (some ⟨bf, 0, none⟩)]) rfl (enters_of Tryz.func76 (by kernel_rfl) rfl) (fun _ => rfl) H6 (hGB.sub fun y hy => List.mem_append_left _ hy) (hGB.sub fun y hy => List.mem_append_right _ hy)
    (CntK cb) (fun _ _ _ => False) ⟨rfl, hAp⟩
    (fun xs => xs = l) (fun xs => xs <+: l)
    (fun K' Kx' R' W hY hK H hKB => by
      have hnum : ∀ z ∈ ((bt, boxT tb) :: R), z.1 ≠ bf := fun z hz => by
        rcases List.mem_cons.1 hz with rfl | hz
        · simp only; omega
        · have := HRB.out z hz
          omega
      refine (from1_y (tb := tb) (X := (bt, boxT tb) :: R) (Rc := R') w5.heap.size hY hKB hn hi ⟨#[]⟩ bt bf W ⟨hK.1, fun z hz y hy => ?_, fun z hz => hK.2 z (List.mem_append_right _ hz)⟩ (H.sub _ fun y hy => ?_) (List.mem_cons_of_mem _ HT.out) List.mem_cons_self).mono ?_
      · rcases List.mem_cons.1 hy with rfl | hy
        · exact hnum z hz
        · exact hK.2 z (List.mem_append_left _ hz) y hy
      · simp only [List.mem_append, List.mem_cons, List.not_mem_nil, or_false] at hy ⊢
        rcases hy with (h | h) | h | h
        · exact .inl (.inl (.inl h))
        · exact .inl (.inl (.inr h))
        · exact .inl (.inr h)
        · exact .inr h
      · rintro e W' ⟨rfl, Rc', H', hK' | ⟨q, hq, hK'⟩⟩
        · exact ⟨⟨_, rfl⟩, .inl ⟨_, Rc', hl.symm, hK', H'⟩⟩
        · exact ⟨⟨_, rfl⟩, .inr ⟨q, Rc', by rw [hl]; exact hq, hK', H'⟩⟩)
    (fun X1 y a' => X1 = [] ∧ a' = { tmps := #[.pointer (some ⟨tb, 0, none⟩), undef, .int .i64 0, .pointer (some ⟨cb, 0, none⟩), .pointer (some ⟨tb, 0, none⟩), .func (.func 76) #[] #[.pointer (some ⟨bt, 0, none⟩), .pointer (some ⟨bf, 0, none⟩)], .string y.key, .string y.val, undef, undef, undef], defers := [] }) ?assign ?body ?done ?stop
  case assign =>
    intro l' x W X' Kc hF hk hK
    rw [show encP x = #[.string x.key, .string x.val] from rfl]
    gi_wp2
    exact hK _ _ _ (.inl ⟨rfl, rfl⟩) ⟨rfl, by simp⟩
  case body =>
    rintro l' r pre y X' X1 R' a' W ⟨rfl, hA⟩ hF ⟨rfl, rfl⟩ hGX hGR h
    obtain ⟨b1, b2⟩ := boxI_cell (h.mem (x := (cb, boxI (cntV pre.length))) (by simp))
    have h2 := (h.sub ((cb, boxI (cntV pre.length)) :: (w5.heap.size + 1, .loop r) :: (w5.heap.size, .deferred (some [])) :: X') fun y hy => by
      simp only [List.mem_cons, List.mem_append, List.not_mem_nil, or_false, List.nil_append] at hy ⊢
      rcases hy with h | h | h | h
      · exact .inr (.inr (.inr h))
      · exact .inl h
      · exact .inr (.inl h)
      · exact .inr (.inr (.inl h))).into (o := 0) (v := .int .i64 (wrap64 (cntV pre.length + 1))) (fun y hy => by
        have hcl : cb < w5.heap.size := H6.lt (x := (cb, boxI (cntV 0))) (by simp)
        rcases List.mem_cons.1 hy with rfl | hy
        · simp only; omega
        · rcases List.mem_cons.1 hy with rfl | hy
          · simp only; omega
          · exact hA y hy (cb, boxI (cntV pre.length)) (by simp)) (by decide) hlo
    have HP := Lib.hid (And.intro hGR (And.intro hA (h2.sub ((w5.heap.size + 1, .loop r) :: (w5.heap.size, .deferred (some [])) :: (X' ++ [(cb, boxI (wrap64 (cntV pre.length + 1)))])) fun y hy => by
      simp only [List.mem_cons, List.mem_append, List.not_mem_nil, or_false] at hy ⊢
      rcases hy with h | h | h | h
      · exact .inr (.inl h)
      · exact .inr (.inr (.inl h))
      · exact .inr (.inr (.inr h))
      · exact .inl h)))
    clear h h2 hGR hA
    obtain ⟨v, hvv⟩ : ∃ v, cntV pre.length = v := ⟨_, rfl⟩
    have HV := Lib.hid hvv
    rw [hvv] at b1 HP
    clear hvv
    gi_wp2
    exact ⟨_, ⟨by rw [CntK, List.length_append, List.length_singleton]; show [(cb, boxI (wrap64 (v + 1)))] = [(cb, boxI (wrap64 (cntV pre.length + 1)))]; rw [HV.out], fun z hz y hy => by
      rw [List.mem_singleton] at hy
      subst hy
      exact HP.out.2.1 z hz (cb, boxI v) (by simp)⟩, fun y hy => .inl (by rw [List.mem_singleton] at hy; rw [hy]; rfl), HP.out.2.2⟩
  case done =>
    intro xs R' W hS hK h hne
    rw [CntK] at hK
    subst hK
    have h3 := h.obj (o' := .deferred none) hne rfl rfl H6.below.size
    have hd := h.mem (x := (w5.heap.size, .deferred (some []))) (by simp)
    have k1 := (boxI_cell (h.mem (x := (cb, boxI (cntV xs.length))) (by simp))).1
    have HP := Lib.hid (And.intro (h3.sub R fun y hy => by simp [hy]) hd)
    rw [hS, cntV_eq _ hlen] at k1
    clear h h3 hd hS hne
    go_wp2_with fail
    rw [← hl]
    refine ⟨by simp, .inl ⟨_, _, rfl, run_takeDeferred HP.out.2, ?_⟩⟩
    exact ⟨.int .i64 l.length, by simp [results, Tryz.results17, go_sem], rfl, HP.out.1⟩
  case stop =>
    intro cd xs R' W hSp hK h hne
    exact hK.elim
end
end Go.Proofs.YtkdhlofcdcnjgaaGreat
