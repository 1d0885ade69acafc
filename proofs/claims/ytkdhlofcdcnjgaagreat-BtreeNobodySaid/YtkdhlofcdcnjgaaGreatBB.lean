/- Package btree: a page is read. Package btree: the root's page, and one below. Package btree: a page, and those below it, one after the other. Package btree: a range statement over an iterator that uses a pager. Package btree: nodes, Sound. Package btree: Sound. -/
import Derived.Test.YtkdhlofcdcnjgaaGreatBA
import Derived.Test.YtkdhlofcdcnjgaaGreatGT
import Derived.Deep.RegionHeld3
import Derived.RangeFuncNested
import Derived.OwnWalkIn
import Derived.TacticsInMore
namespace Go.Proofs.YtkdhlofcdcnjgaaGreat
set_option maxRecDepth 100000
open Go.ChangeShapes Go.WideShapes Go.ChangeAt Go.RowKit Go.PlainAid
open Go.Sort (grow)

/-- What lies where a tree is. -/
def treeO (pp : Nat) (i : Int) : Obj := .cells #[.pointer (some ⟨pp, 0, none⟩), .int .i64 i] 50 (0, 0)
/-- What lies where a page is. -/
def ndO (x : NdM) : Obj := .cells x.cells 70 (0, 0)
def zeroN : NdM := ⟨0, 0, ⟨#[]⟩, ⟨#[]⟩, [], none, 0, 0⟩
theorem nd_six (x : NdM) : x.cells.size = 6 := rfl
theorem nd_one (x : NdM) : ∀ v ∈ x.cells.toList, v.oneCell' = true := by
  intro v hv
  simp only [NdM.cells, List.mem_cons, List.not_mem_nil, or_false] at hv
  rcases hv with rfl | rfl | rfl | rfl | rfl | rfl <;> rfl
theorem info_node : (Tryz.prog.info? 70).map (·.size) = some 6 := by kernel_rfl
theorem store_n (p v : Value) : Instr.storeAt 70 p v = storeS 70 p v := rfl
theorem store_nd {W : World} {b : Nat} {cs : Array Value} (hg : W.heap[b]? = some (.cells cs 70 (0, 0))) (hs : cs.size = 6) (x : NdM) :
    (storeS 70 (.pointer (some ⟨b, 0, none⟩)) (.agg x.cells)).run Tryz.prog W = .ok () (W.setRow b x.cells) := by
  have h := run_storeVar_row (P := Tryz.prog) W b 70 70 cs x.cells hg (by rw [info_node]; rfl) hs (all_oneCell_toArray (nd_one x))
  unfold storeS
  simp only [Instr.storeAt, Instr.sureAddr, Sem.run_bind, Sem.run_pure, Result.andThen_ok, h]
theorem store_nd_new (W : World) (c : Array Value) (hs : c.size = 6) (x : NdM) :
    (storeS 70 (.pointer (some ⟨W.heap.size, 0, none⟩)) (.agg x.cells)).run Tryz.prog (W.alloc (.cells c 70)) = .ok () (W.alloc (.cells x.cells 70)) := by
  rw [store_nd (heap_alloc_new _ _) hs x, setRow_alloc]
theorem store_nd_fresh (W : World) (x : NdM) :
    (storeS 70 (.pointer (some ⟨W.heap.size, 0, none⟩)) (.agg x.cells)).run Tryz.prog (W.alloc (.cells #[.int .i64 0, .int .i64 0, .string ⟨#[]⟩, .string ⟨#[]⟩, .slice none 0 0, .int .i64 0] 70)) = .ok () (W.alloc (ndO x)) :=
  store_nd_new W _ rfl x
theorem ndIs_of {w : World} {b : Nat} {x : NdM} (h : w.heap[b]? = some (ndO x)) (hr : RdP w x.sl x.L) (hl : x.L.length ≤ 4096) : NdIs w b 0 x := by
  unfold ndO at h
  refine ⟨(Array.getElem?_eq_some_iff.1 h).1, ?_, ?_, ?_, ?_, ?_, ?_, hr, hl⟩ <;> (rw [cell_of_row _ _ _ _ _ _ h]; rfl)
theorem heap_setCell_at {w : World} {b o : Nat} {cs : Array Value} {t : TypeId} {fr : Nat × Nat} (h : w.heap[b]? = some (.cells cs t fr)) (v : Value) : (w.setCell ⟨b, o, none⟩ v).heap[b]? = some (.cells (cs.setIfInBounds o v) t fr) := by
  obtain ⟨hlt, hk⟩ := Array.getElem?_eq_some_iff.1 h
  show (w.heap.modify b _)[b]? = _
  rw [Array.getElem?_eq_getElem (by rw [Array.size_modify]; exact hlt), Array.getElem_modify_self, hk]
  rfl
section
variable {w0 w : World} {pp n c b : Nat} {V : Int → ByteArray} {R : List (Nat × Obj)} {cs : Array Value} {t : TypeId}
/-- A cell of a block beside a pager is stored. -/
theorem PV.into (H : PV w0 pp n c V ((b, .cells cs t (0, 0)) :: R) w) (hR : ∀ x ∈ R, x.1 ≠ b) (ht : t ≠ 113) (hb : w0.heap.size ≤ b) (o : Nat) (v : Value) :
    PV w0 pp n c V ((b, .cells (cs.setIfInBounds o v) t (0, 0)) :: R) (w.setCell ⟨b, o, none⟩ v) :=
  H.swap hR (H.ne List.mem_cons_self rfl ht) (by simp) (fun k _ hk => heap_setCell_other w _ k v hk) (.inl rfl) (heap_setCell_at (H.mem List.mem_cons_self) v) (H.below.setCell (p := ⟨b, o, none⟩) hb v)
/-- A block beside a pager is stored whole. -/
theorem PV.whole (H : PV w0 pp n c V ((b, .cells cs t (0, 0)) :: R) w) (hR : ∀ x ∈ R, x.1 ≠ b) (ht : t ≠ 113) (hb : w0.heap.size ≤ b) (cs' : Array Value) :
    PV w0 pp n c V ((b, .cells cs' t (0, 0)) :: R) (w.setRow b cs') :=
  H.swap hR (H.ne List.mem_cons_self rfl ht) (by simp) (fun k _ hk => setRow_other w b k cs' hk) (.inl rfl) (setRow_heap w b cs cs' t (0, 0) (H.mem List.mem_cons_self)) (KA.below_row H.below hb cs')
theorem PV.storeN {z : NdM} (H : PV w0 pp n c V ((b, ndO z) :: R) w) (hR : ∀ x ∈ R, x.1 ≠ b) (hb : w0.heap.size ≤ b) (x : NdM) :
    ∃ W, (storeS 70 (.pointer (some ⟨b, 0, none⟩)) (.agg x.cells)).run Tryz.prog w = .ok () W ∧ PV w0 pp n c V ((b, ndO x) :: R) W :=
  ⟨_, store_nd (H.mem List.mem_cons_self) (nd_six z) x, H.whole hR (by decide) hb x.cells⟩
theorem PV.turn {x y : Nat × Obj} (H : PV w0 pp n c V (x :: y :: R) w) : PV w0 pp n c V (y :: x :: R) w := H.sub _ fun z hz => by
  simp only [List.mem_cons] at hz ⊢
  rcases hz with h | h | h
  · exact .inr (.inl h)
  · exact .inl h
  · exact .inr (.inr h)
theorem PV.drew (H : PV w0 pp n c V R w) : PV w0 pp n c V R w.drew := H.on ⟨rfl, rfl, rfl, Nat.le_refl _, fun _ _ => rfl⟩
theorem PV.lt (H : PV w0 pp n c V R w) {x : Nat × Obj} (hx : x ∈ R) : x.1 < w.heap.size := (Array.getElem?_eq_some_iff.1 (H.mem hx)).1
/-- A new block beside it. -/
theorem PV.push (H : PV w0 pp n c V R w) (o : Obj) : PV w0 pp n c V ((w.heap.size, o) :: R) (w.alloc o) := H.add (by go_grown) (Nat.le_refl _) (heap_alloc_new _ _)
theorem PV.drop {x : Nat × Obj} (H : PV w0 pp n c V (x :: R) w) : PV w0 pp n c V R w := H.sub _ fun _ hy => List.mem_cons_of_mem _ hy
end
/-- The texts of a page's pairs are short. -/
theorem unpL_mod : ∀ (k : Nat) (d : ByteArray) (L : List Pr), d.size ≤ 4096 → unpL k d = some L → Mod L
  | 0, d, L, _, h => by
    have : some [] = some L := h
    cases this
    intro p hp
    cases hp
  | k + 1, d, L, hd, h => by
    unfold unpL at h
    split at h
    · cases h
    · split at h
      · cases h
      · cases h2 : unpL k (d.extract (2 + bt d 0 + bt d 1).toNat d.size) with
        | none => rw [h2] at h; cases h
        | some M =>
          rw [h2] at h
          have h : some (_ :: M) = some L := h
          cases h
          intro p hp
          rcases List.mem_cons.1 hp with rfl | hp
          · constructor <;> (simp only [ByteArray.size_extract]; omega)
          · exact unpL_mod k _ M (by rw [ByteArray.size_extract]; omega) h2 p hp
theorem unpP_mod {s : ByteArray} {L : List Pr} (hs : s.size ≤ 4096) (h : unpP s = some L) : Mod L := unpL_mod _ _ L (by rw [ByteArray.size_extract]; omega) h
/-- A page that was asked for, as it was read. -/
structure Got (x y : NdM) (g : Nat) : Prop where
  at_ : y.at_ = x.at_
  low : y.low = x.low
  high : y.high = x.high
  sl : y.sl = some ⟨g, 0, none⟩
  c : y.c = y.L.length
  next : y.next = x.next
/-- What a read leaves. -/
def ReadPost (w0 : World) (pp n c : Nat) (V : Int → ByteArray) (R : List (Nat × Obj)) (x : NdM) (e : Ending) (w' : World) : Prop :=
  (rdP V (outB n (V 0)) x.D = none ∧ e = .returned (.tuple #[.agg x.cells, .int .i64 6]) ∧ PV w0 pp n c V R w') ∨
  ∃ y g, rdP V (outB n (V 0)) x.D = some (y.level, y.L) ∧ Got x y g ∧ (w0.heap.size ≤ g ∧ ∀ z ∈ R, z.1 ≠ g) ∧ e = .returned (.tuple #[.agg y.cells, .int .i64 0]) ∧ PV w0 pp n c V ((g, rowO y.L) :: R) w'
theorem tree_cells {w : World} {tb pp : Nat} {i : Int} (h : w.heap[tb]? = some (treeO pp i)) : w.cell? ⟨tb, 0, none⟩ = some (.pointer (some ⟨pp, 0, none⟩)) ∧ w.cell? ⟨tb, 1, none⟩ = some (.int .i64 i) := by
  unfold treeO at h
  exact ⟨by rw [cell_of_row _ _ _ _ _ _ h]; rfl, by rw [cell_of_row _ _ _ _ _ _ h]; rfl⟩
theorem nd_cells {w : World} {b : Nat} {x : NdM} (h : w.heap[b]? = some (ndO x)) : w.cell? ⟨b, 0, none⟩ = some (.int .i64 x.at_) ∧ w.cell? ⟨b, 1, none⟩ = some (.int .i64 x.level) ∧ w.cell? ⟨b, 2, none⟩ = some (.string x.low) ∧ w.cell? ⟨b, 3, none⟩ = some (.string x.high) ∧ w.cell? ⟨b, 4, none⟩ = some (.slice x.sl x.L.length x.c) ∧ w.cell? ⟨b, 5, none⟩ = some (.int .i64 x.next) := by
  unfold ndO at h
  refine ⟨?_, ?_, ?_, ?_, ?_, ?_⟩ <;> (rw [cell_of_row _ _ _ _ _ _ h]; rfl)
theorem nd_thaw {w : World} {b : Nat} {x : NdM} (h : w.heap[b]? = some (ndO x)) (o : Nat) : w.frozen? ⟨b, o, none⟩ = false := by
  unfold ndO at h
  exact frozen_of_row _ _ _ _ _ h
attribute [local go_sem ↓ high] store_n
section
variable {w0 w : World} {pp n c tb : Nat} {V : Int → ByteArray} {R : List (Nat × Obj)} {i : Int}
set_option maxHeartbeats 4000000 in
theorem nread_any (H : PV w0 pp n c V R w) (hT : (tb, treeO pp i) ∈ R) (hn : 0 < n) (x : NdM) (b0 : -9223372036854775808 ≤ x.at_) (b1 : x.at_ ≤ 9223372036854775807) :
    Calls Tryz.prog 73 #[.pointer (some ⟨tb, 0, none⟩), .agg x.cells] w (ReadPost w0 pp n c V R x) := by
  have H2 := (H.push (ndO x)).push (ndO zeroN)
  rw [show (w.alloc (ndO x)).heap.size = w.heap.size + 1 by simp] at H2
  have hlt0 := H.below.size
  have HRB : Hid (∀ y ∈ (w.heap.size, ndO x) :: R, y.1 ≠ w.heap.size + 1) := Lib.hid fun y hy e => by
    rcases List.mem_cons.1 hy with rfl | hy
    · simp at e
    · have := H.lt hy
      omega
  obtain ⟨W, hW⟩ : ∃ W, (w.alloc (ndO x)).alloc (ndO zeroN) = W := ⟨_, rfl⟩
  rw [hW] at H2
  have H3 := H2.drew
  have hT2 : (tb, treeO pp i) ∈ (w.heap.size + 1, ndO zeroN) :: (w.heap.size, ndO x) :: R := List.mem_cons_of_mem _ (List.mem_cons_of_mem _ hT)
  obtain ⟨t0, t1⟩ := tree_cells (H3.mem hT2)
  obtain ⟨d0, d1, d2, d3, d4, d5⟩ := nd_cells (H3.mem (List.mem_cons_of_mem _ List.mem_cons_self))
  simp only at t0 t1 d0 d1 d2 d3 d4 d5
  have HW : Hid ((w.alloc (ndO x)).alloc (ndO zeroN) = W) := Lib.hid hW
  cases ho : outB n (V 0) x.at_ with
  | false =>
    have HG := Lib.hid (H3.get_no x.at_ b0 b1 hn ho)
    have HP : Hid (rdP V (outB n (V 0)) x.D = none) := by
      refine Lib.hid ?_
      unfold rdP
      exact if_pos ho
    clear H H2 H3 ho hW
    unfold NdM.cells
    go_enter Tryz.func73, Tryz.ntmps73
    go_wp2_with fail
    rw [show ((w.alloc (.cells #[.int .i64 x.at_, .int .i64 x.level, .string x.low, .string x.high, .slice x.sl x.L.length x.c, .int .i64 x.next] 70)).alloc (.cells #[.int .i64 0, .int .i64 0, .string ⟨#[]⟩, .string ⟨#[]⟩, .slice none 0 0, .int .i64 0] 70)) = W from HW.out]
    go_region_law (first
      | (go_simp; (with_reducible refine HG.out.mono ?_); rintro e w4 ⟨rfl, H4⟩; have H4' := Lib.hid H4; clear H4)
      | fail)
    all_goals
      clear d0 d1 d2 d3 d4 d5 t0 t1
      obtain ⟨d0, d1, d2, d3, d4, d5⟩ := nd_cells (H4'.out.mem (List.mem_cons_of_mem _ List.mem_cons_self))
      simp only at d0 d1 d2 d3 d4 d5
      obtain ⟨W5, hst, H5⟩ := H4'.out.storeN HRB.out (by omega) x
      unfold NdM.cells at hst
      have H5' := Lib.hid H5
      clear H5
      go_wp2_with fail
      clear d0 d1 d2 d3 d4 d5 hst
      obtain ⟨d0, d1, d2, d3, d4, d5⟩ := nd_cells (H5'.out.mem List.mem_cons_self)
      simp only at d0 d1 d2 d3 d4 d5
      refine bodyPost_ret (v := .tuple #[.agg x.cells, .int .i64 6]) (by simp [results, Tryz.results73, go_sem, d0, d1, d2, d3, d4, d5, NdM.cells]) rfl ?_
      exact .inl ⟨HP.out, rfl, H5'.out.drop.drop⟩
  | true =>
    have hin : 2 ≤ x.at_ ∧ x.at_ < n := by
      unfold outB at ho
      simp only [Bool.and_eq_true, decide_eq_true_eq] at ho
      omega
    have hsv := H.size (k := x.at_) (by omega) hin.2
    have HG := Lib.hid (H3.get x.at_ b0 b1 hn ho)
    have HO := Lib.hid ho
    clear H H2 H3 ho hW
    unfold NdM.cells
    go_enter Tryz.func73, Tryz.ntmps73
    go_wp2_with fail
    rw [show ((w.alloc (.cells #[.int .i64 x.at_, .int .i64 x.level, .string x.low, .string x.high, .slice x.sl x.L.length x.c, .int .i64 x.next] 70)).alloc (.cells #[.int .i64 0, .int .i64 0, .string ⟨#[]⟩, .string ⟨#[]⟩, .slice none 0 0, .int .i64 0] 70)) = W from HW.out]
    obtain ⟨s, hs⟩ : ∃ s, V x.at_ = s := ⟨_, rfl⟩
    rw [hs] at hsv HG
    have HS := Lib.hid hs
    clear hs
    go_region_law (first
      | (go_simp; (with_reducible refine HG.out.mono ?_); rintro e w4 ⟨rfl, H4⟩; have H4' := Lib.hid H4; clear H4)
      | fail)
    all_goals
      clear d0 d1 d2 d3 d4 d5 t0 t1 HG
      obtain ⟨d0, d1, d2, d3, d4, d5⟩ := nd_cells (H4'.out.mem (List.mem_cons_of_mem _ List.mem_cons_self))
      simp only at d0 d1 d2 d3 d4 d5
      have hst := store_nd_fresh w4 x
      unfold NdM.cells at hst
      have H5 := H4'.out.push (ndO x)
      have HU := Lib.hid (unpack_any s (w4.alloc (ndO x)) (by omega) (by omega))
      have HRC : Hid (∀ y ∈ (w.heap.size + 1, ndO zeroN) :: (w.heap.size, ndO x) :: R, y.1 ≠ w4.heap.size) := Lib.hid fun y hy e => by
        have := H4'.out.lt hy
        omega
      obtain ⟨h8, hw8⟩ : ∃ q, w4.heap.size = q := ⟨_, rfl⟩
      have HW8 := Lib.hid hw8
      have HL8 : Hid (w0.heap.size ≤ w4.heap.size) := Lib.hid H4'.out.below.size
      have H5' := Lib.hid H5
      clear H5 hw8
      obtain ⟨W5, hW5⟩ : ∃ W5, w4.alloc (ndO x) = W5 := ⟨_, rfl⟩
      rw [hW5] at HU H5' hst
      clear hW5
      go_wp2_with fail
      refine HU.out.mono ?_
      rintro e w6 (⟨L, hL, g, rfl, hg, hro, hb6⟩ | ⟨hnone, rfl, hb6⟩)
      · have hlen := unpP_len hL
        have hmod := unpP_mod (by omega) hL
        have H6 := (H5'.out.add hb6 hg hro).turn
        have hgq : g ≠ w4.heap.size := fun e => by
          have := (List.mem_cons_self (a := (w4.heap.size, ndO x)) (l := (w.heap.size + 1, ndO zeroN) :: (w.heap.size, ndO x) :: R))
          have := H5'.out.lt this
          omega
        have hrc : ∀ y ∈ (g, rowO L) :: (w.heap.size + 1, ndO zeroN) :: (w.heap.size, ndO x) :: R, y.1 ≠ w4.heap.size := fun y hy => by
          rcases List.mem_cons.1 hy with rfl | hy
          · exact hgq
          · exact HRC.out y hy
        have HGN : Hid (g ≠ w.heap.size + 1) := Lib.hid fun e => by
          have := H5'.out.lt (x := (w.heap.size + 1, ndO zeroN)) (List.mem_cons_of_mem _ List.mem_cons_self)
          simp only at this
          omega
        have HGF : Hid (w0.heap.size ≤ g ∧ ∀ z ∈ R, z.1 ≠ g) := Lib.hid ⟨Nat.le_trans H5'.out.below.size hg, fun z hz e => by
          have := H5'.out.lt (x := z) (List.mem_cons_of_mem _ (List.mem_cons_of_mem _ (List.mem_cons_of_mem _ hz)))
          omega⟩
        obtain ⟨lv, hlv⟩ : ∃ lv, bt s 0 = lv := ⟨_, rfl⟩
        rw [hlv]
        have H7 := (H6.into hrc (by decide) HL8.out 1 (.int .i64 lv))
        have H8 := (H7.into hrc (by decide) HL8.out 4 (.slice (some ⟨g, 0, none⟩) L.length L.length))
        obtain ⟨c0, c1, c2, c3, c4, c5⟩ := nd_cells (H6.mem List.mem_cons_self)
        have f1 := nd_thaw (H6.mem List.mem_cons_self) 1
        have f4 := nd_thaw (H6.mem List.mem_cons_self) 4
        simp only at c0 c1 c2 c3 c4 c5 f1 f4
        obtain ⟨W8, hW8⟩ : ∃ W8, (w6.setCell ⟨w4.heap.size, 1, none⟩ (.int .i64 lv)).setCell ⟨w4.heap.size, 4, none⟩ (.slice (some ⟨g, 0, none⟩) L.length L.length) = W8 := ⟨_, rfl⟩
        rw [hW8] at H8
        obtain ⟨y, hy⟩ : ∃ y : NdM, { x with level := lv, L := L, sl := some ⟨g, 0, none⟩, c := L.length } = y := ⟨_, rfl⟩
        have HY := Lib.hid hy
        have H8 : PV w0 pp n c V ((w4.heap.size, ndO y) :: (g, rowO L) :: (w.heap.size + 1, ndO zeroN) :: (w.heap.size, ndO x) :: R) W8 := by rw [← hy]; exact H8
        have hyL : y.level = lv ∧ y.L = L ∧ y.sl = some ⟨g, 0, none⟩ ∧ y.low = x.low ∧ y.high = x.high := by rw [← hy]; exact ⟨rfl, rfl, rfl, rfl, rfl⟩
        obtain ⟨y1, y2, y3, y4, y5⟩ := hyL
        have HN := Lib.hid (ndIs_of (H8.mem List.mem_cons_self) (by rw [y2, y3]; exact rdP_of (H8.mem (List.mem_cons_of_mem _ List.mem_cons_self))) (by rw [y2]; omega))
        have HLW := Lib.hid (lawful_any HN.out (by rw [y2]; exact hmod))
        have HRD : Hid (rdP V (outB n (V 0)) x.D = if x.level ≠ 0 ∧ x.level ≠ lv then none else if lawB lv x.low x.high L = false then none else some (lv, L)) := by
          refine Lib.hid ?_
          unfold rdP
          rw [if_neg (by rw [show x.D.at_ = x.at_ from rfl, HO.out]; simp), show V x.D.at_ = s from HS.out, hL, hlv]
          rfl
        rw [y1, y2, y4, y5] at HLW
        have H8' := Lib.hid H8
        clear d0 d1 d2 d3 d4 d5 hy y1 y2 y3 y4 y5 H6 H7 H8 hL hmod hlen hgq hrc hro hb6 hg hlv
        obtain ⟨d0, d1, d2, d3, d4, d5⟩ := nd_cells (H8'.out.mem (List.mem_cons_of_mem _ (List.mem_cons_of_mem _ (List.mem_cons_of_mem _ List.mem_cons_self))))
        simp only at d0 d1 d2 d3 d4 d5
        by_cases hlev : x.level ≠ 0 ∧ x.level ≠ lv
        · have HP : Hid (rdP V (outB n (V 0)) x.D = none) := by
            refine Lib.hid ?_
            rw [HRD.out, if_pos hlev]
          have g1 : (x.level != 0) = true := by simpa using hlev.1
          have g2 : (x.level != lv) = true := by simpa using hlev.2
          obtain ⟨W10, hst2, H10⟩ := (H8'.out.drop.drop).storeN HRB.out (by have := HL8.out; omega) x
          unfold NdM.cells at hst2
          have H10' := Lib.hid H10
          clear H10 hlev
          go_wp2_with fail
          clear d0 d1 d2 d3 d4 d5 hst2
          obtain ⟨d0, d1, d2, d3, d4, d5⟩ := nd_cells (H10'.out.mem List.mem_cons_self)
          simp only at d0 d1 d2 d3 d4 d5
          refine bodyPost_ret (v := .tuple #[.agg x.cells, .int .i64 6]) (by simp [results, Tryz.results73, go_sem, d0, d1, d2, d3, d4, d5, NdM.cells]) rfl ?_
          exact .inl ⟨HP.out, rfl, H10'.out.drop.drop⟩
        · have g3 : (x.level != 0 && x.level != lv) = false := by
            rw [Bool.eq_false_iff]
            intro c
            simp only [Bool.and_eq_true, bne_iff_ne] at c
            exact hlev c
          cases hz : (x.level != 0) with
          | true =>
            rw [hz, Bool.true_and] at g3
            have hHR : Hid (rdP V (outB n (V 0)) x.D = if lawB lv x.low x.high L = false then none else some (lv, L)) := by
              refine Lib.hid ?_
              rw [HRD.out, if_neg hlev]
            clear hlev
            cases hlw : lawB lv x.low x.high L with
            | true =>
              rw [hlw] at HLW
              have HP : Hid (rdP V (outB n (V 0)) x.D = some (lv, L)) := by
                refine Lib.hid ?_
                rw [hHR.out, hlw, if_neg (by simp)]
              clear hlw hHR
              go_wp2_with fail
              refine HLW.out.mono ?_
              rintro e w9 ⟨rfl, hb9⟩
              have H9 := H8'.out.on hb9
              clear d0 d1 d2 d3 d4 d5 hb9
              obtain ⟨d0, d1, d2, d3, d4, d5⟩ := nd_cells (H9.mem List.mem_cons_self)
              simp only at d0 d1 d2 d3 d4 d5
              have H9b : PV w0 pp n c V ((w.heap.size + 1, ndO zeroN) :: (g, rowO L) :: R) w9 := H9.sub _ fun z hz => by
                simp only [List.mem_cons] at hz ⊢
                rcases hz with h | h | h
                · exact .inr (.inr (.inl h))
                · exact .inr (.inl h)
                · exact .inr (.inr (.inr (.inr h)))
              obtain ⟨W10, hst2, H10⟩ := H9b.storeN (fun z hz e => by
                rcases List.mem_cons.1 hz with rfl | hz
                · exact HGN.out e
                · exact HRB.out z (List.mem_cons_of_mem _ hz) e) (by have := HL8.out; omega) y
              unfold NdM.cells at hst2
              have H10' := Lib.hid H10
              clear H10 H9 H9b
              go_wp2_with fail
              clear d0 d1 d2 d3 d4 d5 hst2
              obtain ⟨d0, d1, d2, d3, d4, d5⟩ := nd_cells (H10'.out.mem List.mem_cons_self)
              simp only at d0 d1 d2 d3 d4 d5
              refine bodyPost_ret (v := .tuple #[.agg y.cells, .int .i64 0]) (by simp [results, Tryz.results73, go_sem, d0, d1, d2, d3, d4, d5, NdM.cells]) rfl ?_
              exact .inr ⟨y, g, by rw [HP.out, ← HY.out], by rw [← HY.out]; exact ⟨rfl, rfl, rfl, rfl, rfl, rfl⟩, HGF.out, rfl, by rw [← HY.out] at H10' ⊢; exact H10'.out.drop⟩
            | false =>
              rw [hlw] at HLW
              have HP : Hid (rdP V (outB n (V 0)) x.D = none) := by
                refine Lib.hid ?_
                rw [hHR.out, hlw, if_pos rfl]
              clear hlw hHR
              go_wp2_with fail
              refine HLW.out.mono ?_
              rintro e w9 ⟨rfl, hb9⟩
              have H9 := H8'.out.on hb9
              clear d0 d1 d2 d3 d4 d5 hb9
              obtain ⟨d0, d1, d2, d3, d4, d5⟩ := nd_cells (H9.mem (List.mem_cons_of_mem _ (List.mem_cons_of_mem _ (List.mem_cons_of_mem _ List.mem_cons_self))))
              simp only at d0 d1 d2 d3 d4 d5
              obtain ⟨W10, hst2, H10⟩ := (H9.drop.drop).storeN HRB.out (by have := HL8.out; omega) x
              unfold NdM.cells at hst2
              have H10' := Lib.hid H10
              clear H10 H9
              go_wp2_with fail
              clear d0 d1 d2 d3 d4 d5 hst2
              obtain ⟨d0, d1, d2, d3, d4, d5⟩ := nd_cells (H10'.out.mem List.mem_cons_self)
              simp only at d0 d1 d2 d3 d4 d5
              refine bodyPost_ret (v := .tuple #[.agg x.cells, .int .i64 6]) (by simp [results, Tryz.results73, go_sem, d0, d1, d2, d3, d4, d5, NdM.cells]) rfl ?_
              exact .inl ⟨HP.out, rfl, H10'.out.drop.drop⟩
          | false =>
            clear g3
            have hHR : Hid (rdP V (outB n (V 0)) x.D = if lawB lv x.low x.high L = false then none else some (lv, L)) := by
              refine Lib.hid ?_
              rw [HRD.out, if_neg hlev]
            clear hlev
            cases hlw : lawB lv x.low x.high L with
            | true =>
              rw [hlw] at HLW
              have HP : Hid (rdP V (outB n (V 0)) x.D = some (lv, L)) := by
                refine Lib.hid ?_
                rw [hHR.out, hlw, if_neg (by simp)]
              clear hlw hHR
              go_wp2_with fail
              refine HLW.out.mono ?_
              rintro e w9 ⟨rfl, hb9⟩
              have H9 := H8'.out.on hb9
              clear d0 d1 d2 d3 d4 d5 hb9
              obtain ⟨d0, d1, d2, d3, d4, d5⟩ := nd_cells (H9.mem List.mem_cons_self)
              simp only at d0 d1 d2 d3 d4 d5
              have H9b : PV w0 pp n c V ((w.heap.size + 1, ndO zeroN) :: (g, rowO L) :: R) w9 := H9.sub _ fun z hz => by
                simp only [List.mem_cons] at hz ⊢
                rcases hz with h | h | h
                · exact .inr (.inr (.inl h))
                · exact .inr (.inl h)
                · exact .inr (.inr (.inr (.inr h)))
              obtain ⟨W10, hst2, H10⟩ := H9b.storeN (fun z hz e => by
                rcases List.mem_cons.1 hz with rfl | hz
                · exact HGN.out e
                · exact HRB.out z (List.mem_cons_of_mem _ hz) e) (by have := HL8.out; omega) y
              unfold NdM.cells at hst2
              have H10' := Lib.hid H10
              clear H10 H9 H9b
              go_wp2_with fail
              clear d0 d1 d2 d3 d4 d5 hst2
              obtain ⟨d0, d1, d2, d3, d4, d5⟩ := nd_cells (H10'.out.mem List.mem_cons_self)
              simp only at d0 d1 d2 d3 d4 d5
              refine bodyPost_ret (v := .tuple #[.agg y.cells, .int .i64 0]) (by simp [results, Tryz.results73, go_sem, d0, d1, d2, d3, d4, d5, NdM.cells]) rfl ?_
              exact .inr ⟨y, g, by rw [HP.out, ← HY.out], by rw [← HY.out]; exact ⟨rfl, rfl, rfl, rfl, rfl, rfl⟩, HGF.out, rfl, by rw [← HY.out] at H10' ⊢; exact H10'.out.drop⟩
            | false =>
              rw [hlw] at HLW
              have HP : Hid (rdP V (outB n (V 0)) x.D = none) := by
                refine Lib.hid ?_
                rw [hHR.out, hlw, if_pos rfl]
              clear hlw hHR
              go_wp2_with fail
              refine HLW.out.mono ?_
              rintro e w9 ⟨rfl, hb9⟩
              have H9 := H8'.out.on hb9
              clear d0 d1 d2 d3 d4 d5 hb9
              obtain ⟨d0, d1, d2, d3, d4, d5⟩ := nd_cells (H9.mem (List.mem_cons_of_mem _ (List.mem_cons_of_mem _ (List.mem_cons_of_mem _ List.mem_cons_self))))
              simp only at d0 d1 d2 d3 d4 d5
              obtain ⟨W10, hst2, H10⟩ := (H9.drop.drop).storeN HRB.out (by have := HL8.out; omega) x
              unfold NdM.cells at hst2
              have H10' := Lib.hid H10
              clear H10 H9
              go_wp2_with fail
              clear d0 d1 d2 d3 d4 d5 hst2
              obtain ⟨d0, d1, d2, d3, d4, d5⟩ := nd_cells (H10'.out.mem List.mem_cons_self)
              simp only at d0 d1 d2 d3 d4 d5
              refine bodyPost_ret (v := .tuple #[.agg x.cells, .int .i64 6]) (by simp [results, Tryz.results73, go_sem, d0, d1, d2, d3, d4, d5, NdM.cells]) rfl ?_
              exact .inl ⟨HP.out, rfl, H10'.out.drop.drop⟩
      · have HP : Hid (rdP V (outB n (V 0)) x.D = none) := by
          refine Lib.hid ?_
          unfold rdP
          rw [if_neg (by rw [show x.D.at_ = x.at_ from rfl, HO.out]; simp), show V x.D.at_ = s from HS.out, hnone]
        have H6 := (H5'.out.on hb6)
        have H7 := (H6.into HRC.out (by decide) HL8.out 1 (.int .i64 0))
        have H8 := (H7.into HRC.out (by decide) HL8.out 4 (.slice none 0 0))
        obtain ⟨c0, c1, c2, c3, c4, c5⟩ := nd_cells (H6.mem List.mem_cons_self)
        have f1 := nd_thaw (H6.mem List.mem_cons_self) 1
        have f4 := nd_thaw (H6.mem List.mem_cons_self) 4
        simp only at c0 c1 c2 c3 c4 c5 f1 f4
        obtain ⟨W8, hW8⟩ : ∃ W8, (w6.setCell ⟨w4.heap.size, 1, none⟩ (.int .i64 0)).setCell ⟨w4.heap.size, 4, none⟩ (.slice none 0 0) = W8 := ⟨_, rfl⟩
        rw [hW8] at H8
        clear d0 d1 d2 d3 d4 d5
        obtain ⟨d0, d1, d2, d3, d4, d5⟩ := nd_cells (H8.mem (List.mem_cons_of_mem _ (List.mem_cons_of_mem _ List.mem_cons_self)))
        simp only at d0 d1 d2 d3 d4 d5
        have H9 := H8.drop
        obtain ⟨W10, hst2, H10⟩ := H9.storeN HRB.out (by have := HL8.out; omega) x
        unfold NdM.cells at hst2
        have H10' := Lib.hid H10
        clear H6 H7 H8 H9 H10 hnone hb6
        go_wp2_with fail
        clear d0 d1 d2 d3 d4 d5 hst2
        obtain ⟨d0, d1, d2, d3, d4, d5⟩ := nd_cells (H10'.out.mem List.mem_cons_self)
        simp only at d0 d1 d2 d3 d4 d5
        refine bodyPost_ret (v := .tuple #[.agg x.cells, .int .i64 6]) (by simp [results, Tryz.results73, go_sem, d0, d1, d2, d3, d4, d5, NdM.cells]) rfl ?_
        exact .inl ⟨HP.out, rfl, H10'.out.drop.drop⟩
end
end Go.Proofs.YtkdhlofcdcnjgaaGreat
namespace Go.Proofs.YtkdhlofcdcnjgaaGreat
set_option maxRecDepth 100000
open Go.ChangeShapes Go.WideShapes Go.ChangeAt Go.RowKit Go.PlainAid
open Go.Sort (grow)

attribute [local go_sem ↓ high] store_n
/-- Known blocks say which pairs are at an address. -/
def Kn (R : List (Nat × Obj)) (sl : Option Addr) (L : List Pr) : Prop := ∀ w : World, (∀ y ∈ R, w.heap[y.1]? = some y.2) → RdP w sl L
theorem Kn.mono {R R' : List (Nat × Obj)} {sl : Option Addr} {L : List Pr} (h : Kn R sl L) (hs : ∀ y ∈ R, y ∈ R') : Kn R' sl L := fun w hw => h w fun y hy => hw y (hs y hy)
theorem Kn.of {R : List (Nat × Obj)} {g : Nat} {L : List Pr} (h : (g, rowO L) ∈ R) : Kn R (some ⟨g, 0, none⟩) L := fun _ hw => rdP_of (hw _ h)
theorem Kn.nil (R : List (Nat × Obj)) (sl : Option Addr) : Kn R sl [] := fun _ _ => .inl rfl
/-- A page that is asked for by its number alone. -/
def rootM (k : Int) : NdM := ⟨k, 0, ⟨#[]⟩, ⟨#[]⟩, [], none, 0, 0⟩
/-- One of the pages below, as it is asked for. -/
def kidM (x : NdM) (p : Pr) (high : ByteArray) : NdM := ⟨numP p.val, x.level - 1, p.key, high, [], none, 0, 0⟩
section
variable {w0 w : World} {pp n c tb : Nat} {V : Int → ByteArray} {R : List (Nat × Obj)} {i : Int}
theorem PV.kn (H : PV w0 pp n c V R w) {sl : Option Addr} {L : List Pr} (h : Kn R sl L) : RdP w sl L := h w fun _ hy => H.mem hy
/-- What start leaves. -/
def StartPost (w0 : World) (pp n c : Nat) (V : Int → ByteArray) (R : List (Nat × Obj)) (i : Int) (e : Ending) (w' : World) : Prop :=
  (rootZ (V 1) i = 0 ∧ e = .returned (.tuple #[.agg zeroN.cells, .int .i64 0]) ∧ PV w0 pp n c V R w') ∨
  (rootZ (V 1) i ≠ 0 ∧ ReadPost w0 pp n c V R (rootM (rootZ (V 1) i)) e w')
set_option maxHeartbeats 4000000 in
theorem start_any (H : PV w0 pp n c V R w) (hT : (tb, treeO pp i) ∈ R) (hn : 1 < n) (hi : 0 ≤ i ∧ i < 16) :
    Calls Tryz.prog 34 #[.pointer (some ⟨tb, 0, none⟩)] w (StartPost w0 pp n c V R i) := by
  have H1 := H.push (ndO zeroN)
  have hlt0 := H.below.size
  have hrb : ∀ y ∈ R, y.1 ≠ w.heap.size := fun y hy e => by
    have := H.lt hy
    omega
  have HRB := Lib.hid hrb
  have hT1 : (tb, treeO pp i) ∈ (w.heap.size, ndO zeroN) :: R := List.mem_cons_of_mem _ hT
  obtain ⟨t0, t1⟩ := tree_cells (H1.mem hT1)
  simp only at t0 t1
  obtain ⟨W1, hW1⟩ : ∃ W1, w.alloc (ndO zeroN) = W1 := ⟨_, rfl⟩
  rw [hW1] at H1 t0 t1
  have HW := Lib.hid hW1
  have hrt := root_bounds (V 1) i
  have HM := Lib.hid (made_yes t0)
  have HG := Lib.hid (H1.drew.root i hi hn)
  have hg : ∀ at_ : Int, rootZ (V 1) i = at_ → rootZ (V 1) i = at_ := fun _ h => h
  obtain ⟨at_, hat⟩ : ∃ at_, rootZ (V 1) i = at_ := ⟨_, rfl⟩
  rw [hat] at hrt HG
  have HA := Lib.hid hat
  clear H H1 hrb hg hat hW1
  go_enter Tryz.func34, Tryz.ntmps34
  go_wp2_with fail
  rw [show (w.alloc (.cells #[.int .i64 0, .int .i64 0, .string ⟨#[]⟩, .string ⟨#[]⟩, .slice none 0 0, .int .i64 0] 70)) = W1 from HW.out]
  refine HM.out.mono ?_
  rintro e _ ⟨rfl, rfl⟩
  go_wp2_with fail
  go_region_law (first
    | (go_simp; (with_reducible refine HG.out.mono ?_); rintro e w4 ⟨rfl, H4⟩; have H4' := Lib.hid H4; clear H4)
    | fail)
  all_goals
    clear t0 t1 HG HM
    by_cases hz : at_ = 0
    · obtain ⟨W10, hst, H10⟩ := H4'.out.storeN HRB.out (by omega) zeroN
      have hz1 : (at_ == 0) = true := by simpa using hz
      have H10' := Lib.hid H10
      have HZ := Lib.hid hz
      simp only [NdM.cells, zeroN, List.length_nil] at hst
      clear H10 hz
      go_wp2_with fail
      obtain ⟨d0, d1, d2, d3, d4, d5⟩ := nd_cells (H10'.out.mem List.mem_cons_self)
      simp only [zeroN, List.length_nil] at d0 d1 d2 d3 d4 d5
      refine bodyPost_ret (v := .tuple #[.agg zeroN.cells, .int .i64 0]) (by simp [results, Tryz.results34, go_sem, d0, d1, d2, d3, d4, d5, NdM.cells, zeroN]) rfl ?_
      exact .inl ⟨by rw [HA.out]; exact HZ.out, rfl, H10'.out.drop⟩
    · have hz1 : (at_ == 0) = false := by simpa using hz
      have HR : Hid (Calls Tryz.prog 73 #[.pointer (some ⟨tb, 0, none⟩), .agg #[.int .i64 at_, .int .i64 0, .string ⟨#[]⟩, .string ⟨#[]⟩, .slice none 0 0, .int .i64 0]] w4 (ReadPost w0 pp n c V ((w.heap.size, ndO zeroN) :: R) (rootM at_))) :=
        Lib.hid (nread_any H4'.out (List.mem_cons_of_mem _ hT) (by omega) (rootM at_) (by show _ ≤ at_; omega) (by show at_ ≤ _; omega))
      have HZ := Lib.hid hz
      clear hz
      go_wp2_with fail
      refine HR.out.mono ?_
      obtain ⟨xr, hxr⟩ : ∃ xr, rootM at_ = xr := ⟨_, rfl⟩
      have HXR := Lib.hid hxr
      rw [hxr]
      clear hxr
      rintro e w5 (⟨hP, rfl, H5⟩ | ⟨y, g, hP, hG, hfr, rfl, H5⟩)
      · obtain ⟨W10, hst, H10⟩ := H5.storeN HRB.out (by omega) xr
        have H10' := Lib.hid H10
        have HP := Lib.hid hP
        clear H10 H5 hP
        go_wp2_with fail
        obtain ⟨d0, d1, d2, d3, d4, d5⟩ := nd_cells (H10'.out.mem List.mem_cons_self)
        simp only at d0 d1 d2 d3 d4 d5
        refine bodyPost_ret (v := .tuple #[.agg xr.cells, .int .i64 6]) (by simp [results, Tryz.results34, go_sem, d0, d1, d2, d3, d4, d5, NdM.cells]) rfl ?_
        refine .inr ⟨by rw [HA.out]; exact HZ.out, .inl ⟨by rw [HA.out, HXR.out]; exact HP.out, by rw [HA.out, HXR.out], H10'.out.drop⟩⟩
      · have HFR := Lib.hid (And.intro hfr.1 fun (z : Nat × Obj) (hz : z ∈ R) => hfr.2 z (List.mem_cons_of_mem _ hz))
        clear hfr
        have hgn : g ≠ w.heap.size := fun e => by
          have h1 := H5.mem List.mem_cons_self
          have h2 := H5.mem (List.mem_cons_of_mem _ List.mem_cons_self)
          simp only at h1 h2
          rw [e, h2] at h1
          exact absurd (Option.some.inj h1) (by unfold ndO rowO; simp)
        obtain ⟨W10, hst, H10⟩ := (H5.turn).storeN (fun z hz e => by
          rcases List.mem_cons.1 hz with rfl | hz
          · exact hgn e
          · exact HRB.out z hz e) (by omega) y
        have H10' := Lib.hid H10
        have HP := Lib.hid (And.intro hP hG)
        clear H10 H5 hP hG
        go_wp2_with fail
        obtain ⟨d0, d1, d2, d3, d4, d5⟩ := nd_cells (H10'.out.mem List.mem_cons_self)
        simp only at d0 d1 d2 d3 d4 d5
        refine bodyPost_ret (v := .tuple #[.agg y.cells, .int .i64 0]) (by simp [results, Tryz.results34, go_sem, d0, d1, d2, d3, d4, d5, NdM.cells]) rfl ?_
        refine .inr ⟨by rw [HA.out]; exact HZ.out, .inr ⟨y, g, by rw [HA.out, HXR.out]; exact HP.out.1, by rw [HA.out, HXR.out]; exact HP.out.2, HFR.out, rfl, H10'.out.drop⟩⟩
/-- What lies where a pair is. -/
def prO (p : Pr) : Obj := .cells #[.string p.key, .string p.val] 47 (0, 0)
/-- Up to where the keys of a page below may go. -/
def hiM (x : NdM) (j : Nat) : ByteArray := match x.L[j + 1]? with | some q => q.key | none => x.high
set_option maxHeartbeats 1000000 in
theorem below_any (H : PV w0 pp n c V R w) (hT : (tb, treeO pp i) ∈ R) (hn : 0 < n) (x : NdM) (hk : Kn R x.sl x.L) (hl : 2 ≤ x.level ∧ x.level ≤ 255) (hsm : x.L.length ≤ 4096) (j : Nat) (p : Pr) (hp : x.L[j]? = some p) (hv : p.val.size = 2) :
    Calls Tryz.prog 59 #[.pointer (some ⟨tb, 0, none⟩), .agg x.cells, .int .i64 j] w (ReadPost w0 pp n c V R (kidM x p (hiM x j))) := by
  have hj := (List.getElem?_eq_some_iff.1 hp).1
  have H3 := ((H.push (ndO x)).push (ndO zeroN)).push (prO p)
  have hlt0 := H.below.size
  rw [show (w.alloc (ndO x)).heap.size = w.heap.size + 1 by simp, show ((w.alloc (ndO x)).alloc (ndO zeroN)).heap.size = w.heap.size + 1 + 1 by simp] at H3
  have HRB : Hid (∀ y ∈ R, y.1 < w.heap.size) := Lib.hid fun y hy => H.lt hy
  have hnb := numP_b p.val
  have hb2 : Below w.heap.size w ((w.alloc (ndO x)).alloc (ndO zeroN)) := by go_grown
  obtain ⟨g, o, hsl, hg, c1, c2⟩ := ((H.on hb2).kn hk).at hp
  obtain ⟨W, hW⟩ : ∃ W, ((w.alloc (ndO x)).alloc (ndO zeroN)).alloc (prO p) = W := ⟨_, rfl⟩
  rw [hW] at H3
  have HW := Lib.hid hW
  have HU := Lib.hid (fun w => unnumber_any p.val w hv)
  have HP := Lib.hid hp
  have hkid : (0 : Int) ≤ x.level - 1 := by omega
  have hz2 : ((w.alloc (ndO x)).alloc (ndO zeroN)).heap.size = w.heap.size + 1 + 1 := by simp
  have q0 := nd_cells (w := (w.alloc (ndO x)).alloc (ndO zeroN)) (b := w.heap.size) (x := x) ((Below.heap_alloc _ _ _ (by simp)).trans (heap_alloc_new _ _))
  obtain ⟨d0, d1, d2, d3, d4, d5⟩ := q0
  rw [hsl] at d4
  obtain ⟨W2, hW2⟩ : ∃ W2, (w.alloc (ndO x)).alloc (ndO zeroN) = W2 := ⟨_, rfl⟩
  rw [hW2] at d0 d1 d2 d3 d4 d5 c1 c2 hz2 hg
  have HW2 := Lib.hid hW2
  have hW3 : W2.alloc (prO p) = W := by rw [← hW2]; exact HW.out
  obtain ⟨e0, e1, e2, e3, e4, e5⟩ := nd_cells (H3.mem (List.mem_cons_of_mem _ (List.mem_cons_of_mem _ List.mem_cons_self)))
  have m := H3.mem List.mem_cons_self
  unfold prO at m
  have m0 : W.cell? ⟨w.heap.size + 1 + 1, 0, none⟩ = some (.string p.key) := by rw [cell_of_row _ _ _ _ _ _ m]; rfl
  have m1 : W.cell? ⟨w.heap.size + 1 + 1, 1, none⟩ = some (.string p.val) := by rw [cell_of_row _ _ _ _ _ _ m]; rfl
  simp only at e0 e1 e2 e3 e4 e5
  rw [hsl] at e4
  have HD := Lib.hid (And.intro e0 (And.intro e1 (And.intro e2 (And.intro e3 (And.intro e4 (And.intro e5 (And.intro m0 m1)))))))
  have H3' := Lib.hid H3
  have HK := Lib.hid hk
  have HSL := Lib.hid hsl
  have HWW := Lib.hid hW3
  clear H H3 hW hv hp hb2 hW2 hk hsl hW3 e0 e1 e2 e3 e4 e5 m m0 m1
  unfold NdM.cells
  go_enter Tryz.func59, Tryz.ntmps59
  go_upto_region 1 with (fail)
  rw [show ((w.alloc (.cells #[.int .i64 x.at_, .int .i64 x.level, .string x.low, .string x.high, .slice x.sl x.L.length x.c, .int .i64 x.next] 70)).alloc (.cells #[.int .i64 0, .int .i64 0, .string ⟨#[]⟩, .string ⟨#[]⟩, .slice none 0 0, .int .i64 0] 70)) = W2 from HW2.out]
  go_wp2_with fail
  rw [show W2.alloc (.cells #[.string p.key, .string p.val] 47) = W from HWW.out]
  obtain ⟨e0, e1, e2, e3, e4, e5, m0, m1⟩ := HD.out
  clear d0 d1 d2 d3 d4 d5 c1 c2 hg
  have hw : IntKind.i64.wrap (x.level - 1) = x.level - 1 := IntWalk.i64_in _ (by omega)
  have hl8 : w.heap.size + 1 + 1 < W.heap.size := H3'.out.lt (x := (w.heap.size + 1 + 1, prO p)) List.mem_cons_self
  have hst : ∀ q, (storeS 70 (.pointer (some ⟨W.heap.size, 0, none⟩)) (.agg #[.int .i64 (numP p.val), .int .i64 (x.level - 1), .string p.key, .string x.high, .slice none 0 0, .int .i64 0])).run Tryz.prog ((W.alloc (.cells #[.int .i64 0, .int .i64 0, .string ⟨#[]⟩, .string ⟨#[]⟩, .slice none 0 0, .int .i64 0] 70)).drewN q) = .ok () ((W.drewN q).alloc (ndO (kidM x p x.high))) := fun q => store_nd_fresh (W.drewN q) (kidM x p x.high)
  have hst2 : ∀ q, (storeS 70 (.pointer (some ⟨W.heap.size, 0, none⟩)) (.agg #[.int .i64 (numP p.val), .int .i64 (x.level - 1), .string p.key, .string x.high, .slice none 0 0, .int .i64 0])).run Tryz.prog ((W.drewN q).alloc (.cells #[.int .i64 0, .int .i64 0, .string ⟨#[]⟩, .string ⟨#[]⟩, .slice none 0 0, .int .i64 0] 70)) = .ok () ((W.drewN q).alloc (ndO (kidM x p x.high))) := fun q => store_nd_fresh (W.drewN q) (kidM x p x.high)
  go_upto_region 3 with fail
  go_cut [9] (fun s9 wx => ∃ nb, s9 = .pointer (some ⟨nb, 0, none⟩) ∧ W.heap.size ≤ nb ∧ PV w0 pp n c V ((nb, ndO (kidM x p x.high)) :: (w.heap.size + 1 + 1, prO p) :: (w.heap.size + 1, ndO zeroN) :: (w.heap.size, ndO x) :: R) wx)
  case first =>
    clear HD e0 e2 e4 e5 HW HW2 HWW HP HK HSL HRB hl hsm hj hlt0 hnb hkid hz2
    go_region_held3 (fun w' => w'.cell? ⟨w.heap.size, 1, none⟩ = some (.int .i64 x.level) ∧ w'.cell? ⟨w.heap.size, 3, none⟩ = some (.string x.high) ∧ w'.cell? ⟨w.heap.size + 1 + 1, 0, none⟩ = some (.string p.key) ∧ w'.cell? ⟨w.heap.size + 1 + 1, 1, none⟩ = some (.string p.val)) (go_keep)
      (first | (go_at_call 103; refine (HU.out _).mono ?_; rintro e _ ⟨rfl, nq, rfl⟩))
    all_goals go_wp2_with fail
    all_goals go_simp
    all_goals go_meet
    all_goals exact ⟨_, rfl, Nat.le_refl _, (H3'.out.on (w' := W.drewN (1 + nq)) ⟨rfl, rfl, rfl, Nat.le_refl _, fun _ _ => rfl⟩).push (ndO (kidM x p x.high))⟩
  case rest =>
    obtain ⟨nb, rfl, hnb2, H6⟩ := hcut
    clear e0 e1 e2 e3 e4 e5 m0 m1 hst hst2 hw HD
    obtain ⟨e0, e1, e2, e3, e4, e5⟩ := nd_cells (H6.mem (x := (w.heap.size, ndO x)) (by simp))
    simp only at e0 e1 e2 e3 e4 e5
    rw [HSL.out] at e4
    have hlt : ∀ y ∈ (w.heap.size + 1 + 1, prO p) :: (w.heap.size + 1, ndO zeroN) :: (w.heap.size, ndO x) :: R, y.1 ≠ nb := fun y hy e => by
      have := H3'.out.lt hy
      omega
    by_cases hq : j + 1 < x.L.length
    · obtain ⟨q, hq2⟩ : ∃ q, x.L[j + 1]? = some q := ⟨_, List.getElem?_eq_getElem hq⟩
      obtain ⟨g', o', hsl', hg', r1, r2⟩ := (H6.kn (HK.out.mono fun y hy => by simp [hy])).at hq2
      rw [HSL.out] at hsl'
      cases hsl'
      have HX : Hid (hiM x j = q.key) := by
        refine Lib.hid ?_
        unfold hiM
        rw [hq2]
      have H7 := H6.into hlt (by decide) (by omega) 3 (.string q.key)
      obtain ⟨f0, f1, f2, f3, f4, f5⟩ := nd_cells (H6.mem List.mem_cons_self)
      have f6 := nd_thaw (H6.mem List.mem_cons_self) 3
      simp only at f3 f6
      obtain ⟨W7, hW7⟩ : ∃ W7, wc.setCell ⟨nb, 3, none⟩ (.string q.key) = W7 := ⟨_, rfl⟩
      rw [hW7] at H7
      have H7 : PV w0 pp n c V ((nb, ndO (kidM x p q.key)) :: (w.heap.size + 1 + 1, prO p) :: (w.heap.size + 1, ndO zeroN) :: (w.heap.size, ndO x) :: R) W7 := H7
      have hd1 : decide ((j : Int) + 1 < (x.L.length : Int)) = true := decide_eq_true (by omega)
      clear f0 f1 f2 f4 f5 hq2 H6
      have HR : Hid (Calls Tryz.prog 73 #[.pointer (some ⟨tb, 0, none⟩), .agg #[.int .i64 (numP p.val), .int .i64 (x.level - 1), .string p.key, .string q.key, .slice none 0 0, .int .i64 0]] W7 (ReadPost w0 pp n c V ((nb, ndO (kidM x p q.key)) :: (w.heap.size + 1 + 1, prO p) :: (w.heap.size + 1, ndO zeroN) :: (w.heap.size, ndO x) :: R) (kidM x p q.key))) :=
        Lib.hid (nread_any H7 (List.mem_cons_of_mem _ (List.mem_cons_of_mem _ (List.mem_cons_of_mem _ (List.mem_cons_of_mem _ hT)))) hn (kidM x p q.key) (by show _ ≤ numP p.val; omega) (by show numP p.val ≤ _; omega))
      obtain ⟨k0, k1, k2, k3, k4, k5⟩ := nd_cells (H7.mem List.mem_cons_self)
      simp only [kidM, List.length_nil] at k0 k1 k2 k3 k4 k5
      have HNB := Lib.hid (H7.ne List.mem_cons_self rfl (by decide))
      clear H7
      go_wp2_with fail
      refine HR.out.mono ?_
      rw [← HX.out]
      obtain ⟨xr, hxr⟩ : ∃ xr, kidM x p (hiM x j) = xr := ⟨_, rfl⟩
      have HXR := Lib.hid hxr
      rw [hxr]
      clear hxr
      rintro e w5 (⟨hP, rfl, H9⟩ | ⟨y, g9, hP, hG, hfr, rfl, H9⟩)
      · have H9b : PV w0 pp n c V ((w.heap.size + 1, ndO zeroN) :: R) w5 := H9.sub _ fun z hz => by
          simp only [List.mem_cons] at hz ⊢
          rcases hz with h | h
          · exact .inr (.inr (.inl h))
          · exact .inr (.inr (.inr (.inr h)))
        obtain ⟨W10, hst, H10⟩ := H9b.storeN (fun z hz e => by have := HRB.out z hz; omega) (by omega) xr
        have H10' := Lib.hid H10
        have HP9 := Lib.hid hP
        clear H10 H9 H9b hP k0 k1 k2 k3 k4 k5
        go_wp2_with fail
        obtain ⟨d0, d1, d2, d3, d4, d5⟩ := nd_cells (H10'.out.mem List.mem_cons_self)
        simp only at d0 d1 d2 d3 d4 d5
        refine bodyPost_ret (v := .tuple #[.agg xr.cells, .int .i64 6]) (by simp [results, Tryz.results59, go_sem, d0, d1, d2, d3, d4, d5, NdM.cells]) rfl ?_
        exact .inl ⟨by rw [HXR.out]; exact HP9.out, by rw [HXR.out], H10'.out.drop⟩
      · have HFR := Lib.hid (And.intro hfr.1 fun (z : Nat × Obj) (hz : z ∈ R) => hfr.2 z (List.mem_cons_of_mem _ (List.mem_cons_of_mem _ (List.mem_cons_of_mem _ (List.mem_cons_of_mem _ hz)))))
        clear hfr
        have hgn : g9 ≠ w.heap.size + 1 := fun e => by
          have h1 := H9.mem List.mem_cons_self
          have h2 := H9.mem (x := (w.heap.size + 1, ndO zeroN)) (by simp)
          simp only at h1 h2
          rw [e, h2] at h1
          exact absurd (Option.some.inj h1) (by unfold ndO rowO; simp)
        have H9b : PV w0 pp n c V ((w.heap.size + 1, ndO zeroN) :: (g9, rowO y.L) :: R) w5 := H9.sub _ fun z hz => by
          simp only [List.mem_cons] at hz ⊢
          rcases hz with h | h | h
          · exact .inr (.inr (.inr (.inl h)))
          · exact .inl h
          · exact .inr (.inr (.inr (.inr (.inr h))))
        obtain ⟨W10, hst, H10⟩ := H9b.storeN (fun z hz e => by
          rcases List.mem_cons.1 hz with rfl | hz
          · exact hgn e
          · have := HRB.out z hz; omega) (by omega) y
        have H10' := Lib.hid H10
        have HP9 := Lib.hid (And.intro hP hG)
        clear H10 H9 H9b hP hG k0 k1 k2 k3 k4 k5
        go_wp2_with fail
        obtain ⟨d0, d1, d2, d3, d4, d5⟩ := nd_cells (H10'.out.mem List.mem_cons_self)
        simp only at d0 d1 d2 d3 d4 d5
        refine bodyPost_ret (v := .tuple #[.agg y.cells, .int .i64 0]) (by simp [results, Tryz.results59, go_sem, d0, d1, d2, d3, d4, d5, NdM.cells]) rfl ?_
        exact .inr ⟨y, g9, by rw [HXR.out]; exact HP9.out.1, by rw [HXR.out]; exact HP9.out.2, HFR.out, rfl, H10'.out.drop⟩
    · have HX : Hid (hiM x j = x.high) := by
        refine Lib.hid ?_
        unfold hiM
        rw [List.getElem?_eq_none (by omega)]
      have H7 := H6
      obtain ⟨W7, hW7⟩ : ∃ W7, wc = W7 := ⟨_, rfl⟩
      subst hW7
      have hd1 : decide ((j : Int) + 1 < (x.L.length : Int)) = false := decide_eq_false (by omega)
      clear H6
      have HR : Hid (Calls Tryz.prog 73 #[.pointer (some ⟨tb, 0, none⟩), .agg #[.int .i64 (numP p.val), .int .i64 (x.level - 1), .string p.key, .string x.high, .slice none 0 0, .int .i64 0]] wc (ReadPost w0 pp n c V ((nb, ndO (kidM x p x.high)) :: (w.heap.size + 1 + 1, prO p) :: (w.heap.size + 1, ndO zeroN) :: (w.heap.size, ndO x) :: R) (kidM x p x.high))) :=
        Lib.hid (nread_any H7 (List.mem_cons_of_mem _ (List.mem_cons_of_mem _ (List.mem_cons_of_mem _ (List.mem_cons_of_mem _ hT)))) hn (kidM x p x.high) (by show _ ≤ numP p.val; omega) (by show numP p.val ≤ _; omega))
      obtain ⟨k0, k1, k2, k3, k4, k5⟩ := nd_cells (H7.mem List.mem_cons_self)
      simp only [kidM, List.length_nil] at k0 k1 k2 k3 k4 k5
      have HNB := Lib.hid (H7.ne List.mem_cons_self rfl (by decide))
      clear H7
      go_wp2_with fail
      refine HR.out.mono ?_
      rw [← HX.out]
      obtain ⟨xr, hxr⟩ : ∃ xr, kidM x p (hiM x j) = xr := ⟨_, rfl⟩
      have HXR := Lib.hid hxr
      rw [hxr]
      clear hxr
      rintro e w5 (⟨hP, rfl, H9⟩ | ⟨y, g9, hP, hG, hfr, rfl, H9⟩)
      · have H9b : PV w0 pp n c V ((w.heap.size + 1, ndO zeroN) :: R) w5 := H9.sub _ fun z hz => by
          simp only [List.mem_cons] at hz ⊢
          rcases hz with h | h
          · exact .inr (.inr (.inl h))
          · exact .inr (.inr (.inr (.inr h)))
        obtain ⟨W10, hst, H10⟩ := H9b.storeN (fun z hz e => by have := HRB.out z hz; omega) (by omega) xr
        have H10' := Lib.hid H10
        have HP9 := Lib.hid hP
        clear H10 H9 H9b hP k0 k1 k2 k3 k4 k5
        go_wp2_with fail
        obtain ⟨d0, d1, d2, d3, d4, d5⟩ := nd_cells (H10'.out.mem List.mem_cons_self)
        simp only at d0 d1 d2 d3 d4 d5
        refine bodyPost_ret (v := .tuple #[.agg xr.cells, .int .i64 6]) (by simp [results, Tryz.results59, go_sem, d0, d1, d2, d3, d4, d5, NdM.cells]) rfl ?_
        exact .inl ⟨by rw [HXR.out]; exact HP9.out, by rw [HXR.out], H10'.out.drop⟩
      · have HFR := Lib.hid (And.intro hfr.1 fun (z : Nat × Obj) (hz : z ∈ R) => hfr.2 z (List.mem_cons_of_mem _ (List.mem_cons_of_mem _ (List.mem_cons_of_mem _ (List.mem_cons_of_mem _ hz)))))
        clear hfr
        have hgn : g9 ≠ w.heap.size + 1 := fun e => by
          have h1 := H9.mem List.mem_cons_self
          have h2 := H9.mem (x := (w.heap.size + 1, ndO zeroN)) (by simp)
          simp only at h1 h2
          rw [e, h2] at h1
          exact absurd (Option.some.inj h1) (by unfold ndO rowO; simp)
        have H9b : PV w0 pp n c V ((w.heap.size + 1, ndO zeroN) :: (g9, rowO y.L) :: R) w5 := H9.sub _ fun z hz => by
          simp only [List.mem_cons] at hz ⊢
          rcases hz with h | h | h
          · exact .inr (.inr (.inr (.inl h)))
          · exact .inl h
          · exact .inr (.inr (.inr (.inr (.inr h))))
        obtain ⟨W10, hst, H10⟩ := H9b.storeN (fun z hz e => by
          rcases List.mem_cons.1 hz with rfl | hz
          · exact hgn e
          · have := HRB.out z hz; omega) (by omega) y
        have H10' := Lib.hid H10
        have HP9 := Lib.hid (And.intro hP hG)
        clear H10 H9 H9b hP hG k0 k1 k2 k3 k4 k5
        go_wp2_with fail
        obtain ⟨d0, d1, d2, d3, d4, d5⟩ := nd_cells (H10'.out.mem List.mem_cons_self)
        simp only at d0 d1 d2 d3 d4 d5
        refine bodyPost_ret (v := .tuple #[.agg y.cells, .int .i64 0]) (by simp [results, Tryz.results59, go_sem, d0, d1, d2, d3, d4, d5, NdM.cells]) rfl ?_
        exact .inr ⟨y, g9, by rw [HXR.out]; exact HP9.out.1, by rw [HXR.out]; exact HP9.out.2, HFR.out, rfl, H10'.out.drop⟩
end
end Go.Proofs.YtkdhlofcdcnjgaaGreat
namespace Go.Proofs.YtkdhlofcdcnjgaaGreat
set_option maxRecDepth 100000
open Go.ChangeShapes Go.WideShapes Go.ChangeAt Go.RowKit Go.PlainAid
open Go.Sort (grow)

attribute [local go_sem ↓ high] store_n
theorem RoundIn.wide {m m' : Nat} {P : Program} {l : Nat} {f : FuncId} {tmps : Array Value} {assign body : Code} {w : World} {R : Ending → World → Prop}
    (h : RoundIn Fence.wide m P l f tmps assign body w R) : RoundIn Fence.wide m' P l f tmps assign body w R := ⟨h.1, fun c cs _ => h.2 c cs (fun d h => by cases h)⟩
theorem YieldAt.wide {m : Nat} (m' : Nat) {P : Program} {l : Nat} {args : Array Value} {W : World} {R : Ending → World → Prop} (h : YieldAt Fence.wide m P l args W R) : YieldAt Fence.wide m' P l args W R := by
  obtain ⟨fn, tmps, assign, body, hy, hR⟩ := h
  exact ⟨fn, tmps, assign, body, hy, RoundIn.wide hR⟩
/-- None of these blocks is one of a loop's two, unless it is of cells. -/
def GB (B : Nat) (X : List (Nat × Obj)) : Prop := ∀ x ∈ X, x.2.isCells = true ∨ (x.1 ≠ B ∧ x.1 ≠ B + 1)
theorem GB.nil (B : Nat) : GB B [] := fun _ h => by cases h
theorem GB.cons {B b : Nat} {o : Obj} {X : List (Nat × Obj)} (h : GB B X) (ho : o.isCells = true) : GB B ((b, o) :: X) := fun x hx => by
  rcases List.mem_cons.1 hx with rfl | hx
  · exact .inl ho
  · exact h x hx
theorem GB.app {B : Nat} {X Y : List (Nat × Obj)} (h : GB B X) (k : GB B Y) : GB B (X ++ Y) := fun x hx => (List.mem_append.1 hx).elim (h x) (k x)
theorem GB.sub {B : Nat} {X Y : List (Nat × Obj)} (h : GB B X) (hs : ∀ y ∈ Y, y ∈ X) : GB B Y := fun x hx => h x (hs x hx)
/-- No block of the one list is one of the other's. -/
def Ap (X Y : List (Nat × Obj)) : Prop := ∀ x ∈ X, ∀ y ∈ Y, x.1 ≠ y.1
theorem Ap.tail {x : Nat × Obj} {X Y : List (Nat × Obj)} (h : Ap (x :: X) Y) : Ap X Y := fun z hz => h z (List.mem_cons_of_mem _ hz)
theorem Ap.cons {x : Nat × Obj} {X Y : List (Nat × Obj)} (h : Ap X Y) (hx : ∀ y ∈ Y, x.1 ≠ y.1) : Ap (x :: X) Y := fun z hz => by
  rcases List.mem_cons.1 hz with rfl | hz
  · exact hx
  · exact h z hz
theorem Ap.push {w0 w : World} {pp n c : Nat} {V : Int → ByteArray} {X Y Z : List (Nat × Obj)} (h : Ap X Y) (H : PV w0 pp n c V (Z ++ Y) w) (o : Obj) : Ap ((w.heap.size, o) :: X) Y := h.cons fun y hy e => by
  have := H.lt (x := y) (List.mem_append_right _ hy)
  simp only at e
  omega
/-- What a page is answered with. -/
def errV (b : Bool) : Value := .int .i64 (if b then 6 else 0)
section
variable {w0 : World} {pp n c tb : Nat} {V : Int → ByteArray} {i : Int}
/-- A page may be handed to a round. -/
structure FitN (X : List (Nat × Obj)) (x : NdM) (b : Bool) : Prop where
  kn : b = false → Kn X x.sl x.L
  law : b = false → Lawful x.level x.low x.high x.L
  small : x.L.length ≤ 4096
  mod : b = false → Mod x.L
  top : x.level ≤ 255
  cap : b = false → x.L.length ≤ x.c
  num : 0 ≤ x.at_ ∧ x.at_ ≤ 4294967295
/-- The rounds of a loop over pages: what each keeps. -/
def Rounds (w0 : World) (pp n c : Nat) (V : Int → ByteArray) (B l : Nat) (K Kx : List (NdD × Bool) → List (Nat × Obj) → Prop) : Prop :=
  ∀ (pre : List (NdD × Bool)) (X Rc : List (Nat × Obj)) (x : NdM) (b : Bool) (W : World), K pre Rc ∧ Ap X Rc → PV w0 pp n c V (X ++ Rc) W → FitN X x b → GB B X →
    YieldAt Fence.wide 7 Tryz.prog l #[.agg x.cells, errV b] W fun e W' =>
      (e = .returned (.bool true) ∧ ∃ Rc', (K (pre ++ [(x.D, b)]) Rc' ∧ Ap X Rc') ∧ PV w0 pp n c V (X ++ Rc') W') ∨ (e = .returned (.bool false) ∧ ∃ Rc', (Kx (pre ++ [(x.D, b)]) Rc' ∧ Ap X Rc') ∧ PV w0 pp n c V (X ++ Rc') W')
/-- What a walk leaves. -/
def WalkPost (w0 : World) (pp n c : Nat) (V : Int → ByteArray) (K Kx : List (NdD × Bool) → List (Nat × Obj) → Prop) (X : List (Nat × Obj)) (pre l : List (NdD × Bool)) (e : Ending) (W' : World) : Prop :=
  (e = .returned (.bool true) ∧ ∃ Rc', (K (pre ++ l) Rc' ∧ Ap X Rc') ∧ PV w0 pp n c V (X ++ Rc') W') ∨ (e = .returned (.bool false) ∧ ∃ q Rc', q <+: l ∧ (Kx (pre ++ q) Rc' ∧ Ap X Rc') ∧ PV w0 pp n c V (X ++ Rc') W')
theorem visK_prefix {out : Int → Bool} {f : ByteArray} {k : Nat} {x : NdD} {t m m' : Nat} (h : m ≤ m') : visK V out f k x t m <+: visK V out f k x t m' := by
  obtain ⟨d, rfl⟩ := Nat.exists_eq_add_of_le h
  induction d with
  | zero => exact List.prefix_refl _
  | succ d ih =>
    rw [← Nat.add_assoc, visK_succ]
    exact (ih (by omega)).trans (List.prefix_append _ _)
/-- What a read of a page below is, over no memory. -/
theorem kid_D {x : NdM} {j : Nat} {p : Pr} (hp : x.L[j]? = some p) : (kidM x p (hiM x j)).D = kidN x.D j := by
  have hp2 : x.D.L[j]? = some p := hp
  have h1 : hiM x j = match x.D.L[j + 1]? with | some q => q.key | none => x.D.high := rfl
  unfold kidN
  rw [hp2, h1]
  rfl
theorem rdN_some {out : Int → Bool} {x y : NdM} {g : Nat} (hr : rdP V out x.D = some (y.level, y.L)) (hG : Got x y g) : rdN V out x.D = (y.D, false) := by
  unfold rdN
  rw [hr]
  show (({ x.D with level := y.level, L := y.L } : NdD), false) = (y.D, false)
  unfold NdM.D
  rw [hG.at_, hG.low, hG.high]
theorem rdN_none {out : Int → Bool} {x : NdD} (hr : rdP V out x = none) : rdN V out x = (x, true) := by
  unfold rdN
  rw [hr]
theorem fit_some {x y : NdM} {g : Nat} {R X : List (Nat × Obj)} {W : World} (H : PV w0 pp n c V R W) (hr : rdP V (outB n (V 0)) x.D = some (y.level, y.L)) (hG : Got x y g) (hg : (g, rowO y.L) ∈ X) : FitN X y false := by
  obtain ⟨ho, hu, hl, hlv, hlaw⟩ := rdP_some hr
  have hin : 2 ≤ x.at_ ∧ x.at_ < n := by
    have ho : outB n (V 0) x.at_ = true := ho
    unfold outB at ho
    simp only [Bool.and_eq_true, decide_eq_true_eq] at ho
    omega
  have hsz := H.size (k := x.at_) (by omega) hin.2
  have hlen := unpP_len hu
  refine ⟨fun _ => by rw [hG.sl]; exact Kn.of hg, fun _ => by rw [hG.low, hG.high]; exact hlaw, by omega, fun _ => unpP_mod (by show (V x.at_).size ≤ _; omega) hu, ?_, fun _ => by rw [hG.c]; exact Nat.le_refl _, by have := H.pages; rw [hG.at_]; omega⟩
  rw [hl]
  exact bt_le _ _
set_option maxHeartbeats 4000000 in
theorem walk_bad (B l : Nat) (K Kx : List (NdD × Bool) → List (Nat × Obj) → Prop) (hY : Rounds w0 pp n c V B l K Kx) (from_ : ByteArray) (k : Nat)
    (pre : List (NdD × Bool)) (X Rc : List (Nat × Obj)) (x : NdM) (W : World) (hK : K pre Rc ∧ Ap X Rc) (H : PV w0 pp n c V (X ++ Rc) W) (hF : FitN X x true) (hG : GB B X) :
      CallsIn Fence.wide 8 Tryz.prog 75 #[.pointer (some ⟨tb, 0, none⟩), .agg x.cells, errV true, .string from_, .func (.yield l) #[] #[]] W (WalkPost w0 pp n c V K Kx X pre (visP V (outB n (V 0)) from_ k (x.D, true))) := by
  rw [visP_bad]
  have H1 := H.push (ndO x)
  have hF1 : FitN ((W.heap.size, ndO x) :: X) x true := ⟨fun h => (hF.kn h).mono fun y hy => List.mem_cons_of_mem _ hy, hF.law, hF.small, hF.mod, hF.top, hF.cap, hF.num⟩
  have HY := hY pre ((W.heap.size, ndO x) :: X) Rc x true (W.alloc (ndO x)) ⟨hK.1, hK.2.push H _⟩ H1 hF1 (hG.cons rfl)
  obtain ⟨d0, d1, d2, d3, d4, d5⟩ := nd_cells (H1.mem List.mem_cons_self)
  simp only at d0 d1 d2 d3 d4 d5
  obtain ⟨fn, tmps, assign, body, hyy, hR⟩ := HY
  have HR := Lib.hid hR
  have HF := Lib.hid hF1
  obtain ⟨W1, hW1⟩ : ∃ W1, W.alloc (ndO x) = W1 := ⟨_, rfl⟩
  rw [hW1] at HR
  have HW1 := Lib.hid hW1
  clear hR hF hF1 H H1 hW1 hK
  unfold ndO at hyy d0 d1 d2 d3 d4 d5
  unfold NdM.cells at hyy d0 d1 d2 d3 d4 d5 ⊢
  refine callsIn_of_wp Tryz.func75 rfl trivial ?_ rfl
  simp only [Tryz.ntmps75, List.size_toArray, List.length_cons, List.length_nil, Nat.reduceAdd, Nat.reduceSub, Array.replicate_succ, Array.replicate_zero, List.push_toArray, List.append_toArray, List.nil_append, List.cons_append]
  gi_wp2_with fail
  rw [show (W.alloc (.cells #[.int .i64 x.at_, .int .i64 x.level, .string x.low, .string x.high, .slice x.sl x.L.length x.c, .int .i64 x.next] 70)) = W1 from HW1.out]
  refine HR.out.mono ?_
  rintro e W2 (⟨rfl, Rc1, hK1, H2⟩ | ⟨rfl, Rc1, hK1, H2⟩)
  · have HK1 := Lib.hid hK1
    have H2' := Lib.hid H2
    clear d0 d1 d2 d3 d4 d5 hK1 HR hyy H2
    unfold errV
    gi_wp2
    go_returns
    exact .inl ⟨rfl, Rc1, ⟨HK1.out.1, HK1.out.2.tail⟩, H2'.out.drop⟩
  · have HK1 := Lib.hid hK1
    have H2' := Lib.hid H2
    clear d0 d1 d2 d3 d4 d5 hK1 HR hyy H2
    gi_wp2
    go_returns
    exact .inr ⟨rfl, [(x.D, true)], Rc1, List.prefix_refl _, ⟨HK1.out.1, HK1.out.2.tail⟩, H2'.out.drop⟩
set_option maxHeartbeats 8000000 in
theorem walk_any (B l : Nat) (K Kx : List (NdD × Bool) → List (Nat × Obj) → Prop) (hY : Rounds w0 pp n c V B l K Kx) (hn : 0 < n) (from_ : ByteArray) (k : Nat) :
    ∀ (pre : List (NdD × Bool)) (X Rc : List (Nat × Obj)) (x : NdM) (b : Bool) (W : World), (tb, treeO pp i) ∈ X → K pre Rc ∧ Ap X Rc → PV w0 pp n c V (X ++ Rc) W → FitN X x b → (b = false → x.level ≤ k) → GB B X →
      CallsIn Fence.wide 8 Tryz.prog 75 #[.pointer (some ⟨tb, 0, none⟩), .agg x.cells, errV b, .string from_, .func (.yield l) #[] #[]] W (WalkPost w0 pp n c V K Kx X pre (visP V (outB n (V 0)) from_ k (x.D, b))) := by
  induction k with
  | zero =>
    intro pre X Rc x b W hT hK H hF hk hG
    cases b with
    | false =>
      have := hk rfl
      have := (hF.law rfl).pos
      omega
    | true => exact walk_bad B l K Kx hY from_ 0 pre X Rc x W hK H hF hG
  | succ k ih =>
    intro pre X Rc x b W hT hK H hF hk hG
    cases b with
    | true => exact walk_bad B l K Kx hY from_ (k + 1) pre X Rc x W hK H hF hG
    | false =>
      have hlaw := hF.law rfl
      have hk1 := hk rfl
      have htop := hF.top
      have hpos := hlaw.pos
      have HLAW := Lib.hid hlaw
      have HGB := Lib.hid hG
      clear hk
      have H1 := H.push (ndO x)
      have hF1 : FitN ((W.heap.size, ndO x) :: X) x false := ⟨fun h => (hF.kn h).mono fun y hy => List.mem_cons_of_mem _ hy, hF.law, hF.small, hF.mod, hF.top, hF.cap, hF.num⟩
      have HY := hY pre ((W.heap.size, ndO x) :: X) Rc x false (W.alloc (ndO x)) ⟨hK.1, hK.2.push H _⟩ H1 hF1 (hG.cons rfl)
      obtain ⟨d0, d1, d2, d3, d4, d5⟩ := nd_cells (H1.mem List.mem_cons_self)
      simp only at d0 d1 d2 d3 d4 d5
      obtain ⟨fn, tmps, assign, body, hyy, hR⟩ := HY
      have HR := Lib.hid hR
      have HF := Lib.hid hF1
      obtain ⟨W1, hW1⟩ : ∃ W1, W.alloc (ndO x) = W1 := ⟨_, rfl⟩
      rw [hW1] at HR
      have HW1 := Lib.hid hW1
      clear hR hF hF1 H H1 hW1 hK hG
      unfold ndO at hyy d0 d1 d2 d3 d4 d5
      unfold NdM.cells at hyy d0 d1 d2 d3 d4 d5 ⊢
      refine callsIn_of_wp Tryz.func75 rfl trivial ?_ rfl
      simp only [Tryz.ntmps75, List.size_toArray, List.length_cons, List.length_nil, Nat.reduceAdd, Nat.reduceSub, Array.replicate_succ, Array.replicate_zero, List.push_toArray, List.append_toArray, List.nil_append, List.cons_append]
      clear hlaw
      gi_wp2_with fail
      rw [show (W.alloc (.cells #[.int .i64 x.at_, .int .i64 x.level, .string x.low, .string x.high, .slice x.sl x.L.length x.c, .int .i64 x.next] 70)) = W1 from HW1.out]
      refine HR.out.mono ?_
      rintro e W2 (⟨rfl, Rc1, hK1, H2⟩ | ⟨rfl, Rc1, hK1, H2⟩)
      · have HK1 := Lib.hid hK1
        have H2' := Lib.hid H2
        clear d0 d1 d2 d3 d4 d5 hK1 HR hyy
        obtain ⟨d0, d1, d2, d3, d4, d5⟩ := nd_cells (H2.mem List.mem_cons_self)
        simp only at d0 d1 d2 d3 d4 d5
        by_cases h1 : x.level = 1
        · have f1 : (x.level == 1) = true := by simpa using h1
          have HV := Lib.hid (visP_leaf (V := V) (out := outB n (V 0)) (from_ := from_) (k := k) (x := (x.D, false)) (.inr h1))
          clear H2 h1
          unfold errV
          gi_wp2
          go_returns
          exact .inl ⟨rfl, Rc1, by rw [HV.out]; exact ⟨HK1.out.1, HK1.out.2.tail⟩, H2'.out.drop⟩
        · have f1 : (x.level == 1) = false := by simpa using h1
          have HV := Lib.hid (visP_node (V := V) (out := outB n (V 0)) (from_ := from_) (k := k) (x := x.D) h1)
          have hl2 : 2 ≤ x.level ∧ x.level ≤ 255 := ⟨by omega, htop⟩
          have hN := ndIs_of (H2.mem List.mem_cons_self) (H2.kn ((HF.out.kn rfl).mono fun y hy => List.mem_append_left _ hy)) HF.out.small
          have HTW := Lib.hid (toward_any from_ hN (risB_srt HLAW.out.rise))
          have HLK := Lib.hid (lnkB_iff.1 (HLAW.out.links h1))
          have hle := towP_le from_ x.L
          have hsm := HF.out.small
          obtain ⟨t, ht⟩ : ∃ t, towP from_ x.L = t := ⟨_, rfl⟩
          rw [ht] at HTW hle
          have HT := Lib.hid ht
          clear H2 h1 hN ht
          unfold errV
          gi_wp2_with fail
          refine ⟨trivial, (callsIn_wide.2 HTW.out).mono ?_⟩
          rintro e W3 ⟨rfl, hb3⟩
          have H3 := Lib.hid (H2'.out.on hb3)
          clear HTW d0 d1 d2 d3 d4 d5 hb3 H2'
          gi_wp2_with fail
          gi_loopw [11] (fun s wr => ∃ (j : Nat) (Rc' : List (Nat × Obj)), t ≤ j ∧ j ≤ x.L.length ∧ s = .int .i64 j ∧ Hid (K (pre ++ (x.D, false) :: visK V (outB n (V 0)) from_ k x.D t (j - t)) Rc' ∧ Ap ((W.heap.size, ndO x) :: X) Rc') ∧ Hid (PV w0 pp n c V (((W.heap.size, ndO x) :: X) ++ Rc') wr)) (fun s _ => x.L.length - (intOf s).toNat)
          case atStart => exact ⟨t, Rc1, Nat.le_refl _, hle, rfl, by rw [Nat.sub_self, visK_zero]; exact HK1, H3⟩
          case round =>
            obtain ⟨j, Rc', htj, hjl, rfl, HKm, Hm⟩ := hrel
            clear H3 HK1
            obtain ⟨d0, d1, d2, d3, d4, d5⟩ := nd_cells (Hm.out.mem List.mem_cons_self)
            simp only at d0 d1 d2 d3 d4 d5
            by_cases hlt : j < x.L.length
            · obtain ⟨p, hp⟩ : ∃ p, x.L[j]? = some p := ⟨_, List.getElem?_eq_getElem hlt⟩
              have HKD := Lib.hid (kid_D hp)
              have HB : Hid (Calls Tryz.prog 59 #[.pointer (some ⟨tb, 0, none⟩), .agg #[.int .i64 x.at_, .int .i64 x.level, .string x.low, .string x.high, .slice x.sl x.L.length x.c, .int .i64 x.next], .int .i64 j] wr (ReadPost w0 pp n c V (((W.heap.size, ndO x) :: X) ++ Rc') (kidM x p (hiM x j)))) :=
                Lib.hid (below_any Hm.out (List.mem_append_left _ (List.mem_cons_of_mem _ hT)) hn x ((HF.out.kn rfl).mono fun y hy => List.mem_append_left _ hy) hl2 hsm j p hp (HLK.out.1 p (List.mem_of_getElem? hp)))
              clear hp
              gi_wp2_with fail
              refine ⟨trivial, (callsIn_wide.2 HB.out).mono ?_⟩
              have HXL : Hid ((kidM x p (hiM x j)).level = x.level - 1) := Lib.hid rfl
              have HXZ : Hid ((kidM x p (hiM x j)).L = []) := Lib.hid rfl
              have HXN : Hid (0 ≤ (kidM x p (hiM x j)).at_ ∧ (kidM x p (hiM x j)).at_ ≤ 4294967295) := Lib.hid ⟨(numP_b p.val).1, Int.le_trans (numP_b p.val).2 (by decide)⟩
              obtain ⟨xr, hxr⟩ : ∃ xr, kidM x p (hiM x j) = xr := ⟨_, rfl⟩
              rw [hxr] at HXL HKD HXZ HXN
              rw [hxr]
              clear hxr HB d0 d1 d2 d3 d4 d5
              rintro e w5 (⟨hP, rfl, H5⟩ | ⟨y, g, hP, hG, hfr, rfl, H5⟩)
              · have HRD : Hid (rdN V (outB n (V 0)) (kidN x.D j) = (xr.D, true)) := by
                  refine Lib.hid ?_
                  rw [← HKD.out]
                  exact rdN_none hP
                have HFR : Hid (FitN ((w5.heap.size, ndO xr) :: (W.heap.size, ndO x) :: X) xr true) := Lib.hid ⟨(fun h => (by cases h)), (fun h => (by cases h)), (by rw [HXZ.out]; exact Nat.zero_le _), (fun h => (by cases h)), (by rw [HXL.out]; omega), (fun h => (by cases h)), HXN.out⟩
                have H6 := H5.push (ndO xr)
                have hst := store_nd_fresh w5 xr
                obtain ⟨k0, k1, k2, k3, k4, k5⟩ := nd_cells (H6.mem List.mem_cons_self)
                simp only at k0 k1 k2 k3 k4 k5
                have HI : Hid (CallsIn Fence.wide 7 Tryz.prog 75 #[.pointer (some ⟨tb, 0, none⟩), .agg #[.int .i64 xr.at_, .int .i64 xr.level, .string xr.low, .string xr.high, .slice xr.sl xr.L.length xr.c, .int .i64 xr.next], .int .i64 6, .string from_, .func (.yield l) #[] #[]] (w5.alloc (ndO xr)) (WalkPost w0 pp n c V K Kx ((w5.heap.size, ndO xr) :: (W.heap.size, ndO x) :: X) (pre ++ (x.D, false) :: visK V (outB n (V 0)) from_ k x.D t (j - t)) (visP V (outB n (V 0)) from_ k (xr.D, true)))) :=
                  Lib.hid (callsIn_wide.2 (callsIn_wide.1 (ih (pre ++ (x.D, false) :: visK V (outB n (V 0)) from_ k x.D t (j - t)) ((w5.heap.size, ndO xr) :: (W.heap.size, ndO x) :: X) Rc' xr true (w5.alloc (ndO xr)) (by simp [hT]) ⟨HKm.out.1, HKm.out.2.push H5 _⟩ H6 HFR.out (fun h => by cases h) ((HGB.out.cons rfl).cons rfl))))
                have HVS : Hid (visK V (outB n (V 0)) from_ k x.D t (j + 1 - t) = visK V (outB n (V 0)) from_ k x.D t (j - t) ++ visP V (outB n (V 0)) from_ k (xr.D, true)) := by
                  refine Lib.hid ?_
                  rw [show j + 1 - t = (j - t) + 1 by omega, visK_succ, show t + (j - t) = j by omega, HRD.out]
                clear H5 H6 hP
                gi_wp2_with fail
                refine ⟨trivial, HI.out.mono ?_⟩
                rintro e W7 (⟨rfl, Rc2, hK2, H7⟩ | ⟨rfl, q, Rc2, hq, hK2, H7⟩)
                · have HK7 : Hid (K (pre ++ (x.D, false) :: visK V (outB n (V 0)) from_ k x.D t (j + 1 - t)) Rc2 ∧ Ap ((W.heap.size, ndO x) :: X) Rc2) := by
                    refine Lib.hid ?_
                    rw [HVS.out]
                    exact ⟨by simpa using hK2.1, hK2.2.tail⟩
                  have H8 : Hid (PV w0 pp n c V (((W.heap.size, ndO x) :: X) ++ Rc2) W7) := Lib.hid (H7.drop)
                  clear hK2 H7 HI hst k0 k1 k2 k3 k4 k5
                  gi_wp2
                  go_roundw
                  case rel => exact ⟨j + 1, Rc2, by omega, by omega, by go_num, HK7, H8⟩
                  case measure => simp [intOf]; omega
                · have H8 : Hid (PV w0 pp n c V (X ++ Rc2) W7) := Lib.hid ((H7.drop)).drop
                  have HK7 := Lib.hid hK2
                  have HQ := Lib.hid hq
                  clear hK2 H7 HI hst k0 k1 k2 k3 k4 k5 hq
                  gi_wp2
                  go_returns
                  refine .inr ⟨rfl, (x.D, false) :: (visK V (outB n (V 0)) from_ k x.D t (j - t) ++ q), Rc2, ?_, ⟨by simpa using HK7.out.1, HK7.out.2.tail.tail⟩, H8.out⟩
                  rw [HV.out]
                  have hx1 : towP from_ x.D.L = t ∧ x.D.L.length = x.L.length := ⟨HT.out, rfl⟩
                  rw [hx1.1]
                  refine (List.prefix_cons_inj _).2 (List.IsPrefix.trans ?_ (visK_prefix (show j + 1 - t ≤ x.D.L.length - t by rw [hx1.2]; omega)))
                  rw [HVS.out]
                  exact (List.prefix_append_right_inj _).2 HQ.out
              · have HRD : Hid (rdN V (outB n (V 0)) (kidN x.D j) = (y.D, false)) := by
                  refine Lib.hid ?_
                  rw [← HKD.out]
                  exact rdN_some hP hG
                have HFR : Hid (FitN ((w5.heap.size, ndO y) :: (g, rowO y.L) :: (W.heap.size, ndO x) :: X) y false) := Lib.hid (fit_some H5 hP hG (by simp))
                have HLV : Hid (y.level ≤ k) := by
                  refine Lib.hid ?_
                  rcases (rdP_some hP).2.2.2.1 with h | h
                  · have h : xr.level = 0 := h
                    rw [HXL.out] at h
                    omega
                  · have h : xr.level = y.level := h
                    rw [HXL.out] at h
                    omega
                have H6 := H5.push (ndO y)
                have hst := store_nd_fresh w5 y
                obtain ⟨k0, k1, k2, k3, k4, k5⟩ := nd_cells (H6.mem List.mem_cons_self)
                simp only at k0 k1 k2 k3 k4 k5
                have HI : Hid (CallsIn Fence.wide 7 Tryz.prog 75 #[.pointer (some ⟨tb, 0, none⟩), .agg #[.int .i64 y.at_, .int .i64 y.level, .string y.low, .string y.high, .slice y.sl y.L.length y.c, .int .i64 y.next], .int .i64 0, .string from_, .func (.yield l) #[] #[]] (w5.alloc (ndO y)) (WalkPost w0 pp n c V K Kx ((w5.heap.size, ndO y) :: (g, rowO y.L) :: (W.heap.size, ndO x) :: X) (pre ++ (x.D, false) :: visK V (outB n (V 0)) from_ k x.D t (j - t)) (visP V (outB n (V 0)) from_ k (y.D, false)))) :=
                  Lib.hid (callsIn_wide.2 (callsIn_wide.1 (ih (pre ++ (x.D, false) :: visK V (outB n (V 0)) from_ k x.D t (j - t)) ((w5.heap.size, ndO y) :: (g, rowO y.L) :: (W.heap.size, ndO x) :: X) Rc' y false (w5.alloc (ndO y)) (by simp [hT]) ⟨HKm.out.1, (HKm.out.2.cons fun z hz e => hfr.2 z (List.mem_append_right _ hz) e.symm).push (Z := (g, rowO y.L) :: (W.heap.size, ndO x) :: X) H5 _⟩ H6 HFR.out (fun _ => HLV.out) (((HGB.out.cons rfl).cons rfl).cons rfl))))
                have HVS : Hid (visK V (outB n (V 0)) from_ k x.D t (j + 1 - t) = visK V (outB n (V 0)) from_ k x.D t (j - t) ++ visP V (outB n (V 0)) from_ k (y.D, false)) := by
                  refine Lib.hid ?_
                  rw [show j + 1 - t = (j - t) + 1 by omega, visK_succ, show t + (j - t) = j by omega, HRD.out]
                clear H5 H6 hP hG
                gi_wp2_with fail
                refine ⟨trivial, HI.out.mono ?_⟩
                rintro e W7 (⟨rfl, Rc2, hK2, H7⟩ | ⟨rfl, q, Rc2, hq, hK2, H7⟩)
                · have HK7 : Hid (K (pre ++ (x.D, false) :: visK V (outB n (V 0)) from_ k x.D t (j + 1 - t)) Rc2 ∧ Ap ((W.heap.size, ndO x) :: X) Rc2) := by
                    refine Lib.hid ?_
                    rw [HVS.out]
                    exact ⟨by simpa using hK2.1, hK2.2.tail.tail⟩
                  have H8 : Hid (PV w0 pp n c V (((W.heap.size, ndO x) :: X) ++ Rc2) W7) := Lib.hid (H7.drop.drop)
                  clear hK2 H7 HI hst k0 k1 k2 k3 k4 k5
                  gi_wp2
                  go_roundw
                  case rel => exact ⟨j + 1, Rc2, by omega, by omega, by go_num, HK7, H8⟩
                  case measure => simp [intOf]; omega
                · have H8 : Hid (PV w0 pp n c V (X ++ Rc2) W7) := Lib.hid ((H7.drop.drop)).drop
                  have HK7 := Lib.hid hK2
                  have HQ := Lib.hid hq
                  clear hK2 H7 HI hst k0 k1 k2 k3 k4 k5 hq
                  gi_wp2
                  go_returns
                  refine .inr ⟨rfl, (x.D, false) :: (visK V (outB n (V 0)) from_ k x.D t (j - t) ++ q), Rc2, ?_, ⟨by simpa using HK7.out.1, HK7.out.2.tail.tail.tail⟩, H8.out⟩
                  rw [HV.out]
                  have hx1 : towP from_ x.D.L = t ∧ x.D.L.length = x.L.length := ⟨HT.out, rfl⟩
                  rw [hx1.1]
                  refine (List.prefix_cons_inj _).2 (List.IsPrefix.trans ?_ (visK_prefix (show j + 1 - t ≤ x.D.L.length - t by rw [hx1.2]; omega)))
                  rw [HVS.out]
                  exact (List.prefix_append_right_inj _).2 HQ.out
            · obtain rfl : j = x.L.length := by omega
              have H8 := Lib.hid (Hm.out.drop)
              have HT2 : towP from_ x.D.L = t ∧ x.D.L.length = x.L.length := ⟨HT.out, rfl⟩
              clear Hm
              gi_wp2
              go_returns
              exact .inl ⟨rfl, Rc', by rw [HV.out, HT2.1]; exact ⟨HKm.out.1, HKm.out.2.tail⟩, H8.out⟩
      · have HK1 := Lib.hid hK1
        have H2' := Lib.hid H2
        clear d0 d1 d2 d3 d4 d5 hK1 HR hyy H2
        gi_wp2
        go_returns
        refine .inr ⟨rfl, [(x.D, false)], Rc1, ?_, ⟨HK1.out.1, HK1.out.2.tail⟩, H2'.out.drop⟩
        unfold visP
        exact ⟨_, rfl⟩
end
end Go.Proofs.YtkdhlofcdcnjgaaGreat
namespace Go.Proofs.YtkdhlofcdcnjgaaGreat
set_option maxRecDepth 100000
open Go.ChangeShapes Go.WideShapes Go.ChangeAt Go.RowKit Go.PlainAid
open Go.Sort (grow)

section
variable {w0 w : World} {pp n c : Nat} {V : Int → ByteArray} {R : List (Nat × Obj)}
theorem PV.neO (H : PV w0 pp n c V R w) {x : Nat × Obj} (hx : x ∈ R) (ho : x.2.isCells = false) : pp ≠ x.1 := by
  intro e
  have h1 := H.mem hx
  obtain ⟨S, h, _, _⟩ := H
  have h2 := h.at
  rw [e, h1] at h2
  rw [Option.some.inj h2] at ho
  cases ho
/-- A known block that is none of cells becomes another. -/
theorem PV.obj {b : Nat} {o : Obj} (H : PV w0 pp n c V ((b, o) :: R) w) (hR : ∀ x ∈ R, x.1 ≠ b) (ho : o.isCells = false) (hw : o.isWalk = false) (hb : w0.heap.size ≤ b) (o' : Obj) : PV w0 pp n c V ((b, o') :: R) (w.putObj b o') :=
  H.swap hR (H.neO List.mem_cons_self ho) (by simp) (fun k _ hk => World.putObj_heap_other hk) (.inl rfl) (World.putObj_heap_same (H.lt List.mem_cons_self)) (below_putC H.below hb (H.mem List.mem_cons_self) ho hw)
/-- The loop's two blocks are no others. -/
theorem PV.apart {B : Nat} {o1 o2 : Obj} (H : PV w0 pp n c V ((B + 1, o1) :: (B, o2) :: R) w) (h1 : o1.isCells = false) (h2 : o2.isCells = false) (hG : GB B R) : (∀ x ∈ R, x.1 ≠ B + 1) ∧ ∀ x ∈ R, x.1 ≠ B := by
  constructor <;> intro x hx e
  · rcases hG x hx with h | h
    · have q1 := H.mem List.mem_cons_self
      have q2 := H.mem (List.mem_cons_of_mem _ (List.mem_cons_of_mem _ hx))
      rw [e] at q2
      have q1 : w.heap[B + 1]? = some o1 := q1
      rw [q1] at q2
      rw [← Option.some.inj q2, h1] at h
      cases h
    · exact h.2 e
  · rcases hG x hx with h | h
    · have q1 := H.mem (List.mem_cons_of_mem _ List.mem_cons_self)
      have q2 := H.mem (List.mem_cons_of_mem _ (List.mem_cons_of_mem _ hx))
      rw [e] at q2
      have q1 : w.heap[B]? = some o2 := q1
      rw [q1] at q2
      rw [← Option.some.inj q2, h2] at h
      cases h
    · exact h.1 e
end
/-- The rounds of a loop: what each keeps. -/
def RoundsG {α β : Type} (key : α → β) (encs : α → Array Value) (Fit : List (Nat × Obj) → α → Prop) (w0 : World) (pp n c : Nat) (V : Int → ByteArray) (B : Nat) (K Kx : List β → List (Nat × Obj) → Prop) : Prop :=
  ∀ (pre : List β) (X Rc : List (Nat × Obj)) (x : α) (W : World), K pre Rc ∧ Ap X Rc → PV w0 pp n c V (X ++ Rc) W → Fit X x → GB B X →
    YieldAt Fence.wide 7 Tryz.prog (B + 1) (encs x) W fun e W' =>
      (e = .returned (.bool true) ∧ ∃ Rc', (K (pre ++ [key x]) Rc' ∧ Ap X Rc') ∧ PV w0 pp n c V (X ++ Rc') W') ∨ (e = .returned (.bool false) ∧ ∃ Rc', (Kx (pre ++ [key x]) Rc' ∧ Ap X Rc') ∧ PV w0 pp n c V (X ++ Rc') W')
/-- What the code that gives the loop's variables their values may lay. -/
def Adds (W W' : World) (X : List (Nat × Obj)) : Prop := (W' = W ∧ X = []) ∨ ∃ o : Obj, o.isCells = true ∧ W' = W.alloc o ∧ X = [(W.heap.size, o)]
/-- How a round's body ends. -/
def BodyPost {β : Type} (w0 : World) (pp n c : Nat) (V : Int → ByteArray) (B : Nat) (r : Loop) (K : List β → List (Nat × Obj) → Prop) (Kx : Code → List β → List (Nat × Obj) → Prop) (X : List (Nat × Obj)) (pre : List β) : Exit → Act → World → Prop
  | .normal, _, W => ∃ R', (K pre R' ∧ Ap X R') ∧ GB B R' ∧ PV w0 pp n c V ((B + 1, .loop r) :: (B, .deferred (some [])) :: (X ++ R')) W
  | .ret, _, W => ∃ R', (Kx .ret pre R' ∧ Ap X R') ∧ GB B R' ∧ PV w0 pp n c V ((B + 1, .loop r) :: (B, .deferred (some [])) :: (X ++ R')) W
  | .exit id, _, W => ∃ R', (Kx (.exit id) pre R' ∧ Ap X R') ∧ GB B R' ∧ PV w0 pp n c V ((B + 1, .loop r) :: (B, .deferred (some [])) :: (X ++ R')) W
  | .goto t, _, W => ∃ R', (Kx (.goto t) pre R' ∧ Ap X R') ∧ GB B R' ∧ PV w0 pp n c V ((B + 1, .loop r) :: (B, .deferred (some [])) :: (X ++ R')) W
  | .panic _, _, _ => False
  | .outgrown, _, _ => False
section
variable {w0 : World} {pp n c : Nat} {V : Int → ByteArray}
theorem wpIn_rounds {α β : Type} {key : α → β} {encs : α → Array Value} {Fit : List (Nat × Obj) → α → Prop} {g : Operand} {ps : Array Tmp} {assign body : Code} {Q : Exit → Act → World → Prop} {a : Act} {w : World} {m : Nat}
    (X Rc : List (Nat × Obj)) {gf : Nat} {lb : Array Value}
    (hg : a.eval g = .func (.func gf) #[] lb) (eg : ∀ args w, (callFunc gf args).run Tryz.prog w = .ok (.enter gf args) w)
    (hps : ∀ x, (encs x).size = ps.size)
    (H : PV w0 pp n c V (X ++ Rc) w) (hX : GB w.heap.size X) (hR : GB w.heap.size Rc)
    (K : List β → List (Nat × Obj) → Prop) (Kx : Code → List β → List (Nat × Obj) → Prop) (h0 : K [] Rc ∧ Ap X Rc)
    (S Sp : List β → Prop)
    (hseq : ∀ (K' Kx' : List β → List (Nat × Obj) → Prop) (R' : List (Nat × Obj)) (W : World), RoundsG key encs Fit w0 pp n c V w.heap.size K' Kx' → K' [] R' ∧ Ap X R' → PV w0 pp n c V (X ++ R') W →
      CallsIn Fence.wide (m - 1) Tryz.prog gf (#[.func (.yield (w.heap.size + 1)) #[] #[]] ++ lb) W fun e W' => (∃ v, e = .returned v) ∧ ((∃ xs R'', S xs ∧ K' xs R'' ∧ PV w0 pp n c V (X ++ R'') W') ∨ (∃ xs R'', Sp xs ∧ Kx' xs R'' ∧ PV w0 pp n c V (X ++ R'') W')))
    (Ax : List (Nat × Obj) → α → Act → Prop)
    (hassign : ∀ (l : Nat) (x : α) (W : World) (X' : List (Nat × Obj)) (Kc : Act → World → Prop), Fit X' x → (∀ y ∈ X', W.heap[y.1]? = some y.2) → (∀ a' W' X1, Adds W W' X1 → Ax X1 x a' → Kc a' W') →
      assign.wpIn (Fence.wide.inRound l) 7 Tryz.prog (Exit.then Kc (fun _ _ _ => False)) { tmps := (ps.zip (encs x)).foldl (fun t (p, v) => t.setIfInBounds p v) a.tmps, defers := [] } W)
    (hbody : ∀ (l : Nat) (r : Loop) (pre : List β) (x : α) (X' X1 R' : List (Nat × Obj)) (a' : Act) (W : World), K pre R' ∧ Ap (X1 ++ X') R' → Fit X' x → Ax X1 x a' → GB w.heap.size X' → GB w.heap.size R' →
      PV w0 pp n c V ((w.heap.size + 1, .loop r) :: (w.heap.size, .deferred (some [])) :: (X1 ++ (X' ++ R'))) W → body.wpIn (Fence.wide.inRound l) 7 Tryz.prog (BodyPost w0 pp n c V w.heap.size r K Kx X' (pre ++ [key x])) a' W)
    (hdone : ∀ (xs : List β) (R' : List (Nat × Obj)) (W : World), S xs → K xs R' → PV w0 pp n c V ((w.heap.size, .deferred (some [])) :: (X ++ R')) W → (∀ x ∈ X ++ R', x.1 ≠ w.heap.size) → Q .normal { a with defers := { target := .collected w.heap.size, args := #[] } :: a.defers } W)
    (hstop : ∀ (cd : Code) (xs : List β) (R' : List (Nat × Obj)) (W : World), Sp xs → Kx cd xs R' → PV w0 pp n c V ((w.heap.size, .deferred (some [])) :: (X ++ R')) W → (∀ x ∈ X ++ R', x.1 ≠ w.heap.size) → cd.wpIn Fence.wide m Tryz.prog Q { a with defers := { target := .collected w.heap.size, args := #[] } :: a.defers } W) :
    (Code.rangeFunc g ps assign body).wpIn Fence.wide m Tryz.prog Q a w := by
  refine wpIn_rangeFunc ?_
  intro fn hfn
  obtain ⟨rec, hrec⟩ : ∃ rec : LoopState → Option Code → Loop, rec = fun st pe => { state := st, pending := pe, fn, tmps := a.tmps, params := ps, assign, body, defers := w.heap.size } := ⟨_, rfl⟩
  obtain ⟨W1, hW1⟩ : ∃ W1, (w.alloc (.deferred (some []))).alloc (.loop (rec .ready none)) = W1 := ⟨_, rfl⟩
  have H1 := (H.push (.deferred (some []))).push (.loop (rec .ready none))
  rw [World.size_alloc, hW1] at H1
  have hlt0 := H.below.size
  -- any order of the blocks
  have front : ∀ {o : Obj} {X' R' : List (Nat × Obj)} {W : World}, PV w0 pp n c V (X' ++ ((w.heap.size + 1, o) :: (w.heap.size, .deferred (some [])) :: R')) W → PV w0 pp n c V ((w.heap.size + 1, o) :: (w.heap.size, .deferred (some [])) :: (X' ++ R')) W := fun h => h.sub _ fun y hy => by
    simp only [List.mem_cons, List.mem_append] at hy ⊢
    rcases hy with h | h | h | h
    · exact .inr (.inl h)
    · exact .inr (.inr (.inl h))
    · exact .inl h
    · exact .inr (.inr (.inr h))
  have back : ∀ {o : Obj} {X' R' : List (Nat × Obj)} {W : World}, PV w0 pp n c V ((w.heap.size + 1, o) :: (w.heap.size, .deferred (some [])) :: (X' ++ R')) W → PV w0 pp n c V (X' ++ ((w.heap.size + 1, o) :: (w.heap.size, .deferred (some [])) :: R')) W := fun h => h.sub _ fun y hy => by
    simp only [List.mem_cons, List.mem_append] at hy ⊢
    rcases hy with h | h | h | h
    · exact .inr (.inr (.inl h))
    · exact .inl h
    · exact .inr (.inl h)
    · exact .inr (.inr (.inr h))
  -- the loop's record is turned
  have turn : ∀ {r r' : Loop} {Y : List (Nat × Obj)} {W : World}, PV w0 pp n c V ((w.heap.size + 1, .loop r) :: (w.heap.size, .deferred (some [])) :: Y) W → GB w.heap.size Y → PV w0 pp n c V ((w.heap.size + 1, .loop r') :: (w.heap.size, .deferred (some [])) :: Y) (W.putObj (w.heap.size + 1) (.loop r')) := fun {r r' Y W} h hG => by
    refine h.obj (fun x hx => ?_) rfl rfl (by omega) _
    rcases List.mem_cons.1 hx with rfl | hx
    · show w.heap.size ≠ w.heap.size + 1
      omega
    · exact (h.apart rfl rfl hG).1 x hx
  have ends : ∀ {r : Loop} {R' : List (Nat × Obj)} {W : World}, PV w0 pp n c V ((w.heap.size + 1, .loop r) :: (w.heap.size, .deferred (some [])) :: (X ++ R')) W → GB w.heap.size R' → ∀ r', PV w0 pp n c V ((w.heap.size, .deferred (some [])) :: (X ++ R')) (W.putObj (w.heap.size + 1) (.loop r')) ∧ ∀ x ∈ X ++ R', x.1 ≠ w.heap.size := fun {r R' W} h hG r' =>
    ⟨(turn h (hX.app hG)).drop, (h.apart rfl rfl (hX.app hG)).2⟩
  have apX : ∀ {o o2 : Obj}, Ap X Rc → Ap X ((w.heap.size + 1, o) :: (w.heap.size, o2) :: Rc) := fun {o o2} h z hz y hy => by
    have := H.lt (x := z) (List.mem_append_left _ hz)
    rcases List.mem_cons.1 hy with rfl | hy
    · simp only; omega
    · rcases List.mem_cons.1 hy with rfl | hy
      · simp only; omega
      · exact h z hz y hy
  refine ⟨w.heap.size + 1, [{ target := .collected w.heap.size, args := #[] }], W1, { target := .fn (.func gf) lb, args := #[.func (.yield (w.heap.size + 1)) #[] #[]] }, W1, gf,
    #[.func (.yield (w.heap.size + 1)) #[] #[]] ++ lb, W1, ?_, ?_, ?_, ?_, (fun h => by cases h), ?_⟩
  · rw [← hW1, hrec]; exact run_enterLoop_outer _ _ _ _ _
  · simp only [resolve, hg]
    simp [go_sem]
  · intro f' _
    trivial
  · simp [invoke, go_sem, eg]
  · refine (hseq
      (fun pre R' => ∃ R'', R' = (w.heap.size + 1, .loop (rec .ready none)) :: (w.heap.size, .deferred (some [])) :: R'' ∧ K pre R'' ∧ GB w.heap.size R'')
      (fun pre R' => ∃ cd R'', R' = (w.heap.size + 1, .loop (rec .done (some cd))) :: (w.heap.size, .deferred (some [])) :: R'' ∧ Kx cd pre R'' ∧ GB w.heap.size R'')
      ((w.heap.size + 1, .loop (rec .ready none)) :: (w.heap.size, .deferred (some [])) :: Rc) W1 ?_ ⟨⟨Rc, rfl, h0.1, hR⟩, apX h0.2⟩ (back H1)).mono ?_
    · rintro pre X' R' x W ⟨⟨Ri, rfl, hK, hGi⟩, hAp⟩ hW hFx hGX
      have hW2 := front hW
      have hApR : Ap X' Ri := fun z hz y hy => hAp z hz y (List.mem_cons_of_mem _ (List.mem_cons_of_mem _ hy))
      have apB : ∀ {o o2 : Obj} {R' : List (Nat × Obj)}, Ap X' R' → Ap X' ((w.heap.size + 1, o) :: (w.heap.size, o2) :: R') := fun {o o2 R'} h z hz y hy => by
        rcases List.mem_cons.1 hy with rfl | hy
        · exact hAp z hz (w.heap.size + 1, .loop (rec .ready none)) List.mem_cons_self
        · rcases List.mem_cons.1 hy with rfl | hy
          · exact hAp z hz (w.heap.size, .deferred (some [])) (List.mem_cons_of_mem _ List.mem_cons_self)
          · exact h z hz y hy
      have hl := hW2.mem List.mem_cons_self
      have hy := run_yield (P := Tryz.prog) (args := encs x) hl (by rw [hrec]; exact hps x)
      rw [hrec] at hy
      refine ⟨fn, _, assign, body, hy, roundIn_of_wpIn hfn (hassign _ x W X' _ hFx (fun y hy => hW.mem (List.mem_append_left _ hy)) ?_)⟩
      clear hy
      intro a' Wa X1 hor hax
      obtain ⟨hXc, hWa, hA1⟩ : GB w.heap.size X1 ∧ PV w0 pp n c V ((w.heap.size + 1, .loop (rec .ready none)) :: (w.heap.size, .deferred (some [])) :: (X1 ++ (X' ++ Ri))) Wa ∧ Ap (X1 ++ X') Ri := by
        rcases hor with ⟨rfl, rfl⟩ | ⟨o, ho, rfl, rfl⟩
        · exact ⟨GB.nil _, hW2, hApR⟩
        · refine ⟨(GB.nil _).cons ho, (hW2.push o).sub _ fun y hy => ?_, hApR.cons fun y hy e => ?_⟩
          · simp only [List.mem_cons, List.mem_append, List.not_mem_nil, or_false] at hy ⊢
            rcases hy with h | h | h | h | h
            · exact .inr (.inl h)
            · exact .inr (.inr (.inl h))
            · exact .inl h
            · exact .inr (.inr (.inr (.inl h)))
            · exact .inr (.inr (.inr (.inr h)))
          · have := hW.lt (x := y) (List.mem_append_right _ (List.mem_cons_of_mem _ (List.mem_cons_of_mem _ hy)))
            simp only at e
            omega
      have hlW := hWa.mem List.mem_cons_self
      refine ⟨_, run_beginRound hlW (by rw [hrec]), ?_⟩
      refine wpIn_mono (hbody _ { rec .ready none with state := .busy } pre x X' X1 Ri a' _ ⟨hK, hA1⟩ hFx hax hGX hGi (turn hWa (hXc.app (hGX.app hGi)))) ?_
      have fin : ∀ (jump : Option Code) (R' : List (Nat × Obj)) (W3 : World), GB w.heap.size R' → PV w0 pp n c V ((w.heap.size + 1, .loop { rec .ready none with state := .busy }) :: (w.heap.size, .deferred (some [])) :: (X' ++ R')) W3 →
          (Instr.endRound (w.heap.size + 1) jump).run Tryz.prog W3 = .ok (.bool jump.isNone) (W3.putObj (w.heap.size + 1) (.loop (rec (if jump.isNone then .ready else .done) jump))) ∧
          PV w0 pp n c V (X' ++ ((w.heap.size + 1, .loop (rec (if jump.isNone then .ready else .done) jump)) :: (w.heap.size, .deferred (some [])) :: R')) (W3.putObj (w.heap.size + 1) (.loop (rec (if jump.isNone then .ready else .done) jump))) := fun jump R' W3 hG3 h3 => by
        have := run_endRound (P := Tryz.prog) jump (h3.mem List.mem_cons_self)
        rw [hrec] at this h3 ⊢
        exact ⟨this, back (turn h3 (hGX.app hG3))⟩
      rintro e a3 W3 hp
      cases e with
      | normal =>
        obtain ⟨R', hk3, hg3, h3⟩ := hp
        obtain ⟨hr, h4⟩ := fin none R' W3 hg3 h3
        exact ⟨_, _, hr, .inl ⟨rfl, _, ⟨⟨R', rfl, hk3.1, hg3⟩, apB hk3.2⟩, h4⟩⟩
      | ret =>
        obtain ⟨R', hk3, hg3, h3⟩ := hp
        obtain ⟨hr, h4⟩ := fin (some .ret) R' W3 hg3 h3
        exact ⟨_, _, hr, .inr ⟨rfl, _, ⟨⟨.ret, R', rfl, hk3.1, hg3⟩, apB hk3.2⟩, h4⟩⟩
      | exit id =>
        obtain ⟨R', hk3, hg3, h3⟩ := hp
        obtain ⟨hr, h4⟩ := fin (some (.exit id)) R' W3 hg3 h3
        exact ⟨_, _, hr, .inr ⟨rfl, _, ⟨⟨.exit id, R', rfl, hk3.1, hg3⟩, apB hk3.2⟩, h4⟩⟩
      | goto t =>
        obtain ⟨R', hk3, hg3, h3⟩ := hp
        obtain ⟨hr, h4⟩ := fin (some (.goto t)) R' W3 hg3 h3
        exact ⟨_, _, hr, .inr ⟨rfl, _, ⟨⟨.goto t, R', rfl, hk3.1, hg3⟩, apB hk3.2⟩, h4⟩⟩
      | panic ch => exact hp.elim
      | outgrown => exact hp.elim
    · rintro e W2 ⟨⟨v, rfl⟩, (⟨xs, R', hS, ⟨R'', rfl, hK, hG2⟩, h2⟩ | ⟨xs, R', hS, ⟨cd, R'', rfl, hK, hG2⟩, h2⟩)⟩
      · have h3 := front h2
        have hend := run_endLoop (P := Tryz.prog) (h3.mem List.mem_cons_self) (by rw [hrec]; simp)
        rw [hrec] at hend
        obtain ⟨h4, h5⟩ := ends h3 hG2 { state := .exhausted, pending := none, fn, tmps := a.tmps, params := ps, assign, body, defers := w.heap.size }
        exact ⟨none, _, hend, hdone xs R'' _ hS hK h4 h5⟩
      · have h3 := front h2
        have hend := run_endLoop (P := Tryz.prog) (h3.mem List.mem_cons_self) (by rw [hrec]; simp)
        rw [hrec] at hend
        obtain ⟨h4, h5⟩ := ends h3 hG2 { state := .exhausted, pending := some cd, fn, tmps := a.tmps, params := ps, assign, body, defers := w.heap.size }
        exact ⟨some cd, _, hend, hstop cd xs R'' _ hS hK h4 h5⟩
end
end Go.Proofs.YtkdhlofcdcnjgaaGreat
namespace Go.Proofs.YtkdhlofcdcnjgaaGreat
set_option maxRecDepth 100000
open Go.ChangeShapes Go.WideShapes Go.ChangeAt Go.RowKit Go.PlainAid Go.Shelf
open Go.Sort (grow)

attribute [local go_sem ↓ high] store_n
/-- A tree's pages, as they are gone through from a key on. -/
def visA (V : Int → ByteArray) (n : Nat) (i : Int) (from_ : ByteArray) : List (NdD × Bool) :=
  if rootZ (V 1) i = 0 then [] else visP V (outB n (V 0)) from_ 255 (rdN V (outB n (V 0)) (rootM (rootZ (V 1) i)).D)
/-- The box of a tree's pointer, and of a text. -/
def boxT (tb : Nat) : Obj := .cells #[.pointer (some ⟨tb, 0, none⟩)] 28 (0, 0)
def boxS (s : ByteArray) : Obj := .cells #[.string s] 9 (0, 0)
theorem boxT_cell {w : World} {b tb : Nat} (h : w.heap[b]? = some (boxT tb)) : w.cell? ⟨b, 0, none⟩ = some (.pointer (some ⟨tb, 0, none⟩)) := by
  unfold boxT at h
  rw [cell_of_row _ _ _ _ _ _ h]
  rfl
theorem boxS_cell {w : World} {b : Nat} {s : ByteArray} (h : w.heap[b]? = some (boxS s)) : w.cell? ⟨b, 0, none⟩ = some (.string s) := by
  unfold boxS at h
  rw [cell_of_row _ _ _ _ _ _ h]
  rfl
section
variable {w0 : World} {pp n c tb bt bf : Nat} {V : Int → ByteArray} {i : Int}
set_option maxHeartbeats 4000000 in
theorem nodes1_any (B : Nat) (K Kx : List (NdD × Bool) → List (Nat × Obj) → Prop) (hY : Rounds w0 pp n c V B (B + 1) K Kx) (hn : 1 < n) (hi : 0 ≤ i ∧ i < 16) (from_ : ByteArray)
    (X Rc : List (Nat × Obj)) (W : World) (hT : (tb, treeO pp i) ∈ X) (h1 : (bt, boxT tb) ∈ X) (h2 : (bf, boxS from_) ∈ X) (hK : K [] Rc ∧ Ap X Rc) (H : PV w0 pp n c V (X ++ Rc) W) (hG : GB B X) :
    CallsIn Fence.wide 9 Tryz.prog 74 #[.func (.yield (B + 1)) #[] #[], .pointer (some ⟨bt, 0, none⟩), .pointer (some ⟨bf, 0, none⟩)] W fun e W' => e = .returned (.tuple #[]) ∧
      ((∃ R'', K (visA V n i from_) R'' ∧ PV w0 pp n c V (X ++ R'') W') ∨ (∃ q R'', q <+: visA V n i from_ ∧ Kx q R'' ∧ PV w0 pp n c V (X ++ R'') W')) := by
  have c1 := boxT_cell (H.mem (x := (bt, boxT tb)) (List.mem_append_left _ h1))
  have HS := Lib.hid (start_any H (List.mem_append_left _ hT) hn hi)
  obtain ⟨vs, hvs⟩ : ∃ vs, visA V n i from_ = vs := ⟨_, rfl⟩
  rw [hvs]
  have HV : Hid (vs = if rootZ (V 1) i = 0 then [] else visP V (outB n (V 0)) from_ 255 (rdN V (outB n (V 0)) (rootM (rootZ (V 1) i)).D)) := Lib.hid hvs.symm
  have hrb := root_bounds (V 1) i
  obtain ⟨at_, hat⟩ : ∃ at_, rootZ (V 1) i = at_ := ⟨_, rfl⟩
  unfold StartPost at HS
  rw [hat] at HS HV hrb
  have HB0 := Lib.hid hrb
  clear hrb
  have HG := Lib.hid hG
  have HK := Lib.hid hK
  clear H hvs hG hK
  refine callsIn_of_wp Tryz.func74 rfl trivial ?_ rfl
  simp only [Tryz.ntmps74, List.size_toArray, List.length_cons, List.length_nil, Nat.reduceAdd, Nat.reduceSub, Array.replicate_succ, Array.replicate_zero, List.push_toArray, List.append_toArray, List.nil_append, List.cons_append]
  gi_wp2_with fail
  refine ⟨trivial, (callsIn_wide.2 HS.out).mono ?_⟩
  obtain ⟨xr, hxr⟩ : ∃ xr, rootM at_ = xr := ⟨_, rfl⟩
  have hxz : xr.at_ = at_ := by rw [← hxr]; rfl
  have hxl : xr.level = 0 ∧ xr.L = [] := by rw [← hxr]; exact ⟨rfl, rfl⟩
  have HRB : Hid (0 ≤ xr.at_ ∧ xr.at_ ≤ 4294967295) := Lib.hid (by rw [hxz]; exact HB0.out)
  rw [hxr] at HV
  rw [hxr]
  have HX := Lib.hid (And.intro hxz hxl)
  clear hxr hxz hxl hat
  rintro e w4 (⟨hz, rfl, H4⟩ | ⟨hz, ⟨hP, rfl, H4⟩ | ⟨y, g, hP, hGt, hfr, rfl, H4⟩⟩)
  · have HV0 : Hid (vs = []) := Lib.hid (by rw [HV.out, if_pos hz])
    have H5 := H4.push (ndO zeroN)
    have hst := store_nd_fresh w4 zeroN
    obtain ⟨k0, k1, k2, k3, k4, k5⟩ := nd_cells (H5.mem List.mem_cons_self)
    simp only at k0 k1 k2 k3 k4 k5
    have hz0 : (zeroN.at_ != 0) = false := rfl
    have H5' := Lib.hid H5.drop
    clear H4 H5 hz HV
    gi_wp2
    go_returns
    exact ⟨rfl, .inl ⟨Rc, by rw [HV0.out]; exact HK.out.1, H5'.out⟩⟩
  · have HVR : Hid (vs = visP V (outB n (V 0)) from_ 255 (xr.D, true)) := Lib.hid (by rw [HV.out, if_neg hz, rdN_none hP])
    have hnz : (xr.at_ != 0) = true := by rw [HX.out.1]; simpa using hz
    have H5 := H4.push (ndO xr)
    have hst := store_nd_fresh w4 xr
    obtain ⟨k0, k1, k2, k3, k4, k5⟩ := nd_cells (H5.mem List.mem_cons_self)
    simp only at k0 k1 k2 k3 k4 k5
    have c1 := boxT_cell (H5.mem (x := (bt, boxT tb)) (List.mem_cons_of_mem _ (List.mem_append_left _ h1)))
    have c2 := boxS_cell (H5.mem (x := (bf, boxS from_)) (List.mem_cons_of_mem _ (List.mem_append_left _ h2)))
    simp only at c1 c2
    have HI : Hid (CallsIn Fence.wide 8 Tryz.prog 75 #[.pointer (some ⟨tb, 0, none⟩), .agg #[.int .i64 xr.at_, .int .i64 xr.level, .string xr.low, .string xr.high, .slice xr.sl xr.L.length xr.c, .int .i64 xr.next], .int .i64 6, .string from_, .func (.yield (B + 1)) #[] #[]] (w4.alloc (ndO xr)) (WalkPost w0 pp n c V K Kx ((w4.heap.size, ndO xr) :: X) [] (visP V (outB n (V 0)) from_ 255 (xr.D, true)))) :=
      Lib.hid (walk_bad B (B + 1) K Kx hY from_ 255 [] ((w4.heap.size, ndO xr) :: X) Rc xr (w4.alloc (ndO xr)) ⟨HK.out.1, HK.out.2.push H4 _⟩ H5 ⟨(fun h => by cases h), (fun h => by cases h), (by rw [HX.out.2.2]; exact Nat.zero_le _), (fun h => by cases h), (by rw [HX.out.2.1]; decide), (fun h => by cases h), HRB.out⟩ (HG.out.cons rfl))
    clear H4 H5 hz HV hP
    unfold NdM.cells at hst ⊢
    gi_wp2_with fail
    refine ⟨trivial, HI.out.mono ?_⟩
    rw [← HVR.out]
    rintro e w6 (⟨rfl, R1, hK1, H6⟩ | ⟨rfl, q, R1, hq, hK1, H6⟩)
    · have HP : Hid (PV w0 pp n c V (X ++ R1) w6) := Lib.hid H6.drop
      have HK1 := Lib.hid hK1
      clear H6 hK1 k0 k1 k2 k3 k4 k5 c1 c2 hst HI
      gi_wp2
      go_returns
      exact ⟨rfl, .inl ⟨R1, HK1.out.1, HP.out⟩⟩
    · have HP : Hid (PV w0 pp n c V (X ++ R1) w6) := Lib.hid H6.drop
      have HK1 := Lib.hid (And.intro hq hK1)
      clear H6 hK1 k0 k1 k2 k3 k4 k5 c1 c2 hst HI hq
      gi_wp2
      go_returns
      exact ⟨rfl, .inr ⟨q, R1, HK1.out.1, HK1.out.2.1, HP.out⟩⟩
  · have HVR : Hid (vs = visP V (outB n (V 0)) from_ 255 (y.D, false)) := Lib.hid (by rw [HV.out, if_neg hz, rdN_some hP hGt])
    have hnz : (y.at_ != 0) = true := by rw [hGt.at_, HX.out.1]; simpa using hz
    have H5 := H4.push (ndO y)
    have hst := store_nd_fresh w4 y
    obtain ⟨k0, k1, k2, k3, k4, k5⟩ := nd_cells (H5.mem List.mem_cons_self)
    simp only at k0 k1 k2 k3 k4 k5
    have c1 := boxT_cell (H5.mem (x := (bt, boxT tb)) (List.mem_cons_of_mem _ (List.mem_cons_of_mem _ (List.mem_append_left _ h1))))
    have c2 := boxS_cell (H5.mem (x := (bf, boxS from_)) (List.mem_cons_of_mem _ (List.mem_cons_of_mem _ (List.mem_append_left _ h2))))
    simp only at c1 c2
    have HFR : FitN ((w4.heap.size, ndO y) :: (g, rowO y.L) :: X) y false := fit_some H4 hP hGt (by simp)
    have HI : Hid (CallsIn Fence.wide 8 Tryz.prog 75 #[.pointer (some ⟨tb, 0, none⟩), .agg #[.int .i64 y.at_, .int .i64 y.level, .string y.low, .string y.high, .slice y.sl y.L.length y.c, .int .i64 y.next], .int .i64 0, .string from_, .func (.yield (B + 1)) #[] #[]] (w4.alloc (ndO y)) (WalkPost w0 pp n c V K Kx ((w4.heap.size, ndO y) :: (g, rowO y.L) :: X) [] (visP V (outB n (V 0)) from_ 255 (y.D, false)))) :=
      Lib.hid (walk_any (i := i) B (B + 1) K Kx hY (by omega) from_ 255 [] ((w4.heap.size, ndO y) :: (g, rowO y.L) :: X) Rc y false (w4.alloc (ndO y)) (by simp [hT]) ⟨HK.out.1, (HK.out.2.cons fun z hz e => hfr.2 z (List.mem_append_right _ hz) e.symm).push (Z := (g, rowO y.L) :: X) H4 _⟩ H5 HFR (fun _ => HFR.top) ((HG.out.cons rfl).cons rfl))
    clear H4 H5 hz HV hP HFR hGt
    unfold NdM.cells at hst ⊢
    gi_wp2_with fail
    refine ⟨trivial, HI.out.mono ?_⟩
    rw [← HVR.out]
    rintro e w6 (⟨rfl, R1, hK1, H6⟩ | ⟨rfl, q, R1, hq, hK1, H6⟩)
    · have HP : Hid (PV w0 pp n c V (X ++ R1) w6) := Lib.hid H6.drop.drop
      have HK1 := Lib.hid hK1
      clear H6 hK1 k0 k1 k2 k3 k4 k5 c1 c2 hst HI
      gi_wp2
      go_returns
      exact ⟨rfl, .inl ⟨R1, HK1.out.1, HP.out⟩⟩
    · have HP : Hid (PV w0 pp n c V (X ++ R1) w6) := Lib.hid H6.drop.drop
      have HK1 := Lib.hid (And.intro hq hK1)
      clear H6 hK1 k0 k1 k2 k3 k4 k5 c1 c2 hst HI hq
      gi_wp2
      go_returns
      exact ⟨rfl, .inr ⟨q, R1, HK1.out.1, HK1.out.2.1, HP.out⟩⟩
theorem nodes_mk (from_ : ByteArray) (w : World) :
    Calls Tryz.prog 35 #[.pointer (some ⟨tb, 0, none⟩), .string from_] w fun e w' => e = .returned (.func (.func 74) #[] #[.pointer (some ⟨w.heap.size, 0, none⟩), .pointer (some ⟨w.heap.size + 1, 0, none⟩)]) ∧ (w.alloc (boxT tb)).alloc (boxS from_) = w' := by
  have hmf := make_func
  go_enter Tryz.func35, Tryz.ntmps35
  go_wp2
  go_returns
  exact ⟨rfl, rfl⟩
end
end Go.Proofs.YtkdhlofcdcnjgaaGreat
namespace Go.Proofs.YtkdhlofcdcnjgaaGreat
set_option maxRecDepth 100000
open Go.ChangeShapes Go.WideShapes Go.ChangeAt Go.RowKit Go.PlainAid Go.Shelf
open Go.Sort (grow)

attribute [local go_sem ↓ high] store_n
attribute [local go_sem] Oper.semAt_some
theorem PV.gb {w0 w : World} {pp n c : Nat} {V : Int → ByteArray} {R : List (Nat × Obj)} (H : PV w0 pp n c V R w) : GB w.heap.size R := fun x hx => .inr (by have := H.lt hx; omega)
/-- A page with what it is answered with, as a round is handed it. -/
def keyN (x : NdM × Bool) : NdD × Bool := (x.1.D, x.2)
def encN (x : NdM × Bool) : Array Value := #[.agg x.1.cells, errV x.2]
def FitX (X : List (Nat × Obj)) (x : NdM × Bool) : Prop := FitN X x.1 x.2
/-- Is a tree in order? -/
def soundB (V : Int → ByteArray) (n : Nat) (i : Int) : Bool := (visA V n i ⟨#[]⟩).all fun x => !x.2
def boxB (b : Bool) : Obj := .cells #[.bool b] 4 (0, 0)
theorem boxB_cell {w : World} {k : Nat} {b : Bool} (h : w.heap[k]? = some (boxB b)) : w.cell? ⟨k, 0, none⟩ = some (.bool b) ∧ w.frozen? ⟨k, 0, none⟩ = false := by
  unfold boxB at h
  refine ⟨?_, frozen_of_row _ _ _ _ _ h⟩
  rw [cell_of_row _ _ _ _ _ _ h]
  rfl
section
variable {w0 w w' : World} {pp n c tb : Nat} {V : Int → ByteArray} {R : List (Nat × Obj)} {i : Int}
theorem nodes_seq (hn : 1 < n) (hi : 0 ≤ i ∧ i < 16) (from_ : ByteArray) {bt bf B : Nat} {X : List (Nat × Obj)} (hT : (tb, treeO pp i) ∈ X) (h1 : (bt, boxT tb) ∈ X) (h2 : (bf, boxS from_) ∈ X) (hG : GB B X)
    (K' Kx' : List (NdD × Bool) → List (Nat × Obj) → Prop) (R' : List (Nat × Obj)) (W : World) (hY : RoundsG keyN encN FitX w0 pp n c V B K' Kx') (hK : K' [] R' ∧ Ap X R') (H : PV w0 pp n c V (X ++ R') W) (m : Nat) :
    CallsIn Fence.wide m Tryz.prog 74 (#[.func (.yield (B + 1)) #[] #[]] ++ #[.pointer (some ⟨bt, 0, none⟩), .pointer (some ⟨bf, 0, none⟩)]) W fun e W' => (∃ v, e = .returned v) ∧
      ((∃ xs R'', xs = visA V n i from_ ∧ K' xs R'' ∧ PV w0 pp n c V (X ++ R'') W') ∨ (∃ xs R'', xs <+: visA V n i from_ ∧ Kx' xs R'' ∧ PV w0 pp n c V (X ++ R'') W')) := by
  have h := nodes1_any B K' Kx' (fun pre X Rc x b W hK hP hF hG => hY pre X Rc (x, b) W hK hP hF hG) hn hi from_ X R' W hT h1 h2 hK H hG
  refine (callsIn_wide.2 (callsIn_wide.1 h)).mono ?_
  rintro e W' ⟨rfl, (⟨R'', a, b⟩ | ⟨q, R'', a, b, d⟩)⟩
  · exact ⟨⟨_, rfl⟩, .inl ⟨_, R'', rfl, a, b⟩⟩
  · exact ⟨⟨_, rfl⟩, .inr ⟨q, R'', a, b, d⟩⟩
/-- What a round of Sound keeps. -/
def SndK (rb : Nat) (pre : List (NdD × Bool)) (Rc : List (Nat × Obj)) : Prop := Rc = [(rb, boxB false)] ∧ ∀ y ∈ pre, y.2 = false
def SndX (rb : Nat) (cd : Code) (pre : List (NdD × Bool)) (Rc : List (Nat × Obj)) : Prop := cd = .ret ∧ Rc = [(rb, boxB false)] ∧ ∃ y ∈ pre, y.2 = true
theorem start_s {e : Ending} (h : StartPost w0 pp n c V R i e w') : ∃ x z RX, e = .returned (.tuple #[.agg (NdM.cells x), .int .i64 z]) ∧ (z = 0 ∨ (z = 6 ∧ soundB V n i = false)) ∧ PV w0 pp n c V (RX ++ R) w' := by
  rcases h with ⟨hz, rfl, H⟩ | ⟨hz, ⟨hP, rfl, H⟩ | ⟨y, g, hP, hG, hf, rfl, H⟩⟩
  · exact ⟨zeroN, 0, [], rfl, .inl rfl, H⟩
  · refine ⟨_, 6, [], rfl, .inr ⟨rfl, ?_⟩, H⟩
    unfold soundB visA
    rw [if_neg hz, rdN_none hP, visP_bad]
    rfl
  · exact ⟨y, 0, [(g, rowO y.L)], rfl, .inl rfl, H⟩
set_option maxHeartbeats 4000000 in
theorem sound_any (H : PV w0 pp n c V R w) (hT : (tb, treeO pp i) ∈ R) (hn : 1 < n) (hi : 0 ≤ i ∧ i < 16) :
    Calls Tryz.prog 10 #[.pointer (some ⟨tb, 0, none⟩)] w fun e w' => e = .returned (.bool (soundB V n i)) ∧ PV w0 pp n c V R w' := by
  have H1 := H.push (boxB false)
  have HS := Lib.hid (start_any H1 (List.mem_cons_of_mem _ hT) hn hi)
  have hlt0 := H.below.size
  have HRB : Hid (∀ y ∈ R, y.1 < w.heap.size) := Lib.hid fun y hy => H.lt hy
  have HT := Lib.hid hT
  obtain ⟨W1, hW1⟩ : ∃ W1, w.alloc (boxB false) = W1 := ⟨_, rfl⟩
  rw [hW1] at HS
  have HW := Lib.hid hW1
  obtain ⟨rb, hrb⟩ : ∃ rb, w.heap.size = rb := ⟨_, rfl⟩
  clear H H1 hW1 hT
  refine (callsIn_wide (n := 10)).1 ?_
  refine callsIn_of_wp_marks Tryz.func10 rfl trivial ?_ rfl
  simp only [Tryz.ntmps10, List.size_toArray, List.length_cons, List.length_nil, Nat.reduceAdd, Nat.reduceSub, Array.replicate_succ, Array.replicate_zero, List.push_toArray, List.append_toArray, List.nil_append, List.cons_append]
  refine wpIn_wide.2 ?_
  rw [hrb] at HS HRB hlt0
  go_wp2_with fail
  rw [show w.alloc (.cells #[.bool false] 4) = W1 from HW.out]
  clear hrb HW
  refine HS.out.mono ?_
  clear HS
  intro e w4 h4
  obtain ⟨x, z, RX, rfl, hz, H4⟩ := start_s h4
  clear h4
  have hst := store_nd_fresh w4 x
  have H5 := (H4.push (ndO x)).drop
  obtain ⟨W5, hW5⟩ : ∃ W5, w4.alloc (ndO x) = W5 := ⟨_, rfl⟩
  rw [hW5] at hst H5
  have H5' := Lib.hid H5
  clear H4 H5 hW5
  rcases hz with rfl | ⟨rfl, hsb⟩
  · go_wp2_with fail
    refine (nodes_mk _ _).mono ?_
    rintro e _ ⟨rfl, rfl⟩
    go_wp2_with fail
    have H7 : PV w0 pp n c V (((W5.heap.size + 1, boxS ⟨#[]⟩) :: (W5.heap.size, boxT tb) :: R) ++ [(rb, boxB false)]) ((W5.alloc (boxT tb)).alloc (boxS ⟨#[]⟩)) := by
      have h := (H5'.out.push (boxT tb)).push (boxS ⟨#[]⟩)
      rw [World.size_alloc] at h
      refine h.sub _ fun y hy => ?_
      simp only [List.mem_append, List.mem_cons, List.not_mem_nil, or_false] at hy ⊢
      rcases hy with (h | h | h) | h
      · exact .inl h
      · exact .inr (.inl h)
      · exact .inr (.inr (.inr (.inr h)))
      · exact .inr (.inr (.inr (.inl h)))
    obtain ⟨W7, hW7⟩ : ∃ W7, (W5.alloc (boxT tb)).alloc (boxS ⟨#[]⟩) = W7 := ⟨_, rfl⟩
    rw [hW7] at H7
    rw [hW7]
    have hGB := H7.gb
    have hAp : Ap ((W5.heap.size + 1, boxS ⟨#[]⟩) :: (W5.heap.size, boxT tb) :: R) [(rb, boxB false)] := fun z hz y hy => by
      rw [List.mem_singleton] at hy
      subst hy
      have hrl : rb < W5.heap.size := H5'.out.lt (x := (rb, boxB false)) (by simp)
      rcases List.mem_cons.1 hz with rfl | hz
      · simp only; omega
      · rcases List.mem_cons.1 hz with rfl | hz
        · simp only; omega
        · have := HRB.out z hz
          simp only
          omega
    refine (wpIn_wide (n := 9)).1 ?_
    refine wpIn_rounds (key := keyN) (encs := encN) (Fit := FitX) ((W5.heap.size + 1, boxS ⟨#[]⟩) :: (W5.heap.size, boxT tb) :: R) [(rb, boxB false)] (gf := 74) (lb := #[.pointer (some ⟨W5.heap.size, 0, none⟩), .pointer (some ⟨W5.heap.size + 1, 0, none⟩)]) rfl (enters_of Tryz.func74 (by kernel_rfl) rfl) (fun _ => rfl) H7 (hGB.sub fun y hy => List.mem_append_left _ hy) (hGB.sub fun y hy => List.mem_append_right _ hy)
      (SndK rb) (SndX rb) ⟨⟨rfl, fun _ h => by cases h⟩, hAp⟩
      (fun xs => xs = visA V n i ⟨#[]⟩) (fun xs => xs <+: visA V n i ⟨#[]⟩)
      (fun K' Kx' R' W hY hK H => nodes_seq (tb := tb) (bt := W5.heap.size) (bf := W5.heap.size + 1) hn hi ⟨#[]⟩ (by simp [HT.out]) (by simp) (by simp) (hGB.sub fun y hy => List.mem_append_left _ hy) K' Kx' R' W hY hK H _)
      (fun X1 y a' => X1 = [] ∧ a' = { tmps := #[.pointer (some ⟨tb, 0, none⟩), undef, .pointer (some ⟨rb, 0, none⟩), .pointer (some ⟨w4.heap.size, 0, none⟩), .int .i64 0, undef, errV y.2, .tuple #[.agg x.cells, .int .i64 0], .pointer (some ⟨tb, 0, none⟩), .tuple #[.agg x.cells, .int .i64 0], .agg x.cells, .int .i64 0, .int .i64 0, .bool false, .pointer (some ⟨tb, 0, none⟩), .func (.func 74) #[] #[.pointer (some ⟨W5.heap.size, 0, none⟩), .pointer (some ⟨W5.heap.size + 1, 0, none⟩)], .agg y.1.cells, errV y.2, undef, undef], defers := [] }) ?assign ?body ?done ?stop
    case assign =>
      intro l x W X' Kc hF hk hK
      obtain ⟨ev, hev⟩ : ∃ ev : Int, (if x.2 = true then (6 : Int) else 0) = ev := ⟨_, rfl⟩
      have he : encN x = #[.agg x.1.cells, .int .i64 ev] := by
        unfold encN errV
        rw [hev]
      rw [he]
      gi_wp2
      refine hK _ _ _ (.inl ⟨rfl, rfl⟩) ⟨rfl, ?_⟩
      unfold errV
      rw [hev]
    case body =>
      rintro l r pre y X' X1 R' a' W ⟨⟨rfl, hgood⟩, hA⟩ hF ⟨rfl, rfl⟩ hGX hGR h
      obtain ⟨ny, b⟩ := y
      have HA : Hid (Ap X' [(rb, boxB false)]) := Lib.hid hA
      clear hA
      obtain ⟨hb1, hb2⟩ := boxB_cell (h.mem (x := (rb, boxB false)) (by simp))
      cases b with
      | false =>
        have HP := Lib.hid (And.intro hgood (And.intro hGR h))
        clear h hgood hGR
        unfold errV
        gi_wp2
        exact ⟨_, ⟨⟨rfl, fun z hz => by
          rcases List.mem_append.1 hz with hz | hz
          · exact HP.out.1 z hz
          · rw [List.mem_singleton] at hz
            rw [hz]
            rfl⟩, HA.out⟩, HP.out.2.1, HP.out.2.2⟩
      | true =>
        have h2 := (h.sub ((rb, boxB false) :: (W7.heap.size + 1, .loop r) :: (W7.heap.size, .deferred (some [])) :: X') fun y hy => by
          simp only [List.mem_cons, List.mem_append, List.not_mem_nil, or_false, List.nil_append] at hy ⊢
          rcases hy with h | h | h | h
          · exact .inr (.inr (.inr h))
          · exact .inl h
          · exact .inr (.inl h)
          · exact .inr (.inr (.inl h))).into (o := 0) (v := .bool false) (fun y hy => by
            have hrl : rb < W7.heap.size := H7.lt (x := (rb, boxB false)) (by simp)
            rcases List.mem_cons.1 hy with rfl | hy
            · simp only; omega
            · rcases List.mem_cons.1 hy with rfl | hy
              · simp only; omega
              · exact HA.out y hy (rb, boxB false) (by simp)) (by decide) hlt0
        have HP := Lib.hid (And.intro hGR (h2.sub ((W7.heap.size + 1, .loop r) :: (W7.heap.size, .deferred (some [])) :: (X' ++ [(rb, boxB false)])) fun y hy => by
          simp only [List.mem_cons, List.mem_append, List.not_mem_nil, or_false] at hy ⊢
          rcases hy with h | h | h | h
          · exact .inr (.inl h)
          · exact .inr (.inr (.inl h))
          · exact .inr (.inr (.inr h))
          · exact .inl h))
        clear h h2 hgood hGR
        unfold errV
        gi_wp2
        exact ⟨_, ⟨⟨rfl, rfl, keyN (ny, true), by simp, rfl⟩, HA.out⟩, HP.out.1, HP.out.2⟩
    case done =>
      intro xs R' W hS hK h hne
      obtain ⟨rfl, hgood⟩ := hK
      obtain ⟨hb1, hb2⟩ := boxB_cell (h.mem (x := (rb, boxB false)) (by simp))
      have h2 := (h.sub ((rb, boxB false) :: (W7.heap.size, .deferred (some [])) :: R) fun y hy => by
        simp only [List.mem_cons, List.mem_append, List.not_mem_nil, or_false] at hy ⊢
        rcases hy with h | h | h
        · exact .inr (.inr h)
        · exact .inl h
        · exact .inr (.inl (.inr (.inr h)))).into (o := 0) (v := .bool true) (fun y hy => by
          rcases List.mem_cons.1 hy with rfl | hy
          · exact fun e => hne (rb, boxB false) (by simp) e.symm
          · have := HRB.out y hy; omega) (by decide) hlt0
      have h3 := (h2.turn).obj (o' := .deferred none) (fun y hy => by
          rcases List.mem_cons.1 hy with rfl | hy
          · exact hne (rb, boxB false) (by simp)
          · exact hne y (by simp [hy])) rfl rfl H7.below.size
      have hd := h2.mem (x := (W7.heap.size, .deferred (some []))) (by simp)
      have hb3 := boxB_cell (b := true) (h3.mem (x := (rb, boxB true)) (by simp [boxB]))
      have HS := Lib.hid (show soundB V n i = true by
        unfold soundB
        rw [← hS, List.all_eq_true]
        intro y hy
        rw [hgood y hy]
        rfl)
      have HP := Lib.hid (And.intro h3.drop.drop (And.intro hd hb3.1))
      clear h h2 h3 hd hb3 hS hgood hne
      go_wp2_with fail
      refine ⟨by simp, .inl ⟨_, _, rfl, run_takeDeferred HP.out.2.1, ?_⟩⟩
      have q1 := HP.out.2.2
      exact ⟨.bool true, by simp [results, Tryz.results10, go_sem, q1], by rw [HS.out], HP.out.1⟩
    case stop =>
      intro cd xs R' W hSp hK h hne
      obtain ⟨rfl, rfl, hbad⟩ := hK
      have hd := h.mem (x := (W7.heap.size, .deferred (some []))) (by simp)
      have h3 := h.obj (o' := .deferred none) hne rfl rfl H7.below.size
      have hb3 := boxB_cell (b := false) (h3.mem (x := (rb, boxB false)) (by simp))
      have HS := Lib.hid (show soundB V n i = false by
        unfold soundB
        rw [Bool.eq_false_iff]
        intro hall
        obtain ⟨y, hy, hy2⟩ := hbad
        have := List.all_eq_true.1 hall y (hSp.subset hy)
        rw [hy2] at this
        cases this)
      have HP := Lib.hid (And.intro (h3.drop.sub R fun y hy => by simp [hy]) (And.intro hd hb3.1))
      clear h h3 hd hb3 hSp hbad hne
      refine wpIn_wide.2 ?_
      go_wp2_with fail
      refine ⟨by simp, .inl ⟨_, _, rfl, run_takeDeferred HP.out.2.1, ?_⟩⟩
      have q1 := HP.out.2.2
      exact ⟨.bool false, by simp [results, Tryz.results10, go_sem, q1], by rw [HS.out], HP.out.1⟩
  · have hb := boxB_cell (H5'.out.mem (x := (rb, boxB false)) (by simp))
    obtain ⟨hb1, hb2⟩ := hb
    have H6 := (H5'.out.sub ((rb, boxB false) :: R) fun y hy => by simp only [List.mem_cons] at hy; simp only [List.mem_append, List.mem_cons]; exact .inr hy).into (o := 0) (v := .bool false) (fun y hy => by have := HRB.out y hy; omega) (by decide) hlt0
    have hb3 := boxB_cell (b := false) (H6.mem List.mem_cons_self)
    have H6' := Lib.hid (And.intro H6.drop hb3.1)
    have HB := Lib.hid hsb
    clear H6 hsb hb3
    go_wp2_with fail
    have q1 := H6'.out.2
    exact ⟨.bool false, by simp [results, Tryz.results10, go_sem, q1], by rw [HB.out], H6'.out.1⟩
end
end Go.Proofs.YtkdhlofcdcnjgaaGreat
