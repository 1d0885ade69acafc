/- Contracts: New, Put. -/
import Derived.Test.YtomgiemnkbjebaaCacE
import Derived.Deep.RegionLaw
import Derived.Great.BuildSlice
namespace Go.Proofs.Ytomgiemnkbjebaa
set_option maxRecDepth 100000
open Go.ChangeShapes Go.WideShapes Go.ChangeAt Go.RowKit Go.PlainAid

namespace KA
attribute [local go_sem ↓ high] store_e
theorem row_thawed {n₀ : Nat} {w : World} {g n cap : Nat} {L : List E} (h : RowE cE 83 n₀ w (.slice (some ⟨g, 0, none⟩) n cap) L) (j : Nat) : w.frozen? ⟨g, j, none⟩ = false := by
  rcases h.2 with ⟨hv, _⟩ | ⟨g', cap', cur, hv, _, hg, _⟩
  · cases hv
  · cases hv
    exact frozen_of_row _ _ _ _ _ hg
theorem CaT.rowAt {w0 : World} {p : Nat} {most : Int} {L : List E} {R : List (Nat × Obj)} {w : World} {v : Value} (h : CaT w0 p most L R w) (hp : w.heap[p]? = some (.cells #[.int .i64 most, v] 65 (0, 0))) :
    RowE cE 83 w0.heap.size w v L ∧ v.ownBlock ≠ some p ∧ ∀ b o, (b, o) ∈ R → v.ownBlock ≠ some b := by
  obtain ⟨u, h3, h4, h5, h6⟩ := h.row
  obtain rfl : u = v := by
    rw [hp] at h3
    injection h3 with h3
    injection h3 with h3
    simpa using h3.symm
  exact ⟨h4, h5, h6⟩
/-- One cell of an entry otherwise. -/
theorem CaT.poke {w0 : World} {p : Nat} {most : Int} {L : List E} {R : List (Nat × Obj)} {w : World} {g n cap : Nat} (h : CaT w0 p most L R w) (hp : w.heap[p]? = some (.cells #[.int .i64 most, .slice (some ⟨g, 0, none⟩) n cap] 65 (0, 0)))
    {i : Nat} {x y : E} (hx : L[i]? = some x) (j : Nat) (hj : j < 3) (c : Value) (hy : (cE x).set j c = cE y) : CaT w0 p most (L.set i y) R (w.setCell ⟨g, i * 3 + j, none⟩ c) := by
  have hi := (List.getElem?_eq_some_iff.1 hx).1
  obtain ⟨hr, hne, _⟩ := h.rowAt hp
  obtain ⟨g', cap', cur, hv, hb, hg, hlc, hcm, hcs, ht⟩ := hr.block (by omega)
  cases hv
  have hgp : p ≠ g := fun e => hne (by rw [e]; rfl)
  have h1 := heap_setCell_same w g (i * 3 + j) cur _ c hg
  have hcx : cur.toList = cur.toList.take (i * 3) ++ cE x ++ cur.toList.drop ((i + 1) * 3) := by
    have e1 : cur.toList.drop (i * 3) = cE x ++ cur.toList.drop ((i + 1) * 3) := by
      have : L[i] = x := (List.getElem?_eq_some_iff.1 hx).2
      rw [drop3 three ht (i := i) (by omega), drop3 three ht (i := i + 1) (by omega), List.drop_eq_getElem_cons hi, flat_cons, List.append_assoc, this]
    rw [List.append_assoc, ← e1, List.take_append_drop]
  have hset : (cur.setIfInBounds (i * 3 + j) c).toList = cur.toList.take (i * 3) ++ cE y ++ cur.toList.drop ((i + 1) * 3) := by
    have hl : (cur.toList.take (i * 3)).length = i * 3 := by rw [List.length_take, Array.length_toList]; omega
    rw [Array.toList_setIfInBounds, ← hy]
    generalize cur.toList.take (i * 3) = A at *
    generalize cur.toList.drop ((i + 1) * 3) = B at *
    rw [hcx, List.append_assoc, List.set_append_right _ _ (by rw [hl]; exact Nat.le_add_right _ _), hl, Nat.add_sub_cancel_left, List.set_append_left _ _ (by exact hj), List.append_assoc]
  refine h.move hp (fun _ _ _ => (Below.refl _ _).setCell hb _) (fun k _ _ hk => heap_setCell_other w _ k c fun e => hk (by rw [e]; rfl)) ((heap_setCell_other w ⟨g, i * 3 + j, none⟩ p c hgp).trans hp) (RowE.mk' three hb h1 hcm (by rw [Array.size_setIfInBounds, hcs]) (by rw [List.length_set]; exact hlc) ?_ (by rw [List.length_set])) (fun k hk => .inl hk)
  rw [hset, List.length_set]
  exact set_list three hi ht
/-- An entry more, behind all others. -/
theorem CaT.pushed {w0 : World} {p : Nat} {most : Int} {L : List E} {R : List (Nat × Obj)} {W W1 w4 : World} {v : Value} {x : E} {g m cap : Nat} (h : CaT w0 p most L R W) (hp : W.heap[p]? = some (.cells #[.int .i64 most, v] 65 (0, 0)))
    (hB : Below W.heap.size W W1) (hm : m = L.length + 1) (hown : w4.ownsRow w0.heap.size 83 3 (.slice (some ⟨g, 0, none⟩) m cap) m (flat cE L ++ cE x)) (hgrow : W1.grownBy w4 v.ownBlock) (hat : v.ownBlock = some g ∨ W.heap.size ≤ g) :
    w4.cell? ⟨p, 1, none⟩ = some v ∧ w4.frozen? ⟨p, 1, none⟩ = false ∧ (w4.setCell ⟨p, 1, none⟩ (.slice (some ⟨g, 0, none⟩) m cap)).heap[p]? = some (.cells #[.int .i64 most, .slice (some ⟨g, 0, none⟩) m cap] 65 (0, 0)) ∧
      CaT w0 p most (L ++ [x]) R (w4.setCell ⟨p, 1, none⟩ (.slice (some ⟨g, 0, none⟩) m cap)) := by
  obtain ⟨hr, hne, _⟩ := h.rowAt hp
  have hpl := heap_in hp
  have hp4 : w4.heap[p]? = some (.cells #[.int .i64 most, v] 65 (0, 0)) := (hgrow.block p (Nat.lt_of_lt_of_le hpl hB.size) (fun e => hne e.symm)).trans ((hB.block p hpl).trans hp)
  have h5 := heap_setCell_same w4 p 1 _ _ (.slice (some ⟨g, 0, none⟩) m cap) hp4
  have hpg : g ≠ p := fun e => by
    subst e
    rcases hat with h | h
    · exact hne h
    · omega
  refine ⟨(box_cells hp4).2.1, (box_cells hp4).2.2, h5, h.move hp (fun a b c => ?_) (fun k hk hkp hkv => ?_) h5 ⟨?_, ?_⟩ (fun k hk => ?_)⟩
  · exact (((hB.mono a).grown hgrow (Nat.le_trans a hB.size) (fun k e => b k e))).setCell c _
  · rw [heap_setCell_other _ _ _ _ hkp]
    exact (hgrow.block k (Nat.lt_of_lt_of_le hk hB.size) (fun e => hkv e.symm)).trans (hB.block k hk)
  · rw [List.length_append, List.length_singleton]
    exact flat_len three (L ++ [x]) |>.trans (by rw [List.length_append, List.length_singleton])
  · have hfl : flat cE (L ++ [x]) = flat cE L ++ cE x := by rw [flat_app]; show _ ++ (cE x ++ []) = _; rw [List.append_nil]
    rcases hown.2 with ⟨hv, _⟩ | ⟨g', cap', cur, hv, a1, a2, a3, a4, a5, a6⟩
    · cases hv
    · cases hv
      refine .inr ⟨g, cap, cur, by rw [List.length_append, List.length_singleton, hm], a1, (heap_setCell_other _ _ _ _ hpg).trans a2, by rw [List.length_append, List.length_singleton, ← hm]; exact a3, a4, a5, ?_⟩
      rw [hfl, List.length_append, List.length_singleton, ← hm]
      exact a6
  · have : k = g := by simpa [Value.ownBlock] using hk.symm
    rw [this]
    exact hat
def buildE (n : Nat) (l : Array (Nat × Value)) : Sem Value := Instr.buildSlice 63 n l
theorem build_e (n : Nat) (l : Array (Nat × Value)) : Instr.buildSlice 63 n l = buildE n l := rfl
theorem build_one (x : E) (w : World) : (buildE 1 #[(0, .agg #[.int .i64 x.key, .string x.val, .int .i64 (x.pins : Int)])]).run Try.prog w = .ok (.slice (some ⟨w.heap.size, 0, none⟩) 1 1) (w.alloc (.cells #[.int .i64 x.key, .string x.val, .int .i64 (x.pins : Int)] 83)) := by
  obtain ⟨i, i1, i2, i3, _⟩ := info_parts info_e2
  exact run_buildOne (P := Try.prog) w 63 83 #[.int .i64 x.key, .string x.val, .int .i64 (x.pins : Int)] i _ Try.underlying63 i1 i2 (by rw [i3]; rfl) (by omega) (by omega)
attribute [local go_sem ↓ high] build_e
/-- An entry put in another one's place. -/
theorem CaT.putAt {w0 : World} {p : Nat} {most : Int} {L : List E} {R : List (Nat × Obj)} {w : World} {g n cap : Nat} (h : CaT w0 p most L R w) (hp : w.heap[p]? = some (.cells #[.int .i64 most, .slice (some ⟨g, 0, none⟩) n cap] 65 (0, 0)))
    {i : Nat} (hi : i < L.length) (y : E) : ∃ W', (storeS 83 (.pointer (some ⟨g, i * 3, none⟩)) (.agg #[.int .i64 y.key, .string y.val, .int .i64 (y.pins : Int)])).run Try.prog w.drew = .ok () W' ∧
      W'.heap[p]? = some (.cells #[.int .i64 most, .slice (some ⟨g, 0, none⟩) n cap] 65 (0, 0)) ∧ CaT w0 p most (L.set i y) R W' := by
  obtain ⟨hr, hne, _⟩ := h.rowAt hp
  obtain ⟨g', cap', cur, hv, hb, hg, hlc, hcm, hcs, ht⟩ := hr.block (by omega)
  cases hv
  have hgp : p ≠ g := fun e => hne (by rw [e]; rfl)
  have hp2 := (setRow_other w.drew g p (cur.toList.take (i * 3) ++ cE y ++ cur.toList.drop (i * 3 + 3)).toArray hgp).trans hp
  refine ⟨_, store_up (w := w.drew) hg hcs (by omega), hp2, ?_⟩
  refine h.move hp (fun _ _ _ => below_row (w' := w.drew) (drew_below (Below.refl _ _)) hb _) (fun k _ _ hk => setRow_other w.drew g k _ fun e => hk (by rw [e]; rfl)) hp2 (RowE.mk' three hb (setRow_heap w.drew g cur _ _ _ hg) hcm ?_ (by rw [List.length_set]; exact hlc) ?_ (by rw [List.length_set])) (fun k hk => .inl hk)
  · have h3 : (cE y).length = 3 := rfl
    simp only [List.size_toArray, List.length_append, List.length_take, List.length_drop, Array.length_toList, h3]
    omega
  · rw [List.length_set, show i * 3 + 3 = (i + 1) * 3 by omega]
    exact set_list three hi ht
theorem useL_set {L : List E} {i : Nat} (hi : i < L.length) (y : E) : useL i (L.set i y) = y :: L.eraseIdx i := by
  rw [useL_some (e := y) (by rw [List.getElem?_set_self hi]), List.eraseIdx_set_eq]
theorem useL_last (L : List E) (x : E) : useL L.length (L ++ [x]) = x :: L := by
  rw [useL_some (e := x) (by simp), List.eraseIdx_append_of_length_le (Nat.le_refl _), Nat.sub_self]
  simp
/-- What a Put leaves, and tells. -/
def PutPost (w0 : World) (p : Nat) (most : Nat) (L : List E) (R : List (Nat × Obj)) (k : Int) (v : ByteArray) (e : Ending) (w' : World) : Prop :=
  e = .returned (.tuple #[.int .i64 ((putK most k L).getD 0), .bool (putK most k L).isSome, .int .i64 (putE most k L)]) ∧ CaT w0 p most (putL most k v L) R w'
set_option maxHeartbeats 2000000 in
theorem put_any {w0 : World} {p : Nat} {most : Nat} {L : List E} {R : List (Nat × Obj)} {w : World} (h : CaT w0 p most L R w) (k : Int) (v : ByteArray) (hm : 1 ≤ most) (hm2 : most ≤ 1024) (hl : L.length ≤ most) :
    Calls Try.prog 16 #[.pointer (some ⟨p, 0, none⟩), .int .i64 k, .string v] w (PutPost w0 p most L R k v) := by
  obtain ⟨u, hp, hr, _⟩ := h.row
  obtain ⟨hcm, hu, _⟩ := box_cells hp
  have hm0 : ((most : Int) == 0) = false := beq_eq_false_iff_ne.2 (by omega)
  have H := Lib.hid h
  have hF := Lib.hid (find_any h k (by omega))
  clear h hr
  go_enter Try.func16, Try.ntmps16
  go_wp2_with fail
  refine hF.out.mono ?_
  rintro e w1 (⟨i, x, hx, hk, hpos, rfl, hb⟩ | ⟨hno, rfl, hb⟩)
  · have H1 := Lib.hid (H.out.on hb)
    have hil := (List.getElem?_eq_some_iff.1 hx).1
    have HX := Lib.hid hx
    have HK := Lib.hid hk
    have HPOS := Lib.hid hpos
    have hU := Lib.hid (use_any H1.out i hil (by omega))
    have HM := Lib.hid (useL_some hx)
    have HR1 : Hid (putK most k L = none ∧ putE most k L = 0 ∧ putL most k v L = { x with val := v } :: L.eraseIdx i) := by
      refine Lib.hid ?_
      unfold putK putE putL
      rw [hpos, if_pos hil, if_pos hil, if_pos hil, hx]
      exact ⟨rfl, rfl, rfl⟩
    clear hF hx hk hpos hu hcm hp H
    go_wp2_with fail
    refine hU.out.mono ?_
    rintro e w2 ⟨g, cap, rfl, hp2, h2⟩
    rw [HM.out] at h2
    have hr2 := (h2.rowAt hp2).1
    have hc2 : w2.cell? ⟨g, 1, none⟩ = some (.string x.val) := (row_cells hr2 (i := 0) rfl).2.1
    have hf2 := row_thawed hr2 1
    have HN : Hid (CaT w0 p most ({ x with val := v } :: L.eraseIdx i) R (w2.setCell ⟨g, 1, none⟩ (.string v))) := Lib.hid (h2.poke hp2 (i := 0) (y := { x with val := v }) rfl 1 (by omega) (.string v) rfl)
    clear hr2 h2 hp2 hU
    go_wp2
    go_returns
    refine ⟨?_, by rw [HR1.out.2.2]; exact HN.out⟩
    rw [HR1.out.1, HR1.out.2.1]
    rfl
  · have H1 := Lib.hid (H.out.on hb)
    have HNO := Lib.hid hno
    have hp1 := (hb.block p (heap_in hp)).trans hp
    have hu1 := (box_cells hp1).2.1
    have hq1 := (box_cells hp1).1
    have HP1 := Lib.hid hp1
    have hsn : (storeS 83 (.pointer (some ⟨w1.heap.size, 0, none⟩)) (.agg #[.int .i64 k, .string v, .int .i64 0])).run Try.prog (w1.alloc (.cells #[.int .i64 0, .string ⟨#[]⟩, .int .i64 0] 83)) = .ok () (w1.alloc (.cells #[.int .i64 k, .string v, .int .i64 0] 83)) := store_new w1 ⟨k, v, 0⟩ _ rfl
    clear hF hno hu hcm hp H hb hp1
    obtain ⟨hrow1, _, _⟩ := H1.out.rowAt HP1.out
    obtain ⟨ao, n, cap, rfl, hn⟩ : ∃ ao n cap, u = .slice ao n cap ∧ n = L.length := by
      rcases hrow1.2 with ⟨hv, h0⟩ | ⟨g, cap, cur, hv, _⟩
      · exact ⟨_, _, _, hv, h0.symm⟩
      · exact ⟨_, _, _, hv, rfl⟩
    subst hn
    have HROW := Lib.hid hrow1
    clear hrow1
    go_wp2_with fail
    have hbW : Below w1.heap.size w1 (w1.alloc (.cells #[.int .i64 k, .string v, .int .i64 0] 83)) := by go_grown
    have hxW := heap_alloc_new w1 (.cells #[.int .i64 k, .string v, .int .i64 0] 83)
    have hW2 := H1.out.on hbW
    have hpW := (hbW.block p (heap_in HP1.out)).trans HP1.out
    have hrW := ownsRow_on HROW.out hbW
    have hsW : w1.heap.size < (w1.alloc (.cells #[.int .i64 k, .string v, .int .i64 0] 83)).heap.size := by simp
    generalize w1.alloc (.cells #[.int .i64 k, .string v, .int .i64 0] 83) = W at *
    have huW := (box_cells hpW).2.1
    have hmW := (box_cells hpW).1
    have HPW := Lib.hid hpW
    have HXW := Lib.hid hxW
    have HCW := Lib.hid hW2
    have HRW := Lib.hid hrW
    clear hsn hu1 hq1 hbW hxW hW2 hpW hrW HROW
    go_quiet (fail)
    have HPQ : Hid ((W.drewN nq).heap[p]? = some (.cells #[.int .i64 (most : Int), .slice ao L.length cap] 65 (0, 0))) := HPW
    have HCQ : Hid (CaT w0 p most L R (W.drewN nq)) := Lib.hid (HCW.out.on (below_drew W nq))
    have HXQ : Hid ((W.drewN nq).heap[w1.heap.size]? = some (.cells #[.int .i64 k, .string v, .int .i64 0] 83 (0, 0))) := HXW
    have HRQ : Hid ((W.drewN nq).ownsRow w0.heap.size 83 3 (.slice ao L.length cap) L.length (flat cE L)) := HRW
    have hsQ : w1.heap.size < (W.drewN nq).heap.size := hsW
    clear HPW HCW HXW HRW hsW huW hmW
    generalize W.drewN nq = Wq at *
    have huq := (box_cells HPQ.out).2.1
    have hx0 : Wq.cell? ⟨w1.heap.size, 0, none⟩ = some (.int .i64 k) := by rw [cell_of_row _ _ _ _ _ _ HXQ.out]; rfl
    have hx1 : Wq.cell? ⟨w1.heap.size, 1, none⟩ = some (.string v) := by rw [cell_of_row _ _ _ _ _ _ HXQ.out]; rfl
    have hx2 : Wq.cell? ⟨w1.heap.size, 2, none⟩ = some (.int .i64 0) := by rw [cell_of_row _ _ _ _ _ _ HXQ.out]; rfl
    by_cases hlt : L.length < most
    · have HR1 : Hid (putK most k L = none ∧ putE most k L = 0 ∧ putL most k v L = ⟨k, v, 0⟩ :: L) := by
        refine Lib.hid ?_
        unfold putK putE putL
        rw [if_neg HNO.out, if_neg HNO.out, if_neg HNO.out, if_pos hlt, if_pos hlt, if_pos hlt]
        exact ⟨rfl, rfl, rfl⟩
      have hbv : ∀ w, (buildE 1 #[(0, .agg #[.int .i64 k, .string v, .int .i64 0])]).run Try.prog w = .ok (.slice (some ⟨w.heap.size, 0, none⟩) 1 1) (w.alloc (.cells #[.int .i64 k, .string v, .int .i64 0] 83)) := fun w => build_one ⟨k, v, 0⟩ w
      obtain ⟨i0, hi, hz0, hz1, hz2⟩ := info_parts info_e2
      have HI := Lib.hid (And.intro hi (And.intro hz0 (And.intro hz1 hz2)))
      have hpq := heap_in HPQ.out
      clear hi hz0 hz1 hz2
      go_wp2_with fail
      go_region_law (refine step_append_lies _ rfl (.tmp 57) (.tmp 59) 63 rfl w0.heap.size 83 i0 _ 3 32 Try.underlying63 HI.out.1 HI.out.2.1 HI.out.2.2.1 HI.out.2.2.2 (by simp [Value.cells]) (by decide) (.slice ao L.length cap) _ _ rfl (World.ownsRow.alloc HRQ.out _) _ 1 1 [.int .i64 k, .string v, .int .i64 0] rfl rfl (World.news_of_block (heap_alloc_new _ _)) (three.one ⟨k, v, 0⟩) (by decide) (by unfold maxLen; omega) (by omega) (Nat.le_trans HCQ.out.below.size (by simp)) _ rfl ?_; intro g cap' w4 hown hgrow hat hlt4; obtain ⟨c4, f4, h5, hC5⟩ := HCQ.out.pushed (x := ⟨k, v, 0⟩) HPQ.out (by go_grown) rfl hown hgrow (hat.imp id fun e => by rw [e]; simp); have H5 := Lib.hid h5; have HC5 := Lib.hid hC5; clear h5 hC5 hown hgrow hat)
      all_goals
        go_wp2_with fail
        refine (use_any HC5.out L.length (by rw [List.length_append]; exact Nat.lt_succ_self _) (by rw [List.length_append, List.length_singleton]; omega)).mono ?_
        rintro e w6 ⟨g6, cap6, rfl, _, h6⟩
        rw [useL_last] at h6
        have H6 := Lib.hid h6
        clear h6
        go_wp2
        go_returns
        refine ⟨?_, by rw [HR1.out.2.2]; exact H6.out⟩
        rw [HR1.out.1, HR1.out.2.1]
        rfl
    · have hlm : L.length = most := by omega
      have HO := Lib.hid (oldest_any HCQ.out (by omega) (by omega))
      have HLM := Lib.hid hlm
      clear hlm
      go_wp2_with fail
      refine HO.out.mono ?_
      rintro e w4 (⟨i, x, hx, hold, rfl, hb⟩ | ⟨hno, rfl, hb⟩)
      · have hil := (List.getElem?_eq_some_iff.1 hx).1
        have HR1 : Hid (putK most k L = some x.key ∧ putE most k L = 0 ∧ putL most k v L = ⟨k, v, 0⟩ :: L.eraseIdx i) := by
          refine Lib.hid ?_
          unfold putK putE putL
          have hl2 : oldL L < L.length := by omega
          rw [if_neg HNO.out, if_neg HNO.out, if_neg HNO.out, if_neg hlt, if_neg hlt, if_neg hlt, if_pos hl2, if_pos hl2, if_pos hl2, hold, show L.length - 1 - (L.length - 1 - i) = i by omega, hx]
          exact ⟨rfl, rfl, rfl⟩
        have hp4 := (hb.block p (heap_in HPQ.out)).trans HPQ.out
        have h4 := HCQ.out.on hb
        obtain ⟨g, cap', cur, hv, _⟩ := (h4.rowAt hp4).1.block (by omega)
        cases hv
        obtain ⟨hc0, _, _⟩ := row_cells (h4.rowAt hp4).1 hx
        have hu4 := (box_cells hp4).2.1
        have hx4 := (hb.block _ (heap_in HXQ.out)).trans HXQ.out
        have hy0 : w4.cell? ⟨w1.heap.size, 0, none⟩ = some (.int .i64 k) := by rw [cell_of_row _ _ _ _ _ _ hx4]; rfl
        have hy1 : w4.cell? ⟨w1.heap.size, 1, none⟩ = some (.string v) := by rw [cell_of_row _ _ _ _ _ _ hx4]; rfl
        have hy2 : w4.cell? ⟨w1.heap.size, 2, none⟩ = some (.int .i64 0) := by rw [cell_of_row _ _ _ _ _ _ hx4]; rfl
        have H4 := Lib.hid h4
        have HX := Lib.hid hx
        have HP4 := Lib.hid hp4
        clear HO hx hold hp4 h4 hx4 hx0 hx1 hx2 huq hb HPQ HCQ HXQ HRQ HNO
        go_wp2_with fail
        obtain ⟨W6, hst, hp6, h6⟩ := H4.out.putAt HP4.out hil ⟨k, v, 0⟩
        have hst2 : (storeS 83 (.pointer (some ⟨g, i * 3, none⟩)) (.agg #[.int .i64 k, .string v, .int .i64 0])).run Try.prog w4.drew = .ok () W6 := hst
        have H6 := Lib.hid h6
        have hu6 := (box_cells hp6).2.1
        clear hst h6 hp6
        go_still_tail 7, (by kernel_rfl)
        go_wp2_with fail
        refine (use_any H6.out i (by rw [List.length_set]; exact hil) (by rw [List.length_set]; omega)).mono ?_
        rintro e w7 ⟨g7, cap7, rfl, _, h7⟩
        rw [useL_set hil] at h7
        have H7 := Lib.hid h7
        clear h7 hst2 hu6 hu4 hc0 hy0 hy1 hy2
        go_wp2
        go_returns
        refine ⟨?_, by rw [HR1.out.2.2]; exact H7.out⟩
        rw [HR1.out.1, HR1.out.2.1]
        rfl
      · have HR1 : Hid (putK most k L = none ∧ putE most k L = 12 ∧ putL most k v L = L) := by
          refine Lib.hid ?_
          unfold putK putE putL
          rw [if_neg HNO.out, if_neg HNO.out, if_neg HNO.out, if_neg hlt, if_neg hlt, if_neg hlt, if_neg hno, if_neg hno, if_neg hno]
          exact ⟨rfl, rfl, rfl⟩
        have H4 := Lib.hid (HCQ.out.on hb)
        clear HO hno hb hx0 hx1 hx2 huq
        go_wp2
        go_returns
        refine ⟨?_, by rw [HR1.out.2.2]; exact H4.out⟩
        rw [HR1.out.1, HR1.out.2.1]
        rfl
end KA
end Go.Proofs.Ytomgiemnkbjebaa
