/- Contracts: New, Put. Contracts: New, Len, Get, Pin, Unpin, Drop. Contracts: Unpin, slices.Delete, Drop. Contracts: no cache, and what no call made; the chapter's example. The maps of the laws of package cache: numbers to texts, and texts to numbers. Plain: what Puts, Gets and Pins leave, as laws ask; a map beside a cache is changed. -/
import Derived.Test.YtkdhlofcdcnjgaaGreatGK
import Derived.Deep.RegionLaw
import Derived.Great.BuildSlice
import Derived.Maps.OwnSet
import Derived.StringKeys
namespace Go.Proofs.YtkdhlofcdcnjgaaGreat
set_option maxRecDepth 100000
open Go.ChangeShapes Go.WideShapes Go.ChangeAt Go.RowKit Go.PlainAid

namespace KA
attribute [local go_sem ↓ high] store_e
theorem row_thawed {n₀ : Nat} {w : World} {g n cap : Nat} {L : List E} (h : RowE cE 178 n₀ w (.slice (some ⟨g, 0, none⟩) n cap) L) (j : Nat) : w.frozen? ⟨g, j, none⟩ = false := by
  rcases h.2 with ⟨hv, _⟩ | ⟨g', cap', cur, hv, _, hg, _⟩
  · cases hv
  · cases hv
    exact frozen_of_row _ _ _ _ _ hg
theorem CaT.rowAt {w0 : World} {p : Nat} {most : Int} {L : List E} {R : List (Nat × Obj)} {w : World} {v : Value} (h : CaT w0 p most L R w) (hp : w.heap[p]? = some (.cells #[.int .i64 most, v] 161 (0, 0))) :
    RowE cE 178 w0.heap.size w v L ∧ v.ownBlock ≠ some p ∧ ∀ b o, (b, o) ∈ R → v.ownBlock ≠ some b := by
  obtain ⟨u, h3, h4, h5, h6⟩ := h.row
  obtain rfl : u = v := by
    rw [hp] at h3
    injection h3 with h3
    injection h3 with h3
    simpa using h3.symm
  exact ⟨h4, h5, h6⟩
/-- One cell of an entry otherwise. -/
theorem CaT.poke {w0 : World} {p : Nat} {most : Int} {L : List E} {R : List (Nat × Obj)} {w : World} {g n cap : Nat} (h : CaT w0 p most L R w) (hp : w.heap[p]? = some (.cells #[.int .i64 most, .slice (some ⟨g, 0, none⟩) n cap] 161 (0, 0)))
    {i : Nat} {x y : E} (hx : L[i]? = some x) (j : Nat) (hj : j < 3) (c : Value) (hy : (cE x).set j c = cE y) : CaT w0 p most (L.set i y) R (w.setCell ⟨g, i * 3 + j, none⟩ c) := by
  have hi := (List.getElem?_eq_some_iff.1 hx).1
  obtain ⟨hr, hne, _⟩ := h.rowAt hp
  obtain ⟨g', cap', cur, hv, hb, hg, hlc, hcm, hcs, ht⟩ := hr.block (by omega)
  cases hv
  have hgp : p ≠ g := fun e => hne (by rw [e]; rfl)
  have h1 := heap_setCell_same w g (i * 3 + j) cur _ c hg
  have hcx : cur.toList = cur.toList.take (i * 3) ++ cE x ++ cur.toList.drop ((i + 1) * 3) := by
    have e1 : cur.toList.drop (i * 3) = cE x ++ cur.toList.drop ((i + 1) * 3) := by
      have : L[i] = x := (List.getElem?_eq_some_iff.1 hx).2
      rw [drop3 three ht (i := i) (by omega), drop3 three ht (i := i + 1) (by omega), List.drop_eq_getElem_cons hi, flat_cons, List.append_assoc, this]
    rw [List.append_assoc, ← e1, List.take_append_drop]
  have hset : (cur.setIfInBounds (i * 3 + j) c).toList = cur.toList.take (i * 3) ++ cE y ++ cur.toList.drop ((i + 1) * 3) := by
    have hl : (cur.toList.take (i * 3)).length = i * 3 := by rw [List.length_take, Array.length_toList]; omega
    rw [Array.toList_setIfInBounds, ← hy]
    generalize cur.toList.take (i * 3) = A at *
    generalize cur.toList.drop ((i + 1) * 3) = B at *
    rw [hcx, List.append_assoc, List.set_append_right _ _ (by rw [hl]; exact Nat.le_add_right _ _), hl, Nat.add_sub_cancel_left, List.set_append_left _ _ (by exact hj), List.append_assoc]
  refine h.move hp (fun _ _ _ => (Below.refl _ _).setCell hb _) (fun k _ _ hk => heap_setCell_other w _ k c fun e => hk (by rw [e]; rfl)) ((heap_setCell_other w ⟨g, i * 3 + j, none⟩ p c hgp).trans hp) (RowE.mk' three hb h1 hcm (by rw [Array.size_setIfInBounds, hcs]) (by rw [List.length_set]; exact hlc) ?_ (by rw [List.length_set])) (fun k hk => .inl hk)
  rw [hset, List.length_set]
  exact set_list three hi ht
/-- An entry more, behind all others. -/
theorem CaT.pushed {w0 : World} {p : Nat} {most : Int} {L : List E} {R : List (Nat × Obj)} {W W1 w4 : World} {v : Value} {x : E} {g m cap : Nat} (h : CaT w0 p most L R W) (hp : W.heap[p]? = some (.cells #[.int .i64 most, v] 161 (0, 0)))
    (hB : Below W.heap.size W W1) (hm : m = L.length + 1) (hown : w4.ownsRow w0.heap.size 178 3 (.slice (some ⟨g, 0, none⟩) m cap) m (flat cE L ++ cE x)) (hgrow : W1.grownBy w4 v.ownBlock) (hat : v.ownBlock = some g ∨ W.heap.size ≤ g) :
    w4.cell? ⟨p, 1, none⟩ = some v ∧ w4.frozen? ⟨p, 1, none⟩ = false ∧ (w4.setCell ⟨p, 1, none⟩ (.slice (some ⟨g, 0, none⟩) m cap)).heap[p]? = some (.cells #[.int .i64 most, .slice (some ⟨g, 0, none⟩) m cap] 161 (0, 0)) ∧
      CaT w0 p most (L ++ [x]) R (w4.setCell ⟨p, 1, none⟩ (.slice (some ⟨g, 0, none⟩) m cap)) := by
  obtain ⟨hr, hne, _⟩ := h.rowAt hp
  have hpl := heap_in hp
  have hp4 : w4.heap[p]? = some (.cells #[.int .i64 most, v] 161 (0, 0)) := (hgrow.block p (Nat.lt_of_lt_of_le hpl hB.size) (fun e => hne e.symm)).trans ((hB.block p hpl).trans hp)
  have h5 := heap_setCell_same w4 p 1 _ _ (.slice (some ⟨g, 0, none⟩) m cap) hp4
  have hpg : g ≠ p := fun e => by
    subst e
    rcases hat with h | h
    · exact hne h
    · omega
  refine ⟨(box_cells hp4).2.1, (box_cells hp4).2.2, h5, h.move hp (fun a b c => ?_) (fun k hk hkp hkv => ?_) h5 ⟨?_, ?_⟩ (fun k hk => ?_)⟩
  · exact (((hB.mono a).grown hgrow (Nat.le_trans a hB.size) (fun k e => b k e))).setCell c _
  · rw [heap_setCell_other _ _ _ _ hkp]
    exact (hgrow.block k (Nat.lt_of_lt_of_le hk hB.size) (fun e => hkv e.symm)).trans (hB.block k hk)
  · rw [List.length_append, List.length_singleton]
    exact flat_len three (L ++ [x]) |>.trans (by rw [List.length_append, List.length_singleton])
  · have hfl : flat cE (L ++ [x]) = flat cE L ++ cE x := by rw [flat_app]; show _ ++ (cE x ++ []) = _; rw [List.append_nil]
    rcases hown.2 with ⟨hv, _⟩ | ⟨g', cap', cur, hv, a1, a2, a3, a4, a5, a6⟩
    · cases hv
    · cases hv
      refine .inr ⟨g, cap, cur, by rw [List.length_append, List.length_singleton, hm], a1, (heap_setCell_other _ _ _ _ hpg).trans a2, by rw [List.length_append, List.length_singleton, ← hm]; exact a3, a4, a5, ?_⟩
      rw [hfl, List.length_append, List.length_singleton, ← hm]
      exact a6
  · have : k = g := by simpa [Value.ownBlock] using hk.symm
    rw [this]
    exact hat
def buildE (n : Nat) (l : Array (Nat × Value)) : Sem Value := Instr.buildSlice 159 n l
theorem build_e (n : Nat) (l : Array (Nat × Value)) : Instr.buildSlice 159 n l = buildE n l := rfl
theorem build_one (x : E) (w : World) : (buildE 1 #[(0, .agg #[.int .i64 x.key, .string x.val, .int .i64 (x.pins : Int)])]).run Tryz.prog w = .ok (.slice (some ⟨w.heap.size, 0, none⟩) 1 1) (w.alloc (.cells #[.int .i64 x.key, .string x.val, .int .i64 (x.pins : Int)] 178)) := by
  obtain ⟨i, i1, i2, i3, _⟩ := info_parts info_e2
  exact run_buildOne (P := Tryz.prog) w 159 178 #[.int .i64 x.key, .string x.val, .int .i64 (x.pins : Int)] i _ Tryz.underlying159 i1 i2 (by rw [i3]; rfl) (by omega) (by omega)
attribute [local go_sem ↓ high] build_e
/-- An entry put in another one's place. -/
theorem CaT.putAt {w0 : World} {p : Nat} {most : Int} {L : List E} {R : List (Nat × Obj)} {w : World} {g n cap : Nat} (h : CaT w0 p most L R w) (hp : w.heap[p]? = some (.cells #[.int .i64 most, .slice (some ⟨g, 0, none⟩) n cap] 161 (0, 0)))
    {i : Nat} (hi : i < L.length) (y : E) : ∃ W', (storeS 178 (.pointer (some ⟨g, i * 3, none⟩)) (.agg #[.int .i64 y.key, .string y.val, .int .i64 (y.pins : Int)])).run Tryz.prog w.drew = .ok () W' ∧
      W'.heap[p]? = some (.cells #[.int .i64 most, .slice (some ⟨g, 0, none⟩) n cap] 161 (0, 0)) ∧ CaT w0 p most (L.set i y) R W' := by
  obtain ⟨hr, hne, _⟩ := h.rowAt hp
  obtain ⟨g', cap', cur, hv, hb, hg, hlc, hcm, hcs, ht⟩ := hr.block (by omega)
  cases hv
  have hgp : p ≠ g := fun e => hne (by rw [e]; rfl)
  have hp2 := (setRow_other w.drew g p (cur.toList.take (i * 3) ++ cE y ++ cur.toList.drop (i * 3 + 3)).toArray hgp).trans hp
  refine ⟨_, store_up (w := w.drew) hg hcs (by omega), hp2, ?_⟩
  refine h.move hp (fun _ _ _ => below_row (w' := w.drew) (drew_below (Below.refl _ _)) hb _) (fun k _ _ hk => setRow_other w.drew g k _ fun e => hk (by rw [e]; rfl)) hp2 (RowE.mk' three hb (setRow_heap w.drew g cur _ _ _ hg) hcm ?_ (by rw [List.length_set]; exact hlc) ?_ (by rw [List.length_set])) (fun k hk => .inl hk)
  · have h3 : (cE y).length = 3 := rfl
    simp only [List.size_toArray, List.length_append, List.length_take, List.length_drop, Array.length_toList, h3]
    omega
  · rw [List.length_set, show i * 3 + 3 = (i + 1) * 3 by omega]
    exact set_list three hi ht
theorem useL_set {L : List E} {i : Nat} (hi : i < L.length) (y : E) : useL i (L.set i y) = y :: L.eraseIdx i := by
  rw [useL_some (e := y) (by rw [List.getElem?_set_self hi]), List.eraseIdx_set_eq]
theorem useL_last (L : List E) (x : E) : useL L.length (L ++ [x]) = x :: L := by
  rw [useL_some (e := x) (by simp), List.eraseIdx_append_of_length_le (Nat.le_refl _), Nat.sub_self]
  simp
/-- What a Put leaves, and tells. -/
def PutPost (w0 : World) (p : Nat) (most : Nat) (L : List E) (R : List (Nat × Obj)) (k : Int) (v : ByteArray) (e : Ending) (w' : World) : Prop :=
  e = .returned (.tuple #[.int .i64 ((putK most k L).getD 0), .bool (putK most k L).isSome, .int .i64 (putE most k L)]) ∧ CaT w0 p most (putL most k v L) R w'
set_option maxHeartbeats 2000000 in
theorem put_any {w0 : World} {p : Nat} {most : Nat} {L : List E} {R : List (Nat × Obj)} {w : World} (h : CaT w0 p most L R w) (k : Int) (v : ByteArray) (hm : 1 ≤ most) (hm2 : most ≤ 1024) (hl : L.length ≤ most) :
    Calls Tryz.prog 111 #[.pointer (some ⟨p, 0, none⟩), .int .i64 k, .string v] w (PutPost w0 p most L R k v) := by
  obtain ⟨u, hp, hr, _⟩ := h.row
  obtain ⟨hcm, hu, _⟩ := box_cells hp
  have hm0 : ((most : Int) == 0) = false := beq_eq_false_iff_ne.2 (by omega)
  have H := Lib.hid h
  have hF := Lib.hid (find_any h k (by omega))
  clear h hr
  go_enter Tryz.func111, Tryz.ntmps111
  go_wp2_with fail
  refine hF.out.mono ?_
  rintro e w1 (⟨i, x, hx, hk, hpos, rfl, hb⟩ | ⟨hno, rfl, hb⟩)
  · have H1 := Lib.hid (H.out.on hb)
    have hil := (List.getElem?_eq_some_iff.1 hx).1
    have HX := Lib.hid hx
    have HK := Lib.hid hk
    have HPOS := Lib.hid hpos
    have hU := Lib.hid (use_any H1.out i hil (by omega))
    have HM := Lib.hid (useL_some hx)
    have HR1 : Hid (putK most k L = none ∧ putE most k L = 0 ∧ putL most k v L = { x with val := v } :: L.eraseIdx i) := by
      refine Lib.hid ?_
      unfold putK putE putL
      rw [hpos, if_pos hil, if_pos hil, if_pos hil, hx]
      exact ⟨rfl, rfl, rfl⟩
    clear hF hx hk hpos hu hcm hp H
    go_wp2_with fail
    refine hU.out.mono ?_
    rintro e w2 ⟨g, cap, rfl, hp2, h2⟩
    rw [HM.out] at h2
    have hr2 := (h2.rowAt hp2).1
    have hc2 : w2.cell? ⟨g, 1, none⟩ = some (.string x.val) := (row_cells hr2 (i := 0) rfl).2.1
    have hf2 := row_thawed hr2 1
    have HN : Hid (CaT w0 p most ({ x with val := v } :: L.eraseIdx i) R (w2.setCell ⟨g, 1, none⟩ (.string v))) := Lib.hid (h2.poke hp2 (i := 0) (y := { x with val := v }) rfl 1 (by omega) (.string v) rfl)
    clear hr2 h2 hp2 hU
    go_wp2
    go_returns
    refine ⟨?_, by rw [HR1.out.2.2]; exact HN.out⟩
    rw [HR1.out.1, HR1.out.2.1]
    rfl
  · have H1 := Lib.hid (H.out.on hb)
    have HNO := Lib.hid hno
    have hp1 := (hb.block p (heap_in hp)).trans hp
    have hu1 := (box_cells hp1).2.1
    have hq1 := (box_cells hp1).1
    have HP1 := Lib.hid hp1
    have hsn : (storeS 178 (.pointer (some ⟨w1.heap.size, 0, none⟩)) (.agg #[.int .i64 k, .string v, .int .i64 0])).run Tryz.prog (w1.alloc (.cells #[.int .i64 0, .string ⟨#[]⟩, .int .i64 0] 178)) = .ok () (w1.alloc (.cells #[.int .i64 k, .string v, .int .i64 0] 178)) := store_new w1 ⟨k, v, 0⟩ _ rfl
    clear hF hno hu hcm hp H hb hp1
    obtain ⟨hrow1, _, _⟩ := H1.out.rowAt HP1.out
    obtain ⟨ao, n, cap, rfl, hn⟩ : ∃ ao n cap, u = .slice ao n cap ∧ n = L.length := by
      rcases hrow1.2 with ⟨hv, h0⟩ | ⟨g, cap, cur, hv, _⟩
      · exact ⟨_, _, _, hv, h0.symm⟩
      · exact ⟨_, _, _, hv, rfl⟩
    subst hn
    have HROW := Lib.hid hrow1
    clear hrow1
    go_wp2_with fail
    have hbW : Below w1.heap.size w1 (w1.alloc (.cells #[.int .i64 k, .string v, .int .i64 0] 178)) := by go_grown
    have hxW := heap_alloc_new w1 (.cells #[.int .i64 k, .string v, .int .i64 0] 178)
    have hW2 := H1.out.on hbW
    have hpW := (hbW.block p (heap_in HP1.out)).trans HP1.out
    have hrW := ownsRow_onC HROW.out hbW
    have hsW : w1.heap.size < (w1.alloc (.cells #[.int .i64 k, .string v, .int .i64 0] 178)).heap.size := by simp
    generalize w1.alloc (.cells #[.int .i64 k, .string v, .int .i64 0] 178) = W at *
    have huW := (box_cells hpW).2.1
    have hmW := (box_cells hpW).1
    have HPW := Lib.hid hpW
    have HXW := Lib.hid hxW
    have HCW := Lib.hid hW2
    have HRW := Lib.hid hrW
    clear hsn hu1 hq1 hbW hxW hW2 hpW hrW HROW
    go_quiet (fail)
    have HPQ : Hid ((W.drewN nq).heap[p]? = some (.cells #[.int .i64 (most : Int), .slice ao L.length cap] 161 (0, 0))) := HPW
    have HCQ : Hid (CaT w0 p most L R (W.drewN nq)) := Lib.hid (HCW.out.on (below_drew W nq))
    have HXQ : Hid ((W.drewN nq).heap[w1.heap.size]? = some (.cells #[.int .i64 k, .string v, .int .i64 0] 178 (0, 0))) := HXW
    have HRQ : Hid ((W.drewN nq).ownsRow w0.heap.size 178 3 (.slice ao L.length cap) L.length (flat cE L)) := HRW
    have hsQ : w1.heap.size < (W.drewN nq).heap.size := hsW
    clear HPW HCW HXW HRW hsW huW hmW
    generalize W.drewN nq = Wq at *
    have huq := (box_cells HPQ.out).2.1
    have hx0 : Wq.cell? ⟨w1.heap.size, 0, none⟩ = some (.int .i64 k) := by rw [cell_of_row _ _ _ _ _ _ HXQ.out]; rfl
    have hx1 : Wq.cell? ⟨w1.heap.size, 1, none⟩ = some (.string v) := by rw [cell_of_row _ _ _ _ _ _ HXQ.out]; rfl
    have hx2 : Wq.cell? ⟨w1.heap.size, 2, none⟩ = some (.int .i64 0) := by rw [cell_of_row _ _ _ _ _ _ HXQ.out]; rfl
    by_cases hlt : L.length < most
    · have HR1 : Hid (putK most k L = none ∧ putE most k L = 0 ∧ putL most k v L = ⟨k, v, 0⟩ :: L) := by
        refine Lib.hid ?_
        unfold putK putE putL
        rw [if_neg HNO.out, if_neg HNO.out, if_neg HNO.out, if_pos hlt, if_pos hlt, if_pos hlt]
        exact ⟨rfl, rfl, rfl⟩
      have hbv : ∀ w, (buildE 1 #[(0, .agg #[.int .i64 k, .string v, .int .i64 0])]).run Tryz.prog w = .ok (.slice (some ⟨w.heap.size, 0, none⟩) 1 1) (w.alloc (.cells #[.int .i64 k, .string v, .int .i64 0] 178)) := fun w => build_one ⟨k, v, 0⟩ w
      obtain ⟨i0, hi, hz0, hz1, hz2⟩ := info_parts info_e2
      have HI := Lib.hid (And.intro hi (And.intro hz0 (And.intro hz1 hz2)))
      have hpq := heap_in HPQ.out
      clear hi hz0 hz1 hz2
      go_wp2_with fail
      go_region_law (refine step_append_lies _ rfl (.tmp 57) (.tmp 59) 159 rfl w0.heap.size 178 i0 _ 3 32 Tryz.underlying159 HI.out.1 HI.out.2.1 HI.out.2.2.1 HI.out.2.2.2 (by simp [Value.cells]) (by decide) (.slice ao L.length cap) _ _ rfl (World.ownsRow.alloc HRQ.out _) _ 1 1 [.int .i64 k, .string v, .int .i64 0] rfl rfl (World.news_of_block (heap_alloc_new _ _)) (three.one ⟨k, v, 0⟩) (by decide) (by unfold maxLen; omega) (by omega) (Nat.le_trans HCQ.out.below.size (by simp)) _ rfl ?_; intro g cap' w4 hown hgrow hat hlt4; obtain ⟨c4, f4, h5, hC5⟩ := HCQ.out.pushed (x := ⟨k, v, 0⟩) HPQ.out (by go_grown) rfl hown hgrow (hat.imp id fun e => by rw [e]; simp); have H5 := Lib.hid h5; have HC5 := Lib.hid hC5; clear h5 hC5 hown hgrow hat)
      all_goals
        go_wp2_with fail
        refine (use_any HC5.out L.length (by rw [List.length_append]; exact Nat.lt_succ_self _) (by rw [List.length_append, List.length_singleton]; omega)).mono ?_
        rintro e w6 ⟨g6, cap6, rfl, _, h6⟩
        rw [useL_last] at h6
        have H6 := Lib.hid h6
        clear h6
        go_wp2
        go_returns
        refine ⟨?_, by rw [HR1.out.2.2]; exact H6.out⟩
        rw [HR1.out.1, HR1.out.2.1]
        rfl
    · have hlm : L.length = most := by omega
      have HO := Lib.hid (oldest_any HCQ.out (by omega) (by omega))
      have HLM := Lib.hid hlm
      clear hlm
      go_wp2_with fail
      refine HO.out.mono ?_
      rintro e w4 (⟨i, x, hx, hold, rfl, hb⟩ | ⟨hno, rfl, hb⟩)
      · have hil := (List.getElem?_eq_some_iff.1 hx).1
        have HR1 : Hid (putK most k L = some x.key ∧ putE most k L = 0 ∧ putL most k v L = ⟨k, v, 0⟩ :: L.eraseIdx i) := by
          refine Lib.hid ?_
          unfold putK putE putL
          have hl2 : oldL L < L.length := by omega
          rw [if_neg HNO.out, if_neg HNO.out, if_neg HNO.out, if_neg hlt, if_neg hlt, if_neg hlt, if_pos hl2, if_pos hl2, if_pos hl2, hold, show L.length - 1 - (L.length - 1 - i) = i by omega, hx]
          exact ⟨rfl, rfl, rfl⟩
        have hp4 := (hb.block p (heap_in HPQ.out)).trans HPQ.out
        have h4 := HCQ.out.on hb
        obtain ⟨g, cap', cur, hv, _⟩ := (h4.rowAt hp4).1.block (by omega)
        cases hv
        obtain ⟨hc0, _, _⟩ := row_cells (h4.rowAt hp4).1 hx
        have hu4 := (box_cells hp4).2.1
        have hx4 := (hb.block _ (heap_in HXQ.out)).trans HXQ.out
        have hy0 : w4.cell? ⟨w1.heap.size, 0, none⟩ = some (.int .i64 k) := by rw [cell_of_row _ _ _ _ _ _ hx4]; rfl
        have hy1 : w4.cell? ⟨w1.heap.size, 1, none⟩ = some (.string v) := by rw [cell_of_row _ _ _ _ _ _ hx4]; rfl
        have hy2 : w4.cell? ⟨w1.heap.size, 2, none⟩ = some (.int .i64 0) := by rw [cell_of_row _ _ _ _ _ _ hx4]; rfl
        have H4 := Lib.hid h4
        have HX := Lib.hid hx
        have HP4 := Lib.hid hp4
        clear HO hx hold hp4 h4 hx4 hx0 hx1 hx2 huq hb HPQ HCQ HXQ HRQ HNO
        go_wp2_with fail
        obtain ⟨W6, hst, hp6, h6⟩ := H4.out.putAt HP4.out hil ⟨k, v, 0⟩
        have hst2 : (storeS 178 (.pointer (some ⟨g, i * 3, none⟩)) (.agg #[.int .i64 k, .string v, .int .i64 0])).run Tryz.prog w4.drew = .ok () W6 := hst
        have H6 := Lib.hid h6
        have hu6 := (box_cells hp6).2.1
        clear hst h6 hp6
        go_still_tail 7, (by kernel_rfl)
        go_wp2_with fail
        refine (use_any H6.out i (by rw [List.length_set]; exact hil) (by rw [List.length_set]; omega)).mono ?_
        rintro e w7 ⟨g7, cap7, rfl, _, h7⟩
        rw [useL_set hil] at h7
        have H7 := Lib.hid h7
        clear h7 hst2 hu6 hu4 hc0 hy0 hy1 hy2
        go_wp2
        go_returns
        refine ⟨?_, by rw [HR1.out.2.2]; exact H7.out⟩
        rw [HR1.out.1, HR1.out.2.1]
        rfl
      · have HR1 : Hid (putK most k L = none ∧ putE most k L = 12 ∧ putL most k v L = L) := by
          refine Lib.hid ?_
          unfold putK putE putL
          rw [if_neg HNO.out, if_neg HNO.out, if_neg HNO.out, if_neg hlt, if_neg hlt, if_neg hlt, if_neg hno, if_neg hno, if_neg hno]
          exact ⟨rfl, rfl, rfl⟩
        have H4 := Lib.hid (HCQ.out.on hb)
        clear HO hno hb hx0 hx1 hx2 huq
        go_wp2
        go_returns
        refine ⟨?_, by rw [HR1.out.2.2]; exact H4.out⟩
        rw [HR1.out.1, HR1.out.2.1]
        rfl
end KA
end Go.Proofs.YtkdhlofcdcnjgaaGreat
namespace Go.Proofs.YtkdhlofcdcnjgaaGreat
set_option maxRecDepth 100000
open Go.ChangeShapes Go.WideShapes Go.ChangeAt Go.RowKit Go.PlainAid

/-- What a Get tells. -/
def getV {K V : Type} [DecidableEq K] (k : K) (L : List (Ent K V)) : Option V := if posK k L < L.length then (L[posK k L]?).map (·.val) else none
/-- What a Get leaves. -/
def getL {K V : Type} [DecidableEq K] (k : K) (L : List (Ent K V)) : List (Ent K V) := if posK k L < L.length then useL (posK k L) L else L
namespace KA
theorem new_ok (most : Nat) (h1 : 1 ≤ most) (h2 : most ≤ 1024) (w : World) :
    Calls Tryz.prog 53 #[.int .i64 (most : Int)] w fun e w' => e = .returned (.tuple #[.pointer (some ⟨w.heap.size, 0, none⟩), .int .i64 0]) ∧ w.alloc (.cells #[.int .i64 (most : Int), .slice none 0 0] 161) = w' := by
  go_enter Tryz.func53, Tryz.ntmps53
  go_wp2
  go_returns
  exact ⟨rfl, rfl⟩
theorem new_no (most : Int) (h : most < 1 ∨ 1024 < most) (w : World) :
    Calls Tryz.prog 53 #[.int .i64 most] w fun e w' => e = .returned (.tuple #[.pointer none, .int .i64 1]) ∧ w = w' := by
  rcases h with h | h
  · go_enter Tryz.func53, Tryz.ntmps53
    go_wp2
    go_returns
    exact ⟨rfl, rfl⟩
  · have h3 : ¬ most < 1 := by omega
    go_enter Tryz.func53, Tryz.ntmps53
    go_wp2
    go_returns
    exact ⟨rfl, rfl⟩
theorem new_cat (w0 w : World) (most : Int) (R : List (Nat × Obj)) (hb : Below w0.heap.size w0 w) (hR : ∀ b o, (b, o) ∈ R → w.heap[b]? = some o) :
    CaT w0 w.heap.size most [] R (w.alloc (.cells #[.int .i64 most, .slice none 0 0] 161)) :=
  ⟨hb.on (by go_grown), hb.size, ⟨.slice none 0 0, heap_alloc_new _ _, ⟨rfl, .inl ⟨rfl, rfl⟩⟩, by simp [Value.ownBlock], fun _ _ _ => by simp [Value.ownBlock]⟩, fun b o h => ⟨(Below.heap_alloc _ _ _ (heap_in (hR b o h))).trans (hR b o h), by have := heap_in (hR b o h); omega⟩⟩
/-- What a Get leaves, and tells. -/
def GetPost (w0 : World) (p : Nat) (most : Int) (L : List E) (R : List (Nat × Obj)) (k : Int) (e : Ending) (w' : World) : Prop :=
  e = .returned (.tuple #[.string ((getV k L).getD ⟨#[]⟩), .bool (getV k L).isSome]) ∧ CaT w0 p most (getL k L) R w'
set_option maxHeartbeats 1000000 in
theorem get_any {w0 : World} {p : Nat} {most : Int} {L : List E} {R : List (Nat × Obj)} {w : World} (h : CaT w0 p most L R w) (k : Int) (hl : L.length ≤ 4096) :
    Calls Tryz.prog 110 #[.pointer (some ⟨p, 0, none⟩), .int .i64 k] w (GetPost w0 p most L R k) := by
  have H := Lib.hid h
  have hF := Lib.hid (find_any h k hl)
  clear h
  go_enter Tryz.func110, Tryz.ntmps110
  go_wp2_with fail
  refine hF.out.mono ?_
  rintro e w1 (⟨i, x, hx, hk, hpos, rfl, hb⟩ | ⟨hno, rfl, hb⟩)
  · have hil := (List.getElem?_eq_some_iff.1 hx).1
    have hU := Lib.hid (use_any (H.out.on hb) i hil hl)
    have HM := Lib.hid (useL_some hx)
    have HR1 : Hid (getV k L = some x.val ∧ getL k L = useL i L) := by
      refine Lib.hid ?_
      unfold getV getL
      rw [hpos, if_pos hil, if_pos hil, hx]
      exact ⟨rfl, rfl⟩
    clear hF hx hk hpos H hb
    go_wp2_with fail
    refine hU.out.mono ?_
    rintro e w2 ⟨g, cap, rfl, hp2, h2⟩
    have h3 := h2
    rw [HM.out] at h3
    have hc2 : w2.cell? ⟨g, 1, none⟩ = some (.string x.val) := (row_cells (h3.rowAt hp2).1 (i := 0) rfl).2.1
    have H2 := Lib.hid h2
    clear h2 h3 hp2 hU
    go_wp2
    go_returns
    refine ⟨?_, by rw [HR1.out.2]; exact H2.out⟩
    rw [HR1.out.1]
    rfl
  · have H1 := Lib.hid (H.out.on hb)
    have HR1 : Hid (getV k L = none ∧ getL k L = L) := by
      refine Lib.hid ?_
      unfold getV getL
      rw [if_neg hno, if_neg hno]
      exact ⟨rfl, rfl⟩
    clear hF hno H hb
    go_wp2
    go_returns
    refine ⟨?_, by rw [HR1.out.2]; exact H1.out⟩
    rw [HR1.out.1]
    rfl
/-- What a Pin, or an Unpin, leaves, and tells. -/
def PinPost (w0 : World) (p : Nat) (most : Int) (L : List E) (R : List (Nat × Obj)) (b : Bool) (i : Nat) (d : Int) (e : Ending) (w' : World) : Prop :=
  e = .returned (.bool b) ∧ CaT w0 p most (if b = true then pinL i d L else L) R w'
theorem pinL_set {L : List E} {i : Nat} {x : E} (hx : L[i]? = some x) (d : Int) : pinL i d L = L.set i { x with pins := ((x.pins : Int) + d).toNat } := by
  unfold pinL
  apply List.ext_getElem?
  intro j
  rw [List.getElem?_modify, List.getElem?_set]
  have hi := (List.getElem?_eq_some_iff.1 hx).1
  by_cases e : i = j
  · subst e
    rw [hx, if_pos rfl, if_pos hi]
    simp
  · rw [if_neg e]
    simp [e]
end KA
end Go.Proofs.YtkdhlofcdcnjgaaGreat
namespace Go.Proofs.YtkdhlofcdcnjgaaGreat
set_option maxRecDepth 100000
open Go.ChangeShapes Go.WideShapes Go.ChangeAt Go.RowKit Go.PlainAid

namespace KA
def appE (vs : Array Value) : Sem Value := Builtin.append_ #[159, 159] 159 vs
theorem app_e (vs : Array Value) : Builtin.append_ #[159, 159] 159 vs = appE vs := rfl
def clrE (t : TypeId) (vs : Array Value) : Sem Value := Builtin.clear_ #[159] t vs
theorem clr_e (t : TypeId) (vs : Array Value) : Builtin.clear_ #[159] t vs = clrE t vs := rfl
theorem slice_hi (g n cap j m : Nat) (ji : Int) (hji : ji = (j : Int)) (hj : j + m = n) : ∃ ad, (cap ≠ j → ad = ⟨g, j * 3, none⟩) ∧ ∀ w, (Instr.slice 159 (.slice (some ⟨g, 0, none⟩) n cap) (some (.int .i64 ji)) none none).run Tryz.prog w = .ok (.slice (some ad) m (cap - j)) w := by
  subst hji
  refine ⟨if cap = j then ⟨g, 0, none⟩ else ⟨g, j * 3, none⟩, fun h => if_neg h, fun w => ?_⟩
  rw [run_slice_l (P := Tryz.prog) w 159 (some ⟨g, 0, none⟩) n cap under_e .i64 (j : Int) (by omega) (by omega), elem_e, Tryz.sizeOf178]
  show Result.ok (sliced _ _ _ _ _) w = _
  unfold sliced
  rw [Int.toNat_natCast, show n - j = m by omega]
  by_cases h : cap = j
  · simp [h]
  · simp [h, add_off]
theorem slice_chk (g n cap i : Nat) (hi : i < n) (hc : n ≤ cap) : ∃ v, ∀ w, (Instr.slice 159 (.slice (some ⟨g, 0, none⟩) n cap) (some (.int .i64 (i : Int))) (some (.int .i64 ((i : Int) + 1))) (some (.int .i64 (n : Int)))).run Tryz.prog w = .ok v w := by
  refine ⟨sliced (some ⟨g, 0, none⟩) (i : Int).toNat ((i : Int) + 1).toNat (n : Int).toNat 3, fun w => ?_⟩
  rw [run_slice_lhm (P := Tryz.prog) w 159 (some ⟨g, 0, none⟩) n cap under_e .i64 .i64 .i64 (i : Int) ((i : Int) + 1) (n : Int) (by omega) (by omega) (by omega) (by omega), elem_e, Tryz.sizeOf178]
  rfl
theorem slice_end (g n cap m : Nat) (mi : Int) (hmi : mi = (m : Int)) (hm : m + 1 = n) (hc : n ≤ cap) (w : World) : (Instr.slice 159 (.slice (some ⟨g, 0, none⟩) m cap) (some (.int .i64 mi)) (some (.int .i64 (n : Int))) none).run Tryz.prog w = .ok (.slice (some ⟨g, m * 3, none⟩) 1 (cap - m)) w := by
  subst hmi
  rw [run_slice_lh (P := Tryz.prog) w 159 (some ⟨g, 0, none⟩) m cap under_e .i64 .i64 (m : Int) (n : Int) (by omega) (by omega) (by omega), elem_e, Tryz.sizeOf178]
  show Result.ok (sliced _ _ _ _ _) w = _
  unfold sliced
  rw [Int.toNat_natCast, Int.toNat_natCast, if_neg (by omega), show n - m = 1 by omega]
  simp [add_off]
theorem zero_e : ∀ w, (zeroValue 178).run Tryz.prog w = .ok (.agg #[.int .i64 0, .string ⟨#[]⟩, .int .i64 0]) w := fun w => by kernel_rfl
theorem clear_one {w : World} {g o c : Nat} {cur : Array Value} (t : TypeId) (hg : w.heap[g]? = some (.cells cur 178 (0, 0))) (hs : o + 3 ≤ cur.size) :
    (clrE t #[.slice (some ⟨g, o, none⟩) 1 c]).run Tryz.prog w = .ok (.tuple #[]) (w.setRow g (cur.toList.take o ++ cE ⟨0, ⟨#[]⟩, 0⟩ ++ cur.toList.drop (o + 3)).toArray) := by
  have hst := run_storeCells_at Tryz.prog g o 178 (cE ⟨0, ⟨#[]⟩, 0⟩) 0 cur w hg (by simpa [cE] using hs) (three.one _)
  have hz : (Builtin.zeroCells (Value.agg #[.int .i64 0, .string ⟨#[]⟩, .int .i64 0]).cells 1).toList = cE ⟨0, ⟨#[]⟩, 0⟩ := by kernel_rfl
  unfold clrE
  simp [Builtin.clear_, run_underlying under_e, elem_e, hz]
  rw [hst, List.append_assoc]
  rfl
/-- What slices.Delete leaves of a row, and gives. -/
def DelPost (n₀ : Nat) (L : List E) (g n cap i : Nat) (w : World) (e : Ending) (w' : World) : Prop :=
  e = .returned (.slice (some ⟨g, 0, none⟩) (n - 1) cap) ∧ RowE cE 178 n₀ w' (.slice (some ⟨g, 0, none⟩) (n - 1) cap) (L.eraseIdx i) ∧ Below n₀ w w' ∧ (∀ k, k < w.heap.size → k ≠ g → w'.heap[k]? = w.heap[k]?)
attribute [local go_sem ↓ high] app_e clr_e
set_option maxHeartbeats 1000000 in
theorem delete_any (n₀ g n cap i : Nat) (L : List E) (w : World) (hr : RowE cE 178 n₀ w (.slice (some ⟨g, 0, none⟩) n cap) L) (hi : i < L.length) (hl : L.length ≤ 4096) :
    Calls Tryz.prog 117 #[.slice (some ⟨g, 0, none⟩) n cap, .int .i64 (i : Int), .int .i64 ((i : Int) + 1)] w (DelPost n₀ L g n cap i w) := by
  obtain ⟨g', cap', cur, hv, hb, hg, hlc, hcm, hcs, ht⟩ := hr.block (by omega)
  cases hv
  obtain ⟨m, hm⟩ : ∃ m, i + m + 1 = L.length := ⟨L.length - 1 - i, by omega⟩
  obtain ⟨ad, had, hs1⟩ := slice_hi g L.length cap (i + 1) m ((i : Int) + 1) (by omega) (by omega)
  have hs2 := slice_lo g L.length cap i (by omega)
  have hown : w.drew.ownsRow n₀ 178 3 (.slice (some ⟨g, 0, none⟩) i cap) i (flat cE (L.take i)) := ⟨by rw [flat_len three, List.length_take, Nat.min_eq_left (by omega)], .inr ⟨g, cap, cur, rfl, hb, hg, by omega, hcm, hcs, take3 three ht (by omega)⟩⟩
  obtain ⟨i0, h1, h2, h3, h4⟩ := info_parts info_e2
  obtain ⟨w2, happ, hown2, hgrow⟩ := run_append_fits (P := Tryz.prog) w.drew n₀ 159 159 178 i0 3 Tryz.underlying159 h1 h3 g i cap _ hown ad m (cap - (i + 1)) (flat cE (L.drop (i + 1))) (by rw [flat_len three, List.length_drop]; omega) (fun j u hu => by
    have hj := (List.getElem?_eq_some_iff.1 hu).1
    rw [flat_len three, List.length_drop] at hj
    rw [had (by omega), Addr.add_mid]
    show w.cell? _ = _
    rw [cell_of_row _ _ _ _ _ _ hg]
    have e : (flat cE L)[(i + 1) * 3 + j]? = some u := by rw [← List.getElem?_drop, flat_drop three]; exact hu
    rw [← ht, List.getElem?_take_of_lt (by omega), Array.getElem?_toList] at e
    exact e) (flat_one three _) (by omega)
  have happ2 : (appE #[.slice (some ⟨g, 0, none⟩) i cap, .slice (some ad) m (cap - (i + 1))]).run Tryz.prog w.drew = .ok (.slice (some ⟨g, 0, none⟩) (i + m) cap) w2 := happ
  obtain ⟨vz, hs4⟩ := slice_chk g L.length cap i hi hlc
  have hs3 := slice_end g L.length cap (i + m) ((i : Int) + (m : Int)) (by omega) (by omega) hlc
  rcases hown2.2 with ⟨hv, _⟩ | ⟨g2, cap2, cur2, hv, _, hg2, _, _, hcs2, ht2⟩
  · cases hv
  cases hv
  have hclr : ∀ t, (clrE t #[.slice (some ⟨g, (i + m) * 3, none⟩) 1 (cap - (i + m))]).run Tryz.prog w2 = _ := fun t => clear_one t hg2 (by omega)
  have hfin : RowE cE 178 n₀ (w2.setRow g (cur2.toList.take ((i + m) * 3) ++ cE ⟨0, ⟨#[]⟩, 0⟩ ++ cur2.toList.drop ((i + m) * 3 + 3)).toArray) (.slice (some ⟨g, 0, none⟩) (L.length - 1) cap) (L.eraseIdx i) := by
    refine RowE.mk' three hb (setRow_heap w2 g cur2 _ _ _ hg2) hcm ?_ (by rw [List.length_eraseIdx_of_lt hi]; omega) ?_ (by rw [List.length_eraseIdx_of_lt hi])
    · have h3 : (cE ⟨0, ⟨#[]⟩, 0⟩).length = 3 := rfl
      simp only [List.size_toArray, List.length_append, List.length_take, List.length_drop, Array.length_toList, h3]
      omega
    · have e : (L.eraseIdx i).length = i + m := by rw [List.length_eraseIdx_of_lt hi]; omega
      have e2 : flat cE (L.eraseIdx i) = flat cE (L.take i) ++ flat cE (L.drop (i + 1)) := by rw [erase_cut, flat_app]
      have e3 : (cur2.toList.take ((i + m) * 3)).length = (i + m) * 3 := by rw [List.length_take, Array.length_toList]; omega
      rw [e, e2, List.append_assoc, List.take_append_of_le_length (by omega), List.take_of_length_le (by omega)]
      exact ht2
  have hbel : Below n₀ w (w2.setRow g (cur2.toList.take ((i + m) * 3) ++ cE ⟨0, ⟨#[]⟩, 0⟩ ++ cur2.toList.drop ((i + m) * 3 + 3)).toArray)   :=
    below_row (w' := w2) ((drew_below (Below.refl _ _) : Below n₀ w w.drew).grown hgrow (Nat.le_trans hb (Nat.le_of_lt (heap_in hg))) (fun k e => by cases e; exact hb)) hb _
  have hoth : ∀ k, k < w.heap.size → k ≠ g → (w2.setRow g (cur2.toList.take ((i + m) * 3) ++ cE ⟨0, ⟨#[]⟩, 0⟩ ++ cur2.toList.drop ((i + m) * 3 + 3)).toArray).heap[k]? = w.heap[k]? := fun k hk hne => (setRow_other _ _ _ _ hne).trans (hgrow.block k hk fun e => hne (by simpa using e))
  have HF := Lib.hid (And.intro hfin (And.intro hbel hoth))
  have hwi : IntKind.i64.wrap ((i : Int) + 1) = (i : Int) + 1 := IntWalk.i64_in _ (by omega)
  clear hfin hbel hoth hr hg ht hcs hown hgrow happ hown2 hg2 ht2 hcs2 h1 h2 h3 h4 had
  generalize (w2.setRow g (cur2.toList.take ((i + m) * 3) ++ cE ⟨0, ⟨#[]⟩, 0⟩ ++ cur2.toList.drop ((i + m) * 3 + 3)).toArray) = W3 at *
  obtain ⟨l, hll⟩ : ∃ l, L.length = l := ⟨_, rfl⟩
  have hne : ((i : Int) == (i : Int) + 1) = false := beq_eq_false_iff_ne.2 (by omega)
  have hil : (i : Int) + 1 ≤ (l : Int) := by omega
  rw [hll] at hs1 hs3 hs4 hs2
  rw [hll]
  have HLL := Lib.hid hll
  clear hll
  go_enter Tryz.func117, Tryz.ntmps117
  go_wp2_with fail
  go_still_tail 6, (by kernel_rfl)
  go_wp2
  go_returns
  have hlm : i + m = l - 1 := by have := HLL.out; omega
  rw [HLL.out] at HF
  refine ⟨?_, HF.out.1, HF.out.2⟩
  rw [← hlm]
  rfl
/-- What a Drop leaves. -/
def dropL (k : Int) (L : List E) : List E := if posK k L < L.length then L.eraseIdx (posK k L) else L
def DropPost (w0 : World) (p : Nat) (most : Int) (L : List E) (R : List (Nat × Obj)) (k : Int) (e : Ending) (w' : World) : Prop :=
  e = .returned (.bool (decide (posK k L < L.length))) ∧ CaT w0 p most (dropL k L) R w'
theorem CaT.deleted {w0 : World} {p : Nat} {most : Int} {L M : List E} {R : List (Nat × Obj)} {w w' : World} {g n cap : Nat} {m : Nat} (h : CaT w0 p most L R w) (hp : w.heap[p]? = some (.cells #[.int .i64 most, .slice (some ⟨g, 0, none⟩) n cap] 161 (0, 0)))
    (hr : RowE cE 178 w0.heap.size w' (.slice (some ⟨g, 0, none⟩) m cap) M) (hb : Below w0.heap.size w w') (ho : ∀ k, k < w.heap.size → k ≠ g → w'.heap[k]? = w.heap[k]?) :
    w'.cell? ⟨p, 1, none⟩ = some (.slice (some ⟨g, 0, none⟩) n cap) ∧ w'.frozen? ⟨p, 1, none⟩ = false ∧ CaT w0 p most M R (w'.setCell ⟨p, 1, none⟩ (.slice (some ⟨g, 0, none⟩) m cap)) := by
  obtain ⟨_, hne, _⟩ := h.rowAt hp
  have hgp : p ≠ g := fun e => hne (by rw [e]; rfl)
  have hp2 := (ho p (heap_in hp) hgp).trans hp
  have h5 := heap_setCell_same w' p 1 _ _ (.slice (some ⟨g, 0, none⟩) m cap) hp2
  refine ⟨(box_cells hp2).2.1, (box_cells hp2).2.2, h.move hp (fun _ _ hp0 => hb.setCell hp0 _) (fun k hk hkp hkv => (heap_setCell_other _ _ _ _ hkp).trans (ho k hk fun e => hkv (by rw [e]; rfl))) h5 ⟨hr.1, ?_⟩ (fun k hk => .inl hk)⟩
  rcases hr.2 with ⟨hv, _⟩ | ⟨g', cap', cur, hv, a1, a2, a3⟩
  · cases hv
  · cases hv
    exact .inr ⟨g, cap, cur, rfl, a1, (heap_setCell_other _ _ _ _ (fun e => hgp e.symm)).trans a2, a3⟩
set_option maxHeartbeats 1000000 in
theorem drop_any {w0 : World} {p : Nat} {most : Int} {L : List E} {R : List (Nat × Obj)} {w : World} (h : CaT w0 p most L R w) (k : Int) (hl : L.length ≤ 4096) :
    Calls Tryz.prog 70 #[.pointer (some ⟨p, 0, none⟩), .int .i64 k] w (DropPost w0 p most L R k) := by
  have H := Lib.hid h
  have hF := Lib.hid (find_any h k hl)
  clear h
  go_enter Tryz.func70, Tryz.ntmps70
  go_wp2_with fail
  refine hF.out.mono ?_
  rintro e w1 (⟨i, x, hx, hk, hpos, rfl, hb⟩ | ⟨hno, rfl, hb⟩)
  · have hil := (List.getElem?_eq_some_iff.1 hx).1
    have h1 := H.out.on hb
    obtain ⟨v, hp, hr, _⟩ := h1.row
    obtain ⟨g, cap, cur, rfl, _⟩ := hr.block (by omega)
    have hu := (box_cells hp).2.1
    have hw : IntKind.i64.wrap ((i : Int) + 1) = (i : Int) + 1 := IntWalk.i64_in _ (by omega)
    have HD := Lib.hid fun w (hr : RowE cE 178 w0.heap.size w (.slice (some ⟨g, 0, none⟩) L.length cap) L) => delete_any w0.heap.size g L.length cap i L w hr hil hl
    have HR1 : Hid (decide (posK k L < L.length) = true ∧ dropL k L = L.eraseIdx i) := by
      refine Lib.hid ?_
      unfold dropL
      rw [hpos, if_pos hil]
      exact ⟨decide_eq_true hil, rfl⟩
    have H1 := Lib.hid h1
    have HP := Lib.hid hp
    have HROW := Lib.hid hr
    clear hF hx hk hpos H hb h1 hr hp
    go_wp2_with fail
    refine (HD.out _ HROW.out).mono ?_
    rintro e w2 ⟨rfl, hr2, hb2, ho2⟩
    obtain ⟨c2, f2, h2⟩ := H1.out.deleted HP.out hr2 hb2 ho2
    have H2 := Lib.hid h2
    clear h2 hr2 hb2 ho2 HD
    go_wp2
    go_returns
    unfold DropPost
    rw [HR1.out.1, HR1.out.2]
    exact ⟨rfl, H2.out⟩
  · have H1 := Lib.hid (H.out.on hb)
    have HR1 : Hid (decide (posK k L < L.length) = false ∧ dropL k L = L) := by
      refine Lib.hid ?_
      unfold dropL
      rw [if_neg hno]
      exact ⟨decide_eq_false hno, rfl⟩
    clear hF hno H hb
    go_wp2
    go_returns
    unfold DropPost
    rw [HR1.out.1, HR1.out.2]
    exact ⟨rfl, H1.out⟩
end KA
end Go.Proofs.YtkdhlofcdcnjgaaGreat
namespace Go.Proofs.YtkdhlofcdcnjgaaGreat
set_option maxRecDepth 100000
open Go.ChangeShapes Go.WideShapes Go.ChangeAt Go.RowKit Go.PlainAid

namespace KA
/-- A Put whose list is known. -/
theorem put_is {w0 : World} {p : Nat} {most : Nat} {L M : List E} {R : List (Nat × Obj)} {k : Int} {v : ByteArray} (hm : 1 ≤ most) (hm2 : most ≤ 1024) (hl : L.length ≤ most) (g : Int) (b : Bool) (e0 : Int)
    (h1 : (putK most k L).getD 0 = g) (h2 : (putK most k L).isSome = b) (h3 : putE most k L = e0) (h4 : putL most k v L = M) (w : World) (h : CaT w0 p most L R w) :
    Calls Tryz.prog 111 #[.pointer (some ⟨p, 0, none⟩), .int .i64 k, .string v] w fun e w' => e = .returned (.tuple #[.int .i64 g, .bool b, .int .i64 e0]) ∧ CaT w0 p most M R w' := by
  subst h1 h2 h3 h4
  exact put_any h k v hm hm2 hl
theorem get_is {w0 : World} {p : Nat} {most : Int} {L M : List E} {R : List (Nat × Obj)} {k : Int} (hl : L.length ≤ 4096) (g : ByteArray) (b : Bool)
    (h1 : (getV k L).getD ⟨#[]⟩ = g) (h2 : (getV k L).isSome = b) (h4 : getL k L = M) (w : World) (h : CaT w0 p most L R w) :
    Calls Tryz.prog 110 #[.pointer (some ⟨p, 0, none⟩), .int .i64 k] w fun e w' => e = .returned (.tuple #[.string g, .bool b]) ∧ CaT w0 p most M R w' := by
  subst h1 h2 h4
  exact get_any h k hl
end KA
end Go.Proofs.YtkdhlofcdcnjgaaGreat
namespace Go.Proofs.YtkdhlofcdcnjgaaGreat
set_option maxRecDepth 100000
open Go.ChangeShapes Go.WideShapes Go.ChangeAt Go.RowKit Go.PlainAid Go.ChangeMaps Go.MapKept
open Go.WideElems (rd rg pl)
open Go.Maps (Keyed)
theorem list_textC {a b : ByteArray} (h : a.data.toList = b.data.toList) : a = b := ByteArray.ext (Array.toList_inj.1 h)

namespace MS
/-- How a value in the map reads. -/
def rdV (v : Value) : Option (DataW Unit × List MemPlace) := match v with | .string s => some (.lit (.string s.data.toList), []) | _ => none
theorem rdV_inv {v : Value} {y : DataW Unit × List MemPlace} (h : rdV v = some y) : ∃ s, v = (.string s) ∧ y = (.lit (.string s.data.toList), []) := by
  unfold rdV at h
  split at h
  · rename_i s
    exact ⟨s, rfl, (Option.some.inj h).symm⟩
  · cases h
/-- What the entries read as. -/
noncomputable def Dm (es : Array MapEntry) : DataW Unit := .map ((es.toList.map (rg Tryz.prog 3 rdV)).foldr DataW.insert [])
theorem keyed : Keyed Tryz.prog 3 := Maps.int_keyed Tryz.underlying3
/-- A map holds these. -/
structure Is (es : Array MapEntry) (clock c : Nat) (T : Int → Option ByteArray) : Prop where
  fit : Go.WideElems.Fit Tryz.prog 3 rdV es clock
  size : es.size ≤ c
  has : ∀ k : Int, Maps.has (Dm es) (.int .i64 k) = (T k).isSome
  get : ∀ (k : Int) (s : ByteArray), T k = some s → ∀ zd, (Dm es).atKey (.int .i64 k) zd = .lit (.string s.data.toList)
theorem empty (clock c : Nat) : Is #[] clock c fun _ => none := ⟨⟨by simp, stamped_empty clock, by simp⟩, Nat.zero_le _, fun k => rfl, fun k s h => (by cases h)⟩
/-- T, but s at k. -/
def put (T : Int → Option ByteArray) (k : Int) (s : ByteArray) : Int → Option ByteArray := fun i => if i = k then some s else T i
theorem zero (w : World) : (zeroValue 9).run Tryz.prog w = .ok (.string ⟨#[]⟩) w := by kernel_rfl
end MS

namespace MI
/-- How a value in the map reads. -/
def rdV (v : Value) : Option (DataW Unit × List MemPlace) := match v with | .int .i64 s => some (.lit (.int .i64 s), []) | _ => none
theorem rdV_inv {v : Value} {y : DataW Unit × List MemPlace} (h : rdV v = some y) : ∃ s, v = (.int .i64 s) ∧ y = (.lit (.int .i64 s), []) := by
  unfold rdV at h
  split at h
  · rename_i s
    exact ⟨s, rfl, (Option.some.inj h).symm⟩
  · cases h
/-- What the entries read as. -/
noncomputable def Dm (es : Array MapEntry) : DataW Unit := .map ((es.toList.map (rg Tryz.prog 9 rdV)).foldr DataW.insert [])
theorem keyed : Keyed Tryz.prog 9 := Maps.string_keyed Tryz.underlying9
/-- A map holds these. -/
structure Is (es : Array MapEntry) (clock c : Nat) (T : ByteArray → Option Int) : Prop where
  fit : Go.WideElems.Fit Tryz.prog 9 rdV es clock
  size : es.size ≤ c
  has : ∀ k : ByteArray, Maps.has (Dm es) (.string k.data.toList) = (T k).isSome
  get : ∀ (k : ByteArray) (s : Int), T k = some s → ∀ zd, (Dm es).atKey (.string k.data.toList) zd = .lit (.int .i64 s)
theorem empty (clock c : Nat) : Is #[] clock c fun _ => none := ⟨⟨by simp, stamped_empty clock, by simp⟩, Nat.zero_le _, fun k => rfl, fun k s h => (by cases h)⟩
/-- T, but s at k. -/
def put (T : ByteArray → Option Int) (k : ByteArray) (s : Int) : ByteArray → Option Int := fun i => if i = k then some s else T i
theorem zero (w : World) : (zeroValue 3).run Tryz.prog w = .ok (.int .i64 0) w := by kernel_rfl
end MI
end Go.Proofs.YtkdhlofcdcnjgaaGreat
namespace Go.Proofs.YtkdhlofcdcnjgaaGreat
set_option maxRecDepth 100000
open Go.ChangeShapes Go.WideShapes Go.ChangeAt Go.RowKit Go.PlainAid Go.MapKept Go.ChangeMaps

section
variable {K V : Type}
theorem posK_head [DecidableEq K] (e : Ent K V) (M : List (Ent K V)) : posK e.key (e :: M) = 0 := by simp [posK, List.findIdx_cons]
theorem use_perm {L : List (Ent K V)} {i : Nat} : (useL i L).Perm L := by
  by_cases h : i < L.length
  · rw [useL_some (List.getElem?_eq_getElem h)]
    rw [erase_cut]
    refine (List.perm_middle (l₁ := L.take i) (a := L[i]) (l₂ := L.drop (i + 1))).symm.trans ?_
    rw [← List.drop_eq_getElem_cons h, List.take_append_drop]
  · unfold useL
    rw [List.getElem?_eq_none (by omega), List.eraseIdx_of_length_le (by omega)]
    exact List.Perm.refl _
theorem get_perm [DecidableEq K] {L : List (Ent K V)} {k : K} : (getL k L).Perm L := by
  unfold getL
  split
  · exact use_perm
  · exact List.Perm.refl _
theorem once_perm {L M : List (Ent K V)} (h : Once L) (p : M.Perm L) : Once M := (List.Perm.map (fun e : Ent K V => e.key) p).nodup_iff.2 (show (L.map fun e => e.key).Nodup from h)
/-- An entry's key tells its value. -/
theorem getV_of [DecidableEq K] {L : List (Ent K V)} (h : Once L) {e : Ent K V} (he : e ∈ L) : getV e.key L = some e.val := by
  have hp := posK_some he rfl
  obtain ⟨x, hx, hk⟩ := posK_at hp
  obtain ⟨j, hj⟩ := List.mem_iff_getElem?.1 he
  have := once_inj h hx hj hk
  unfold getV
  rw [if_pos hp]
  rw [this, hj]
  rfl
theorem getV_some [DecidableEq K] {L : List (Ent K V)} {k : K} {v : V} (h : getV k L = some v) : ∃ e ∈ L, e.key = k ∧ e.val = v := by
  unfold getV at h
  split at h
  · rename_i hp
    obtain ⟨x, hx, hk⟩ := posK_at hp
    rw [hx] at h
    exact ⟨x, List.mem_of_getElem? hx, hk, Option.some.inj h⟩
  · cases h
theorem getV_none [DecidableEq K] {L : List (Ent K V)} {k : K} (h : getV k L = none) : ¬ posK k L < L.length := by
  intro hp
  obtain ⟨x, hx, hk⟩ := posK_at hp
  unfold getV at h
  rw [if_pos hp, hx] at h
  cases h
theorem getV_head [DecidableEq K] (e : Ent K V) (M : List (Ent K V)) : getV e.key (e :: M) = some e.val := by
  unfold getV
  rw [posK_head, if_pos (by simp)]
  rfl
theorem getL_head [DecidableEq K] (e : Ent K V) (M : List (Ent K V)) : getL e.key (e :: M) = e :: M := by
  unfold getL
  rw [posK_head, if_pos (by simp)]
  rfl
/-- A Put where nothing has a pin. -/
theorem put_zero [DecidableEq K] {L : List (Ent K V)} {most : Nat} (h : Once L) (hz : ∀ e ∈ L, e.pins = 0) (hm : 1 ≤ most) (k : K) (v : V) :
    putE most k L = 0 ∧ ∃ M, putL most k v L = ⟨k, v, 0⟩ :: M ∧ ∀ x ∈ M, x ∈ L ∧ x.key ≠ k := by
  unfold putE putL
  by_cases hp : posK k L < L.length
  · obtain ⟨x, hx, hk⟩ := posK_at hp
    rw [if_pos hp, if_pos hp]
    refine ⟨rfl, L.eraseIdx (posK k L), ?_, fun y hy => ?_⟩
    · rw [hx]
      have h0 := hz x (List.mem_of_getElem? hx)
      subst hk
      rw [← h0]
      rfl
    · have := mem_erase h hx hy
      rw [hk] at this
      exact this
  · rw [if_neg hp, if_neg hp]
    by_cases hl : L.length < most
    · rw [if_pos hl, if_pos hl]
      exact ⟨rfl, L, rfl, fun x hx => ⟨hx, posK_none hp x hx⟩⟩
    · rw [if_neg hl, if_neg hl]
      have ho : oldL L < L.length := by
        cases L with
        | nil => simp at hl; omega
        | cons a L => exact oldL_yes List.mem_cons_self (hz a List.mem_cons_self)
      rw [if_pos ho, if_pos ho]
      exact ⟨rfl, _, rfl, fun x hx => ⟨(List.eraseIdx_sublist _ _).subset hx, posK_none hp x ((List.eraseIdx_sublist _ _).subset hx)⟩⟩
/-- A Put where there is room: what was there stays. -/
theorem put_room [DecidableEq K] {L : List (Ent K V)} {most : Nat} (h : Once L) (hl : L.length < most) (k : K) (v : V) :
    putE most k L = 0 ∧ ∃ n M, putL most k v L = ⟨k, v, n⟩ :: M ∧ (n = 0 ∨ ∃ x ∈ L, x.pins = n) ∧ (putL most k v L).length ≤ L.length + 1 ∧ (∀ x ∈ L, x.key ≠ k → x ∈ M) ∧ ∀ x ∈ M, x ∈ L ∧ x.key ≠ k := by
  unfold putE putL
  by_cases hp : posK k L < L.length
  · obtain ⟨x, hx, hk⟩ := posK_at hp
    rw [if_pos hp, if_pos hp]
    refine ⟨rfl, x.pins, L.eraseIdx (posK k L), ?_, .inr ⟨x, List.mem_of_getElem? hx, rfl⟩, ?_, fun y hy hn => ?_, fun y hy => ?_⟩
    · rw [hx]
      subst hk
      rfl
    · rw [hx]
      simp only [Option.toList_some, List.map_cons, List.map_nil, List.cons_append, List.nil_append, List.length_cons]
      rw [List.length_eraseIdx_of_lt hp]
      omega
    · rw [← once_filter h hx]
      exact List.mem_filter.2 ⟨hy, by rw [hk]; simpa using hn⟩
    · have := mem_erase h hx hy
      rw [hk] at this
      exact this
  · rw [if_neg hp, if_neg hp, if_pos hl, if_pos hl]
    exact ⟨rfl, 0, L, rfl, .inl rfl, Nat.le_refl _, fun x hx _ => hx, fun x hx => ⟨hx, posK_none hp x hx⟩⟩
/-- How many have a pin. -/
def pinned (L : List (Ent K V)) : Nat := L.countP fun e => decide (e.pins ≠ 0)
/-- A Put of a key that isn't kept, where not all have a pin: what has a pin stays. -/
theorem put_new [DecidableEq K] {L : List (Ent K V)} {most : Nat} {k : K} (hp : ¬ posK k L < L.length) (hl : pinned L < most) (v : V) :
    putE most k L = 0 ∧ (∀ x ∈ L, x.pins ≠ 0 → x ∈ putL most k v L) ∧ pinned (putL most k v L) ≤ pinned L := by
  unfold putE putL
  rw [if_neg hp, if_neg hp]
  have hc : ∀ M : List (Ent K V), pinned (⟨k, v, 0⟩ :: M) = pinned M := fun M => by
    unfold pinned
    rw [List.countP_cons_of_neg (by simp)]
  by_cases hl2 : L.length < most
  · rw [if_pos hl2, if_pos hl2]
    exact ⟨rfl, fun x hx _ => List.mem_cons_of_mem _ hx, by rw [hc]; exact Nat.le_refl _⟩
  · rw [if_neg hl2, if_neg hl2]
    have ho : oldL L < L.length := by
      by_cases ho : oldL L < L.length
      · exact ho
      · exfalso
        have : pinned L = L.length := List.countP_eq_length.2 fun x hx => decide_eq_true (oldL_no ho x hx)
        omega
    rw [if_pos ho, if_pos ho]
    obtain ⟨x, hx, h0, _⟩ := oldL_at ho
    refine ⟨rfl, fun y hy hn => List.mem_cons_of_mem _ ?_, by rw [hc]; exact (List.eraseIdx_sublist _ _).countP_le⟩
    obtain ⟨j, hj⟩ := List.mem_iff_getElem?.1 hy
    refine List.mem_eraseIdx_iff_getElem?.2 ⟨j, fun e => ?_, hj⟩
    subst e
    rw [hx] at hj
    cases hj
    exact hn h0
theorem pinned_le (L : List (Ent K V)) : pinned L ≤ L.length := List.countP_le_length
theorem pinned_perm {L M : List (Ent K V)} (p : M.Perm L) : pinned M = pinned L := p.countP_eq _
end
namespace KA
/-- A map beside a cache has changed. -/
theorem CaT.block {w0 : World} {p : Nat} {most : Int} {L : List E} {R : List (Nat × Obj)} {w : World} {b : Nat} {es : Array MapEntry} {clock : Nat} (h : CaT w0 p most L ((b, .map es clock) :: R) w) (h0 : w0.heap.size ≤ b) (hR : ∀ x ∈ R, x.1 ≠ b) (o' : Obj) :
    CaT w0 p most L ((b, o') :: R) (setBlock w b o') := by
  obtain ⟨h1, h2, ⟨v, h3, h4, h5, h6⟩, h7⟩ := h
  obtain ⟨hbb, hbp⟩ := h7 b _ List.mem_cons_self
  have hvb := h6 b _ List.mem_cons_self
  have hsz : (setBlock w b o').heap.size = w.heap.size := by simp [setBlock]
  have hoth : ∀ k, k ≠ b → (setBlock w b o').heap[k]? = w.heap[k]? := fun k hk => heap_setBlock_other hbb _ hk
  refine ⟨⟨h1.os, h1.tape, h1.output, by rw [hsz]; exact h1.size, fun k hk => (hoth k (by omega)).trans (h1.block k hk)⟩, h2, ⟨v, (hoth p (fun e => hbp e.symm)).trans h3, ⟨h4.1, ?_⟩, h5, fun c o hc => ?_⟩, fun c o hc => ?_⟩
  · rcases h4.2 with h | ⟨g, cap, cur, rfl, a1, a2, a3⟩
    · exact .inl h
    · exact .inr ⟨g, cap, cur, rfl, a1, (hoth g (fun e => hvb (by rw [← e]; rfl))).trans a2, a3⟩
  · rcases List.mem_cons.1 hc with e | hc
    · cases e
      exact hvb
    · exact h6 c o (List.mem_cons_of_mem _ hc)
  · rcases List.mem_cons.1 hc with e | hc
    · cases e
      exact ⟨heap_setBlock_same hbb _, hbp⟩
    · exact ⟨(hoth c (hR _ hc)).trans (h7 c o (List.mem_cons_of_mem _ hc)).1, (h7 c o (List.mem_cons_of_mem _ hc)).2⟩
/-- A new block beside a cache. -/
theorem CaT.add {w0 : World} {p : Nat} {most : Int} {L : List E} {R : List (Nat × Obj)} {w w' : World} {g : Nat} {o : Obj} (h : CaT w0 p most L R w) (b : Below w.heap.size w w') (hg : w.heap.size ≤ g) (ho : w'.heap[g]? = some o) : CaT w0 p most L ((g, o) :: R) w' := by
  obtain ⟨h1, h2, ⟨v, h3, h4, h5, h6⟩, h7⟩ := h.on b
  have hp := heap_in (h.row.choose_spec.1)
  refine ⟨h1, h2, ⟨v, h3, h4, h5, fun c o' hc => ?_⟩, fun c o' hc => ?_⟩
  · rcases List.mem_cons.1 hc with e | hc
    · cases e
      intro hv
      obtain ⟨u, h3', h4', _⟩ := h.row
      have : u = v := by
        have e := (b.block p (heap_in h3')).trans h3'
        rw [h3] at e
        injection e with e
        injection e with e
        simpa using e.symm
      subst this
      have := (h4'.lt _ hv).2
      omega
    · exact h6 c o' hc
  · rcases List.mem_cons.1 hc with e | hc
    · cases e
      exact ⟨ho, by omega⟩
    · exact h7 c o' hc
theorem CaT.mem {w0 : World} {p : Nat} {most : Int} {L : List E} {R : List (Nat × Obj)} {w : World} (h : CaT w0 p most L R w) {x : Nat × Obj} (hx : x ∈ R) : w.heap[x.1]? = some x.2 := (h.known x.1 x.2 hx).1
end KA
end Go.Proofs.YtkdhlofcdcnjgaaGreat
