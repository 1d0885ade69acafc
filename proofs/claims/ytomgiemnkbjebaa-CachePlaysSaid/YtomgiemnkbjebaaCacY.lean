/- Contracts of the reference: Pin, New. -/
import Derived.Test.YtomgiemnkbjebaaCacW
import Derived.Test.YtomgiemnkbjebaaCacH
namespace Go.Proofs.Ytomgiemnkbjebaa
set_option maxRecDepth 100000
open Go.ChangeShapes Go.WideShapes Go.ChangeAt Go.RowKit Go.PlainAid

namespace KA
theorem app_empty (b : Nat) (w : World) : (appI #[.slice (some ⟨b, 0, none⟩) 0 0, .slice none 0 0]).run Try.prog w = .ok (.slice (some ⟨b, 0, none⟩) 0 0) w := by kernel_rfl
theorem build_none (w : World) : (buildI 0 #[]).run Try.prog w = .ok (.slice (some ⟨w.heap.size, 0, none⟩) 0 0) (w.alloc (.cells #[] 51)) := by kernel_rfl
/-- A copy of items. -/
theorem item_copy {n₀ : Nat} {W : World} {A : List E} {v : Value} (hrow : Items n₀ W v A) (hlen : A.length ≤ 1048576) (b : Nat) (hb : b = W.heap.size) :
    ∃ u w2, (appI #[.slice (some ⟨b, 0, none⟩) 0 0, v]).run Try.prog (W.alloc (.cells #[] 51)) = .ok u w2 ∧ Items W.heap.size w2 u A ∧ Below W.heap.size W w2 := by
  subst hb
  have hba : Below W.heap.size W (W.alloc (.cells #[] 51)) := by go_grown
  rcases hrow.2 with ⟨rfl, h0⟩ | ⟨g, cap, cur, rfl, hg0, hg, hlc, hcm, hcs, ht⟩
  · obtain rfl : A = [] := List.length_eq_zero_iff.1 h0
    exact ⟨_, _, app_empty _ _, World.ownsRow_made W #[] 0 (Nat.le_refl _) (Nat.zero_le _) rfl, hba⟩
  · have hg2 := (hba.block g (heap_in hg)).trans hg
    have hnews : ∀ j u, (flat cE A)[j]? = some u → (W.alloc (.cells #[] 51)).cell? ((⟨g, 0, none⟩ : Addr).add j) = some u := fun j u hu => by
      have hj : j < A.length * 3 := by rw [← flat_len three A]; exact (List.getElem?_eq_some_iff.1 hu).1
      rw [add_off, cell_of_row _ _ _ _ _ _ hg2, ← hu, ← ht, List.getElem?_take_of_lt hj, Array.getElem?_toList]
    obtain ⟨i0, hi, hz0, hz1, hz2⟩ := info_parts info_i
    obtain ⟨v', w', hr, h2, h3, _⟩ := run_append_own_at (P := Try.prog) (w := W.alloc (.cells #[] 51)) W.heap.size 27 27 51 i0 _ 3 32 Try.underlying27 hi hz0 hz1 hz2 (by simp [Value.cells]) (by decide) (.slice (some ⟨W.heap.size, 0, none⟩) 0 0) 0 []
      (World.ownsRow_made W #[] 0 (Nat.le_refl _) (Nat.zero_le _) rfl) ⟨g, 0, none⟩ A.length cap (flat cE A) (flat_len three A) hnews (flat_one three A) (by unfold maxLen; omega) (by omega) (by simp)
    refine ⟨v', w', hr, ?_, hba.grown h3 (by simp) (by intro k hk; simp [Value.ownBlock] at hk; omega)⟩
    rw [Nat.zero_add, List.nil_append] at h2
    exact h2
/-- A cell of the pins set. -/
theorem items_pin {n₀ : Nat} {w : World} {g n cap : Nat} {L : List E} (h : Items n₀ w (.slice (some ⟨g, 0, none⟩) n cap) L) {i : Nat} {x : E} (hx : L[i]? = some x) (by_ : Int) (hp : 0 ≤ (x.pins : Int) + by_) :
    Items n₀ (w.setCell ⟨g, i * 3 + 2, none⟩ (.int .i64 ((x.pins : Int) + by_))) (.slice (some ⟨g, 0, none⟩) n cap) (pinL i by_ L) ∧ n₀ ≤ g ∧ g < w.heap.size ∧ w.frozen? ⟨g, i * 3 + 2, none⟩ = false := by
  have hi := (List.getElem?_eq_some_iff.1 hx).1
  obtain ⟨g', cap', cur, hv, hb, hg, hlc, hcm, hcs, ht⟩ := RowE.block h (by omega)
  cases hv
  refine ⟨?_, hb, heap_in hg, frozen_of_row _ _ _ _ _ hg⟩
  have h1 := heap_setCell_same w g (i * 3 + 2) cur _ (.int .i64 ((x.pins : Int) + by_)) hg
  have hcx : cur.toList = cur.toList.take (i * 3) ++ cE x ++ cur.toList.drop ((i + 1) * 3) := by
    have e1 : cur.toList.drop (i * 3) = cE x ++ cur.toList.drop ((i + 1) * 3) := by
      have : L[i] = x := (List.getElem?_eq_some_iff.1 hx).2
      rw [drop3 three ht (i := i) (by omega), drop3 three ht (i := i + 1) (by omega), List.drop_eq_getElem_cons hi, flat_cons, List.append_assoc, this]
    rw [List.append_assoc, ← e1, List.take_append_drop]
  have hy : (cE x).set 2 (.int .i64 ((x.pins : Int) + by_)) = cE { x with pins := ((x.pins : Int) + by_).toNat } := by
    show [_, _, _] = [_, _, _]
    rw [show ((((x.pins : Int) + by_).toNat : Nat) : Int) = (x.pins : Int) + by_ by omega]
  have hset : (cur.setIfInBounds (i * 3 + 2) (.int .i64 ((x.pins : Int) + by_))).toList = cur.toList.take (i * 3) ++ cE { x with pins := ((x.pins : Int) + by_).toNat } ++ cur.toList.drop ((i + 1) * 3) := by
    have hl : (cur.toList.take (i * 3)).length = i * 3 := by rw [List.length_take, Array.length_toList]; omega
    rw [Array.toList_setIfInBounds, ← hy]
    generalize cur.toList.take (i * 3) = A at *
    generalize cur.toList.drop ((i + 1) * 3) = B at *
    rw [hcx, List.append_assoc, List.set_append_right _ _ (by rw [hl]; exact Nat.le_add_right _ _), hl, Nat.add_sub_cancel_left, List.set_append_left _ _ (by exact (by decide : 2 < 3)), List.append_assoc]
  rw [pinL_set hx]
  refine RowE.mk' three hb h1 hcm (by rw [Array.size_setIfInBounds, hcs]) (by rw [List.length_set]; exact hlc) ?_ (by rw [List.length_set])
  rw [hset, List.length_set]
  exact set_list three hi ht
/-- The items behind j rounds. -/
def pinTo (k by_ : Int) (L : List E) (j : Nat) : List E := if posK k L < j then pinL (posK k L) by_ L else L
theorem pinTo_len (k by_ : Int) (L : List E) (j : Nat) : (pinTo k by_ L j).length = L.length := by
  unfold pinTo
  split
  · exact pinL_len _ _ _
  · rfl
theorem pinTo_hit {k by_ : Int} {L : List E} {j : Nat} (hj : posK k L = j) : pinTo k by_ L j = L ∧ pinTo k by_ L (j + 1) = pinL j by_ L := by
  unfold pinTo
  rw [if_neg (by omega), if_pos (by omega), hj]
  exact ⟨rfl, rfl⟩
theorem pinTo_miss {k by_ : Int} {L : List E} {j : Nat} (hj : posK k L ≠ j) : pinTo k by_ L (j + 1) = pinTo k by_ L j ∧ (pinTo k by_ L j)[j]? = L[j]? := by
  unfold pinTo
  by_cases h : posK k L < j
  · rw [if_pos h, if_pos (by omega)]
    refine ⟨rfl, ?_⟩
    unfold pinL
    rw [List.getElem?_modify]
    simp [hj]
  · rw [if_neg h, if_neg (by omega)]
    exact ⟨rfl, rfl⟩
def pinB (k by_ : Int) (L : List E) : Bool := decide (posK k L < L.length ∧ ¬ (by_ < 0 ∧ (findE k L).pins = 0))
def pinR (k by_ : Int) (L : List E) : List E := if pinB k by_ L = true then pinL (posK k L) by_ L else L
theorem pinR_no {k by_ : Int} {L : List E} (h : pinB k by_ L = false) : pinR k by_ L = L := by
  unfold pinR
  rw [h]
  rfl
theorem pinR_yes {k by_ : Int} {L : List E} (h : pinB k by_ L = true) : pinR k by_ L = pinL (posK k L) by_ L := by
  unfold pinR
  rw [h]
  rfl
attribute [local go_sem ↓ high] store_i app_i build_i store_c
set_option maxHeartbeats 4000000 in
theorem rpin_any {n₀ : Nat} {w : World} {v : Value} {L : List E} (h : Items n₀ w v L) (hn : n₀ ≤ w.heap.size) (hO : Once L) (most k by_ : Int) (hb1 : -1 ≤ by_ ∧ by_ ≤ 1) (hl : L.length ≤ 4096) (hpn : ∀ e ∈ L, e.pins ≤ 1048576) :
    Calls Try.prog 27 #[.agg #[.int .i64 most, v], .int .i64 k, .int .i64 by_] w fun e w' => ∃ u, e = .returned (.tuple #[.agg #[.int .i64 most, u], .bool (pinB k by_ L)]) ∧ Items n₀ w' u (pinR k by_ L) ∧ Below w.heap.size w w' := by
  have HR := Lib.hid (Reads.of_row h)
  obtain ⟨ao, nn, cap, rfl⟩ := items_slice h
  obtain rfl : nn = L.length := by
    obtain ⟨_, _, hv, _⟩ := HR.out
    cases hv
    rfl
  obtain ⟨W2, hW2, hq, hr, z2, hb2⟩ := two_boxes w most (.slice ao L.length cap)
  obtain ⟨q0, q1, _⟩ := hq.read
  go_enter Try.func27, Try.ntmps27
  go_wp2_with fail
  have HF := Lib.hid (rfind_any (HR.out.on hb2) most k hl)
  have HI := Lib.hid h
  clear hW2 q0 q1 h
  have HFX : Hid (∃ (x : E) (ok : Bool), findE k L = x ∧ decide (posK k L < L.length) = ok) := Lib.hid ⟨_, _, rfl, rfl⟩
  obtain ⟨x, ok, hf, hd⟩ := HFX.out
  rw [hf, hd] at HF
  refine HF.out.mono ?_
  rintro e w3 ⟨rfl, hb3⟩
  unfold itemV
  have hst := store_newI w3 x #[.int .i64 0, .string ⟨#[]⟩, .int .i64 0] rfl
  obtain ⟨w4, hw4, hx4, z4, hb4⟩ := one_box w3 x
  rw [hw4] at hst
  have hz3 : w.heap.size + 2 ≤ w3.heap.size := by
    have := hb3.size
    omega
  have hb24 := hb3.on hb4
  have hq4 := hq.on hb24 (by omega)
  obtain ⟨q0, q1, qf⟩ := hq4.read
  obtain ⟨x0, x1, x2⟩ := hx4.read
  have HR5 := Lib.hid (hr.on hb24 (by omega))
  have HB4 := Lib.hid (hb2.on hb24)
  have HQ4 := Lib.hid hq4
  clear hb3 hb4 hx4 hq hq4 hr hb2 hb24 HF HFX
  have HFD := Lib.hid (And.intro hf hd)
  clear hf hd
  by_cases hno : ok = false ∨ (by_ < 0 ∧ x.pins = 0)
  · have HP : Hid (pinB k by_ L = false) := by
      refine Lib.hid (decide_eq_false fun hc => ?_)
      rw [HFD.out.1] at hc
      rcases hno with h1 | h1
      · rw [h1] at HFD
        exact of_decide_eq_false HFD.out.2 hc.1
      · exact hc.2 h1
    obtain ⟨w7, hst6, hbx6, hoth6, hbel6, _⟩ := HR5.out.store most (.slice ao L.length cap) rfl
    obtain ⟨r0, r1, _⟩ := hbx6.read
    have HI6 := Lib.hid (items_on HI.out fun k hk hlt => (hoth6 k (by omega)).trans (HB4.out.block k hlt))
    have HB6 := Lib.hid (hbel6 _ _ HB4.out (Nat.le_succ _))
    clear hoth6 hbel6 hbx6
    rcases hno with rfl | ⟨hneg, hz⟩
    · go_wp2_with fail
      refine bodyPost_ret (v := .tuple #[.agg #[.int .i64 most, .slice ao L.length cap], .bool false]) (by simp [results, Try.results27, go_sem, r0, r1]) rfl ?_
      rw [HP.out, pinR_no HP.out]
      exact ⟨_, rfl, HI6.out, HB6.out⟩
    · cases ok with
      | false =>
        clear hz
        go_wp2_with fail
        refine bodyPost_ret (v := .tuple #[.agg #[.int .i64 most, .slice ao L.length cap], .bool false]) (by simp [results, Try.results27, go_sem, r0, r1]) rfl ?_
        rw [HP.out, pinR_no HP.out]
        exact ⟨_, rfl, HI6.out, HB6.out⟩
      | true =>
        rw [hz, show ((0 : Nat) : Int) = 0 from rfl] at x2 hst
        go_wp2_with fail
        refine bodyPost_ret (v := .tuple #[.agg #[.int .i64 most, .slice ao L.length cap], .bool false]) (by simp [results, Try.results27, go_sem, r0, r1]) rfl ?_
        rw [HP.out, pinR_no HP.out]
        exact ⟨_, rfl, HI6.out, HB6.out⟩
  · have hok : ok = true := by
      cases ok with
      | true => rfl
      | false => exact absurd (Or.inl rfl) hno
    subst hok
    have hlt : posK k L < L.length := of_decide_eq_true HFD.out.2
    have hz : ¬ (by_ < 0 ∧ x.pins = 0) := fun h => hno (.inr h)
    have HP : Hid (pinB k by_ L = true) := by
      refine Lib.hid (decide_eq_true ⟨hlt, ?_⟩)
      rw [HFD.out.1]
      exact hz
    obtain ⟨y, hy, hyk, hyf⟩ := find_some hlt
    rw [HFD.out.1] at hyf
    subst hyf
    have hpx := hpn x (List.mem_of_getElem? hy)
    have hp0 : 0 ≤ (x.pins : Int) + by_ := by omega
    have HW : Hid (∃ b : Bool, decide (by_ < 0 ∧ x.pins = 0) = b) := Lib.hid ⟨_, rfl⟩
    have hI4 : Items n₀ w4 (.slice ao L.length cap) L := ownsRow_on HI.out HB4.out
    obtain ⟨u, w5, ha, hI5, hb5⟩ := item_copy hI4 (by omega) (w3.heap.size + 1) z4.symm
    obtain ⟨g, gcap, gcur, rfl, _⟩ := RowE.block hI5 (by omega)
    have HI5 := Lib.hid hI5
    have HB5 := Lib.hid hb5
    have HY := Lib.hid hy
    have HYK := Lib.hid hyk
    clear hI4 hI5 hb5 hy hyk HW hno
    have hgo : ∃ z : Bool, (by_ < 0 ∧ ¬ ((x.pins : Int) = 0) ∧ z = true) ∨ (¬ by_ < 0 ∧ z = false) := by
      by_cases hb : by_ < 0
      · exact ⟨true, .inl ⟨hb, by omega, rfl⟩⟩
      · exact ⟨false, .inr ⟨hb, rfl⟩⟩
    have hba : Below w4.heap.size w4 (w4.alloc (.cells #[] 51)) := by go_grown
    have q1' := ((HQ4.out.on hba (by omega)).read).2.1
    clear hba
    have hbn := build_none w4
    have HO := Lib.hid hO
    have HT : Hid (∀ j y, (pinTo k by_ L j)[j]? = some y → (y.key = k → posK k L = j ∧ y = x) ∧ (y.key ≠ k → posK k L ≠ j)) := by
      refine Lib.hid fun j y hyj => ?_
      by_cases e : posK k L = j
      · rw [(pinTo_hit e).1, ← e, HY.out] at hyj
        cases hyj
        exact ⟨fun _ => ⟨e, rfl⟩, fun h => absurd HYK.out h⟩
      · rw [(pinTo_miss e).2] at hyj
        exact ⟨fun h => absurd (once_inj HO.out HY.out hyj (HYK.out.trans h.symm)) e, fun _ => e⟩
    clear hO HFD hz hlt
    rcases hgo with ⟨z, ⟨hb, hzp, rfl⟩ | ⟨hb, rfl⟩⟩
    all_goals
      go_wp2_with fail
      clear hst hw4 hbn ha q1' q0 q1 qf x0 x1 x2
      go_loopw [11] (fun i wr => ∃ j : Nat, j ≤ L.length ∧ i = .int .i64 j ∧ Items w4.heap.size wr (.slice (some ⟨g, 0, none⟩) L.length gcap) (pinTo k by_ L j) ∧ Below w4.heap.size w4 wr) (fun i _ => L.length - (intOf i).toNat)
      case atStart => exact ⟨0, Nat.zero_le _, rfl, by rw [show pinTo k by_ L 0 = L from if_neg (Nat.not_lt_zero _)]; exact HI5.out, HB5.out⟩
      case round =>
        obtain ⟨j, hj, rfl, hI, hB⟩ := hrel
        have HI7 := Lib.hid hI
        have HB7 := Lib.hid hB
        clear hI hB
        by_cases hlt : j < L.length
        · obtain ⟨y, hy⟩ : ∃ y, (pinTo k by_ L j)[j]? = some y := ⟨_, List.getElem?_eq_getElem (by rw [pinTo_len]; exact hlt)⟩
          have hrd := Reads.of_row HI7.out
          obtain ⟨_, _, hv, h2⟩ := hrd
          rw [pinTo_len] at hv
          cases hv
          rcases h2 with h2 | ⟨g', hgg, _, h2⟩
          · rw [h2] at hy
            cases hy
          · cases hgg
            obtain ⟨c0, _, c2⟩ := h2 j y hy
            obtain ⟨t1, t2⟩ := HT.out j y hy
            by_cases hk : y.key = k
            · obtain ⟨hpj, rfl⟩ := t1 hk
              obtain ⟨hpi, hng, _, hfz⟩ := items_pin HI7.out hy by_ hp0
              rw [(pinTo_hit hpj).1] at hpi
              have HPI := Lib.hid hpi
              have HPJ := Lib.hid hpj
              have HNG := Lib.hid hng
              clear h2 hy t1 t2 hpi hpj hng
              go_wp2_with fail
              go_roundw
              case rel => exact ⟨j + 1, by omega, by go_num, by rw [(pinTo_hit HPJ.out).2]; exact HPI.out, below_set HB7.out HNG.out _⟩
              case measure => simp [intOf]; omega
            · have HM := Lib.hid (pinTo_miss (by_ := by_) (t2 hk))
              clear h2 hy t1 t2
              go_wp2_with fail
              go_roundw
              case rel => exact ⟨j + 1, by omega, by go_num, by rw [HM.out.1]; exact HI7.out, HB7.out⟩
              case measure => simp [intOf]; omega
        · obtain rfl : j = L.length := by omega
          have hfin : pinTo k by_ L L.length = pinR k by_ L := by
            rw [pinR_yes HP.out]
            exact if_pos (List.getElem?_eq_some_iff.1 HY.out).1
          have HFN := Lib.hid hfin
          clear hfin
          have hq7 := HQ4.out.on HB7.out (by omega)
          have cf := hq7.read.2.2
          have cu := hq7.read.2.1
          obtain ⟨e0, e1, _⟩ := (hq7.set (.slice (some ⟨g, 0, none⟩) L.length gcap)).read
          have hr2 : BoxC (wr.setCell ⟨w.heap.size, 1, none⟩ (.slice (some ⟨g, 0, none⟩) L.length gcap)) (w.heap.size + 1) 0 (.slice none 0 0) := (heap_setCell_other _ _ _ _ (show w.heap.size + 1 ≠ w.heap.size by omega)).trans (HR5.out.on HB7.out (by omega))
          obtain ⟨Wb, hst, hbx, hoth, hbel, _⟩ := hr2.store most (.slice (some ⟨g, 0, none⟩) L.length gcap) rfl
          obtain ⟨r0, r1, _⟩ := hbx.read
          have HOT := Lib.hid hoth
          have HBL := Lib.hid (hbel _ _ (below_set (HB4.out.on HB7.out) (Nat.le_refl w.heap.size) (o := 1) (.slice (some ⟨g, 0, none⟩) L.length gcap)) (Nat.le_succ _))
          clear hoth hbel hr2 hbx hq7
          go_wp2_with fail
          refine bodyPost_ret (v := .tuple #[.agg #[.int .i64 most, .slice (some ⟨g, 0, none⟩) L.length gcap], .bool true]) (by simp [results, Try.results27, go_sem, r0, r1]) rfl ?_
          rw [HP.out, ← HFN.out]
          exact ⟨_, rfl, items_base (items_on (items_set (o := 1) (u := .slice (some ⟨g, 0, none⟩) L.length gcap) HI7.out (show w.heap.size < w4.heap.size by omega)) fun k hk _ => HOT.out k (by omega)) (by omega), HBL.out⟩
end KA
end Go.Proofs.Ytomgiemnkbjebaa
