/- Contracts: the closure of All, the law's kept and same. -/
import Derived.Test.YtomgiemnkbjebaaCacN
namespace Go.Proofs.Ytomgiemnkbjebaa
set_option maxRecDepth 100000
open Go.ChangeShapes Go.WideShapes Go.ChangeAt Go.RowKit Go.PlainAid

namespace KA
/-- What is kept, without its pins. -/
def bare (L : List E) : List E := L.map fun e => ⟨e.key, e.val, 0⟩
theorem bare_len (L : List E) : (bare L).length = L.length := List.length_map _
theorem bare_take {L : List E} {i : Nat} {e : E} (h : L[i]? = some e) : (bare L).take (i + 1) = (bare L).take i ++ [⟨e.key, e.val, 0⟩] := by
  rw [List.take_add_one]
  unfold bare
  rw [List.getElem?_map, h]
  rfl
theorem KeptAt.on {n₀ bl bm : Nat} {q : Prop} {gc : Nat} {cc : Array Value} {m : Int} {M : List E} {W W' : World} (h : KeptAt n₀ bl bm q gc cc m M W) (k : Below W.heap.size W W') : KeptAt n₀ bl bm q gc cc m M W' := by
  obtain ⟨⟨v, h1, h2⟩, h3, h4⟩ := h
  exact ⟨⟨v, (k.block bl h1.lt).trans h1, ownsRow_on h2 k⟩, (k.block bm h3.lt).trans h3, fun hq => (k.block gc (heap_in (h4 hq))).trans (h4 hq)⟩
theorem eq_cache (p : Nat) : ∀ w, (binOp .eql 23 (.pointer (some ⟨p, 0, none⟩)) (.pointer none)).run Try.prog w = .ok (.bool false) w := fun w => by kernel_rfl
theorem eq_yield (fn : Fn) (a b : Array Value) (w : World) : (binOp .eql 80 (.func fn a b) .nilFunc).run Try.prog w = .ok (.bool false) w := by kernel_rfl
theorem eq_seq (fn : Fn) (a b : Array Value) (w : World) : (binOp .eql 78 (.func fn a b) .nilFunc).run Try.prog w = .ok (.bool false) w := by kernel_rfl
set_option maxHeartbeats 2000000 in
theorem all1_any (n₀ bl bm bc : Nat) (m : Int) {w0 : World} {p : Nat} {most : Int} {L : List E} {R : List (Nat × Obj)} {w : World} (h : CaT w0 p most L R w) (hv : Boxed w bl 27 (.slice none 0 0)) (hm : Boxed w bm 3 (.int .i64 m)) (hc : Boxed w bc 23 (.pointer (some ⟨p, 0, none⟩)))
    (hn : n₀ ≤ w.heap.size) (hbl : n₀ ≤ bl) (hbm : bm < n₀) (hl : L.length ≤ 4096) (hm1 : 1 ≤ m) :
    Calls Try.prog 40 #[.func (.func 31) #[] #[.pointer (some ⟨bl, 0, none⟩), .pointer (some ⟨bm, 0, none⟩)], .pointer (some ⟨bc, 0, none⟩)] w fun e w' =>
      e = .returned (.tuple #[]) ∧ (∃ v, Boxed w' bl 27 v ∧ Items n₀ w' v ((bare L).take m.toNat)) ∧ Below n₀ w w' := by
  have hy := eq_yield
  have hb := hc.cell
  obtain ⟨u, hp, hr, _⟩ := h.row
  have hu := (box_cells hp).2.1
  have HC := Lib.hid (clone_any hr hl)
  have HV := Lib.hid hv
  have HM := Lib.hid hm
  have hul := hr
  clear h hc hv hm hp
  go_enter Try.func40, Try.ntmps40
  go_wp2_with fail
  refine HC.out.mono ?_
  rintro e w1 ⟨v', rfl, hrow, hb1⟩
  obtain ⟨ao, n, cap, gc, cc, rfl, hnl, hext⟩ : ∃ ao n cap gc cc, v' = .slice ao n cap ∧ n = L.length ∧ (0 < L.length → ao = some ⟨gc, 0, none⟩ ∧ w1.heap[gc]? = some (.cells cc 83 (0, 0)) ∧ cc.toList.take (L.length * 3) = flat cE L) := by
    rcases hrow.2 with ⟨hv, h0⟩ | ⟨g, cap, cur, hv, _, hg, _, _, _, ht⟩
    · exact ⟨none, 0, 0, 0, #[], hv, h0.symm, fun h => by omega⟩
    · exact ⟨_, _, cap, g, cur, hv, rfl, fun _ => ⟨rfl, hg, ht⟩⟩
  subst hnl
  have HX := Lib.hid hext
  have HB1 := Lib.hid (hb1.mono hn)
  have H1 : Hid (KeptAt n₀ bl bm (0 < L.length) gc cc m ((bare L).take 0) w1) := Lib.hid ⟨⟨.slice none 0 0, (hb1.block bl HV.out.lt).trans HV.out, rfl, .inl ⟨rfl, rfl⟩⟩, (hb1.block bm HM.out.lt).trans HM.out, fun h => (hext h).2.1⟩
  clear hrow hb1 hext HC hb hul hu hr HV HM
  go_wp2_with fail
  go_loopw [17] (fun i wr => ∃ k : Nat, k ≤ L.length ∧ i = .int .i64 k ∧ KeptAt n₀ bl bm (0 < L.length) gc cc m ((bare L).take k) wr ∧ Below n₀ w wr ∧ (k : Int) < m) (fun i _ => L.length - (intOf i).toNat)
  case atStart => exact ⟨0, Nat.zero_le _, rfl, H1.out, HB1.out, by show (0 : Int) < m; omega⟩
  case round =>
    obtain ⟨k, hk, rfl, hK, hB, hkm⟩ := hrel
    have HK := Lib.hid hK
    have HB := Lib.hid hB
    clear hK hB H1 HB1
    by_cases hlt : k < L.length
    · obtain ⟨x, hx⟩ : ∃ x, L[k]? = some x := ⟨_, List.getElem?_eq_getElem hlt⟩
      obtain ⟨rfl, hg1, ht⟩ := HX.out (by omega)
      have hg := HK.out.ext (by omega)
      have key : ∀ j, j < 3 → wr.cell? ⟨gc, k * 3 + j, none⟩ = (cE x)[j]? := fun j hj => by
        rw [cell_of_row _ _ _ _ _ _ hg, ← flat_at three hx j hj, ← ht, List.getElem?_take_of_lt (by omega), Array.getElem?_toList]
      have e0 : wr.cell? ⟨gc, k * 3, none⟩ = some (.int .i64 x.key) := key 0 (by omega)
      have e1 : wr.cell? ⟨gc, k * 3 + 1, none⟩ = some (.string x.val) := key 1 (by omega)
      have e2 : wr.cell? ⟨gc, k * 3 + 2, none⟩ = some (.int .i64 (x.pins : Int)) := key 2 (by omega)
      have HT := Lib.hid (bare_take hx)
      have hlen : ((bare L).take k).length = k := by rw [List.length_take, bare_len]; omega
      have hq := HB.out.size
      clear key hg hg1 ht hx
      go_wp2_with fail
      have hba : Below wr.heap.size wr (wr.alloc (.cells #[.int .i64 x.key, .string x.val, .int .i64 (x.pins : Int)] 83)) := by go_grown
      have HK2 : Hid (KeptAt n₀ bl bm (0 < L.length) gc cc m ((bare L).take k) (wr.alloc (.cells #[.int .i64 x.key, .string x.val, .int .i64 (x.pins : Int)] 83))) := Lib.hid (HK.out.on hba)
      have HB2 := Lib.hid (HB.out.trans (hba.mono (Nat.le_trans hn hq)))
      clear hq e0 e1 e2
      generalize wr.alloc (.cells #[.int .i64 x.key, .string x.val, .int .i64 (x.pins : Int)] 83) = wa at *
      have hq2 := HB2.out.size
      by_cases hgo : (k : Int) + 1 < m
      · refine (kept1_any n₀ bl bm _ gc cc m x.key x.val _ wa HK2.out (by omega) hbl hbm (by rw [hlen]; omega) true (decide_eq_true (by rw [hlen]; exact hgo))).mono ?_
        rintro e w3 ⟨rfl, hK3, hB3⟩
        rw [← HT.out] at hK3
        have HK3 := Lib.hid hK3
        have HB3 := Lib.hid (HB2.out.trans hB3)
        clear hK3 hB3
        go_wp2
        go_roundw
        case rel => exact ⟨k + 1, by omega, by go_num, HK3.out, HB3.out, by omega⟩
        case measure => simp [intOf]; omega
      · refine (kept1_any n₀ bl bm _ gc cc m x.key x.val _ wa HK2.out (by omega) hbl hbm (by rw [hlen]; omega) false (decide_eq_false (by rw [hlen]; exact hgo))).mono ?_
        rintro e w3 ⟨rfl, hK3, hB3⟩
        rw [← HT.out] at hK3
        have HK3 := Lib.hid hK3
        have HB3 := Lib.hid (HB2.out.trans hB3)
        have hmk : m.toNat = k + 1 := by omega
        clear hK3 hB3
        go_wp2
        go_returns
        exact ⟨rfl, by rw [hmk]; exact HK3.out.row, HB3.out⟩
    · obtain rfl : k = L.length := by omega
      go_wp2
      go_end0
      have e : (bare L).take m.toNat = (bare L).take L.length := by rw [List.take_of_length_le (by rw [bare_len]; omega), List.take_of_length_le (by rw [bare_len]; omega)]
      exact ⟨rfl, by rw [e]; exact HK.out.row, HB.out⟩
theorem items_base {W : World} {base base' : Nat} {v : Value} {L : List E} (h : Items base W v L) (b : base' ≤ base) : Items base' W v L := by
  obtain ⟨h1, h2⟩ := h
  refine ⟨h1, ?_⟩
  rcases h2 with h2 | ⟨g, cap, cur, hv, hb, h3⟩
  · exact .inl h2
  · exact .inr ⟨g, cap, cur, hv, Nat.le_trans b hb, h3⟩
set_option maxHeartbeats 1000000 in
theorem kept_any {w0 : World} {p : Nat} {most : Int} {L : List E} {R : List (Nat × Obj)} {w : World} (h : CaT w0 p most L R w) (m : Int) (hl : L.length ≤ 4096) :
    Calls Try.prog 14 #[.pointer (some ⟨p, 0, none⟩), .int .i64 m] w fun e w' => ∃ v, e = .returned v ∧ Items w.heap.size w' v ((bare L).take m.toNat) ∧ Below w.heap.size w w' := by
  have hmf := make_func
  have hnil := eq_seq
  by_cases hm : 1 ≤ m
  · have hm2 : ¬ m ≤ 0 := by omega
    have HM := Lib.hid hm
    have H := Lib.hid h
    clear hm h
    go_enter Try.func14, Try.ntmps14
    go_wp2_with fail
    refine (mk_all p _).mono ?_
    rintro e _ ⟨rfl, rfl⟩
    have z1 : (w.alloc (.cells #[.int .i64 m] 3)).heap.size = w.heap.size + 1 := by simp
    have z2 : ((w.alloc (.cells #[.int .i64 m] 3)).alloc (.cells #[.slice none 0 0] 27)).heap.size = w.heap.size + 1 + 1 := by simp
    have q0 := heap_alloc_new w (.cells #[.int .i64 m] 3)
    have q1 := heap_alloc_new (w.alloc (.cells #[.int .i64 m] 3)) (.cells #[.slice none 0 0] 27)
    have q2 := heap_alloc_new ((w.alloc (.cells #[.int .i64 m] 3)).alloc (.cells #[.slice none 0 0] 27)) (.cells #[.pointer (some ⟨p, 0, none⟩)] 23)
    rw [z1] at q1
    rw [z2] at q2
    have hv : Boxed (((w.alloc (.cells #[.int .i64 m] 3)).alloc (.cells #[.slice none 0 0] 27)).alloc (.cells #[.pointer (some ⟨p, 0, none⟩)] 23)) (w.heap.size + 1) 27 (.slice none 0 0) := (Below.heap_alloc _ _ _ (heap_in q1)).trans q1
    have hmb : Boxed (((w.alloc (.cells #[.int .i64 m] 3)).alloc (.cells #[.slice none 0 0] 27)).alloc (.cells #[.pointer (some ⟨p, 0, none⟩)] 23)) w.heap.size 3 (.int .i64 m) := (Below.heap_alloc _ _ _ (by rw [z2]; omega)).trans ((Below.heap_alloc _ _ _ (by rw [z1]; omega)).trans q0)
    have hcb : Boxed (((w.alloc (.cells #[.int .i64 m] 3)).alloc (.cells #[.slice none 0 0] 27)).alloc (.cells #[.pointer (some ⟨p, 0, none⟩)] 23)) (w.heap.size + 1 + 1) 23 (.pointer (some ⟨p, 0, none⟩)) := q2
    have HB0 : Hid (Below w.heap.size w (((w.alloc (.cells #[.int .i64 m] 3)).alloc (.cells #[.slice none 0 0] 27)).alloc (.cells #[.pointer (some ⟨p, 0, none⟩)] 23))) := Lib.hid (by go_grown)
    have HC := Lib.hid (H.out.on HB0.out)
    have HV := Lib.hid (And.intro hv (And.intro hmb hcb))
    have hz : w.heap.size + 1 ≤ (((w.alloc (.cells #[.int .i64 m] 3)).alloc (.cells #[.slice none 0 0] 27)).alloc (.cells #[.pointer (some ⟨p, 0, none⟩)] 23)).heap.size := by simp
    have HS := Lib.hid hz
    clear hz hv hmb hcb q0 q1 q2 z1 z2 H
    go_wp2_with fail
    refine (all1_any (w.heap.size + 1) (w.heap.size + 1) w.heap.size (w.heap.size + 1 + 1) m HC.out HV.out.1 HV.out.2.1 HV.out.2.2 HS.out (Nat.le_refl _) (Nat.lt_succ_self _) hl HM.out).mono ?_
    rintro e w3 ⟨rfl, ⟨v, hv, hrow⟩, hB3⟩
    have hc := hv.cell
    have HR := Lib.hid (items_base hrow (Nat.le_succ w.heap.size))
    have HB3 := Lib.hid (HB0.out.trans (hB3.mono (Nat.le_succ w.heap.size)))
    clear hv hrow hB3
    go_wp2
    go_returns
    exact ⟨v, rfl, HR.out, HB3.out⟩
  · have HT := Lib.hid (show (bare L).take m.toNat = [] by rw [show m.toNat = 0 by omega]; exact List.take_zero)
    have hm2 : m ≤ 0 := by omega
    clear h
    go_enter Try.func14, Try.ntmps14
    go_wp2
    go_returns
    refine ⟨.slice none 0 0, rfl, ?_, by go_grown⟩
    rw [HT.out]
    exact ⟨rfl, .inl ⟨rfl, rfl⟩⟩
theorem Reads.of_row {t : TypeId} {n₀ : Nat} {w : World} {v : Value} {L : List E} (h : RowE cE t n₀ w v L) : Reads w v L := by
  rcases h.2 with ⟨rfl, h0⟩ | ⟨g, cap, cur, rfl, _, hg, _, _, _, ht⟩
  · obtain rfl : L = [] := List.length_eq_zero_iff.1 h0
    exact ⟨none, 0, rfl, .inl rfl⟩
  · refine ⟨_, cap, rfl, .inr ⟨g, rfl, heap_in hg, fun i e he => ?_⟩⟩
    have hlt := (List.getElem?_eq_some_iff.1 he).1
    have key : ∀ j, j < 3 → w.cell? ⟨g, i * 3 + j, none⟩ = (cE e)[j]? := fun j hj => by
      rw [cell_of_row _ _ _ _ _ _ hg, ← flat_at three he j hj, ← ht, List.getElem?_take_of_lt (by omega), Array.getElem?_toList]
    exact ⟨key 0 (by omega), key 1 (by omega), key 2 (by omega)⟩
theorem Reads.on {w w' : World} {v : Value} {L : List E} (h : Reads w v L) (b : Below w.heap.size w w') : Reads w' v L := by
  obtain ⟨ao, cap, hv, h⟩ := h
  refine ⟨ao, cap, hv, ?_⟩
  rcases h with h | ⟨g, hg, hlt, h⟩
  · exact .inl h
  · exact .inr ⟨g, hg, Nat.lt_of_lt_of_le hlt b.size, fun i e he => ⟨(b.cell (p := ⟨g, i * 3, none⟩) hlt).trans (h i e he).1, (b.cell (p := ⟨g, i * 3 + 1, none⟩) hlt).trans (h i e he).2.1, (b.cell (p := ⟨g, i * 3 + 2, none⟩) hlt).trans (h i e he).2.2⟩⟩
theorem Reads.take {w : World} {L : List E} {ao : Option Addr} {n cap : Nat} (h : Reads w (.slice ao n cap) L) (k : Nat) (hk : k ≤ L.length) (c : Nat) : Reads w (.slice ao k c) (L.take k) := by
  obtain ⟨ao', cap', hv, h⟩ := h
  cases hv
  refine ⟨ao, c, by rw [List.length_take, Nat.min_eq_left hk], ?_⟩
  rcases h with h | ⟨g, hg, hlt, h⟩
  · exact .inl (by rw [h]; exact List.take_nil)
  · exact .inr ⟨g, hg, hlt, fun i e he => h i e (by
      have hi := (List.getElem?_eq_some_iff.1 he).1
      rw [List.length_take] at hi
      rwa [List.getElem?_take_of_lt (by omega)] at he)⟩
/-- Two lists of the same keys and values. -/
def Like (A B : List E) : Prop := A.length = B.length ∧ ∀ (i : Nat) (a b : E), A[i]? = some a → B[i]? = some b → a.key = b.key ∧ a.val = b.val
set_option maxHeartbeats 1000000 in
theorem same_list {w : World} {v u : Value} {A B : List E} (ha : Reads w v A) (hb : Reads w u B) (hL : Like A B) (hl : A.length ≤ 4096) :
    Calls Try.prog 13 #[v, u] w fun e w' => e = .returned (.bool true) ∧ Below w.heap.size w w' := by
  have HA := Lib.hid ha
  have HB := Lib.hid hb
  have HL := Lib.hid hL
  obtain ⟨ao, ca, rfl, _⟩ := ha
  obtain ⟨bo, cb, rfl, _⟩ := hb
  obtain ⟨n, hn⟩ : ∃ n, A.length = n := ⟨_, rfl⟩
  have hn2 : B.length = n := hL.1.symm.trans hn
  have HN := Lib.hid (And.intro hn hn2)
  rw [hn] at hl
  unfold Reads at HA HB
  rw [hn] at HA
  rw [hn2] at HB
  rw [hn, hn2]
  clear hL hn hn2
  go_enter Try.func13, Try.ntmps13
  go_wp2_with fail
  go_loopw [5] (fun i wr => ∃ k : Nat, k ≤ n ∧ i = .int .i64 k ∧ Below w.heap.size w wr) (fun i _ => n - (intOf i).toNat)
  case atStart => exact ⟨0, Nat.zero_le _, rfl, Below.refl _ _⟩
  case round =>
    obtain ⟨k, hk, rfl, hBe⟩ := hrel
    have HBe := Lib.hid hBe
    clear hBe
    by_cases hlt : k < n
    · obtain ⟨a, ha⟩ : ∃ a, A[k]? = some a := ⟨_, List.getElem?_eq_getElem (by rw [HN.out.1]; exact hlt)⟩
      obtain ⟨b, hb⟩ : ∃ b, B[k]? = some b := ⟨_, List.getElem?_eq_getElem (by rw [HN.out.2]; exact hlt)⟩
      obtain ⟨ek, ev⟩ := HL.out.2 k a b ha hb
      obtain ⟨_, _, hv1, h1⟩ := HA.out
      cases hv1
      obtain ⟨_, _, hv2, h2⟩ := HB.out
      cases hv2
      rcases h1 with h1 | ⟨ga, rfl, l1, h1⟩
      · rw [h1] at ha
        cases ha
      rcases h2 with h2 | ⟨gb, rfl, l2, h2⟩
      · rw [h2] at hb
        cases hb
      obtain ⟨c0, c1, _⟩ := h1 k a ha
      obtain ⟨d0, d1, _⟩ := h2 k b hb
      replace c0 := (HBe.out.cell (p := ⟨ga, k * 3, none⟩) l1).trans c0
      replace c1 := (HBe.out.cell (p := ⟨ga, k * 3 + 1, none⟩) l1).trans c1
      replace d0 := (HBe.out.cell (p := ⟨gb, k * 3, none⟩) l2).trans d0
      replace d1 := (HBe.out.cell (p := ⟨gb, k * 3 + 1, none⟩) l2).trans d1
      rw [← ek] at d0
      rw [← ev] at d1
      generalize a.key = ka at *
      generalize a.val = va at *
      clear h1 h2 ha hb ek ev
      go_wp2_with fail
      go_quiet (fail)
      have HB2 : Hid (Below w.heap.size w (wr.drewN nq)) := HBe.out.trans ⟨rfl, rfl, rfl, Nat.le_refl _, fun _ _ => rfl⟩
      clear HBe c0 c1 d0 d1
      go_wp2
      go_roundw
      case rel => exact ⟨k + 1, by omega, by go_num, HB2.out⟩
      case measure => simp [intOf]; omega
    · obtain rfl : k = n := by omega
      go_wp2
      go_returns
      exact ⟨rfl, HBe.out⟩
end KA
end Go.Proofs.Ytomgiemnkbjebaa
