import Derived.Test.YtcjfnfdinhbdlaaGreatDoorGbk
namespace Go.Proofs.YtcjfnfdinhbdlaaGreatDoor
set_option maxRecDepth 100000
open Go.ChangeShapes Go.WideShapes Go.ChangeAt Go.RowKit Go.PlainAid Go.Shelf
open Go.Sort (grow)
attribute [local go_sem ↓ high] store_n
theorem RdP.dropP {w : World} {g o : Nat} {L : List Pr} (h : RdP w (some ⟨g, o, none⟩) L) (k : Nat) : RdP w (some ⟨g, o + k * 2, none⟩) (L.drop k) := by
  rcases h with rfl | ⟨g', o', he, h2, h3⟩
  · exact .inl (by simp)
  · cases he
    refine .inr ⟨g, o + k * 2, rfl, h2, fun i p hp => ?_⟩
    rw [List.getElem?_drop] at hp
    obtain ⟨a, b⟩ := h3 (k + i) p hp
    rw [show o + k * 2 + i * 2 = o + (k + i) * 2 by omega]
    exact ⟨a, b⟩
theorem RdP.takeP {w : World} {sl : Option Addr} {L : List Pr} (h : RdP w sl L) (k : Nat) : RdP w sl (L.take k) := by
  rcases h with rfl | ⟨g', o', he, h2, h3⟩
  · exact .inl (by simp)
  · refine .inr ⟨g', o', he, h2, fun i p hp => ?_⟩
    rw [List.getElem?_take] at hp
    split at hp
    · exact h3 i p hp
    · cases hp
theorem Kn.dropP {R : List (Nat × Obj)} {g o : Nat} {L : List Pr} (h : Kn R (some ⟨g, o, none⟩) L) (k : Nat) : Kn R (some ⟨g, o + k * 2, none⟩) (L.drop k) := fun w hw => (h w hw).dropP k
theorem Kn.takeP {R : List (Nat × Obj)} {sl : Option Addr} {L : List Pr} (h : Kn R sl L) (k : Nat) : Kn R sl (L.take k) := fun w hw => (h w hw).takeP k
theorem pkS_drop (L : List Pr) (k : Nat) : pkS (L.drop k) ≤ pkS L := by
  conv => rhs; rw [← List.take_append_drop k L]
  unfold pkS
  rw [List.map_append, List.sum_append]
  omega
section
variable {w0 w w' : World} {pp n c rb : Nat} {V : Int → ByteArray} {R : List (Nat × Obj)}
theorem PV.blankP (H : PV w0 pp n c V ((rb, prO ⟨⟨#[]⟩, ⟨#[]⟩⟩) :: R) w) (hR : ∀ x ∈ R, x.1 ≠ rb) (hb : w0.heap.size ≤ rb) :
    (w.cell? ⟨rb, 0, none⟩ = some (.string ⟨#[]⟩) ∧ w.cell? ⟨rb, 1, none⟩ = some (.string ⟨#[]⟩) ∧ w.frozen? ⟨rb, 0, none⟩ = false ∧ w.frozen? ⟨rb, 1, none⟩ = false) ∧
    PV w0 pp n c V R ((w.setCell ⟨rb, 0, none⟩ (.string ⟨#[]⟩)).setCell ⟨rb, 1, none⟩ (.string ⟨#[]⟩)) ∧
    ((w.setCell ⟨rb, 0, none⟩ (.string ⟨#[]⟩)).setCell ⟨rb, 1, none⟩ (.string ⟨#[]⟩)).cell? ⟨rb, 0, none⟩ = some (.string ⟨#[]⟩) ∧
    ((w.setCell ⟨rb, 0, none⟩ (.string ⟨#[]⟩)).setCell ⟨rb, 1, none⟩ (.string ⟨#[]⟩)).cell? ⟨rb, 1, none⟩ = some (.string ⟨#[]⟩) := by
  have hr := H.mem List.mem_cons_self
  have H9 := (H.into hR (by decide) hb 0 (.string ⟨#[]⟩)).into hR (by decide) hb 1 (.string ⟨#[]⟩)
  have hr9 := H9.mem List.mem_cons_self
  unfold prO at hr
  simp only at hr9
  refine ⟨⟨?_, ?_, frozen_of_row _ _ _ _ _ hr, frozen_of_row _ _ _ _ _ hr⟩, H9.drop, ?_, ?_⟩
  · rw [cell_of_row _ _ _ _ _ _ hr]; rfl
  · rw [cell_of_row _ _ _ _ _ _ hr]; rfl
  · rw [cell_of_row _ _ _ _ _ _ hr9]; rfl
  · rw [cell_of_row _ _ _ _ _ _ hr9]; rfl
end
section
variable {w0 w w' : World} {pp n c tb : Nat} {V : Int → ByteArray} {R : List (Nat × Obj)} {i : Int}
set_option maxHeartbeats 4000000 in
theorem split_any (H : PV w0 pp n c V R w) (hT : (tb, treeO pp i) ∈ R) (hn : 1 < n) (hc : c < 800000) (x : NdM) (g : Nat) (hg : x.sl = some ⟨g, 0, none⟩) (hk : Kn R x.sl x.L) (hs : pkS x.L ≤ 1000) (hsm : x.L.length ≤ 4096) (h0 : 0 < x.L.length) (hcp : x.L.length ≤ x.c) (hm : Mod x.L) (h32 : ∀ q ∈ x.L, q.key.size ≤ 32) (b0 : 0 ≤ x.at_) (b1 : x.at_ ≤ 65535) :
    Calls Tryz.prog 125 #[.pointer (some ⟨tb, 0, none⟩), .agg x.cells] w fun e w' => ∃ V' z, ∃ p : Pr, e = .returned (.tuple #[.agg #[.string p.key, .string p.val], .int .i64 z]) ∧ p.key.size ≤ 32 ∧ p.val.size ≤ 2 ∧ (∀ v', Least (V 0) 2 n v' → outB n (V 0) x.at_ = true → pkS (x.L.take (halfP x.level x.L)) ≤ 254 → pkS (x.L.drop (halfP x.level x.L)) ≤ 254 → z = 0 ∧ V' = cutV V x.D v' ∧ ∃ m, x.L[halfP x.level x.L]? = some m ∧ p = ⟨m.key, numB v'⟩) ∧ PV w0 pp n (c + 4) V' R w' := by
  have H1 := ((H.push (ndO x)).push (prO ⟨⟨#[]⟩, ⟨#[]⟩⟩)).turn
  rw [show (w.alloc (ndO x)).heap.size = w.heap.size + 1 by simp] at H1
  have hpg := H.pages
  have hv0 := H.size (k := 0) (by omega) (by omega)
  have hlt0 := H.below.size
  have hRB : Hid (∀ y ∈ R, y.1 < w.heap.size) := Lib.hid fun y hy => H.lt hy
  have hT1 : (tb, treeO pp i) ∈ (w.heap.size, ndO x) :: (w.heap.size + 1, prO ⟨⟨#[]⟩, ⟨#[]⟩⟩) :: R := List.mem_cons_of_mem _ (List.mem_cons_of_mem _ hT)
  obtain ⟨t0, t1⟩ := tree_cells (H1.mem hT1)
  obtain ⟨d0, d1, d2, d3, d4, d5⟩ := nd_cells (H1.mem List.mem_cons_self)
  simp only at t0 t1 d0 d1 d2 d3 d4 d5
  have HA := Lib.hid (H1.allocAny (by omega) (by omega))
  have HK := Lib.hid (And.intro hk (And.intro hm h32))
  have HT := Lib.hid hT1
  have HTR := Lib.hid hT
  clear H H1 hk hT hT1 hm h32
  obtain ⟨W1, hW1⟩ : ∃ W1, (w.alloc (ndO x)).alloc (prO ⟨⟨#[]⟩, ⟨#[]⟩⟩) = W1 := ⟨_, rfl⟩
  rw [hW1] at HA t0 t1 d0 d1 d2 d3 d4 d5
  have HW1 := Lib.hid hW1
  clear hW1
  unfold NdM.cells
  go_enter Tryz.func125, Tryz.ntmps125
  go_upto_region 1 with (fail)
  rw [show ((w.alloc (.cells #[.int .i64 x.at_, .int .i64 x.level, .string x.low, .string x.high, .slice (some ⟨g, 0, none⟩) x.L.length x.c, .int .i64 x.next] 116)).alloc (.cells #[.string ⟨#[]⟩, .string ⟨#[]⟩] 121)) = W1 by rw [← hg]; exact HW1.out]
  go_wp2_with fail
  refine HA.out.mono ?_
  clear HA
  rintro e w1 (⟨v, hv, rfl, H1⟩ | ⟨hno, rfl, H1⟩)
  · have hvb : 2 ≤ v ∧ v < n := ⟨hv.1.1, hv.1.2.2.1⟩
    obtain ⟨vn, hvn⟩ := Int.eq_ofNat_of_zero_le (show 0 ≤ v by omega)
    subst hvn
    generalize hvq : (vn : Int) = v at *
    have HVN := Lib.hid hvq
    have HLV := Lib.hid hv
    clear hvq
    have hN := ndIs_of (H1.mem List.mem_cons_self) (H1.kn (HK.out.1.mono fun y hy => List.mem_cons_of_mem _ (List.mem_cons_of_mem _ hy))) hsm
    have hk : halfP x.level x.L < x.L.length := halfP_lt h0
    have hhf := half_any hN HK.out.2.1 h0
    obtain ⟨k, hkk⟩ : ∃ k, halfP x.level x.L = k := ⟨_, rfl⟩
    rw [hkk] at hk hhf
    have HKK := Lib.hid hkk
    have HH := Lib.hid hhf
    clear hkk hhf
    have H1' := Lib.hid H1
    clear H1 hN d0 d1 d2 d3 d4 d5 t0 t1 hv
    go_wp2_with fail
    refine HH.out.mono ?_
    rintro e w2 ⟨rfl, hb2⟩
    have H2 := H1'.out.on hb2
    obtain ⟨t0, t1⟩ := tree_cells (H2.mem HT.out)
    obtain ⟨d0, d1, d2, d3, d4, d5⟩ := nd_cells (H2.mem List.mem_cons_self)
    have f4 := nd_thaw (H2.mem List.mem_cons_self) 4
    simp only at t0 t1 d0 d1 d2 d3 d4 d5 f4
    clear hb2 HH
    rw [hg] at d4
    have H2' := Lib.hid H2
    have H2a := H2.push (.cells #[.int .i64 0, .int .i64 0, .string ⟨#[]⟩, .string ⟨#[]⟩, .slice none 0 0, .int .i64 0] 116 (0, 0))
    obtain ⟨_, a1, _, _, a4, _⟩ := nd_cells (H2a.mem (List.mem_cons_of_mem _ List.mem_cons_self))
    simp only at a1 a4
    rw [hg] at a4
    have hltW : w.heap.size < w2.heap.size := H2.lt (x := (w.heap.size, ndO x)) List.mem_cons_self
    have hltW2 : w.heap.size + 1 < w2.heap.size := H2.lt (x := (w.heap.size + 1, prO ⟨⟨#[]⟩, ⟨#[]⟩⟩)) (List.mem_cons_of_mem _ List.mem_cons_self)
    clear H2a
    have hkc : k ≤ x.c := by omega
    have hkl : k ≤ x.L.length := by omega
    have hkl2 : (k : Int) ≤ (x.L.length : Int) := by omega
    have hcne : ¬ (x.c = k) := by omega
    clear H2
    obtain ⟨x2, hx2⟩ : ∃ x2 : NdM, (⟨v, x.level, ⟨#[]⟩, ⟨#[]⟩, x.L.drop k, some ⟨g, 0 + k * 2, none⟩, x.c - k, 0⟩ : NdM) = x2 := ⟨_, rfl⟩
    have hc2 : x2.cells = #[.int .i64 v, .int .i64 x.level, .string ⟨#[]⟩, .string ⟨#[]⟩, .slice (some ⟨g, k * 2, none⟩) (x.L.length - k) (x.c - k), .int .i64 0] := by
      rw [← hx2]
      unfold NdM.cells
      simp only [List.length_drop, Nat.zero_add]
    have hst : (storeS 116 (.pointer (some ⟨w2.heap.size, 0, none⟩)) (.agg #[.int .i64 v, .int .i64 x.level, .string ⟨#[]⟩, .string ⟨#[]⟩, .slice (some ⟨g, k * 2, none⟩) (x.L.length - k) (x.c - k), .int .i64 0])).run Tryz.prog (w2.drew.alloc (.cells #[.int .i64 0, .int .i64 0, .string ⟨#[]⟩, .string ⟨#[]⟩, .slice none 0 0, .int .i64 0] 116)) = .ok () (w2.drew.alloc (ndO x2)) := by
      have := store_nd_fresh w2.drew x2
      rw [hc2] at this
      exact this
    have hst2 : (storeS 116 (.pointer (some ⟨w2.heap.size, 0, none⟩)) (.agg #[.int .i64 v, .int .i64 x.level, .string ⟨#[]⟩, .string ⟨#[]⟩, .slice (some ⟨g, k * 2, none⟩) (x.L.length - k) (x.c - k), .int .i64 0])).run Tryz.prog (w2.alloc (.cells #[.int .i64 0, .int .i64 0, .string ⟨#[]⟩, .string ⟨#[]⟩, .slice none 0 0, .int .i64 0] 116)).drew = .ok () (w2.drew.alloc (ndO x2)) := hst
    have HX2 := Lib.hid (And.intro hx2 hc2)
    clear hx2 hc2
    go_upto_region 6 with fail
    go_cut [9] (fun s9 wx => ∃ nb, s9 = .pointer (some ⟨nb, 0, none⟩) ∧ w2.heap.size ≤ nb ∧ PV w0 pp n (c + 2) (givenV V v) ((nb, ndO x2) :: (w.heap.size, ndO x) :: (w.heap.size + 1, prO ⟨⟨#[]⟩, ⟨#[]⟩⟩) :: R) wx)
    case first =>
      go_wp2_with fail
      go_region_law (fail)
      all_goals go_wp2_with fail
      all_goals go_simp
      all_goals go_meet
      all_goals exact ⟨_, rfl, Nat.le_refl _, (H2'.out.push (ndO x2)).drew⟩
    case rest =>
      obtain ⟨nb, rfl, hnb2, H3⟩ := hcut
      clear hst hst2 a1 a4 t0 t1 d0 d1 d2 d3 d4 d5 f4 H2'
      have hne : ∀ y ∈ (nb, ndO x2) :: (w.heap.size + 1, prO ⟨⟨#[]⟩, ⟨#[]⟩⟩) :: R, y.1 ≠ w.heap.size := fun y hy e => by
        rcases List.mem_cons.1 hy with rfl | hy
        · simp only at e
          omega
        · rcases List.mem_cons.1 hy with rfl | hy
          · simp only at e
            omega
          · have := hRB.out y hy
            omega
      have H4 := H3.turn
      obtain ⟨t0, t1⟩ := tree_cells (H4.mem (x := (tb, treeO pp i)) (by simp [HTR.out]))
      obtain ⟨d0, d1, d2, d3, d4, d5⟩ := nd_cells (H4.mem List.mem_cons_self)
      have f4 := nd_thaw (H4.mem List.mem_cons_self) 4
      simp only at t0 t1 d0 d1 d2 d3 d4 d5 f4
      rw [hg] at d4
      have H5 := H4.into hne (by decide) hlt0 4 (.slice (some ⟨g, 0, none⟩) k x.c)
      obtain ⟨x1, hx1⟩ : ∃ x1 : NdM, ({ x with L := x.L.take k, sl := some ⟨g, 0, none⟩ } : NdM) = x1 := ⟨_, rfl⟩
      have hlk : (x.L.take k).length = k := by rw [List.length_take]; omega
      have hc1 : x1.cells = #[.int .i64 x.at_, .int .i64 x.level, .string x.low, .string x.high, .slice (some ⟨g, 0, none⟩) k x.c, .int .i64 x.next] := by
        rw [← hx1]
        unfold NdM.cells
        simp only [hlk]
      have H5 : PV w0 pp n (c + 2) (givenV V v) ((w.heap.size, ndO x1) :: (nb, ndO x2) :: (w.heap.size + 1, prO ⟨⟨#[]⟩, ⟨#[]⟩⟩) :: R) (wc.setCell ⟨w.heap.size, 4, none⟩ (.slice (some ⟨g, 0, none⟩) k x.c)) := by
        unfold ndO
        rw [hc1]
        exact H5
      obtain ⟨W5, hW5⟩ : ∃ W5, wc.setCell ⟨w.heap.size, 4, none⟩ (.slice (some ⟨g, 0, none⟩) k x.c) = W5 := ⟨_, rfl⟩
      rw [hW5] at H5
      obtain ⟨k0, k1, k2, k3, k4, k5⟩ := nd_cells (H5.mem List.mem_cons_self)
      have hx1L : x1.L = x.L.take k ∧ x1.sl = some ⟨g, 0, none⟩ ∧ x1.c = x.c ∧ x1.at_ = x.at_ ∧ x1.level = x.level ∧ x1.low = x.low ∧ x1.high = x.high ∧ x1.next = x.next := by rw [← hx1]; exact ⟨rfl, rfl, rfl, rfl, rfl, rfl, rfl, rfl⟩
      obtain ⟨e1, e2, e3, e4, e5, e6, e7, e8⟩ := hx1L
      simp only at k0 k1 k2 k3 k4 k5
      rw [e4] at k0
      rw [e5] at k1
      rw [e6] at k2
      rw [e7] at k3
      rw [e1, e2, e3, hlk] at k4
      rw [e8] at k5
      have HW := Lib.hid (twrite_any H5 (x := x1) (i := i) (tb := tb) (by simp [HTR.out]) (by omega) (by omega) (by rw [e1, e2, ← hg]; exact (HK.out.1.mono fun y hy => by simp [hy]).takeP k) (by rw [e1]; have := pkS_take x.L k; omega) (by rw [e1, hlk]; omega) (by rw [e4]; omega) (by rw [e4]; omega))
      rw [hc1] at HW
      have HX1 := Lib.hid hx1
      clear H3 H4 H5 hne e1 e2 e3 e4 e5 e6 e7 e8 hlk hc1 hx1
      go_wp2_with fail
      refine HW.out.mono ?_
      rintro e w6 ⟨V6, z6, rfl, hp6, H6⟩
      have HP6 := Lib.hid hp6
      clear hp6
      clear HW t0 t1 d0 d1 d2 d3 d4 d5 f4 k0 k1 k2 k3 k4 k5 hW5
      by_cases hz : z6 = 0
      · subst hz
        obtain ⟨p, hp⟩ : ∃ p, x.L[k]? = some p := ⟨_, List.getElem?_eq_getElem hk⟩
        have hp32 := HK.out.2.2 p (List.mem_of_getElem? hp)
        have HPK := Lib.hid hp
        have kn2 : ∀ q : Pr, Kn ((w.heap.size, ndO x1) :: (nb, ndO x2) :: (w.heap.size + 1, prO q) :: R) x2.sl x2.L := fun q => by
          rw [← HX2.out.1]
          show Kn _ (some ⟨g, 0 + k * 2, none⟩) (x.L.drop k)
          rw [hg] at HK
          exact (HK.out.1.mono fun y hy => by simp [hy]).dropP k
        have hp2 : x2.L[0]? = some p := by
          rw [← HX2.out.1]
          show (x.L.drop k)[0]? = some p
          rw [List.getElem?_drop, Nat.add_zero]
          exact hp
        have facts : ∀ (c' : Nat) (V' : Int → ByteArray) (W : World) (q : Pr), PV w0 pp n c' V' ((w.heap.size, ndO x1) :: (nb, ndO x2) :: (w.heap.size + 1, prO q) :: R) W →
            W.cell? ⟨nb, 0, none⟩ = some (.int .i64 v) ∧ W.cell? ⟨nb, 1, none⟩ = some (.int .i64 x.level) ∧ W.cell? ⟨nb, 2, none⟩ = some (.string ⟨#[]⟩) ∧ W.cell? ⟨nb, 3, none⟩ = some (.string ⟨#[]⟩) ∧
            W.cell? ⟨nb, 4, none⟩ = some (.slice (some ⟨g, k * 2, none⟩) (x.L.length - k) (x.c - k)) ∧ W.cell? ⟨nb, 5, none⟩ = some (.int .i64 0) ∧ W.cell? ⟨g, k * 2, none⟩ = some (.string p.key) := fun c' V' W q h => by
          have hm := h.mem (x := (nb, ndO x2)) (by simp)
          unfold ndO at hm
          rw [HX2.out.2] at hm
          refine ⟨?_, ?_, ?_, ?_, ?_, ?_, ?_⟩
          iterate 6 (first | (rw [cell_of_row _ _ _ _ _ _ hm]; rfl))
          obtain ⟨g', o', he, _, hc, _⟩ := (h.kn (kn2 q)).at hp2
          rw [← HX2.out.1] at he
          have he : some (⟨g, 0 + k * 2, none⟩ : Addr) = some ⟨g', o', none⟩ := he
          cases he
          simpa using hc
        have HF := Lib.hid facts
        have HNR : Hid (∀ y ∈ (w.heap.size, ndO x1) :: (nb, ndO x2) :: R, y.1 ≠ w.heap.size + 1) := Lib.hid fun y hy e => by
          rcases List.mem_cons.1 hy with rfl | hy
          · simp at e
          · rcases List.mem_cons.1 hy with rfl | hy
            · simp only at e
              omega
            · have := hRB.out y hy
              omega
        have HKN := Lib.hid kn2
        have H6' := Lib.hid H6
        obtain ⟨q0, q1, q2, q3, q4, q5, q6⟩ := facts _ _ _ _ H6.drew
        clear facts kn2 H6 hp hp2
        have hlk0 : (0 : Int) < ((x.L.length - k : Nat) : Int) := by omega
        have hlk1 : 0 < x.L.length - k := by omega
        have hlk2 : (0 : Int) ≤ 0 := by omega
        go_wp2_with fail
        go_region_held3 (fun w' => w'.cell? ⟨nb, 0, none⟩ = some (.int .i64 v) ∧ w'.cell? ⟨nb, 1, none⟩ = some (.int .i64 x.level) ∧ w'.cell? ⟨nb, 2, none⟩ = some (.string ⟨#[]⟩) ∧ w'.cell? ⟨nb, 3, none⟩ = some (.string ⟨#[]⟩) ∧
            w'.cell? ⟨nb, 4, none⟩ = some (.slice (some ⟨g, k * 2, none⟩) (x.L.length - k) (x.c - k)) ∧ w'.cell? ⟨nb, 5, none⟩ = some (.int .i64 0) ∧ w'.cell? ⟨g, k * 2, none⟩ = some (.string p.key)) (first | go_keep | exact HS9.out.1)
          (first
            | (go_at_call 126
               rw [← HVN.out]
               refine (number_any vn _ (by have := HVN.out; omega)).mono ?_
               rintro e w7 ⟨⟨s7, rfl, hs7⟩, hb7⟩
               rw [HVN.out]
               have H7 := H6'.out.drew.on hb7
               obtain ⟨y0, y1, y2, y3, y4, y5, y6⟩ := HF.out _ _ _ _ H7
               have H7' := Lib.hid (And.intro hs7 H7)
               clear H7 hb7 hs7)
            | (go_at_call 121
               have HW8 := twrite_any H7'.out.2 (x := x2) (i := i) (tb := tb) (by simp [HTR.out]) (by omega) (by omega) (HKN.out _) (by rw [← HX2.out.1]; show pkS (x.L.drop k) ≤ _; have := pkS_drop x.L k; omega) (by rw [← HX2.out.1]; show (x.L.drop k).length ≤ _; rw [List.length_drop]; omega) (by rw [← HX2.out.1]; show 0 ≤ v; omega) (by rw [← HX2.out.1]; show v ≤ 65535; omega)
               rw [HX2.out.2] at HW8
               refine HW8.mono ?_
               rintro e w8 ⟨V8, z8, rfl, hp8, H8⟩
               have HP8 := Lib.hid hp8
               clear hp8
               obtain ⟨y0, y1, y2, y3, y4, y5, y6⟩ := HF.out _ _ _ _ H8
               have hr := H8.mem (x := (w.heap.size + 1, prO ⟨⟨#[]⟩, ⟨#[]⟩⟩)) (by simp)
               unfold prO at hr
               have y7 : w8.cell? ⟨w.heap.size + 1, 0, none⟩ = some (.string ⟨#[]⟩) := by rw [cell_of_row _ _ _ _ _ _ hr]; rfl
               have y8 : w8.cell? ⟨w.heap.size + 1, 1, none⟩ = some (.string ⟨#[]⟩) := by rw [cell_of_row _ _ _ _ _ _ hr]; rfl
               have y9 : w8.frozen? ⟨w.heap.size + 1, 0, none⟩ = false := frozen_of_row _ _ _ _ _ hr
               have y10 : w8.frozen? ⟨w.heap.size + 1, 1, none⟩ = false := frozen_of_row _ _ _ _ _ hr
               have H9 := ((((H8.sub ((w.heap.size + 1, prO ⟨⟨#[]⟩, ⟨#[]⟩⟩) :: (w.heap.size, ndO x1) :: (nb, ndO x2) :: R) (fun y hy => by
                 simp only [List.mem_cons] at hy ⊢
                 rcases hy with h | h | h | h
                 · exact .inr (.inr (.inl h))
                 · exact .inl h
                 · exact .inr (.inl h)
                 · exact .inr (.inr (.inr h)))).into HNR.out (by decide) (by omega) 0 (.string p.key)).into HNR.out (by decide) (by omega) 1 (.string s7)).sub ((w.heap.size, ndO x1) :: (nb, ndO x2) :: (w.heap.size + 1, prO ⟨p.key, s7⟩) :: R) (fun y hy => by
                 simp only [List.mem_cons] at hy ⊢
                 rcases hy with h | h | h | h
                 · exact .inr (.inl h)
                 · exact .inr (.inr (.inl h))
                 · exact .inl h
                 · exact .inr (.inr (.inr h))))
               have hr9 := H9.mem (x := (w.heap.size + 1, prO ⟨p.key, s7⟩)) (by simp)
               unfold prO at hr9
               have HS9 := Lib.hid (And.intro (HF.out _ _ _ _ H9) (And.intro H9.drop.drop.drop hr9))
               clear H8 HW8 hr H9 hr9))
        all_goals
          go_wp2_with fail
          have r0 : ((w8.setCell ⟨w.heap.size + 1, 0, none⟩ (.string p.key)).setCell ⟨w.heap.size + 1, 1, none⟩ (.string s7)).cell? ⟨w.heap.size + 1, 0, none⟩ = some (.string p.key) := by rw [cell_of_row _ _ _ _ _ _ HS9.out.2.2]; rfl
          have r1 : ((w8.setCell ⟨w.heap.size + 1, 0, none⟩ (.string p.key)).setCell ⟨w.heap.size + 1, 1, none⟩ (.string s7)).cell? ⟨w.heap.size + 1, 1, none⟩ = some (.string s7) := by rw [cell_of_row _ _ _ _ _ _ HS9.out.2.2]; rfl
          refine bodyPost_ret (v := .tuple #[.agg #[.string p.key, .string s7], .int .i64 z8]) (by simp [results, Tryz.results125, go_sem, r0, r1]) rfl ?_
          refine ⟨V8, z8, ⟨p.key, s7⟩, rfl, hp32, by show s7.size ≤ 2; have := H7'.out.1; omega, fun v' hv' ho q1 q2 => ?_, HS9.out.2.1.mono (by omega)⟩
          have e := least_same hv' HLV.out
          subst e
          have o1 : outB n (givenV V v' 0) x.at_ = true := by
            rw [(see_given hv0 hpg hv').2.1]
            split
            · rfl
            · exact ho
          have oi := out_in ho
          rw [HKK.out] at q1 q2
          have a6 := HP6.out
          rw [← HX1.out] at a6
          obtain ⟨_, e6⟩ := a6 o1 q1
          have a8 := HP8.out
          rw [← HX2.out.1, e6] at a8
          obtain ⟨e8z, e8⟩ := a8 (by show outB n (updV (givenV V v') x.at_ _ 0) v' = true; rw [updV_other _ _ (by omega)]; exact out_given hv0 hv' hpg) q2
          refine ⟨e8z, ?_, p, by rw [HKK.out]; exact HPK.out, by rw [H7'.out.1.2, HVN.out]⟩
          rw [e8]
          show _ = updV (updV (givenV V v') x.at_ (filled (packP x.level (x.L.take (halfP x.level x.L))))) v' (filled (packP x.level (x.L.drop (halfP x.level x.L))))
          rw [HKK.out]
      · have hz1 : (z6 != 0) = true := by simpa using hz
        obtain ⟨⟨y7, y8, y9, y10⟩, H9, r0, r1⟩ := (H6.drop.drop).blankP (fun y hy e => by have := hRB.out y hy; omega) (by omega)
        have HX := Lib.hid (And.intro H9 (And.intro r0 r1))
        clear H6 H9 r0 r1
        go_wp2_with fail
        obtain ⟨H9, r0, r1⟩ := HX.out
        refine bodyPost_ret (v := .tuple #[.agg #[.string ⟨#[]⟩, .string ⟨#[]⟩], .int .i64 z6]) (by simp [results, Tryz.results125, go_sem, r0, r1]) rfl ?_
        exact ⟨V6, z6, ⟨⟨#[]⟩, ⟨#[]⟩⟩, rfl, by decide, by decide, fun v' hv' ho q1 q2 => (by
          have e := least_same hv' HLV.out
          subst e
          have o1 : outB n (givenV V v' 0) x.at_ = true := by
            rw [(see_given hv0 hpg hv').2.1]
            split
            · rfl
            · exact ho
          rw [HKK.out] at q1
          have a6 := HP6.out
          rw [← HX1.out] at a6
          exact absurd (a6 o1 q1).1 hz), H9.mono (by omega)⟩
  · obtain ⟨⟨y7, y8, y9, y10⟩, H9, r0, r1⟩ := (H1.drop).blankP (fun y hy e => by have := hRB.out y hy; omega) (by omega)
    have HX := Lib.hid (And.intro H9 (And.intro r0 r1))
    have HNO := Lib.hid hno
    clear H1 H9 r0 r1 hno t0 t1 d0 d1 d2 d3 d4 d5
    go_wp2_with fail
    obtain ⟨H9, r0, r1⟩ := HX.out
    refine bodyPost_ret (v := .tuple #[.agg #[.string ⟨#[]⟩, .string ⟨#[]⟩], .int .i64 13]) (by simp [results, Tryz.results125, go_sem, r0, r1]) rfl ?_
    exact ⟨V, 13, ⟨⟨#[]⟩, ⟨#[]⟩⟩, rfl, by decide, by decide, fun v' hv' _ _ _ => absurd hv'.1 (HNO.out v'), H9.mono (by omega)⟩
end
end Go.Proofs.YtcjfnfdinhbdlaaGreatDoor
namespace Go.Proofs.YtcjfnfdinhbdlaaGreatDoor
set_option maxRecDepth 100000
open Go.ChangeShapes Go.WideShapes Go.ChangeAt Go.RowKit Go.PlainAid Go.Shelf
open Go.Sort (grow)
attribute [local go_sem ↓ high] store_n
attribute [local go_sem] Oper.semAt_some
section
variable {w0 : World} {pp n c : Nat} {V : Int → ByteArray}
set_option maxHeartbeats 4000000 in
theorem give_yP {X0 : List (Nat × Obj)} {P : List Pr → Prop} (B : Nat) {K Kx : List Pr → List (Nat × Obj) → Prop} (hY : RoundsGP id encP FitR w0 pp n c V B X0 P K Kx) (from_ : ByteArray) (pre : List Pr) (X Rc : List (Nat × Obj)) (nb : Nat) (x : NdM) (W : World)
    (hK : K pre Rc ∧ Ap X Rc) (H : PV w0 pp n c V (X ++ Rc) W) (hnb : (nb, ndO x) ∈ X) (hF : FitN X x false) (hG : GB B X) (hP : ∀ q, q <+: pre ++ givP from_ x.D → P q) (hX0 : ∀ y ∈ X0, y ∈ X) :
    CallsIn Fence.wide 6 Tryz.prog 156 #[.pointer (some ⟨nb, 0, none⟩), .string from_, .func (.yield (B + 1)) #[] #[]] W (TakePost w0 pp n c V K Kx X pre (givP from_ x.D)) := by
  obtain ⟨d0, d1, d2, d3, d4, d5⟩ := nd_cells (H.mem (x := (nb, ndO x)) (List.mem_append_left _ hnb))
  simp only at d0 d1 d2 d3 d4 d5
  have hlaw := hF.law rfl
  have hpos := hlaw.pos
  have hsm := hF.small
  have HPQ := Lib.hid hP
  have HX0 := Lib.hid hX0
  clear hP hX0
  by_cases h1 : x.level = 1
  · have f1 : decide ((1 : Int) < x.level) = false := decide_eq_false (by omega)
    have hN := ndIs_of (H.mem (x := (nb, ndO x)) (List.mem_append_left _ hnb)) (H.kn ((hF.kn rfl).mono fun y hy => List.mem_append_left _ hy)) hsm
    have HFI := Lib.hid (find_any from_ hN (risB_srt hlaw.rise))
    have hle := posP_le from_ x.L
    obtain ⟨t, ht⟩ : ∃ t, posP from_ x.L = t := ⟨_, rfl⟩
    rw [ht] at HFI hle
    have HG : Hid (givP from_ x.D = x.L.drop t) := Lib.hid (by
      unfold givP
      rw [if_pos (show x.D.level = 1 from h1)]
      show x.L.drop (posP from_ x.L) = _
      rw [ht])
    obtain ⟨p0, hp0⟩ : ∃ p, x.L[0]? = some p := ⟨_, List.getElem?_eq_getElem (recB_iff.1 (hlaw.recs h1)).2⟩
    obtain ⟨g, o, hsl, _, _, _⟩ := (H.kn ((hF.kn rfl).mono fun y hy => List.mem_append_left _ hy)).at hp0
    have hcap := hF.cap rfl
    have hadd : (⟨g, o, none⟩ : Addr).add (t * 2) = ⟨g, o + t * 2, none⟩ := by unfold Addr.add; split <;> simp_all
    have HX := Lib.hid (And.intro hK (And.intro H (And.intro hnb hF)))
    have HSL := Lib.hid hsl
    rw [hsl] at d4
    clear hK H hnb hF hlaw hN h1 ht hp0 hsl
    refine callsIn_of_wp Tryz.func156 rfl trivial ?_ rfl
    simp only [Tryz.ntmps156, List.size_toArray, List.length_cons, List.length_nil, Nat.reduceAdd, Nat.reduceSub, Array.replicate_succ, Array.replicate_zero, List.push_toArray, List.append_toArray, List.nil_append, List.cons_append]
    gi_wp2_with fail
    refine ⟨trivial, (callsIn_wide.2 HFI.out).mono ?_⟩
    rintro e w2 ⟨rfl, hb2⟩
    have H2 := HX.out.2.1.on hb2
    clear HFI hb2 d0 d1 d2 d3 d4 d5
    obtain ⟨d0, d1, d2, d3, d4, d5⟩ := nd_cells (H2.mem (x := (nb, ndO x)) (List.mem_append_left _ HX.out.2.2.1))
    simp only at d0 d1 d2 d3 d4 d5
    rw [HSL.out] at d4
    by_cases htl : t < x.L.length
    · have hcne : ¬ (x.c = t) := by omega
      have htc : t ≤ x.c := by omega
      have H2' := Lib.hid H2
      clear H2
      gi_wp2_with fail
      gi_loopw [29] (fun iv wr => ∃ (k : Nat) (Rc' : List (Nat × Obj)), k ≤ x.L.length - t ∧ iv = .int .i64 k ∧ Hid ((K (pre ++ (x.L.drop t).take k) Rc' ∧ Ap X Rc') ∧ PV w0 pp n c V (X ++ Rc') wr)) (fun iv _ => x.L.length - t - (intOf iv).toNat)
      case atStart => exact ⟨0, Rc, Nat.zero_le _, rfl, Lib.hid ⟨by rw [List.take_zero, List.append_nil]; exact HX.out.1, H2'.out⟩⟩
      case round =>
        obtain ⟨k, Rc', hk, rfl, HP⟩ := hrel
        clear H2' d0 d1 d2 d3 d4 d5
        by_cases hlt : k < x.L.length - t
        · obtain ⟨p, hp⟩ : ∃ p, x.L[t + k]? = some p := ⟨_, List.getElem?_eq_getElem (by omega)⟩
          obtain ⟨g', o', he, hg', c0, c1⟩ := (HP.out.2.kn ((HX.out.2.2.2.kn rfl).mono fun y hy => List.mem_append_left _ hy)).at hp
          rw [HSL.out] at he
          cases he
          have hpm := HX.out.2.2.2.mod rfl p (List.mem_of_getElem? hp)
          rw [show o + (t + k) * 2 = o + t * 2 + k * 2 by omega] at c0 c1
          have HPP := Lib.hid hp
          have H4 := HP.out.2.push (prO p)
          obtain ⟨m0, m1⟩ := pr_cellsN (H4.mem List.mem_cons_self)
          simp only at m0 m1
          have HPD : Hid (PV w0 pp n c V (((wr.heap.size, prO p) :: X) ++ Rc') (wr.alloc (prO p)).drew) := Lib.hid H4.drew
          have HAP : Hid (Ap ((wr.heap.size, prO p) :: X) Rc') := Lib.hid (HP.out.1.2.push HP.out.2 _)
          clear hp H4
          gi_wp2_with fail
          have HYF := Lib.hid hY
          have htk : Hid ((x.L.drop t).take (k + 1) = (x.L.drop t).take k ++ [p]) := Lib.hid (take_snoc2 (by rw [List.getElem?_drop]; exact HPP.out))
          gi_region_with (first
              | (refine ⟨by exact trivial, ?_⟩
                 with_reducible refine (callsIn_wide.2 (clone_any p.key _ (by omega))).mono ?_
                 rintro e w5 ⟨rfl, hb5⟩
                 have H5 := HPD.out.on hb5
                 obtain ⟨y0, y1⟩ := pr_cellsN (H5.mem List.mem_cons_self)
                 simp only at y0 y1
                 have HP5 := Lib.hid H5
                 clear H5 hb5)
              | (refine ⟨by exact trivial, ?_⟩
                 with_reducible refine (callsIn_wide.2 (clone_any p.val _ (by omega))).mono ?_
                 rintro e w6 ⟨rfl, hb6⟩
                 have H6 := HP5.out.on hb6
                 obtain ⟨z0, z1⟩ := pr_cellsN (H6.mem List.mem_cons_self)
                 simp only at z0 z1
                 have HP6 := Lib.hid H6
                 obtain ⟨fn, tmps, assign, body, hyy, hR⟩ := HYF.out (pre ++ (x.L.drop t).take k) ((wr.heap.size, prO p) :: X) Rc' p w6 (HPQ.out _ (by rw [List.append_assoc, show (x.L.drop t).take k ++ [id p] = (x.L.drop t).take (k + 1) from htk.out.symm, HG.out]; exact (List.prefix_append_right_inj _).2 (List.take_prefix _ _))) (fun y hy => List.mem_cons_of_mem _ (HX0.out y hy)) ⟨HP.out.1.1, HAP.out⟩ H6 hpm ((hG.cons rfl))
                 have HR := Lib.hid (RoundIn.wide (m' := 5) hR)
                 unfold encP at hyy
                 clear H6 hb6 hR)
              | (refine HR.out.mono ?_
                 rintro e w7 hpost
                 have H7 : ∃ b, e = .returned (.bool b) ∧ PV w0 pp n c V [(wr.heap.size, prO p)] w7 := by
                   rcases hpost with ⟨rfl, Rc2, _, h⟩ | ⟨rfl, Rc2, _, h⟩
                   · exact ⟨_, rfl, h.sub _ fun y hy => by rw [List.mem_singleton] at hy; rw [hy]; exact List.mem_cons_self⟩
                   · exact ⟨_, rfl, h.sub _ fun y hy => by rw [List.mem_singleton] at hy; rw [hy]; exact List.mem_cons_self⟩
                 obtain ⟨b7, rfl, H7⟩ := H7
                 have HPO := Lib.hid hpost
                 clear H7 hpost))
          all_goals
            clear hyy HR HYF hY
            cases b7 with
            | true =>
              have hp : ∃ Rc2, (K (pre ++ (x.L.drop t).take (k + 1)) Rc2 ∧ Ap X Rc2) ∧ PV w0 pp n c V (X ++ Rc2) w7 := by
                rcases HPO.out with ⟨_, Rc2, ⟨h1, h2⟩, h3⟩ | ⟨h, _⟩
                · exact ⟨Rc2, ⟨by rw [htk.out, ← List.append_assoc]; exact h1, h2.tail⟩, h3.drop⟩
                · cases h
              obtain ⟨Rc2, hp⟩ := hp
              have HZ := Lib.hid hp
              clear hp HPO y0 y1 z0 z1
              gi_wp2
              go_roundw
              case rel => exact ⟨k + 1, Rc2, by omega, by go_num, HZ⟩
              case measure => simp [intOf]; omega
            | false =>
              have hp : ∃ Rc2, (Kx (pre ++ (x.L.drop t).take (k + 1)) Rc2 ∧ Ap X Rc2) ∧ PV w0 pp n c V (X ++ Rc2) w7 := by
                rcases HPO.out with ⟨h, _⟩ | ⟨_, Rc2, ⟨h1, h2⟩, h3⟩
                · cases h
                · exact ⟨Rc2, ⟨by rw [htk.out, ← List.append_assoc]; exact h1, h2.tail⟩, h3.drop⟩
              obtain ⟨Rc2, h1, h3⟩ := hp
              have HZ : Hid (TakePost w0 pp n c V K Kx X pre (givP from_ x.D) (.returned (.bool false)) w7) := Lib.hid (.inr ⟨rfl, (x.L.drop t).take (k + 1), Rc2, by rw [HG.out]; exact List.take_prefix _ _, h1, h3⟩)
              clear h1 h3 HPO y0 y1 z0 z1
              gi_wp2
              go_returns
              exact HZ.out
        · obtain rfl : k = x.L.length - t := by omega
          have HZ : Hid (TakePost w0 pp n c V K Kx X pre (givP from_ x.D) (.returned (.bool true)) wr) := Lib.hid (.inl ⟨rfl, Rc', by
            have h := HP.out.1
            rw [List.take_of_length_le (by rw [List.length_drop]; exact Nat.le_refl _)] at h
            rw [HG.out]
            exact h, HP.out.2⟩)
          clear HP hk hY
          gi_wp2
          go_returns
          exact HZ.out
    · have hte : t = x.L.length := by omega
      have HZ : Hid (TakePost w0 pp n c V K Kx X pre (givP from_ x.D) (.returned (.bool true)) w2) := Lib.hid (.inl ⟨rfl, Rc, by
        rw [HG.out, hte, List.drop_length, List.append_nil]
        exact HX.out.1, H2⟩)
      have hz0 : x.L.length - t = 0 := by omega
      have htc : t ≤ x.c := by omega
      clear H2 hY hte
      gi_wp2_with fail
      all_goals
        gi_loopw [29] (fun iv wr => iv = .int .i64 0 ∧ wr = w2) (fun _ _ => 0)
        case atStart => exact ⟨rfl, rfl⟩
        case round =>
          obtain ⟨rfl, rfl⟩ := hrel
          gi_wp2
          go_returns
          exact HZ.out
  · have f1 : decide ((1 : Int) < x.level) = true := decide_eq_true (by omega)
    have HZ : Hid (TakePost w0 pp n c V K Kx X pre (givP from_ x.D) (.returned (.bool true)) W) := Lib.hid (.inl ⟨rfl, Rc, by
      unfold givP
      rw [if_neg (show ¬ x.D.level = 1 from h1), List.append_nil]
      exact hK, H⟩)
    clear hK H hnb hF hlaw hY h1
    refine callsIn_of_wp Tryz.func156 rfl trivial ?_ rfl
    simp only [Tryz.ntmps156, List.size_toArray, List.length_cons, List.length_nil, Nat.reduceAdd, Nat.reduceSub, Array.replicate_succ, Array.replicate_zero, List.push_toArray, List.append_toArray, List.nil_append, List.cons_append]
    gi_wp2
    go_returns
    exact HZ.out
end
end Go.Proofs.YtcjfnfdinhbdlaaGreatDoor
