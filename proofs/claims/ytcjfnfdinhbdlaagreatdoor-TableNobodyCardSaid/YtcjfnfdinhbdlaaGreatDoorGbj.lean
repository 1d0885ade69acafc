import Derived.Test.YtcjfnfdinhbdlaaGreatDoorGbi
import Derived.Deep.RegionHeld3
import Derived.RangeFuncNested
import Derived.OwnWalkIn
import Derived.TacticsInMore
import Derived.Test.YtcjfnfdinhbdlaaGreatDoorGbc
import Derived.Test.YtcjfnfdinhbdlaaGreatDoorGaz
import Derived.Test.YtcjfnfdinhbdlaaGreatDoorGag
namespace Go.Proofs.YtcjfnfdinhbdlaaGreatDoor
set_option maxRecDepth 100000
open Go.ChangeShapes Go.WideShapes Go.ChangeAt Go.RowKit Go.PlainAid
open Go.Sort (grow)
attribute [local go_sem ↓ high] store_n
def Kn (R : List (Nat × Obj)) (sl : Option Addr) (L : List Pr) : Prop := ∀ w : World, (∀ y ∈ R, w.heap[y.1]? = some y.2) → RdP w sl L
theorem Kn.mono {R R' : List (Nat × Obj)} {sl : Option Addr} {L : List Pr} (h : Kn R sl L) (hs : ∀ y ∈ R, y ∈ R') : Kn R' sl L := fun w hw => h w fun y hy => hw y (hs y hy)
theorem Kn.of {R : List (Nat × Obj)} {g : Nat} {L : List Pr} (h : (g, rowO L) ∈ R) : Kn R (some ⟨g, 0, none⟩) L := fun _ hw => rdP_of (hw _ h)
def rootM (k : Int) : NdM := ⟨k, 0, ⟨#[]⟩, ⟨#[]⟩, [], none, 0, 0⟩
def kidM (x : NdM) (p : Pr) (high : ByteArray) : NdM := ⟨numP p.val, x.level - 1, p.key, high, [], none, 0, 0⟩
section
variable {w0 w : World} {pp n c tb : Nat} {V : Int → ByteArray} {R : List (Nat × Obj)} {i : Int}
theorem PV.kn (H : PV w0 pp n c V R w) {sl : Option Addr} {L : List Pr} (h : Kn R sl L) : RdP w sl L := h w fun _ hy => H.mem hy
def StartPost (w0 : World) (pp n c : Nat) (V : Int → ByteArray) (R : List (Nat × Obj)) (i : Int) (e : Ending) (w' : World) : Prop :=
  (rootZ (V 1) i = 0 ∧ e = .returned (.tuple #[.agg zeroN.cells, .int .i64 0]) ∧ PV w0 pp n c V R w') ∨
  (rootZ (V 1) i ≠ 0 ∧ ReadPost w0 pp n c V R (rootM (rootZ (V 1) i)) e w')
set_option maxHeartbeats 4000000 in
theorem start_any (H : PV w0 pp n c V R w) (hT : (tb, treeO pp i) ∈ R) (hn : 1 < n) (hi : 0 ≤ i ∧ i < 16) :
    Calls Tryz.prog 104 #[.pointer (some ⟨tb, 0, none⟩)] w (StartPost w0 pp n c V R i) := by
  have H1 := H.push (ndO zeroN)
  have hlt0 := H.below.size
  have hrb : ∀ y ∈ R, y.1 ≠ w.heap.size := fun y hy e => by
    have := H.lt hy
    omega
  have HRB := Lib.hid hrb
  have hT1 : (tb, treeO pp i) ∈ (w.heap.size, ndO zeroN) :: R := List.mem_cons_of_mem _ hT
  obtain ⟨t0, t1⟩ := tree_cells (H1.mem hT1)
  simp only at t0 t1
  obtain ⟨W1, hW1⟩ : ∃ W1, w.alloc (ndO zeroN) = W1 := ⟨_, rfl⟩
  rw [hW1] at H1 t0 t1
  have HW := Lib.hid hW1
  have hrt := root_bounds (V 1) i
  have HM := Lib.hid (made_yes t0)
  have HG := Lib.hid (H1.drew.root i hi hn)
  have hg : ∀ at_ : Int, rootZ (V 1) i = at_ → rootZ (V 1) i = at_ := fun _ h => h
  obtain ⟨at_, hat⟩ : ∃ at_, rootZ (V 1) i = at_ := ⟨_, rfl⟩
  rw [hat] at hrt HG
  have HA := Lib.hid hat
  clear H H1 hrb hg hat hW1
  go_enter Tryz.func104, Tryz.ntmps104
  go_wp2_with fail
  rw [show (w.alloc (.cells #[.int .i64 0, .int .i64 0, .string ⟨#[]⟩, .string ⟨#[]⟩, .slice none 0 0, .int .i64 0] 116)) = W1 from HW.out]
  refine HM.out.mono ?_
  rintro e _ ⟨rfl, rfl⟩
  go_wp2_with fail
  go_region_law (first
    | (go_simp; (with_reducible refine HG.out.mono ?_); rintro e w4 ⟨rfl, H4⟩; have H4' := Lib.hid H4; clear H4)
    | fail)
  all_goals
    clear t0 t1 HG HM
    by_cases hz : at_ = 0
    · obtain ⟨W10, hst, H10⟩ := H4'.out.storeN HRB.out (by omega) zeroN
      have hz1 : (at_ == 0) = true := by simpa using hz
      have H10' := Lib.hid H10
      have HZ := Lib.hid hz
      simp only [NdM.cells, zeroN, List.length_nil] at hst
      clear H10 hz
      go_wp2_with fail
      obtain ⟨d0, d1, d2, d3, d4, d5⟩ := nd_cells (H10'.out.mem List.mem_cons_self)
      simp only [zeroN, List.length_nil] at d0 d1 d2 d3 d4 d5
      refine bodyPost_ret (v := .tuple #[.agg zeroN.cells, .int .i64 0]) (by simp [results, Tryz.results104, go_sem, d0, d1, d2, d3, d4, d5, NdM.cells, zeroN]) rfl ?_
      exact .inl ⟨by rw [HA.out]; exact HZ.out, rfl, H10'.out.drop⟩
    · have hz1 : (at_ == 0) = false := by simpa using hz
      have HR : Hid (Calls Tryz.prog 163 #[.pointer (some ⟨tb, 0, none⟩), .agg #[.int .i64 at_, .int .i64 0, .string ⟨#[]⟩, .string ⟨#[]⟩, .slice none 0 0, .int .i64 0]] w4 (ReadPost w0 pp n c V ((w.heap.size, ndO zeroN) :: R) (rootM at_))) :=
        Lib.hid (nread_any H4'.out (List.mem_cons_of_mem _ hT) (by omega) (rootM at_) (by show _ ≤ at_; omega) (by show at_ ≤ _; omega))
      have HZ := Lib.hid hz
      clear hz
      go_wp2_with fail
      refine HR.out.mono ?_
      obtain ⟨xr, hxr⟩ : ∃ xr, rootM at_ = xr := ⟨_, rfl⟩
      have HXR := Lib.hid hxr
      rw [hxr]
      clear hxr
      rintro e w5 (⟨hP, rfl, H5⟩ | ⟨y, g, hP, hG, hfr, rfl, H5⟩)
      · obtain ⟨W10, hst, H10⟩ := H5.storeN HRB.out (by omega) xr
        have H10' := Lib.hid H10
        have HP := Lib.hid hP
        clear H10 H5 hP
        go_wp2_with fail
        obtain ⟨d0, d1, d2, d3, d4, d5⟩ := nd_cells (H10'.out.mem List.mem_cons_self)
        simp only at d0 d1 d2 d3 d4 d5
        refine bodyPost_ret (v := .tuple #[.agg xr.cells, .int .i64 6]) (by simp [results, Tryz.results104, go_sem, d0, d1, d2, d3, d4, d5, NdM.cells]) rfl ?_
        refine .inr ⟨by rw [HA.out]; exact HZ.out, .inl ⟨by rw [HA.out, HXR.out]; exact HP.out, by rw [HA.out, HXR.out], H10'.out.drop⟩⟩
      · have HFR := Lib.hid (And.intro hfr.1 fun (z : Nat × Obj) (hz : z ∈ R) => hfr.2 z (List.mem_cons_of_mem _ hz))
        clear hfr
        have hgn : g ≠ w.heap.size := fun e => by
          have h1 := H5.mem List.mem_cons_self
          have h2 := H5.mem (List.mem_cons_of_mem _ List.mem_cons_self)
          simp only at h1 h2
          rw [e, h2] at h1
          exact absurd (Option.some.inj h1) (by unfold ndO rowO; simp)
        obtain ⟨W10, hst, H10⟩ := (H5.turn).storeN (fun z hz e => by
          rcases List.mem_cons.1 hz with rfl | hz
          · exact hgn e
          · exact HRB.out z hz e) (by omega) y
        have H10' := Lib.hid H10
        have HP := Lib.hid (And.intro hP hG)
        clear H10 H5 hP hG
        go_wp2_with fail
        obtain ⟨d0, d1, d2, d3, d4, d5⟩ := nd_cells (H10'.out.mem List.mem_cons_self)
        simp only at d0 d1 d2 d3 d4 d5
        refine bodyPost_ret (v := .tuple #[.agg y.cells, .int .i64 0]) (by simp [results, Tryz.results104, go_sem, d0, d1, d2, d3, d4, d5, NdM.cells]) rfl ?_
        refine .inr ⟨by rw [HA.out]; exact HZ.out, .inr ⟨y, g, by rw [HA.out, HXR.out]; exact HP.out.1, by rw [HA.out, HXR.out]; exact HP.out.2, HFR.out, rfl, H10'.out.drop⟩⟩
def prO (p : Pr) : Obj := .cells #[.string p.key, .string p.val] 121 (0, 0)
def hiM (x : NdM) (j : Nat) : ByteArray := match x.L[j + 1]? with | some q => q.key | none => x.high
set_option maxHeartbeats 1000000 in
theorem below_any (H : PV w0 pp n c V R w) (hT : (tb, treeO pp i) ∈ R) (hn : 0 < n) (x : NdM) (hk : Kn R x.sl x.L) (hl : 2 ≤ x.level ∧ x.level ≤ 255) (hsm : x.L.length ≤ 4096) (j : Nat) (p : Pr) (hp : x.L[j]? = some p) (hv : p.val.size = 2) :
    Calls Tryz.prog 110 #[.pointer (some ⟨tb, 0, none⟩), .agg x.cells, .int .i64 j] w (ReadPost w0 pp n c V R (kidM x p (hiM x j))) := by
  have hj := (List.getElem?_eq_some_iff.1 hp).1
  have H3 := ((H.push (ndO x)).push (ndO zeroN)).push (prO p)
  have hlt0 := H.below.size
  rw [show (w.alloc (ndO x)).heap.size = w.heap.size + 1 by simp, show ((w.alloc (ndO x)).alloc (ndO zeroN)).heap.size = w.heap.size + 1 + 1 by simp] at H3
  have HRB : Hid (∀ y ∈ R, y.1 < w.heap.size) := Lib.hid fun y hy => H.lt hy
  have hnb := numP_b p.val
  have hb2 : Below w.heap.size w ((w.alloc (ndO x)).alloc (ndO zeroN)) := by go_grown
  obtain ⟨g, o, hsl, hg, c1, c2⟩ := ((H.on hb2).kn hk).at hp
  obtain ⟨W, hW⟩ : ∃ W, ((w.alloc (ndO x)).alloc (ndO zeroN)).alloc (prO p) = W := ⟨_, rfl⟩
  rw [hW] at H3
  have HW := Lib.hid hW
  have HU := Lib.hid (fun w => unnumber_any p.val w hv)
  have HP := Lib.hid hp
  have hkid : (0 : Int) ≤ x.level - 1 := by omega
  have hz2 : ((w.alloc (ndO x)).alloc (ndO zeroN)).heap.size = w.heap.size + 1 + 1 := by simp
  have q0 := nd_cells (w := (w.alloc (ndO x)).alloc (ndO zeroN)) (b := w.heap.size) (x := x) ((Below.heap_alloc _ _ _ (by simp)).trans (heap_alloc_new _ _))
  obtain ⟨d0, d1, d2, d3, d4, d5⟩ := q0
  rw [hsl] at d4
  obtain ⟨W2, hW2⟩ : ∃ W2, (w.alloc (ndO x)).alloc (ndO zeroN) = W2 := ⟨_, rfl⟩
  rw [hW2] at d0 d1 d2 d3 d4 d5 c1 c2 hz2 hg
  have HW2 := Lib.hid hW2
  have hW3 : W2.alloc (prO p) = W := by rw [← hW2]; exact HW.out
  obtain ⟨e0, e1, e2, e3, e4, e5⟩ := nd_cells (H3.mem (List.mem_cons_of_mem _ (List.mem_cons_of_mem _ List.mem_cons_self)))
  have m := H3.mem List.mem_cons_self
  unfold prO at m
  have m0 : W.cell? ⟨w.heap.size + 1 + 1, 0, none⟩ = some (.string p.key) := by rw [cell_of_row _ _ _ _ _ _ m]; rfl
  have m1 : W.cell? ⟨w.heap.size + 1 + 1, 1, none⟩ = some (.string p.val) := by rw [cell_of_row _ _ _ _ _ _ m]; rfl
  simp only at e0 e1 e2 e3 e4 e5
  rw [hsl] at e4
  have HD := Lib.hid (And.intro e0 (And.intro e1 (And.intro e2 (And.intro e3 (And.intro e4 (And.intro e5 (And.intro m0 m1)))))))
  have H3' := Lib.hid H3
  have HK := Lib.hid hk
  have HSL := Lib.hid hsl
  have HWW := Lib.hid hW3
  clear H H3 hW hv hp hb2 hW2 hk hsl hW3 e0 e1 e2 e3 e4 e5 m m0 m1
  unfold NdM.cells
  go_enter Tryz.func110, Tryz.ntmps110
  go_upto_region 1 with (fail)
  rw [show ((w.alloc (.cells #[.int .i64 x.at_, .int .i64 x.level, .string x.low, .string x.high, .slice x.sl x.L.length x.c, .int .i64 x.next] 116)).alloc (.cells #[.int .i64 0, .int .i64 0, .string ⟨#[]⟩, .string ⟨#[]⟩, .slice none 0 0, .int .i64 0] 116)) = W2 from HW2.out]
  go_wp2_with fail
  rw [show W2.alloc (.cells #[.string p.key, .string p.val] 121) = W from HWW.out]
  obtain ⟨e0, e1, e2, e3, e4, e5, m0, m1⟩ := HD.out
  clear d0 d1 d2 d3 d4 d5 c1 c2 hg
  have hw : IntKind.i64.wrap (x.level - 1) = x.level - 1 := IntWalk.i64_in _ (by omega)
  have hl8 : w.heap.size + 1 + 1 < W.heap.size := H3'.out.lt (x := (w.heap.size + 1 + 1, prO p)) List.mem_cons_self
  have hst : ∀ q, (storeS 116 (.pointer (some ⟨W.heap.size, 0, none⟩)) (.agg #[.int .i64 (numP p.val), .int .i64 (x.level - 1), .string p.key, .string x.high, .slice none 0 0, .int .i64 0])).run Tryz.prog ((W.alloc (.cells #[.int .i64 0, .int .i64 0, .string ⟨#[]⟩, .string ⟨#[]⟩, .slice none 0 0, .int .i64 0] 116)).drewN q) = .ok () ((W.drewN q).alloc (ndO (kidM x p x.high))) := fun q => store_nd_fresh (W.drewN q) (kidM x p x.high)
  have hst2 : ∀ q, (storeS 116 (.pointer (some ⟨W.heap.size, 0, none⟩)) (.agg #[.int .i64 (numP p.val), .int .i64 (x.level - 1), .string p.key, .string x.high, .slice none 0 0, .int .i64 0])).run Tryz.prog ((W.drewN q).alloc (.cells #[.int .i64 0, .int .i64 0, .string ⟨#[]⟩, .string ⟨#[]⟩, .slice none 0 0, .int .i64 0] 116)) = .ok () ((W.drewN q).alloc (ndO (kidM x p x.high))) := fun q => store_nd_fresh (W.drewN q) (kidM x p x.high)
  go_upto_region 3 with fail
  go_cut [9] (fun s9 wx => ∃ nb, s9 = .pointer (some ⟨nb, 0, none⟩) ∧ W.heap.size ≤ nb ∧ PV w0 pp n c V ((nb, ndO (kidM x p x.high)) :: (w.heap.size + 1 + 1, prO p) :: (w.heap.size + 1, ndO zeroN) :: (w.heap.size, ndO x) :: R) wx)
  case first =>
    clear HD e0 e2 e4 e5 HW HW2 HWW HP HK HSL HRB hl hsm hj hlt0 hnb hkid hz2
    go_region_held3 (fun w' => w'.cell? ⟨w.heap.size, 1, none⟩ = some (.int .i64 x.level) ∧ w'.cell? ⟨w.heap.size, 3, none⟩ = some (.string x.high) ∧ w'.cell? ⟨w.heap.size + 1 + 1, 0, none⟩ = some (.string p.key) ∧ w'.cell? ⟨w.heap.size + 1 + 1, 1, none⟩ = some (.string p.val)) (go_keep)
      (first | (go_at_call 166; refine (HU.out _).mono ?_; rintro e _ ⟨rfl, nq, rfl⟩))
    all_goals go_wp2_with fail
    all_goals go_simp
    all_goals go_meet
    all_goals exact ⟨_, rfl, Nat.le_refl _, (H3'.out.on (w' := W.drewN (1 + nq)) ⟨rfl, rfl, rfl, Nat.le_refl _, fun _ _ => rfl⟩).push (ndO (kidM x p x.high))⟩
  case rest =>
    obtain ⟨nb, rfl, hnb2, H6⟩ := hcut
    clear e0 e1 e2 e3 e4 e5 m0 m1 hst hst2 hw HD
    obtain ⟨e0, e1, e2, e3, e4, e5⟩ := nd_cells (H6.mem (x := (w.heap.size, ndO x)) (by simp))
    simp only at e0 e1 e2 e3 e4 e5
    rw [HSL.out] at e4
    have hlt : ∀ y ∈ (w.heap.size + 1 + 1, prO p) :: (w.heap.size + 1, ndO zeroN) :: (w.heap.size, ndO x) :: R, y.1 ≠ nb := fun y hy e => by
      have := H3'.out.lt hy
      omega
    by_cases hq : j + 1 < x.L.length
    · obtain ⟨q, hq2⟩ : ∃ q, x.L[j + 1]? = some q := ⟨_, List.getElem?_eq_getElem hq⟩
      obtain ⟨g', o', hsl', hg', r1, r2⟩ := (H6.kn (HK.out.mono fun y hy => by simp [hy])).at hq2
      rw [HSL.out] at hsl'
      cases hsl'
      have HX : Hid (hiM x j = q.key) := by
        refine Lib.hid ?_
        unfold hiM
        rw [hq2]
      have H7 := H6.into hlt (by decide) (by omega) 3 (.string q.key)
      obtain ⟨f0, f1, f2, f3, f4, f5⟩ := nd_cells (H6.mem List.mem_cons_self)
      have f6 := nd_thaw (H6.mem List.mem_cons_self) 3
      simp only at f3 f6
      obtain ⟨W7, hW7⟩ : ∃ W7, wc.setCell ⟨nb, 3, none⟩ (.string q.key) = W7 := ⟨_, rfl⟩
      rw [hW7] at H7
      have H7 : PV w0 pp n c V ((nb, ndO (kidM x p q.key)) :: (w.heap.size + 1 + 1, prO p) :: (w.heap.size + 1, ndO zeroN) :: (w.heap.size, ndO x) :: R) W7 := H7
      have hd1 : decide ((j : Int) + 1 < (x.L.length : Int)) = true := decide_eq_true (by omega)
      clear f0 f1 f2 f4 f5 hq2 H6
      have HR : Hid (Calls Tryz.prog 163 #[.pointer (some ⟨tb, 0, none⟩), .agg #[.int .i64 (numP p.val), .int .i64 (x.level - 1), .string p.key, .string q.key, .slice none 0 0, .int .i64 0]] W7 (ReadPost w0 pp n c V ((nb, ndO (kidM x p q.key)) :: (w.heap.size + 1 + 1, prO p) :: (w.heap.size + 1, ndO zeroN) :: (w.heap.size, ndO x) :: R) (kidM x p q.key))) :=
        Lib.hid (nread_any H7 (List.mem_cons_of_mem _ (List.mem_cons_of_mem _ (List.mem_cons_of_mem _ (List.mem_cons_of_mem _ hT)))) hn (kidM x p q.key) (by show _ ≤ numP p.val; omega) (by show numP p.val ≤ _; omega))
      obtain ⟨k0, k1, k2, k3, k4, k5⟩ := nd_cells (H7.mem List.mem_cons_self)
      simp only [kidM, List.length_nil] at k0 k1 k2 k3 k4 k5
      have HNB := Lib.hid (H7.ne List.mem_cons_self rfl (by decide))
      clear H7
      go_wp2_with fail
      refine HR.out.mono ?_
      rw [← HX.out]
      obtain ⟨xr, hxr⟩ : ∃ xr, kidM x p (hiM x j) = xr := ⟨_, rfl⟩
      have HXR := Lib.hid hxr
      rw [hxr]
      clear hxr
      rintro e w5 (⟨hP, rfl, H9⟩ | ⟨y, g9, hP, hG, hfr, rfl, H9⟩)
      · have H9b : PV w0 pp n c V ((w.heap.size + 1, ndO zeroN) :: R) w5 := H9.sub _ fun z hz => by
          simp only [List.mem_cons] at hz ⊢
          rcases hz with h | h
          · exact .inr (.inr (.inl h))
          · exact .inr (.inr (.inr (.inr h)))
        obtain ⟨W10, hst, H10⟩ := H9b.storeN (fun z hz e => by have := HRB.out z hz; omega) (by omega) xr
        have H10' := Lib.hid H10
        have HP9 := Lib.hid hP
        clear H10 H9 H9b hP k0 k1 k2 k3 k4 k5
        go_wp2_with fail
        obtain ⟨d0, d1, d2, d3, d4, d5⟩ := nd_cells (H10'.out.mem List.mem_cons_self)
        simp only at d0 d1 d2 d3 d4 d5
        refine bodyPost_ret (v := .tuple #[.agg xr.cells, .int .i64 6]) (by simp [results, Tryz.results110, go_sem, d0, d1, d2, d3, d4, d5, NdM.cells]) rfl ?_
        exact .inl ⟨by rw [HXR.out]; exact HP9.out, by rw [HXR.out], H10'.out.drop⟩
      · have HFR := Lib.hid (And.intro hfr.1 fun (z : Nat × Obj) (hz : z ∈ R) => hfr.2 z (List.mem_cons_of_mem _ (List.mem_cons_of_mem _ (List.mem_cons_of_mem _ (List.mem_cons_of_mem _ hz)))))
        clear hfr
        have hgn : g9 ≠ w.heap.size + 1 := fun e => by
          have h1 := H9.mem List.mem_cons_self
          have h2 := H9.mem (x := (w.heap.size + 1, ndO zeroN)) (by simp)
          simp only at h1 h2
          rw [e, h2] at h1
          exact absurd (Option.some.inj h1) (by unfold ndO rowO; simp)
        have H9b : PV w0 pp n c V ((w.heap.size + 1, ndO zeroN) :: (g9, rowO y.L) :: R) w5 := H9.sub _ fun z hz => by
          simp only [List.mem_cons] at hz ⊢
          rcases hz with h | h | h
          · exact .inr (.inr (.inr (.inl h)))
          · exact .inl h
          · exact .inr (.inr (.inr (.inr (.inr h))))
        obtain ⟨W10, hst, H10⟩ := H9b.storeN (fun z hz e => by
          rcases List.mem_cons.1 hz with rfl | hz
          · exact hgn e
          · have := HRB.out z hz; omega) (by omega) y
        have H10' := Lib.hid H10
        have HP9 := Lib.hid (And.intro hP hG)
        clear H10 H9 H9b hP hG k0 k1 k2 k3 k4 k5
        go_wp2_with fail
        obtain ⟨d0, d1, d2, d3, d4, d5⟩ := nd_cells (H10'.out.mem List.mem_cons_self)
        simp only at d0 d1 d2 d3 d4 d5
        refine bodyPost_ret (v := .tuple #[.agg y.cells, .int .i64 0]) (by simp [results, Tryz.results110, go_sem, d0, d1, d2, d3, d4, d5, NdM.cells]) rfl ?_
        exact .inr ⟨y, g9, by rw [HXR.out]; exact HP9.out.1, by rw [HXR.out]; exact HP9.out.2, HFR.out, rfl, H10'.out.drop⟩
    · have HX : Hid (hiM x j = x.high) := by
        refine Lib.hid ?_
        unfold hiM
        rw [List.getElem?_eq_none (by omega)]
      have H7 := H6
      obtain ⟨W7, hW7⟩ : ∃ W7, wc = W7 := ⟨_, rfl⟩
      subst hW7
      have hd1 : decide ((j : Int) + 1 < (x.L.length : Int)) = false := decide_eq_false (by omega)
      clear H6
      have HR : Hid (Calls Tryz.prog 163 #[.pointer (some ⟨tb, 0, none⟩), .agg #[.int .i64 (numP p.val), .int .i64 (x.level - 1), .string p.key, .string x.high, .slice none 0 0, .int .i64 0]] wc (ReadPost w0 pp n c V ((nb, ndO (kidM x p x.high)) :: (w.heap.size + 1 + 1, prO p) :: (w.heap.size + 1, ndO zeroN) :: (w.heap.size, ndO x) :: R) (kidM x p x.high))) :=
        Lib.hid (nread_any H7 (List.mem_cons_of_mem _ (List.mem_cons_of_mem _ (List.mem_cons_of_mem _ (List.mem_cons_of_mem _ hT)))) hn (kidM x p x.high) (by show _ ≤ numP p.val; omega) (by show numP p.val ≤ _; omega))
      obtain ⟨k0, k1, k2, k3, k4, k5⟩ := nd_cells (H7.mem List.mem_cons_self)
      simp only [kidM, List.length_nil] at k0 k1 k2 k3 k4 k5
      have HNB := Lib.hid (H7.ne List.mem_cons_self rfl (by decide))
      clear H7
      go_wp2_with fail
      refine HR.out.mono ?_
      rw [← HX.out]
      obtain ⟨xr, hxr⟩ : ∃ xr, kidM x p (hiM x j) = xr := ⟨_, rfl⟩
      have HXR := Lib.hid hxr
      rw [hxr]
      clear hxr
      rintro e w5 (⟨hP, rfl, H9⟩ | ⟨y, g9, hP, hG, hfr, rfl, H9⟩)
      · have H9b : PV w0 pp n c V ((w.heap.size + 1, ndO zeroN) :: R) w5 := H9.sub _ fun z hz => by
          simp only [List.mem_cons] at hz ⊢
          rcases hz with h | h
          · exact .inr (.inr (.inl h))
          · exact .inr (.inr (.inr (.inr h)))
        obtain ⟨W10, hst, H10⟩ := H9b.storeN (fun z hz e => by have := HRB.out z hz; omega) (by omega) xr
        have H10' := Lib.hid H10
        have HP9 := Lib.hid hP
        clear H10 H9 H9b hP k0 k1 k2 k3 k4 k5
        go_wp2_with fail
        obtain ⟨d0, d1, d2, d3, d4, d5⟩ := nd_cells (H10'.out.mem List.mem_cons_self)
        simp only at d0 d1 d2 d3 d4 d5
        refine bodyPost_ret (v := .tuple #[.agg xr.cells, .int .i64 6]) (by simp [results, Tryz.results110, go_sem, d0, d1, d2, d3, d4, d5, NdM.cells]) rfl ?_
        exact .inl ⟨by rw [HXR.out]; exact HP9.out, by rw [HXR.out], H10'.out.drop⟩
      · have HFR := Lib.hid (And.intro hfr.1 fun (z : Nat × Obj) (hz : z ∈ R) => hfr.2 z (List.mem_cons_of_mem _ (List.mem_cons_of_mem _ (List.mem_cons_of_mem _ (List.mem_cons_of_mem _ hz)))))
        clear hfr
        have hgn : g9 ≠ w.heap.size + 1 := fun e => by
          have h1 := H9.mem List.mem_cons_self
          have h2 := H9.mem (x := (w.heap.size + 1, ndO zeroN)) (by simp)
          simp only at h1 h2
          rw [e, h2] at h1
          exact absurd (Option.some.inj h1) (by unfold ndO rowO; simp)
        have H9b : PV w0 pp n c V ((w.heap.size + 1, ndO zeroN) :: (g9, rowO y.L) :: R) w5 := H9.sub _ fun z hz => by
          simp only [List.mem_cons] at hz ⊢
          rcases hz with h | h | h
          · exact .inr (.inr (.inr (.inl h)))
          · exact .inl h
          · exact .inr (.inr (.inr (.inr (.inr h))))
        obtain ⟨W10, hst, H10⟩ := H9b.storeN (fun z hz e => by
          rcases List.mem_cons.1 hz with rfl | hz
          · exact hgn e
          · have := HRB.out z hz; omega) (by omega) y
        have H10' := Lib.hid H10
        have HP9 := Lib.hid (And.intro hP hG)
        clear H10 H9 H9b hP hG k0 k1 k2 k3 k4 k5
        go_wp2_with fail
        obtain ⟨d0, d1, d2, d3, d4, d5⟩ := nd_cells (H10'.out.mem List.mem_cons_self)
        simp only at d0 d1 d2 d3 d4 d5
        refine bodyPost_ret (v := .tuple #[.agg y.cells, .int .i64 0]) (by simp [results, Tryz.results110, go_sem, d0, d1, d2, d3, d4, d5, NdM.cells]) rfl ?_
        exact .inr ⟨y, g9, by rw [HXR.out]; exact HP9.out.1, by rw [HXR.out]; exact HP9.out.2, HFR.out, rfl, H10'.out.drop⟩
end
end Go.Proofs.YtcjfnfdinhbdlaaGreatDoor
namespace Go.Proofs.YtcjfnfdinhbdlaaGreatDoor
set_option maxRecDepth 100000
open Go.ChangeShapes Go.WideShapes Go.ChangeAt Go.RowKit Go.PlainAid
open Go.Sort (grow)
attribute [local go_sem ↓ high] store_n
theorem RoundIn.wide {m m' : Nat} {P : Program} {l : Nat} {f : FuncId} {tmps : Array Value} {assign body : Code} {w : World} {R : Ending → World → Prop}
    (h : RoundIn Fence.wide m P l f tmps assign body w R) : RoundIn Fence.wide m' P l f tmps assign body w R := ⟨h.1, fun c cs _ => h.2 c cs (fun d h => by cases h)⟩
def GB (B : Nat) (X : List (Nat × Obj)) : Prop := ∀ x ∈ X, x.2.isCells = true ∨ (x.1 ≠ B ∧ x.1 ≠ B + 1)
theorem GB.nil (B : Nat) : GB B [] := fun _ h => by cases h
theorem GB.cons {B b : Nat} {o : Obj} {X : List (Nat × Obj)} (h : GB B X) (ho : o.isCells = true) : GB B ((b, o) :: X) := fun x hx => by
  rcases List.mem_cons.1 hx with rfl | hx
  · exact .inl ho
  · exact h x hx
theorem GB.app {B : Nat} {X Y : List (Nat × Obj)} (h : GB B X) (k : GB B Y) : GB B (X ++ Y) := fun x hx => (List.mem_append.1 hx).elim (h x) (k x)
theorem GB.sub {B : Nat} {X Y : List (Nat × Obj)} (h : GB B X) (hs : ∀ y ∈ Y, y ∈ X) : GB B Y := fun x hx => h x (hs x hx)
def Ap (X Y : List (Nat × Obj)) : Prop := ∀ x ∈ X, ∀ y ∈ Y, x.1 ≠ y.1
theorem Ap.tail {x : Nat × Obj} {X Y : List (Nat × Obj)} (h : Ap (x :: X) Y) : Ap X Y := fun z hz => h z (List.mem_cons_of_mem _ hz)
theorem Ap.cons {x : Nat × Obj} {X Y : List (Nat × Obj)} (h : Ap X Y) (hx : ∀ y ∈ Y, x.1 ≠ y.1) : Ap (x :: X) Y := fun z hz => by
  rcases List.mem_cons.1 hz with rfl | hz
  · exact hx
  · exact h z hz
theorem Ap.push {w0 w : World} {pp n c : Nat} {V : Int → ByteArray} {X Y Z : List (Nat × Obj)} (h : Ap X Y) (H : PV w0 pp n c V (Z ++ Y) w) (o : Obj) : Ap ((w.heap.size, o) :: X) Y := h.cons fun y hy e => by
  have := H.lt (x := y) (List.mem_append_right _ hy)
  simp only at e
  omega
def errV (b : Bool) : Value := .int .i64 (if b then 6 else 0)
section
variable {w0 : World} {pp n c tb : Nat} {V : Int → ByteArray} {i : Int}
structure FitN (X : List (Nat × Obj)) (x : NdM) (b : Bool) : Prop where
  kn : b = false → Kn X x.sl x.L
  law : b = false → Lawful x.level x.low x.high x.L
  small : x.L.length ≤ 4096
  mod : b = false → Mod x.L
  top : x.level ≤ 255
  cap : b = false → x.L.length ≤ x.c
  num : 0 ≤ x.at_ ∧ x.at_ ≤ 4294967295
def WalkPost (w0 : World) (pp n c : Nat) (V : Int → ByteArray) (K Kx : List (NdD × Bool) → List (Nat × Obj) → Prop) (X : List (Nat × Obj)) (pre l : List (NdD × Bool)) (e : Ending) (W' : World) : Prop :=
  (e = .returned (.bool true) ∧ ∃ Rc', (K (pre ++ l) Rc' ∧ Ap X Rc') ∧ PV w0 pp n c V (X ++ Rc') W') ∨ (e = .returned (.bool false) ∧ ∃ q Rc', q <+: l ∧ (Kx (pre ++ q) Rc' ∧ Ap X Rc') ∧ PV w0 pp n c V (X ++ Rc') W')
theorem visK_prefix {out : Int → Bool} {f : ByteArray} {k : Nat} {x : NdD} {t m m' : Nat} (h : m ≤ m') : visK V out f k x t m <+: visK V out f k x t m' := by
  obtain ⟨d, rfl⟩ := Nat.exists_eq_add_of_le h
  induction d with
  | zero => exact List.prefix_refl _
  | succ d ih =>
    rw [← Nat.add_assoc, visK_succ]
    exact (ih (by omega)).trans (List.prefix_append _ _)
theorem kid_D {x : NdM} {j : Nat} {p : Pr} (hp : x.L[j]? = some p) : (kidM x p (hiM x j)).D = kidN x.D j := by
  have hp2 : x.D.L[j]? = some p := hp
  have h1 : hiM x j = match x.D.L[j + 1]? with | some q => q.key | none => x.D.high := rfl
  unfold kidN
  rw [hp2, h1]
  rfl
theorem rdN_some {out : Int → Bool} {x y : NdM} {g : Nat} (hr : rdP V out x.D = some (y.level, y.L)) (hG : Got x y g) : rdN V out x.D = (y.D, false) := by
  unfold rdN
  rw [hr]
  show (({ x.D with level := y.level, L := y.L } : NdD), false) = (y.D, false)
  unfold NdM.D
  rw [hG.at_, hG.low, hG.high]
theorem rdN_none {out : Int → Bool} {x : NdD} (hr : rdP V out x = none) : rdN V out x = (x, true) := by
  unfold rdN
  rw [hr]
theorem fit_some {x y : NdM} {g : Nat} {R X : List (Nat × Obj)} {W : World} (H : PV w0 pp n c V R W) (hr : rdP V (outB n (V 0)) x.D = some (y.level, y.L)) (hG : Got x y g) (hg : (g, rowO y.L) ∈ X) : FitN X y false := by
  obtain ⟨ho, hu, hl, hlv, hlaw⟩ := rdP_some hr
  have hin : 2 ≤ x.at_ ∧ x.at_ < n := by
    have ho : outB n (V 0) x.at_ = true := ho
    unfold outB at ho
    simp only [Bool.and_eq_true, decide_eq_true_eq] at ho
    omega
  have hsz := H.size (k := x.at_) (by omega) hin.2
  have hlen := unpP_len hu
  refine ⟨fun _ => by rw [hG.sl]; exact Kn.of hg, fun _ => by rw [hG.low, hG.high]; exact hlaw, by omega, fun _ => unpP_mod (by show (V x.at_).size ≤ _; omega) hu, ?_, fun _ => by rw [hG.c]; exact Nat.le_refl _, by have := H.pages; rw [hG.at_]; omega⟩
  rw [hl]
  exact bt_le _ _
end
end Go.Proofs.YtcjfnfdinhbdlaaGreatDoor
namespace Go.Proofs.YtcjfnfdinhbdlaaGreatDoor
set_option maxRecDepth 100000
open Go.ChangeShapes Go.WideShapes Go.ChangeAt Go.RowKit Go.PlainAid
open Go.Sort (grow)
section
variable {w0 w : World} {pp n c : Nat} {V : Int → ByteArray} {R : List (Nat × Obj)}
theorem PV.neO (H : PV w0 pp n c V R w) {x : Nat × Obj} (hx : x ∈ R) (ho : x.2.isCells = false) : pp ≠ x.1 := by
  intro e
  have h1 := H.mem hx
  obtain ⟨S, h, _, _⟩ := H
  have h2 := h.at
  rw [e, h1] at h2
  rw [Option.some.inj h2] at ho
  cases ho
theorem PV.obj {b : Nat} {o : Obj} (H : PV w0 pp n c V ((b, o) :: R) w) (hR : ∀ x ∈ R, x.1 ≠ b) (ho : o.isCells = false) (hw : o.isWalk = false) (hb : w0.heap.size ≤ b) (o' : Obj) : PV w0 pp n c V ((b, o') :: R) (w.putObj b o') :=
  H.swap hR (H.neO List.mem_cons_self ho) (by simp) (fun k _ hk => World.putObj_heap_other hk) (.inl rfl) (World.putObj_heap_same (H.lt List.mem_cons_self)) (below_putC H.below hb (H.mem List.mem_cons_self) ho hw)
theorem PV.apart {B : Nat} {o1 o2 : Obj} (H : PV w0 pp n c V ((B + 1, o1) :: (B, o2) :: R) w) (h1 : o1.isCells = false) (h2 : o2.isCells = false) (hG : GB B R) : (∀ x ∈ R, x.1 ≠ B + 1) ∧ ∀ x ∈ R, x.1 ≠ B := by
  constructor <;> intro x hx e
  · rcases hG x hx with h | h
    · have q1 := H.mem List.mem_cons_self
      have q2 := H.mem (List.mem_cons_of_mem _ (List.mem_cons_of_mem _ hx))
      rw [e] at q2
      have q1 : w.heap[B + 1]? = some o1 := q1
      rw [q1] at q2
      rw [← Option.some.inj q2, h1] at h
      cases h
    · exact h.2 e
  · rcases hG x hx with h | h
    · have q1 := H.mem (List.mem_cons_of_mem _ List.mem_cons_self)
      have q2 := H.mem (List.mem_cons_of_mem _ (List.mem_cons_of_mem _ hx))
      rw [e] at q2
      have q1 : w.heap[B]? = some o2 := q1
      rw [q1] at q2
      rw [← Option.some.inj q2, h2] at h
      cases h
    · exact h.1 e
end
def Adds (W W' : World) (X : List (Nat × Obj)) : Prop := (W' = W ∧ X = []) ∨ ∃ o : Obj, o.isCells = true ∧ W' = W.alloc o ∧ X = [(W.heap.size, o)]
def BodyPost {β : Type} (w0 : World) (pp n c : Nat) (V : Int → ByteArray) (B : Nat) (r : Loop) (K : List β → List (Nat × Obj) → Prop) (Kx : Code → List β → List (Nat × Obj) → Prop) (X : List (Nat × Obj)) (pre : List β) : Exit → Act → World → Prop
  | .normal, _, W => ∃ R', (K pre R' ∧ Ap X R') ∧ GB B R' ∧ PV w0 pp n c V ((B + 1, .loop r) :: (B, .deferred (some [])) :: (X ++ R')) W
  | .ret, _, W => ∃ R', (Kx .ret pre R' ∧ Ap X R') ∧ GB B R' ∧ PV w0 pp n c V ((B + 1, .loop r) :: (B, .deferred (some [])) :: (X ++ R')) W
  | .exit id, _, W => ∃ R', (Kx (.exit id) pre R' ∧ Ap X R') ∧ GB B R' ∧ PV w0 pp n c V ((B + 1, .loop r) :: (B, .deferred (some [])) :: (X ++ R')) W
  | .goto t, _, W => ∃ R', (Kx (.goto t) pre R' ∧ Ap X R') ∧ GB B R' ∧ PV w0 pp n c V ((B + 1, .loop r) :: (B, .deferred (some [])) :: (X ++ R')) W
  | .panic _, _, _ => False
  | .outgrown, _, _ => False
section
variable {w0 : World} {pp n c : Nat} {V : Int → ByteArray}
end
end Go.Proofs.YtcjfnfdinhbdlaaGreatDoor
namespace Go.Proofs.YtcjfnfdinhbdlaaGreatDoor
set_option maxRecDepth 100000
open Go.ChangeShapes Go.WideShapes Go.ChangeAt Go.RowKit Go.PlainAid Go.Shelf
open Go.Sort (grow)
attribute [local go_sem ↓ high] store_n
def visA (V : Int → ByteArray) (n : Nat) (i : Int) (from_ : ByteArray) : List (NdD × Bool) :=
  if rootZ (V 1) i = 0 then [] else visP V (outB n (V 0)) from_ 255 (rdN V (outB n (V 0)) (rootM (rootZ (V 1) i)).D)
def boxT (tb : Nat) : Obj := .cells #[.pointer (some ⟨tb, 0, none⟩)] 54 (0, 0)
def boxS (s : ByteArray) : Obj := .cells #[.string s] 9 (0, 0)
theorem boxT_cell {w : World} {b tb : Nat} (h : w.heap[b]? = some (boxT tb)) : w.cell? ⟨b, 0, none⟩ = some (.pointer (some ⟨tb, 0, none⟩)) := by
  unfold boxT at h
  rw [cell_of_row _ _ _ _ _ _ h]
  rfl
theorem boxS_cell {w : World} {b : Nat} {s : ByteArray} (h : w.heap[b]? = some (boxS s)) : w.cell? ⟨b, 0, none⟩ = some (.string s) := by
  unfold boxS at h
  rw [cell_of_row _ _ _ _ _ _ h]
  rfl
section
variable {w0 : World} {pp n c tb bt bf : Nat} {V : Int → ByteArray} {i : Int}
theorem nodes_mk (from_ : ByteArray) (w : World) :
    Calls Tryz.prog 105 #[.pointer (some ⟨tb, 0, none⟩), .string from_] w fun e w' => e = .returned (.func (.func 164) #[] #[.pointer (some ⟨w.heap.size, 0, none⟩), .pointer (some ⟨w.heap.size + 1, 0, none⟩)]) ∧ (w.alloc (boxT tb)).alloc (boxS from_) = w' := by
  have hmf := make_func
  go_enter Tryz.func105, Tryz.ntmps105
  go_wp2
  go_returns
  exact ⟨rfl, rfl⟩
end
end Go.Proofs.YtcjfnfdinhbdlaaGreatDoor
namespace Go.Proofs.YtcjfnfdinhbdlaaGreatDoor
set_option maxRecDepth 100000
open Go.ChangeShapes Go.WideShapes Go.ChangeAt Go.RowKit Go.PlainAid Go.Shelf
open Go.Sort (grow)
attribute [local go_sem ↓ high] store_n
attribute [local go_sem] Oper.semAt_some
theorem PV.gb {w0 w : World} {pp n c : Nat} {V : Int → ByteArray} {R : List (Nat × Obj)} (H : PV w0 pp n c V R w) : GB w.heap.size R := fun x hx => .inr (by have := H.lt hx; omega)
def keyN (x : NdM × Bool) : NdD × Bool := (x.1.D, x.2)
def encN (x : NdM × Bool) : Array Value := #[.agg x.1.cells, errV x.2]
def FitX (X : List (Nat × Obj)) (x : NdM × Bool) : Prop := FitN X x.1 x.2
section
variable {w0 w w' : World} {pp n c tb : Nat} {V : Int → ByteArray} {R : List (Nat × Obj)} {i : Int}
end
end Go.Proofs.YtcjfnfdinhbdlaaGreatDoor
namespace Go.Proofs.YtcjfnfdinhbdlaaGreatDoor
set_option maxRecDepth 100000
open Go.ChangeShapes Go.WideShapes Go.ChangeAt Go.RowKit Go.PlainAid Go.Shelf
open Go.Sort (grow)
theorem least_or2 (s : ByteArray) (f t : Int) : (∃ v, Least s f t v) ∨ ∀ l, ¬ LowP s f t l := by
  by_cases h : ∃ l, LowP s f t l
  · obtain ⟨l, hl⟩ := h
    refine .inl ?_
    have key : ∀ (n : Nat) (l : Int), l.toNat < n → LowP s f t l → ∃ v, Least s f t v := by
      intro n
      induction n with
      | zero => intro l hl; omega
      | succ n ih =>
        intro l hn hl
        by_cases h : ∃ m, m < l ∧ LowP s f t m
        · obtain ⟨m, hm, hp⟩ := h
          have h0 := hp.2.1
          have h1 := hl.2.1
          exact ih m (by omega) hp
        · exact ⟨l, hl, fun m hm hp => h ⟨m, hm, hp⟩⟩
    exact key _ l (Nat.lt_succ_self _) hl
  · exact .inr fun l hl => h ⟨l, hl⟩
section
variable {w0 w w' : World} {pp n c tb : Nat} {V : Int → ByteArray} {R : List (Nat × Obj)} {i : Int}
theorem PV.setAny (H : PV w0 pp n c V R w) (k : Int) (s : ByteArray) (b0 : -9223372036854775808 ≤ k) (b1 : k ≤ 9223372036854775807) (hp : 0 < n) (hs : s.size ≤ 2000) (hc : c < 1000000) :
    Calls Tryz.prog 173 #[.pointer (some ⟨pp, 0, none⟩), .int .i64 k, .string s] w fun e w' => ∃ V' z, e = .returned (.int .i64 z) ∧ (outB n (V 0) k = true → s.size ≤ 256 → z = 0 ∧ V' = updV V k (filled s)) ∧ PV w0 pp n (c + 1) V' R w' := by
  cases hk : outB n (V 0) k with
  | false =>
    obtain ⟨S, h, rfl, rfl⟩ := H
    exact (pset_no h k s b0 b1 hp hk).mono fun e w' ⟨he, h'⟩ => ⟨_, _, he, fun h => (by cases h), S, h'.mono (by omega), rfl, rfl⟩
  | true =>
    by_cases hb : s.size ≤ 256
    · exact (H.set k s b0 b1 hp hb hc hk).mono fun e w' ⟨he, h'⟩ => ⟨_, _, he, fun _ _ => ⟨rfl, rfl⟩, h'⟩
    · obtain ⟨S, h, rfl, rfl⟩ := H
      exact (pset_big h k s b0 b1 hp (by omega) hs hc hk).mono fun e w' ⟨he, h'⟩ => ⟨_, _, he, fun _ h => absurd h hb, S, h', rfl, rfl⟩
theorem PV.setRootAny (H : PV w0 pp n c V R w) (i k : Int) (hi : 0 ≤ i ∧ i < 16) (hp : 1 < n) (hc : c < 1000000) (b0 : -9223372036854775808 ≤ k) (b1 : k ≤ 9223372036854775807) :
    Calls Tryz.prog 122 #[.pointer (some ⟨pp, 0, none⟩), .int .i64 i, .int .i64 k] w fun e w' => ∃ V' z, e = .returned (.int .i64 z) ∧ (outB n (V 0) k = true → z = 0 ∧ V' = updV V 1 (Go.Proofs.YtcjfnfdinhbdlaaGreatDoor.setRoot (V 1) i k)) ∧ PV w0 pp n (c + 1) V' R w' := by
  cases hk : outB n (V 0) k with
  | false =>
    by_cases hz : k = 0
    · exact (H.setRoot i k hi hp hc (fun h => absurd hz h) b0 b1).mono fun e w' ⟨he, h'⟩ => ⟨_, _, he, fun h => (by cases h), h'⟩
    · exact (H.setRoot_none i k hi (by omega) hz hk b0 b1).mono fun e w' ⟨he, h'⟩ => ⟨_, _, he, fun h => (by cases h), h'.mono (by omega)⟩
  | true => exact (H.setRoot i k hi hp hc (fun _ => hk) b0 b1).mono fun e w' ⟨he, h'⟩ => ⟨_, _, he, fun _ => ⟨rfl, rfl⟩, h'⟩
theorem PV.allocAny (H : PV w0 pp n c V R w) (hp : 0 < n) (hc : c < 900000) :
    Calls Tryz.prog 120 #[.pointer (some ⟨pp, 0, none⟩)] w fun e w' => (∃ v, Least (V 0) 2 n v ∧ e = .returned (.tuple #[.int .i64 v, .int .i64 0]) ∧ PV w0 pp n (c + 2) (givenV V v) R w') ∨ ((∀ l, ¬ LowP (V 0) 2 n l) ∧ e = .returned (.tuple #[.int .i64 0, .int .i64 13]) ∧ PV w0 pp n (c + 2) V R w') := by
  rcases least_or2 (V 0) 2 n with ⟨v, hv⟩ | hno
  · exact (H.alloc hp hc v hv).mono fun e w' ⟨he, h'⟩ => .inl ⟨v, hv, he, h'⟩
  · exact (H.alloc_no hp hno).mono fun e w' ⟨he, h'⟩ => .inr ⟨hno, he, h'.mono (by omega)⟩
set_option maxHeartbeats 4000000 in
theorem twrite_any (H : PV w0 pp n c V R w) (hT : (tb, treeO pp i) ∈ R) (hn : 0 < n) (hc : c < 1000000) (x : NdM) (hk : Kn R x.sl x.L) (hs : pkS x.L ≤ 1000) (hsm : x.L.length ≤ 4096) (b0 : 0 ≤ x.at_) (b1 : x.at_ ≤ 65535) :
    Calls Tryz.prog 121 #[.pointer (some ⟨tb, 0, none⟩), .agg x.cells] w fun e w' => ∃ V' z, e = .returned (.int .i64 z) ∧ (outB n (V 0) x.at_ = true → pkS x.L ≤ 254 → z = 0 ∧ V' = updV V x.at_ (filled (packP x.level x.L))) ∧ PV w0 pp n (c + 1) V' R w' := by
  have H1 := H.push (ndO x)
  have hN := ndIs_of (H1.mem List.mem_cons_self) (H1.kn (hk.mono fun y hy => List.mem_cons_of_mem _ hy)) hsm
  obtain ⟨t0, t1⟩ := tree_cells (H1.mem (List.mem_cons_of_mem _ hT))
  obtain ⟨d0, d1, d2, d3, d4, d5⟩ := nd_cells (H1.mem List.mem_cons_self)
  simp only at t0 t1 d0 d1 d2 d3 d4 d5
  have HP := Lib.hid fun (W : World) (hb : Below (w.alloc (ndO x)).heap.size (w.alloc (ndO x)) W) => pack_any (hN.on hb) (by omega)
  have H1' := Lib.hid H1
  have HT := Lib.hid hT
  have hps := packP_size x.level x.L
  have hsl : (packP x.level x.L).size ≤ 2000 := by omega
  have HZ : Hid (pkS x.L ≤ 254 → (packP x.level x.L).size ≤ 256) := Lib.hid fun h => by omega
  clear H H1 hN d1 d2 d3 d4 d5 t1 hk hs hps hsm hT
  obtain ⟨D, hD⟩ : ∃ D, packP x.level x.L = D := ⟨_, rfl⟩
  rw [hD] at HP hsl HZ
  rw [hD]
  clear hD
  obtain ⟨W1, hW1⟩ : ∃ W1, w.alloc (ndO x) = W1 := ⟨_, rfl⟩
  rw [hW1] at HP H1' t0 d0
  have HW1 := Lib.hid hW1
  clear hW1
  unfold NdM.cells
  go_enter Tryz.func121, Tryz.ntmps121
  go_wp2
  rw [show (w.alloc (.cells #[.int .i64 x.at_, .int .i64 x.level, .string x.low, .string x.high, .slice x.sl x.L.length x.c, .int .i64 x.next] 116)) = W1 from HW1.out]
  go_region_held3 (fun w' => w'.cell? ⟨tb, 0, none⟩ = some (.pointer (some ⟨pp, 0, none⟩)) ∧ w'.cell? ⟨w.heap.size, 0, none⟩ = some (.int .i64 x.at_)) (go_keep)
    (first
      | (go_at_call 174
         refine (HP.out W1.drew (below_drew _)).mono ?_
         rintro e w5 ⟨rfl, hb5⟩
         have H5 := (H1'.out.on (below_drew _)).on hb5
         have z0 := (tree_cells (H5.mem (List.mem_cons_of_mem _ HT.out))).1
         have z1 := (nd_cells (H5.mem List.mem_cons_self)).1
         simp only at z0 z1
         have H5' := Lib.hid H5
         clear H5 hb5)
      | (go_at_call 173
         refine (PV.setAny H5'.out x.at_ D (by omega) (by omega) hn hsl hc).mono ?_
         rintro e w6 ⟨V6, z6, rfl, hp6, H6⟩
         have y0 := (tree_cells (H6.mem (List.mem_cons_of_mem _ HT.out))).1
         have y1 := (nd_cells (H6.mem List.mem_cons_self)).1
         simp only at y0 y1
         have HF := Lib.hid (And.intro hp6 H6.drop)
         clear H6 hp6))
  all_goals
    go_wp2
    go_returns
    exact ⟨V6, z6, rfl, fun h1 h2 => HF.out.1 h1 (HZ.out h2), HF.out.2⟩
end
end Go.Proofs.YtcjfnfdinhbdlaaGreatDoor
namespace Go.Proofs.YtcjfnfdinhbdlaaGreatDoor
set_option maxRecDepth 100000
open Go.ChangeShapes Go.WideShapes Go.ChangeAt Go.RowKit Go.PlainAid Go.Shelf
open Go.Sort (grow)
attribute [local go_sem ↓ high] store_n
attribute [local go_sem] Oper.semAt_some
theorem take_snoc2 {α : Type} {L : List α} {k : Nat} {p : α} (h : L[k]? = some p) : L.take (k + 1) = L.take k ++ [p] := by
  rw [List.take_add_one, h]
  rfl
theorem pr_cellsN {w : World} {b : Nat} {r : Pr} (h : w.heap[b]? = some (prO r)) : w.cell? ⟨b, 0, none⟩ = some (.string r.key) ∧ w.cell? ⟨b, 1, none⟩ = some (.string r.val) := by
  unfold prO at h
  exact ⟨by rw [cell_of_row _ _ _ _ _ _ h]; rfl, by rw [cell_of_row _ _ _ _ _ _ h]; rfl⟩
section
variable {w0 : World} {pp n c : Nat} {V : Int → ByteArray}
def TakePost (w0 : World) (pp n c : Nat) (V : Int → ByteArray) (K Kx : List Pr → List (Nat × Obj) → Prop) (X : List (Nat × Obj)) (pre l : List Pr) (e : Ending) (W' : World) : Prop :=
  (e = .returned (.bool true) ∧ ∃ Rc', (K (pre ++ l) Rc' ∧ Ap X Rc') ∧ PV w0 pp n c V (X ++ Rc') W') ∨ (e = .returned (.bool false) ∧ ∃ q Rc', q <+: l ∧ (Kx (pre ++ q) Rc' ∧ Ap X Rc') ∧ PV w0 pp n c V (X ++ Rc') W')
end
end Go.Proofs.YtcjfnfdinhbdlaaGreatDoor
namespace Go.Proofs.YtcjfnfdinhbdlaaGreatDoor
set_option maxRecDepth 100000
open Go.ChangeShapes Go.WideShapes Go.ChangeAt Go.RowKit Go.PlainAid Go.Shelf
open Go.Sort (grow)
attribute [local go_sem ↓ high] store_n
attribute [local go_sem] Oper.semAt_some
theorem fromL_app (f : ByteArray) (a b : List (NdD × Bool)) (h : ∀ y ∈ a, y.2 = false) : fromL f (a ++ b) = fromL f a ++ fromL f b := by
  induction a with
  | nil => rfl
  | cons x l ih =>
    have hx := h x List.mem_cons_self
    show (if x.2 = true then [] else givP f x.1 ++ fromL f (l ++ b)) = (if x.2 = true then [] else givP f x.1 ++ fromL f l) ++ fromL f b
    rw [hx, if_neg (by simp), if_neg (by simp), ih fun y hy => h y (List.mem_cons_of_mem _ hy), List.append_assoc]
theorem fromL_bad (f : ByteArray) (a b : List (NdD × Bool)) (y : NdD) (h : ∀ y ∈ a, y.2 = false) : fromL f (a ++ [(y, true)] ++ b) = fromL f a := by
  rw [List.append_assoc, fromL_app f a _ h]
  show fromL f a ++ [] = _
  rw [List.append_nil]
theorem fromL_prefix (f : ByteArray) : ∀ (a b : List (NdD × Bool)), fromL f a <+: fromL f (a ++ b)
  | [], b => ⟨fromL f b, rfl⟩
  | x :: l, b => by
    show (if x.2 = true then [] else givP f x.1 ++ fromL f l) <+: (if x.2 = true then [] else givP f x.1 ++ fromL f (l ++ b))
    by_cases hx : x.2 = true
    · rw [if_pos hx, if_pos hx]
      exact List.prefix_refl _
    · rw [if_neg hx, if_neg hx]
      exact (List.prefix_append_right_inj _).2 (fromL_prefix f l b)
theorem fromL_one (f : ByteArray) (a : List (NdD × Bool)) (x : NdD) (h : ∀ y ∈ a, y.2 = false) : fromL f (a ++ [(x, false)]) = fromL f a ++ givP f x := by
  rw [fromL_app f a _ h]
  show fromL f a ++ (if false = true then [] else givP f x ++ []) = _
  rw [if_neg (by simp), List.append_nil]
theorem eq_yieldS (fn : Fn) (a b : Array Value) (w : World) : (binOp .eql 219 (.func fn a b) .nilFunc).run Tryz.prog w = .ok (.bool false) w := by kernel_rfl
section
variable {w0 : World} {pp n c tb : Nat} {V : Int → ByteArray} {i : Int}
theorem from_end {f : ByteArray} {K Kx : List Pr → List (Nat × Obj) → Prop} {xs vs : List (NdD × Bool)} {R0 : List (Nat × Obj)} (hp : xs <+: vs) (h : (∃ a y, xs = a ++ [(y, true)] ∧ (∀ z ∈ a, z.2 = false) ∧ K (fromL f a) R0) ∨ ∃ q, q <+: fromL f xs ∧ Kx q R0) : K (fromL f vs) R0 ∨ ∃ q, q <+: fromL f vs ∧ Kx q R0 := by
  obtain ⟨b, rfl⟩ := hp
  rcases h with ⟨a, y, rfl, hg, hK⟩ | ⟨q, hq, hK⟩
  · exact .inl (by rw [fromL_bad f a b y hg]; exact hK)
  · exact .inr ⟨q, hq.trans (fromL_prefix f xs b), hK⟩
def FromPost (w0 : World) (pp n c : Nat) (V : Int → ByteArray) (K Kx : List Pr → List (Nat × Obj) → Prop) (X : List (Nat × Obj)) (l : List Pr) (e : Ending) (W' : World) : Prop :=
  e = .returned (.tuple #[]) ∧ ∃ Rc', PV w0 pp n c V (X ++ Rc') W' ∧ (K l Rc' ∨ ∃ q, q <+: l ∧ Kx q Rc')
end
end Go.Proofs.YtcjfnfdinhbdlaaGreatDoor
