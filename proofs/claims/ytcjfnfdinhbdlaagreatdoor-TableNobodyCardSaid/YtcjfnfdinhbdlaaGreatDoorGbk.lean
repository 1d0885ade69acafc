import Derived.Test.YtcjfnfdinhbdlaaGreatDoorGbj
import Derived.Test.YtcjfnfdinhbdlaaGreatDoorGbi
import Derived.Stop.RegionWithIn
namespace Go.Proofs.YtcjfnfdinhbdlaaGreatDoor
set_option maxRecDepth 100000
open Go.ChangeShapes Go.WideShapes Go.ChangeAt Go.RowKit Go.PlainAid
open Go.Sort (grow)
attribute [local go_sem ↓ high] store_n
section
variable {w0 : World} {pp n c tb : Nat} {V : Int → ByteArray} {i : Int}
def RoundsP (w0 : World) (pp n c : Nat) (V : Int → ByteArray) (B l : Nat) (X0 : List (Nat × Obj)) (P : List (NdD × Bool) → Prop) (K Kx : List (NdD × Bool) → List (Nat × Obj) → Prop) : Prop :=
  ∀ (pre : List (NdD × Bool)) (X Rc : List (Nat × Obj)) (x : NdM) (b : Bool) (W : World), P (pre ++ [(x.D, b)]) → (∀ y ∈ X0, y ∈ X) → K pre Rc ∧ Ap X Rc → PV w0 pp n c V (X ++ Rc) W → FitN X x b → GB B X →
    YieldAt Fence.wide 7 Tryz.prog l #[.agg x.cells, errV b] W fun e W' =>
      (e = .returned (.bool true) ∧ ∃ Rc', (K (pre ++ [(x.D, b)]) Rc' ∧ Ap X Rc') ∧ PV w0 pp n c V (X ++ Rc') W') ∨ (e = .returned (.bool false) ∧ ∃ Rc', (Kx (pre ++ [(x.D, b)]) Rc' ∧ Ap X Rc') ∧ PV w0 pp n c V (X ++ Rc') W')
theorem vis_next {P : List (NdD × Bool) → Prop} {out : Int → Bool} {f : ByteArray} {k t j : Nat} {x : NdM} {pre L : List (NdD × Bool)} (hP : ∀ q, q <+: pre ++ visP V out f (k + 1) (x.D, false) → P q) (hV : visP V out f (k + 1) (x.D, false) = (x.D, false) :: visK V out f k x.D (towP f x.D.L) (x.D.L.length - towP f x.D.L)) (ht : towP f x.L = t)
    (hS : visK V out f k x.D t (j + 1 - t) = visK V out f k x.D t (j - t) ++ L) (hj : j < x.L.length) : ∀ q, q <+: (pre ++ (x.D, false) :: visK V out f k x.D t (j - t)) ++ L → P q := fun q hq => by
  refine hP q (hq.trans ?_)
  rw [hV, show towP f x.D.L = t from ht, List.append_assoc, List.cons_append, ← hS]
  exact (List.prefix_append_right_inj _).2 ((List.prefix_cons_inj _).2 (visK_prefix (show j + 1 - t ≤ x.L.length - t by omega)))
set_option maxHeartbeats 4000000 in
theorem walk_badP {X0 : List (Nat × Obj)} {P : List (NdD × Bool) → Prop} (B l : Nat) (K Kx : List (NdD × Bool) → List (Nat × Obj) → Prop) (hY : RoundsP w0 pp n c V B l X0 P K Kx) (from_ : ByteArray) (k : Nat)
    (pre : List (NdD × Bool)) (X Rc : List (Nat × Obj)) (x : NdM) (W : World) (hK : K pre Rc ∧ Ap X Rc) (H : PV w0 pp n c V (X ++ Rc) W) (hF : FitN X x true) (hG : GB B X) (hP : P (pre ++ [(x.D, true)])) (hX0 : ∀ y ∈ X0, y ∈ X) :
      CallsIn Fence.wide 8 Tryz.prog 165 #[.pointer (some ⟨tb, 0, none⟩), .agg x.cells, errV true, .string from_, .func (.yield l) #[] #[]] W (WalkPost w0 pp n c V K Kx X pre (visP V (outB n (V 0)) from_ k (x.D, true))) := by
  rw [visP_bad]
  have H1 := H.push (ndO x)
  have hF1 : FitN ((W.heap.size, ndO x) :: X) x true := ⟨fun h => (hF.kn h).mono fun y hy => List.mem_cons_of_mem _ hy, hF.law, hF.small, hF.mod, hF.top, hF.cap, hF.num⟩
  have HY := hY pre ((W.heap.size, ndO x) :: X) Rc x true (W.alloc (ndO x)) hP (fun y hy => List.mem_cons_of_mem _ (hX0 y hy)) ⟨hK.1, hK.2.push H _⟩ H1 hF1 (hG.cons rfl)
  obtain ⟨d0, d1, d2, d3, d4, d5⟩ := nd_cells (H1.mem List.mem_cons_self)
  simp only at d0 d1 d2 d3 d4 d5
  obtain ⟨fn, tmps, assign, body, hyy, hR⟩ := HY
  have HR := Lib.hid hR
  have HF := Lib.hid hF1
  obtain ⟨W1, hW1⟩ : ∃ W1, W.alloc (ndO x) = W1 := ⟨_, rfl⟩
  rw [hW1] at HR
  have HW1 := Lib.hid hW1
  clear hR hF hF1 H H1 hW1 hK
  unfold ndO at hyy d0 d1 d2 d3 d4 d5
  unfold NdM.cells at hyy d0 d1 d2 d3 d4 d5 ⊢
  refine callsIn_of_wp Tryz.func165 rfl trivial ?_ rfl
  simp only [Tryz.ntmps165, List.size_toArray, List.length_cons, List.length_nil, Nat.reduceAdd, Nat.reduceSub, Array.replicate_succ, Array.replicate_zero, List.push_toArray, List.append_toArray, List.nil_append, List.cons_append]
  gi_wp2_with fail
  rw [show (W.alloc (.cells #[.int .i64 x.at_, .int .i64 x.level, .string x.low, .string x.high, .slice x.sl x.L.length x.c, .int .i64 x.next] 116)) = W1 from HW1.out]
  refine HR.out.mono ?_
  rintro e W2 (⟨rfl, Rc1, hK1, H2⟩ | ⟨rfl, Rc1, hK1, H2⟩)
  · have HK1 := Lib.hid hK1
    have H2' := Lib.hid H2
    clear d0 d1 d2 d3 d4 d5 hK1 HR hyy H2
    unfold errV
    gi_wp2
    go_returns
    exact .inl ⟨rfl, Rc1, ⟨HK1.out.1, HK1.out.2.tail⟩, H2'.out.drop⟩
  · have HK1 := Lib.hid hK1
    have H2' := Lib.hid H2
    clear d0 d1 d2 d3 d4 d5 hK1 HR hyy H2
    gi_wp2
    go_returns
    exact .inr ⟨rfl, [(x.D, true)], Rc1, List.prefix_refl _, ⟨HK1.out.1, HK1.out.2.tail⟩, H2'.out.drop⟩
set_option maxHeartbeats 8000000 in
theorem walk_anyP {X0 : List (Nat × Obj)} {P : List (NdD × Bool) → Prop} (B l : Nat) (K Kx : List (NdD × Bool) → List (Nat × Obj) → Prop) (hY : RoundsP w0 pp n c V B l X0 P K Kx) (hn : 0 < n) (from_ : ByteArray) (k : Nat) :
    ∀ (pre : List (NdD × Bool)) (X Rc : List (Nat × Obj)) (x : NdM) (b : Bool) (W : World), (tb, treeO pp i) ∈ X → K pre Rc ∧ Ap X Rc → PV w0 pp n c V (X ++ Rc) W → FitN X x b → (b = false → x.level ≤ k) → GB B X → (∀ q, q <+: pre ++ visP V (outB n (V 0)) from_ k (x.D, b) → P q) → (∀ y ∈ X0, y ∈ X) →
      CallsIn Fence.wide 8 Tryz.prog 165 #[.pointer (some ⟨tb, 0, none⟩), .agg x.cells, errV b, .string from_, .func (.yield l) #[] #[]] W (WalkPost w0 pp n c V K Kx X pre (visP V (outB n (V 0)) from_ k (x.D, b))) := by
  induction k with
  | zero =>
    intro pre X Rc x b W hT hK H hF hk hG hP hX0
    cases b with
    | false =>
      have := hk rfl
      have := (hF.law rfl).pos
      omega
    | true => exact walk_badP B l K Kx hY from_ 0 pre X Rc x W hK H hF hG (hP _ (by rw [visP_bad]; exact List.prefix_refl _)) hX0
  | succ k ih =>
    intro pre X Rc x b W hT hK H hF hk hG hP hX0
    cases b with
    | true => exact walk_badP B l K Kx hY from_ (k + 1) pre X Rc x W hK H hF hG (hP _ (by rw [visP_bad]; exact List.prefix_refl _)) hX0
    | false =>
      have hlaw := hF.law rfl
      have hk1 := hk rfl
      have htop := hF.top
      have hpos := hlaw.pos
      have HLAW := Lib.hid hlaw
      have HGB := Lib.hid hG
      have HPQ := Lib.hid hP
      have HX0 := Lib.hid hX0
      have hP1 : P (pre ++ [(x.D, false)]) := hP _ ((List.prefix_append_right_inj _).2 (by unfold visP; exact ⟨_, rfl⟩))
      clear hP
      clear hk
      have H1 := H.push (ndO x)
      have hF1 : FitN ((W.heap.size, ndO x) :: X) x false := ⟨fun h => (hF.kn h).mono fun y hy => List.mem_cons_of_mem _ hy, hF.law, hF.small, hF.mod, hF.top, hF.cap, hF.num⟩
      have HY := hY pre ((W.heap.size, ndO x) :: X) Rc x false (W.alloc (ndO x)) hP1 (fun y hy => List.mem_cons_of_mem _ (hX0 y hy)) ⟨hK.1, hK.2.push H _⟩ H1 hF1 (hG.cons rfl)
      obtain ⟨d0, d1, d2, d3, d4, d5⟩ := nd_cells (H1.mem List.mem_cons_self)
      simp only at d0 d1 d2 d3 d4 d5
      obtain ⟨fn, tmps, assign, body, hyy, hR⟩ := HY
      have HR := Lib.hid hR
      have HF := Lib.hid hF1
      obtain ⟨W1, hW1⟩ : ∃ W1, W.alloc (ndO x) = W1 := ⟨_, rfl⟩
      rw [hW1] at HR
      have HW1 := Lib.hid hW1
      clear hR hF hF1 H H1 hW1 hK hG hP1 hX0
      unfold ndO at hyy d0 d1 d2 d3 d4 d5
      unfold NdM.cells at hyy d0 d1 d2 d3 d4 d5 ⊢
      refine callsIn_of_wp Tryz.func165 rfl trivial ?_ rfl
      simp only [Tryz.ntmps165, List.size_toArray, List.length_cons, List.length_nil, Nat.reduceAdd, Nat.reduceSub, Array.replicate_succ, Array.replicate_zero, List.push_toArray, List.append_toArray, List.nil_append, List.cons_append]
      clear hlaw
      gi_wp2_with fail
      rw [show (W.alloc (.cells #[.int .i64 x.at_, .int .i64 x.level, .string x.low, .string x.high, .slice x.sl x.L.length x.c, .int .i64 x.next] 116)) = W1 from HW1.out]
      refine HR.out.mono ?_
      rintro e W2 (⟨rfl, Rc1, hK1, H2⟩ | ⟨rfl, Rc1, hK1, H2⟩)
      · have HK1 := Lib.hid hK1
        have H2' := Lib.hid H2
        clear d0 d1 d2 d3 d4 d5 hK1 HR hyy
        obtain ⟨d0, d1, d2, d3, d4, d5⟩ := nd_cells (H2.mem List.mem_cons_self)
        simp only at d0 d1 d2 d3 d4 d5
        by_cases h1 : x.level = 1
        · have f1 : (x.level == 1) = true := by simpa using h1
          have HV := Lib.hid (visP_leaf (V := V) (out := outB n (V 0)) (from_ := from_) (k := k) (x := (x.D, false)) (.inr h1))
          clear H2 h1
          unfold errV
          gi_wp2
          go_returns
          exact .inl ⟨rfl, Rc1, by rw [HV.out]; exact ⟨HK1.out.1, HK1.out.2.tail⟩, H2'.out.drop⟩
        · have f1 : (x.level == 1) = false := by simpa using h1
          have HV := Lib.hid (visP_node (V := V) (out := outB n (V 0)) (from_ := from_) (k := k) (x := x.D) h1)
          have hl2 : 2 ≤ x.level ∧ x.level ≤ 255 := ⟨by omega, htop⟩
          have hN := ndIs_of (H2.mem List.mem_cons_self) (H2.kn ((HF.out.kn rfl).mono fun y hy => List.mem_append_left _ hy)) HF.out.small
          have HTW := Lib.hid (toward_any from_ hN (risB_srt HLAW.out.rise))
          have HLK := Lib.hid (lnkB_iff.1 (HLAW.out.links h1))
          have hle := towP_le from_ x.L
          have hsm := HF.out.small
          obtain ⟨t, ht⟩ : ∃ t, towP from_ x.L = t := ⟨_, rfl⟩
          rw [ht] at HTW hle
          have HT := Lib.hid ht
          clear H2 h1 hN ht
          unfold errV
          gi_wp2_with fail
          refine ⟨trivial, (callsIn_wide.2 HTW.out).mono ?_⟩
          rintro e W3 ⟨rfl, hb3⟩
          have H3 := Lib.hid (H2'.out.on hb3)
          clear HTW d0 d1 d2 d3 d4 d5 hb3 H2'
          gi_wp2_with fail
          gi_loopw [11] (fun s wr => ∃ (j : Nat) (Rc' : List (Nat × Obj)), t ≤ j ∧ j ≤ x.L.length ∧ s = .int .i64 j ∧ Hid (K (pre ++ (x.D, false) :: visK V (outB n (V 0)) from_ k x.D t (j - t)) Rc' ∧ Ap ((W.heap.size, ndO x) :: X) Rc') ∧ Hid (PV w0 pp n c V (((W.heap.size, ndO x) :: X) ++ Rc') wr)) (fun s _ => x.L.length - (intOf s).toNat)
          case atStart => exact ⟨t, Rc1, Nat.le_refl _, hle, rfl, by rw [Nat.sub_self, visK_zero]; exact HK1, H3⟩
          case round =>
            obtain ⟨j, Rc', htj, hjl, rfl, HKm, Hm⟩ := hrel
            clear H3 HK1
            obtain ⟨d0, d1, d2, d3, d4, d5⟩ := nd_cells (Hm.out.mem List.mem_cons_self)
            simp only at d0 d1 d2 d3 d4 d5
            by_cases hlt : j < x.L.length
            · obtain ⟨p, hp⟩ : ∃ p, x.L[j]? = some p := ⟨_, List.getElem?_eq_getElem hlt⟩
              have HKD := Lib.hid (kid_D hp)
              have HB : Hid (Calls Tryz.prog 110 #[.pointer (some ⟨tb, 0, none⟩), .agg #[.int .i64 x.at_, .int .i64 x.level, .string x.low, .string x.high, .slice x.sl x.L.length x.c, .int .i64 x.next], .int .i64 j] wr (ReadPost w0 pp n c V (((W.heap.size, ndO x) :: X) ++ Rc') (kidM x p (hiM x j)))) :=
                Lib.hid (below_any Hm.out (List.mem_append_left _ (List.mem_cons_of_mem _ hT)) hn x ((HF.out.kn rfl).mono fun y hy => List.mem_append_left _ hy) hl2 hsm j p hp (HLK.out.1 p (List.mem_of_getElem? hp)))
              clear hp
              gi_wp2_with fail
              refine ⟨trivial, (callsIn_wide.2 HB.out).mono ?_⟩
              have HXL : Hid ((kidM x p (hiM x j)).level = x.level - 1) := Lib.hid rfl
              have HXZ : Hid ((kidM x p (hiM x j)).L = []) := Lib.hid rfl
              have HXN : Hid (0 ≤ (kidM x p (hiM x j)).at_ ∧ (kidM x p (hiM x j)).at_ ≤ 4294967295) := Lib.hid ⟨(numP_b p.val).1, Int.le_trans (numP_b p.val).2 (by decide)⟩
              obtain ⟨xr, hxr⟩ : ∃ xr, kidM x p (hiM x j) = xr := ⟨_, rfl⟩
              rw [hxr] at HXL HKD HXZ HXN
              rw [hxr]
              clear hxr HB d0 d1 d2 d3 d4 d5
              rintro e w5 (⟨hP, rfl, H5⟩ | ⟨y, g, hP, hG, hfr, rfl, H5⟩)
              · have HRD : Hid (rdN V (outB n (V 0)) (kidN x.D j) = (xr.D, true)) := by
                  refine Lib.hid ?_
                  rw [← HKD.out]
                  exact rdN_none hP
                have HFR : Hid (FitN ((w5.heap.size, ndO xr) :: (W.heap.size, ndO x) :: X) xr true) := Lib.hid ⟨(fun h => (by cases h)), (fun h => (by cases h)), (by rw [HXZ.out]; exact Nat.zero_le _), (fun h => (by cases h)), (by rw [HXL.out]; omega), (fun h => (by cases h)), HXN.out⟩
                have H6 := H5.push (ndO xr)
                have hst := store_nd_fresh w5 xr
                obtain ⟨k0, k1, k2, k3, k4, k5⟩ := nd_cells (H6.mem List.mem_cons_self)
                simp only at k0 k1 k2 k3 k4 k5
                have HVS : Hid (visK V (outB n (V 0)) from_ k x.D t (j + 1 - t) = visK V (outB n (V 0)) from_ k x.D t (j - t) ++ visP V (outB n (V 0)) from_ k (xr.D, true)) := by
                  refine Lib.hid ?_
                  rw [show j + 1 - t = (j - t) + 1 by omega, visK_succ, show t + (j - t) = j by omega, HRD.out]
                have HPN : Hid (∀ q, q <+: (pre ++ (x.D, false) :: visK V (outB n (V 0)) from_ k x.D t (j - t)) ++ visP V (outB n (V 0)) from_ k (xr.D, true) → P q) := Lib.hid (vis_next HPQ.out HV.out HT.out HVS.out hlt)
                have HI : Hid (CallsIn Fence.wide 7 Tryz.prog 165 #[.pointer (some ⟨tb, 0, none⟩), .agg #[.int .i64 xr.at_, .int .i64 xr.level, .string xr.low, .string xr.high, .slice xr.sl xr.L.length xr.c, .int .i64 xr.next], .int .i64 6, .string from_, .func (.yield l) #[] #[]] (w5.alloc (ndO xr)) (WalkPost w0 pp n c V K Kx ((w5.heap.size, ndO xr) :: (W.heap.size, ndO x) :: X) (pre ++ (x.D, false) :: visK V (outB n (V 0)) from_ k x.D t (j - t)) (visP V (outB n (V 0)) from_ k (xr.D, true)))) :=
                  Lib.hid (callsIn_wide.2 (callsIn_wide.1 (ih (pre ++ (x.D, false) :: visK V (outB n (V 0)) from_ k x.D t (j - t)) ((w5.heap.size, ndO xr) :: (W.heap.size, ndO x) :: X) Rc' xr true (w5.alloc (ndO xr)) (by simp [hT]) ⟨HKm.out.1, HKm.out.2.push H5 _⟩ H6 HFR.out (fun h => by cases h) ((HGB.out.cons rfl).cons rfl) HPN.out (fun y hy => by simp [HX0.out y hy]))))
                clear H5 H6 hP
                gi_wp2_with fail
                refine ⟨trivial, HI.out.mono ?_⟩
                rintro e W7 (⟨rfl, Rc2, hK2, H7⟩ | ⟨rfl, q, Rc2, hq, hK2, H7⟩)
                · have HK7 : Hid (K (pre ++ (x.D, false) :: visK V (outB n (V 0)) from_ k x.D t (j + 1 - t)) Rc2 ∧ Ap ((W.heap.size, ndO x) :: X) Rc2) := by
                    refine Lib.hid ?_
                    rw [HVS.out]
                    exact ⟨by simpa using hK2.1, hK2.2.tail⟩
                  have H8 : Hid (PV w0 pp n c V (((W.heap.size, ndO x) :: X) ++ Rc2) W7) := Lib.hid (H7.drop)
                  clear hK2 H7 HI hst k0 k1 k2 k3 k4 k5
                  gi_wp2
                  go_roundw
                  case rel => exact ⟨j + 1, Rc2, by omega, by omega, by go_num, HK7, H8⟩
                  case measure => simp [intOf]; omega
                · have H8 : Hid (PV w0 pp n c V (X ++ Rc2) W7) := Lib.hid ((H7.drop)).drop
                  have HK7 := Lib.hid hK2
                  have HQ := Lib.hid hq
                  clear hK2 H7 HI hst k0 k1 k2 k3 k4 k5 hq
                  gi_wp2
                  go_returns
                  refine .inr ⟨rfl, (x.D, false) :: (visK V (outB n (V 0)) from_ k x.D t (j - t) ++ q), Rc2, ?_, ⟨by simpa using HK7.out.1, HK7.out.2.tail.tail⟩, H8.out⟩
                  rw [HV.out]
                  have hx1 : towP from_ x.D.L = t ∧ x.D.L.length = x.L.length := ⟨HT.out, rfl⟩
                  rw [hx1.1]
                  refine (List.prefix_cons_inj _).2 (List.IsPrefix.trans ?_ (visK_prefix (show j + 1 - t ≤ x.D.L.length - t by rw [hx1.2]; omega)))
                  rw [HVS.out]
                  exact (List.prefix_append_right_inj _).2 HQ.out
              · have HRD : Hid (rdN V (outB n (V 0)) (kidN x.D j) = (y.D, false)) := by
                  refine Lib.hid ?_
                  rw [← HKD.out]
                  exact rdN_some hP hG
                have HFR : Hid (FitN ((w5.heap.size, ndO y) :: (g, rowO y.L) :: (W.heap.size, ndO x) :: X) y false) := Lib.hid (fit_some H5 hP hG (by simp))
                have HLV : Hid (y.level ≤ k) := by
                  refine Lib.hid ?_
                  rcases (rdP_some hP).2.2.2.1 with h | h
                  · have h : xr.level = 0 := h
                    rw [HXL.out] at h
                    omega
                  · have h : xr.level = y.level := h
                    rw [HXL.out] at h
                    omega
                have H6 := H5.push (ndO y)
                have hst := store_nd_fresh w5 y
                obtain ⟨k0, k1, k2, k3, k4, k5⟩ := nd_cells (H6.mem List.mem_cons_self)
                simp only at k0 k1 k2 k3 k4 k5
                have HVS : Hid (visK V (outB n (V 0)) from_ k x.D t (j + 1 - t) = visK V (outB n (V 0)) from_ k x.D t (j - t) ++ visP V (outB n (V 0)) from_ k (y.D, false)) := by
                  refine Lib.hid ?_
                  rw [show j + 1 - t = (j - t) + 1 by omega, visK_succ, show t + (j - t) = j by omega, HRD.out]
                have HPN : Hid (∀ q, q <+: (pre ++ (x.D, false) :: visK V (outB n (V 0)) from_ k x.D t (j - t)) ++ visP V (outB n (V 0)) from_ k (y.D, false) → P q) := Lib.hid (vis_next HPQ.out HV.out HT.out HVS.out hlt)
                have HI : Hid (CallsIn Fence.wide 7 Tryz.prog 165 #[.pointer (some ⟨tb, 0, none⟩), .agg #[.int .i64 y.at_, .int .i64 y.level, .string y.low, .string y.high, .slice y.sl y.L.length y.c, .int .i64 y.next], .int .i64 0, .string from_, .func (.yield l) #[] #[]] (w5.alloc (ndO y)) (WalkPost w0 pp n c V K Kx ((w5.heap.size, ndO y) :: (g, rowO y.L) :: (W.heap.size, ndO x) :: X) (pre ++ (x.D, false) :: visK V (outB n (V 0)) from_ k x.D t (j - t)) (visP V (outB n (V 0)) from_ k (y.D, false)))) :=
                  Lib.hid (callsIn_wide.2 (callsIn_wide.1 (ih (pre ++ (x.D, false) :: visK V (outB n (V 0)) from_ k x.D t (j - t)) ((w5.heap.size, ndO y) :: (g, rowO y.L) :: (W.heap.size, ndO x) :: X) Rc' y false (w5.alloc (ndO y)) (by simp [hT]) ⟨HKm.out.1, (HKm.out.2.cons fun z hz e => hfr.2 z (List.mem_append_right _ hz) e.symm).push (Z := (g, rowO y.L) :: (W.heap.size, ndO x) :: X) H5 _⟩ H6 HFR.out (fun _ => HLV.out) (((HGB.out.cons rfl).cons rfl).cons rfl) HPN.out (fun y hy => by simp [HX0.out y hy]))))
                clear H5 H6 hP hG
                gi_wp2_with fail
                refine ⟨trivial, HI.out.mono ?_⟩
                rintro e W7 (⟨rfl, Rc2, hK2, H7⟩ | ⟨rfl, q, Rc2, hq, hK2, H7⟩)
                · have HK7 : Hid (K (pre ++ (x.D, false) :: visK V (outB n (V 0)) from_ k x.D t (j + 1 - t)) Rc2 ∧ Ap ((W.heap.size, ndO x) :: X) Rc2) := by
                    refine Lib.hid ?_
                    rw [HVS.out]
                    exact ⟨by simpa using hK2.1, hK2.2.tail.tail⟩
                  have H8 : Hid (PV w0 pp n c V (((W.heap.size, ndO x) :: X) ++ Rc2) W7) := Lib.hid (H7.drop.drop)
                  clear hK2 H7 HI hst k0 k1 k2 k3 k4 k5
                  gi_wp2
                  go_roundw
                  case rel => exact ⟨j + 1, Rc2, by omega, by omega, by go_num, HK7, H8⟩
                  case measure => simp [intOf]; omega
                · have H8 : Hid (PV w0 pp n c V (X ++ Rc2) W7) := Lib.hid ((H7.drop.drop)).drop
                  have HK7 := Lib.hid hK2
                  have HQ := Lib.hid hq
                  clear hK2 H7 HI hst k0 k1 k2 k3 k4 k5 hq
                  gi_wp2
                  go_returns
                  refine .inr ⟨rfl, (x.D, false) :: (visK V (outB n (V 0)) from_ k x.D t (j - t) ++ q), Rc2, ?_, ⟨by simpa using HK7.out.1, HK7.out.2.tail.tail.tail⟩, H8.out⟩
                  rw [HV.out]
                  have hx1 : towP from_ x.D.L = t ∧ x.D.L.length = x.L.length := ⟨HT.out, rfl⟩
                  rw [hx1.1]
                  refine (List.prefix_cons_inj _).2 (List.IsPrefix.trans ?_ (visK_prefix (show j + 1 - t ≤ x.D.L.length - t by rw [hx1.2]; omega)))
                  rw [HVS.out]
                  exact (List.prefix_append_right_inj _).2 HQ.out
            · obtain rfl : j = x.L.length := by omega
              have H8 := Lib.hid (Hm.out.drop)
              have HT2 : towP from_ x.D.L = t ∧ x.D.L.length = x.L.length := ⟨HT.out, rfl⟩
              clear Hm
              gi_wp2
              go_returns
              exact .inl ⟨rfl, Rc', by rw [HV.out, HT2.1]; exact ⟨HKm.out.1, HKm.out.2.tail⟩, H8.out⟩
      · have HK1 := Lib.hid hK1
        have H2' := Lib.hid H2
        clear d0 d1 d2 d3 d4 d5 hK1 HR hyy H2
        gi_wp2
        go_returns
        refine .inr ⟨rfl, [(x.D, false)], Rc1, ?_, ⟨HK1.out.1, HK1.out.2.tail⟩, H2'.out.drop⟩
        unfold visP
        exact ⟨_, rfl⟩
end
end Go.Proofs.YtcjfnfdinhbdlaaGreatDoor
namespace Go.Proofs.YtcjfnfdinhbdlaaGreatDoor
set_option maxRecDepth 100000
open Go.ChangeShapes Go.WideShapes Go.ChangeAt Go.RowKit Go.PlainAid Go.Shelf
open Go.Sort (grow)
attribute [local go_sem ↓ high] store_n
def RoundsGP {α β : Type} (key : α → β) (encs : α → Array Value) (Fit : List (Nat × Obj) → α → Prop) (w0 : World) (pp n c : Nat) (V : Int → ByteArray) (B : Nat) (X0 : List (Nat × Obj)) (P : List β → Prop) (K Kx : List β → List (Nat × Obj) → Prop) : Prop :=
  ∀ (pre : List β) (X Rc : List (Nat × Obj)) (x : α) (W : World), P (pre ++ [key x]) → (∀ y ∈ X0, y ∈ X) → K pre Rc ∧ Ap X Rc → PV w0 pp n c V (X ++ Rc) W → Fit X x → GB B X →
    YieldAt Fence.wide 7 Tryz.prog (B + 1) (encs x) W fun e W' =>
      (e = .returned (.bool true) ∧ ∃ Rc', (K (pre ++ [key x]) Rc' ∧ Ap X Rc') ∧ PV w0 pp n c V (X ++ Rc') W') ∨ (e = .returned (.bool false) ∧ ∃ Rc', (Kx (pre ++ [key x]) Rc' ∧ Ap X Rc') ∧ PV w0 pp n c V (X ++ Rc') W')
section
variable {w0 : World} {pp n c tb bt bf : Nat} {V : Int → ByteArray} {i : Int}
set_option maxHeartbeats 4000000 in
theorem nodes1_anyP {X0 : List (Nat × Obj)} {P : List (NdD × Bool) → Prop} (B : Nat) (K Kx : List (NdD × Bool) → List (Nat × Obj) → Prop) (hY : RoundsP w0 pp n c V B (B + 1) X0 P K Kx) (hn : 1 < n) (hi : 0 ≤ i ∧ i < 16) (from_ : ByteArray)
    (X Rc : List (Nat × Obj)) (W : World) (hT : (tb, treeO pp i) ∈ X) (h1 : (bt, boxT tb) ∈ X) (h2 : (bf, boxS from_) ∈ X) (hK : K [] Rc ∧ Ap X Rc) (H : PV w0 pp n c V (X ++ Rc) W) (hG : GB B X) (hP : ∀ q, q <+: visA V n i from_ → P q) (hX0 : ∀ y ∈ X0, y ∈ X) :
    CallsIn Fence.wide 9 Tryz.prog 164 #[.func (.yield (B + 1)) #[] #[], .pointer (some ⟨bt, 0, none⟩), .pointer (some ⟨bf, 0, none⟩)] W fun e W' => e = .returned (.tuple #[]) ∧
      ((∃ R'', K (visA V n i from_) R'' ∧ PV w0 pp n c V (X ++ R'') W') ∨ (∃ q R'', q <+: visA V n i from_ ∧ Kx q R'' ∧ PV w0 pp n c V (X ++ R'') W')) := by
  have c1 := boxT_cell (H.mem (x := (bt, boxT tb)) (List.mem_append_left _ h1))
  have HS := Lib.hid (start_any H (List.mem_append_left _ hT) hn hi)
  obtain ⟨vs, hvs⟩ : ∃ vs, visA V n i from_ = vs := ⟨_, rfl⟩
  rw [hvs] at hP
  rw [hvs]
  have HPQ := Lib.hid hP
  have HX0 := Lib.hid hX0
  clear hP hX0
  have HV : Hid (vs = if rootZ (V 1) i = 0 then [] else visP V (outB n (V 0)) from_ 255 (rdN V (outB n (V 0)) (rootM (rootZ (V 1) i)).D)) := Lib.hid hvs.symm
  have hrb := root_bounds (V 1) i
  obtain ⟨at_, hat⟩ : ∃ at_, rootZ (V 1) i = at_ := ⟨_, rfl⟩
  unfold StartPost at HS
  rw [hat] at HS HV hrb
  have HB0 := Lib.hid hrb
  clear hrb
  have HG := Lib.hid hG
  have HK := Lib.hid hK
  clear H hvs hG hK
  refine callsIn_of_wp Tryz.func164 rfl trivial ?_ rfl
  simp only [Tryz.ntmps164, List.size_toArray, List.length_cons, List.length_nil, Nat.reduceAdd, Nat.reduceSub, Array.replicate_succ, Array.replicate_zero, List.push_toArray, List.append_toArray, List.nil_append, List.cons_append]
  gi_wp2_with fail
  refine ⟨trivial, (callsIn_wide.2 HS.out).mono ?_⟩
  obtain ⟨xr, hxr⟩ : ∃ xr, rootM at_ = xr := ⟨_, rfl⟩
  have hxz : xr.at_ = at_ := by rw [← hxr]; rfl
  have hxl : xr.level = 0 ∧ xr.L = [] := by rw [← hxr]; exact ⟨rfl, rfl⟩
  have HRB : Hid (0 ≤ xr.at_ ∧ xr.at_ ≤ 4294967295) := Lib.hid (by rw [hxz]; exact HB0.out)
  rw [hxr] at HV
  rw [hxr]
  have HX := Lib.hid (And.intro hxz hxl)
  clear hxr hxz hxl hat
  rintro e w4 (⟨hz, rfl, H4⟩ | ⟨hz, ⟨hP, rfl, H4⟩ | ⟨y, g, hP, hGt, hfr, rfl, H4⟩⟩)
  · have HV0 : Hid (vs = []) := Lib.hid (by rw [HV.out, if_pos hz])
    have H5 := H4.push (ndO zeroN)
    have hst := store_nd_fresh w4 zeroN
    obtain ⟨k0, k1, k2, k3, k4, k5⟩ := nd_cells (H5.mem List.mem_cons_self)
    simp only at k0 k1 k2 k3 k4 k5
    have hz0 : (zeroN.at_ != 0) = false := rfl
    have H5' := Lib.hid H5.drop
    clear H4 H5 hz HV
    gi_wp2
    go_returns
    exact ⟨rfl, .inl ⟨Rc, by rw [HV0.out]; exact HK.out.1, H5'.out⟩⟩
  · have HVR : Hid (vs = visP V (outB n (V 0)) from_ 255 (xr.D, true)) := Lib.hid (by rw [HV.out, if_neg hz, rdN_none hP])
    have hnz : (xr.at_ != 0) = true := by rw [HX.out.1]; simpa using hz
    have H5 := H4.push (ndO xr)
    have hst := store_nd_fresh w4 xr
    obtain ⟨k0, k1, k2, k3, k4, k5⟩ := nd_cells (H5.mem List.mem_cons_self)
    simp only at k0 k1 k2 k3 k4 k5
    have c1 := boxT_cell (H5.mem (x := (bt, boxT tb)) (List.mem_cons_of_mem _ (List.mem_append_left _ h1)))
    have c2 := boxS_cell (H5.mem (x := (bf, boxS from_)) (List.mem_cons_of_mem _ (List.mem_append_left _ h2)))
    simp only at c1 c2
    have HI : Hid (CallsIn Fence.wide 8 Tryz.prog 165 #[.pointer (some ⟨tb, 0, none⟩), .agg #[.int .i64 xr.at_, .int .i64 xr.level, .string xr.low, .string xr.high, .slice xr.sl xr.L.length xr.c, .int .i64 xr.next], .int .i64 6, .string from_, .func (.yield (B + 1)) #[] #[]] (w4.alloc (ndO xr)) (WalkPost w0 pp n c V K Kx ((w4.heap.size, ndO xr) :: X) [] (visP V (outB n (V 0)) from_ 255 (xr.D, true)))) :=
      Lib.hid (walk_badP B (B + 1) K Kx hY from_ 255 [] ((w4.heap.size, ndO xr) :: X) Rc xr (w4.alloc (ndO xr)) ⟨HK.out.1, HK.out.2.push H4 _⟩ H5 ⟨(fun h => by cases h), (fun h => by cases h), (by rw [HX.out.2.2]; exact Nat.zero_le _), (fun h => by cases h), (by rw [HX.out.2.1]; decide), (fun h => by cases h), HRB.out⟩ (HG.out.cons rfl) (HPQ.out _ (by rw [HVR.out, visP_bad]; exact List.prefix_refl _)) (fun y hy => List.mem_cons_of_mem _ (HX0.out y hy)))
    clear H4 H5 hz HV hP
    unfold NdM.cells at hst ⊢
    gi_wp2_with fail
    refine ⟨trivial, HI.out.mono ?_⟩
    rw [← HVR.out]
    rintro e w6 (⟨rfl, R1, hK1, H6⟩ | ⟨rfl, q, R1, hq, hK1, H6⟩)
    · have HP : Hid (PV w0 pp n c V (X ++ R1) w6) := Lib.hid H6.drop
      have HK1 := Lib.hid hK1
      clear H6 hK1 k0 k1 k2 k3 k4 k5 c1 c2 hst HI
      gi_wp2
      go_returns
      exact ⟨rfl, .inl ⟨R1, HK1.out.1, HP.out⟩⟩
    · have HP : Hid (PV w0 pp n c V (X ++ R1) w6) := Lib.hid H6.drop
      have HK1 := Lib.hid (And.intro hq hK1)
      clear H6 hK1 k0 k1 k2 k3 k4 k5 c1 c2 hst HI hq
      gi_wp2
      go_returns
      exact ⟨rfl, .inr ⟨q, R1, HK1.out.1, HK1.out.2.1, HP.out⟩⟩
  · have HVR : Hid (vs = visP V (outB n (V 0)) from_ 255 (y.D, false)) := Lib.hid (by rw [HV.out, if_neg hz, rdN_some hP hGt])
    have hnz : (y.at_ != 0) = true := by rw [hGt.at_, HX.out.1]; simpa using hz
    have H5 := H4.push (ndO y)
    have hst := store_nd_fresh w4 y
    obtain ⟨k0, k1, k2, k3, k4, k5⟩ := nd_cells (H5.mem List.mem_cons_self)
    simp only at k0 k1 k2 k3 k4 k5
    have c1 := boxT_cell (H5.mem (x := (bt, boxT tb)) (List.mem_cons_of_mem _ (List.mem_cons_of_mem _ (List.mem_append_left _ h1))))
    have c2 := boxS_cell (H5.mem (x := (bf, boxS from_)) (List.mem_cons_of_mem _ (List.mem_cons_of_mem _ (List.mem_append_left _ h2))))
    simp only at c1 c2
    have HFR : FitN ((w4.heap.size, ndO y) :: (g, rowO y.L) :: X) y false := fit_some H4 hP hGt (by simp)
    have HI : Hid (CallsIn Fence.wide 8 Tryz.prog 165 #[.pointer (some ⟨tb, 0, none⟩), .agg #[.int .i64 y.at_, .int .i64 y.level, .string y.low, .string y.high, .slice y.sl y.L.length y.c, .int .i64 y.next], .int .i64 0, .string from_, .func (.yield (B + 1)) #[] #[]] (w4.alloc (ndO y)) (WalkPost w0 pp n c V K Kx ((w4.heap.size, ndO y) :: (g, rowO y.L) :: X) [] (visP V (outB n (V 0)) from_ 255 (y.D, false)))) :=
      Lib.hid (walk_anyP (i := i) B (B + 1) K Kx hY (by omega) from_ 255 [] ((w4.heap.size, ndO y) :: (g, rowO y.L) :: X) Rc y false (w4.alloc (ndO y)) (by simp [hT]) ⟨HK.out.1, (HK.out.2.cons fun z hz e => hfr.2 z (List.mem_append_right _ hz) e.symm).push (Z := (g, rowO y.L) :: X) H4 _⟩ H5 HFR (fun _ => HFR.top) ((HG.out.cons rfl).cons rfl) (fun q hq => HPQ.out q (by rw [HVR.out]; exact hq)) fun y hy => by simp [HX0.out y hy])
    clear H4 H5 hz HV hP HFR hGt
    unfold NdM.cells at hst ⊢
    gi_wp2_with fail
    refine ⟨trivial, HI.out.mono ?_⟩
    rw [← HVR.out]
    rintro e w6 (⟨rfl, R1, hK1, H6⟩ | ⟨rfl, q, R1, hq, hK1, H6⟩)
    · have HP : Hid (PV w0 pp n c V (X ++ R1) w6) := Lib.hid H6.drop.drop
      have HK1 := Lib.hid hK1
      clear H6 hK1 k0 k1 k2 k3 k4 k5 c1 c2 hst HI
      gi_wp2
      go_returns
      exact ⟨rfl, .inl ⟨R1, HK1.out.1, HP.out⟩⟩
    · have HP : Hid (PV w0 pp n c V (X ++ R1) w6) := Lib.hid H6.drop.drop
      have HK1 := Lib.hid (And.intro hq hK1)
      clear H6 hK1 k0 k1 k2 k3 k4 k5 c1 c2 hst HI hq
      gi_wp2
      go_returns
      exact ⟨rfl, .inr ⟨q, R1, HK1.out.1, HK1.out.2.1, HP.out⟩⟩
end
section
variable {w0 w w' : World} {pp n c tb : Nat} {V : Int → ByteArray} {R : List (Nat × Obj)} {i : Int}
theorem nodes_seqP {X0 : List (Nat × Obj)} {P : List (NdD × Bool) → Prop} (hn : 1 < n) (hi : 0 ≤ i ∧ i < 16) (from_ : ByteArray) {bt bf B : Nat} {X : List (Nat × Obj)} (hT : (tb, treeO pp i) ∈ X) (h1 : (bt, boxT tb) ∈ X) (h2 : (bf, boxS from_) ∈ X) (hG : GB B X)
    (K' Kx' : List (NdD × Bool) → List (Nat × Obj) → Prop) (R' : List (Nat × Obj)) (W : World) (hY : RoundsGP keyN encN FitX w0 pp n c V B X0 P K' Kx') (hK : K' [] R' ∧ Ap X R') (H : PV w0 pp n c V (X ++ R') W) (hP : ∀ q, q <+: visA V n i from_ → P q) (hX0 : ∀ y ∈ X0, y ∈ X) (m : Nat) :
    CallsIn Fence.wide m Tryz.prog 164 (#[.func (.yield (B + 1)) #[] #[]] ++ #[.pointer (some ⟨bt, 0, none⟩), .pointer (some ⟨bf, 0, none⟩)]) W fun e W' => (∃ v, e = .returned v) ∧
      ((∃ xs R'', xs = visA V n i from_ ∧ K' xs R'' ∧ PV w0 pp n c V (X ++ R'') W') ∨ (∃ xs R'', xs <+: visA V n i from_ ∧ Kx' xs R'' ∧ PV w0 pp n c V (X ++ R'') W')) := by
  have h := nodes1_anyP B K' Kx' (fun pre X Rc x b W hp hx hK hP hF hG => hY pre X Rc (x, b) W hp hx hK hP hF hG) hn hi from_ X R' W hT h1 h2 hK H hG hP hX0
  refine (callsIn_wide.2 (callsIn_wide.1 h)).mono ?_
  rintro e W' ⟨rfl, (⟨R'', a, b⟩ | ⟨q, R'', a, b, d⟩)⟩
  · exact ⟨⟨_, rfl⟩, .inl ⟨_, R'', rfl, a, b⟩⟩
  · exact ⟨⟨_, rfl⟩, .inr ⟨q, R'', a, b, d⟩⟩
end
end Go.Proofs.YtcjfnfdinhbdlaaGreatDoor
namespace Go.Proofs.YtcjfnfdinhbdlaaGreatDoor
set_option maxRecDepth 100000
open Go.ChangeShapes Go.WideShapes Go.ChangeAt Go.RowKit Go.PlainAid Go.Shelf
open Go.Sort (grow)
section
variable {w0 w w' : World} {pp n c tb : Nat} {V : Int → ByteArray} {R : List (Nat × Obj)} {i : Int}
set_option maxHeartbeats 4000000 in
theorem top_any (H : PV w0 pp n c V R w) (hT : (tb, treeO pp i) ∈ R) (hn : 1 < n) (hi : 0 ≤ i ∧ i < 16) (hc : c < 800000) (level : Int) (L : List Pr) (sl : Option Addr) (cp : Nat) (hk : Kn R sl L) (hs : pkS L ≤ 1000) (hsm : L.length ≤ 4096) :
    Calls Tryz.prog 68 #[.pointer (some ⟨tb, 0, none⟩), .int .i64 level, .slice sl L.length cp] w fun e w' => ∃ V' z, e = .returned (.int .i64 z) ∧ (∀ v, Least (V 0) 2 n v → pkS L ≤ 254 → z = 0 ∧ V' = topV V i v level L) ∧ ((∀ l, ¬ LowP (V 0) 2 n l) → z = 13 ∧ V' = V) ∧ PV w0 pp n (c + 4) V' R w' := by
  obtain ⟨t0, t1⟩ := tree_cells (H.mem hT)
  have hpg := H.pages
  have hv0 := H.size (k := 0) (by omega) (by omega)
  have HA := Lib.hid (H.allocAny (by omega) (by omega))
  have HT := Lib.hid hT
  have HK := Lib.hid hk
  clear H hT hk
  go_enter Tryz.func68, Tryz.ntmps68
  go_wp2_with fail
  refine HA.out.mono ?_
  rintro e w1 (⟨v, hv, rfl, H1⟩ | ⟨hno, rfl, H1⟩)
  · have hvb : 2 ≤ v ∧ v < n := ⟨hv.1.1, hv.1.2.2.1⟩
    have ho := out_given hv0 hv hpg
    have HW : Hid (Calls Tryz.prog 121 #[.pointer (some ⟨tb, 0, none⟩), .agg #[.int .i64 v, .int .i64 level, .string ⟨#[]⟩, .string ⟨#[]⟩, .slice sl L.length cp, .int .i64 0]] w1 fun e w' => ∃ V' z, e = .returned (.int .i64 z) ∧ (outB n (givenV V v 0) v = true → pkS L ≤ 254 → z = 0 ∧ V' = updV (givenV V v) v (filled (packP level L))) ∧ PV w0 pp n (c + 2 + 1) V' R w') :=
      Lib.hid (twrite_any H1 HT.out (by omega) (by omega) (⟨v, level, ⟨#[]⟩, ⟨#[]⟩, L, sl, cp, 0⟩ : NdM) HK.out hs hsm (by show 0 ≤ v; omega) (by show v ≤ 65535; omega))
    have HV := Lib.hid (And.intro hv ho)
    clear H1 HA hv ho
    go_wp2_with fail
    refine HW.out.mono ?_
    rintro e w2 ⟨V2, z2, rfl, hp2, H2⟩
    clear t0 t1 HW
    obtain ⟨t0, t1⟩ := tree_cells (H2.mem HT.out)
    simp only at t0 t1
    by_cases hz : z2 = 0
    · subst hz
      have HS := Lib.hid (H2.drew.setRootAny i v hi hn (by omega) (by omega) (by omega))
      have HP2 := Lib.hid hp2
      clear H2 hp2
      go_wp2_with fail
      go_region_law (first
        | (go_simp; (with_reducible refine HS.out.mono ?_); rintro e w3 ⟨V3, z3, rfl, hp3, H3⟩; have HF := Lib.hid (And.intro hp3 H3); clear H3 hp3)
        | fail)
      all_goals
        go_wp2
        go_returns
        refine ⟨V3, z3, rfl, fun v' hv' hpk => ?_, fun hno => absurd HV.out.1.1 (hno v), HF.out.2⟩
        have hvv : v' = v := by
          obtain ⟨a1, a2⟩ := hv'
          obtain ⟨b1, b2⟩ := HV.out.1
          have h1 : ¬ v' < v := fun h => b2 _ h a1
          have h2 : ¬ v < v' := fun h => a2 _ h b1
          omega
        subst hvv
        obtain ⟨_, rfl⟩ := HP2.out HV.out.2 hpk
        have h0 : updV (givenV V v') v' (filled (packP level L)) 0 = givenV V v' 0 := updV_other _ _ (by omega)
        exact HF.out.1 (by rw [h0]; exact HV.out.2)
    · have hz1 : (z2 != 0) = true := by simpa using hz
      have HF := Lib.hid (And.intro hp2 H2)
      clear H2 hp2 t0 t1
      go_wp2
      go_returns
      refine ⟨V2, z2, rfl, fun v' hv' hpk => ?_, fun hno => absurd HV.out.1.1 (hno v), HF.out.2.mono (by omega)⟩
      exact absurd (HF.out.1 HV.out.2 hpk).1 hz
  · have HF := Lib.hid (And.intro hno H1)
    clear H1 hno HA t0 t1
    go_wp2
    go_returns
    exact ⟨V, 13, rfl, fun v hv _ => absurd hv.1 (HF.out.1 v), fun _ => ⟨rfl, rfl⟩, HF.out.2.mono (by omega)⟩
end
end Go.Proofs.YtcjfnfdinhbdlaaGreatDoor
namespace Go.Proofs.YtcjfnfdinhbdlaaGreatDoor
set_option maxRecDepth 100000
open Go.ChangeShapes Go.WideShapes Go.ChangeAt Go.RowKit Go.PlainAid Go.Shelf
open Go.Sort (grow)
attribute [local go_sem ↓ high] store_n
attribute [local go_sem] Oper.semAt_some
def encP (p : Pr) : Array Value := #[.string p.key, .string p.val]
def FitR (_ : List (Nat × Obj)) (p : Pr) : Prop := p.key.size ≤ 65536 ∧ p.val.size ≤ 65536
section
variable {w0 : World} {pp n c : Nat} {V : Int → ByteArray}
end
end Go.Proofs.YtcjfnfdinhbdlaaGreatDoor
namespace Go.Proofs.YtcjfnfdinhbdlaaGreatDoor
set_option maxRecDepth 100000
open Go.ChangeShapes Go.WideShapes Go.ChangeAt Go.RowKit Go.PlainAid Go.Shelf
open Go.Sort (grow)
section
variable {w0 : World} {pp n c : Nat} {V : Int → ByteArray}
end
attribute [local go_sem ↓ high] store_n
attribute [local go_sem] Oper.semAt_some
def boxY (B : Nat) : Obj := .cells #[.func (.yield (B + 1)) #[] #[]] 219 (0, 0)
theorem boxY_cell {w : World} {b B : Nat} (h : w.heap[b]? = some (boxY B)) : w.cell? ⟨b, 0, none⟩ = some (.func (.yield (B + 1)) #[] #[]) := by
  unfold boxY at h
  rw [cell_of_row _ _ _ _ _ _ h]
  rfl
def FrKy (bf b0 : Nat) (f : ByteArray) (B : Nat) (K : List Pr → List (Nat × Obj) → Prop) (pre : List (NdD × Bool)) (Rc : List (Nat × Obj)) : Prop := (∀ y ∈ pre, y.2 = false) ∧
  ∃ R0, Rc = (bf, boxS f) :: (b0, boxY B) :: R0 ∧ Ap [(bf, boxS f), (b0, boxY B)] R0 ∧ K (fromL f pre) R0
def FrXy (bf b0 : Nat) (f : ByteArray) (B : Nat) (K Kx : List Pr → List (Nat × Obj) → Prop) (cd : Code) (pre : List (NdD × Bool)) (Rc : List (Nat × Obj)) : Prop := cd = .ret ∧
  ∃ R0, Rc = (bf, boxS f) :: (b0, boxY B) :: R0 ∧ Ap [(bf, boxS f), (b0, boxY B)] R0 ∧ ((∃ a y, pre = a ++ [(y, true)] ∧ (∀ z ∈ a, z.2 = false) ∧ K (fromL f a) R0) ∨ ∃ q, q <+: fromL f pre ∧ Kx q R0)
section
variable {w0 : World} {pp n c tb : Nat} {V : Int → ByteArray} {i : Int}
end
end Go.Proofs.YtcjfnfdinhbdlaaGreatDoor
namespace Go.Proofs.YtcjfnfdinhbdlaaGreatDoor
set_option maxRecDepth 100000
open Go.ChangeShapes Go.WideShapes Go.ChangeAt Go.RowKit Go.PlainAid Go.Shelf
open Go.Sort (grow)
attribute [local go_sem ↓ high] store_n
attribute [local go_sem] Oper.semAt_some
section
variable {w0 : World} {pp n c tb : Nat} {V : Int → ByteArray} {i : Int} {R : List (Nat × Obj)} {w : World}
def FrOf (w0 : World) (pp n c tb : Nat) (V : Int → ByteArray) (R : List (Nat × Obj)) (w : World) (key : ByteArray) (e : Ending) (w' : World) : Prop :=
  ∃ bt bf, e = .returned (.func (.func 155) #[] #[.pointer (some ⟨bt, 0, none⟩), .pointer (some ⟨bf, 0, none⟩)]) ∧ PV w0 pp n c V ((bf, boxS key) :: (bt, boxT tb) :: R) w' ∧ w.heap.size ≤ bt ∧ bt < bf
theorem from_mk (key : ByteArray) (hk : key.size ≤ 65536) (H : PV w0 pp n c V R w) :
    Calls Tryz.prog 96 #[.pointer (some ⟨tb, 0, none⟩), .string key] w (FrOf w0 pp n c tb V R w key) := by
  have hmf := make_func
  go_enter Tryz.func96, Tryz.ntmps96
  have H1 : Hid (PV w0 pp n c V ((w.heap.size, boxT tb) :: R) (w.alloc (boxT tb))) := Lib.hid (H.push (boxT tb))
  clear H
  go_wp2_with fail
  refine (clone_any key _ (by omega)).mono ?_
  rintro e w5 ⟨rfl, hb⟩
  have H5 : PV w0 pp n c V ((w.heap.size, boxT tb) :: R) w5 := H1.out.on hb
  have hsz : w.heap.size + 1 ≤ w5.heap.size := by
    have := hb.size
    rw [World.size_alloc] at this
    exact this
  have H6 : Hid (PV w0 pp n c V ((w5.heap.size, boxS key) :: (w.heap.size, boxT tb) :: R) (w5.alloc (boxS key))) := Lib.hid (H5.push (boxS key))
  have HS := Lib.hid hsz
  clear H5 hb hsz H1
  go_wp2
  go_returns
  exact ⟨_, _, rfl, H6.out, Nat.le_refl _, HS.out⟩
end
end Go.Proofs.YtcjfnfdinhbdlaaGreatDoor
