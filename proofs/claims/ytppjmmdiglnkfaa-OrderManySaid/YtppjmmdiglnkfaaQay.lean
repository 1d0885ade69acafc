/- Package order: step. -/
import Derived.Test.YtppjmmdiglnkfaaQax
import Derived.Test.YtppjmmdiglnkfaaQan
import Derived.Test.YtppjmmdiglnkfaaQar
import Derived.Test.YtppjmmdiglnkfaaQao
namespace Go.Proofs.Ytppjmmdiglnkfaa
set_option maxRecDepth 100000
open Go.ChangeShapes Go.WideShapes Go.ChangeAt Go.RowKit Go.PlainAid Go.Deep
namespace Od
open Ln
attribute [local go_sem ↓ high] load_op
def zSo : Array Value := #[.int .i64 0, .int .u32 0, .string ⟨#[]⟩]
/-- What a step answers. -/
def StepR (l : List OpV) (x : Spo) (i : Nat) (u : Value) (b : Bool) : Prop := match stepP l x i with | none => b = false ∧ u = .agg zSo | some y => b = true ∧ u = .agg (soC y) ∧ Okz y.2.2
theorem step_none {l : List OpV} {x : Spo} {i : Nat} (h : mayB l x.2.1 i = false) : stepP l x i = none := by
  unfold stepP nx1
  rw [if_neg (by rw [h]; decide)]
  rfl
theorem step_stuck {l : List OpV} {x : Spo} {i : Nat} {o : OpV} (ho : l[i]? = some o) (h : (stepC o x.2.2).2 = false) : stepP l x i = none := by
  unfold stepP nx1 stO
  rw [ho]
  split
  · simp [h]
  · rfl
theorem step_some {l : List OpV} {x : Spo} {i : Nat} {o : OpV} (h : mayB l x.2.1 i = true) (ho : l[i]? = some o) (h2 : (stepC o x.2.2).2 = true) : stepP l x i = some (x.1, x.2.1 ||| 2 ^ i, (stepC o x.2.2).1) := by
  unfold stepP nx1 stO
  rw [if_pos h, ho]
  simp [h2]
theorem may_mask2 {l : List OpV} {m a i : Nat} (hi : i < l.length) (ha : Mk a (befP l i)) : mayB l m i = true ↔ m.testBit i = false ∧ notN a m = 0 := by
  rw [may_iff, notN_zero (by have := ha.lt; omega)]
  constructor
  · rintro ⟨_, h1, h2⟩
    exact ⟨h1, fun k hk => h2 k (by rw [← ha.bit k]; exact hk)⟩
  · rintro ⟨h1, h2⟩
    exact ⟨hi, h1, fun k hk => h2 k (by rw [ha.bit k]; exact hk)⟩
theorem so_set {Wx : World} {b : Nat} {c0 c1 c2 : Value} (x y z : Value) (h : Wx.heap[b]? = some (.cells #[c0, c1, c2] 75 (0, 0))) :
    (((Wx.setCell ⟨b, 0, none⟩ x).setCell ⟨b, 1, none⟩ y).setCell ⟨b, 2, none⟩ z).heap[b]? = some (.cells #[x, y, z] 75 (0, 0)) ∧ Keeps (fun k => k = b) Wx (((Wx.setCell ⟨b, 0, none⟩ x).setCell ⟨b, 1, none⟩ y).setCell ⟨b, 2, none⟩ z) :=
  ⟨heap_setCell_same _ _ _ _ _ _ (heap_setCell_same _ _ _ _ _ _ (heap_setCell_same _ _ _ _ _ _ h)), (((Keeps.refl (fun k => k = b) Wx).setCell (.inl (by rfl)) _).setCell (.inl (by rfl)) _).setCell (.inl (by rfl)) _⟩
set_option maxHeartbeats 4000000 in
theorem step_any {n₁ bS bM : Nat} {lim : Int} {v : Value} {P : List (List OpV)} {w : World} {s : Stt} (h : SoAt n₁ bS bM lim v P w s) {x : Spo} {n : Nat} (hx : SpOk P x n) {l : List OpV} (hl : P[x.1]? = some l) {i : Nat} (hi : i < l.length) :
    Calls Try.prog 86 #[.pointer (some ⟨bS, 0, none⟩), .agg (soC x), .int .i64 (i : Int)] w fun e w' => ∃ u b, e = .returned (.tuple #[u, .bool b]) ∧ StepR l x i u b ∧ Below w.heap.size w w' := by
  obtain ⟨k, m, st⟩ := x
  obtain ⟨b, cap, ao, co, ba, ah, dn, hp⟩ := h.pcs.at hl
  obtain ⟨vb, c0, _, _, _, _, _, hlb⟩ := h.rd
  obtain rfl := hp.row
  have hkl : k < P.length := (List.getElem?_eq_some_iff.1 hl).1
  have q1 : (k : Int) < (P.length : Int) := by omega
  have q2 : (0 : Int) ≤ k := by omega
  have hil : i < ah.length := by rw [hp.len]; exact hi
  have hfew := hp.few
  have q3 : (i : Int) < (ah.length : Int) := by omega
  have q4 : (0 : Int) ≤ i := by omega
  have q5 : (i : Int) ≤ 32 := by omega
  have q6 := wrap_pow (i := i) (by omega)
  have q7 : (i : Int) < (l.length : Int) := by omega
  obtain ⟨a, hai⟩ : ∃ a, ah[i]? = some a := ⟨_, List.getElem?_eq_getElem hil⟩
  obtain ⟨o, hoi⟩ : ∃ o, l[i]? = some o := ⟨_, List.getElem?_eq_getElem hi⟩
  have hma := hp.ahk i a hai
  have hmay := may_mask2 (m := m) hi hma
  have hmlt : m < 65536 := hx.msk
  have halt := hma.lt
  have g1 : w.cell? ⟨ba, i, none⟩ = some (.int .u32 (a : Int)) := by
    have := hp.ahb
    unfold ahO at this
    rw [cell_of_row _ _ _ _ _ _ this]
    simp [hai]
  have hbw : Below w.heap.size w ((w.alloc (.cells (soC (k, m, st)) 75)).alloc (.cells zSo 75)) := by go_grown
  have hbx := (Below.heap_alloc (w.alloc (.cells (soC (k, m, st)) 75)) (.cells zSo 75) w.heap.size (by rw [World.size_alloc]; omega)).trans (heap_alloc_new w (.cells (soC (k, m, st)) 75))
  have hbz := heap_alloc_new (w.alloc (.cells (soC (k, m, st)) 75)) (.cells zSo 75)
  rw [World.size_alloc] at hbz
  obtain ⟨W1, hW1⟩ : ∃ W, (w.alloc (.cells (soC (k, m, st)) 75)).alloc (.cells zSo 75) = W := ⟨_, rfl⟩
  unfold soC zSo at hW1
  simp only at hW1
  rw [show (w.alloc (.cells (soC (k, m, st)) 75)).alloc (.cells zSo 75) = W1 from hW1] at hbw hbx hbz
  have hW1s : W1.heap.size = w.heap.size + 1 + 1 := by rw [← hW1]; simp [World.size_alloc]
  have hd : Below W1.heap.size W1 W1.drew := (Below.refl _ _).drew
  have HB1 := Lib.hid (hbw.on hd)
  have rd : ∀ W : World, Below w.heap.size w W → W.cell? ⟨bS, 0, none⟩ = some (.slice (some ⟨b, 0, none⟩) P.length cap) ∧ W.cell? ⟨b, k * 3, none⟩ = some (.slice ao l.length co) ∧ W.cell? ⟨b, k * 3 + 1, none⟩ = some (.slice (some ⟨ba, 0, none⟩) ah.length ah.length) ∧ W.cell? ⟨b, k * 3 + 2, none⟩ = some (.int .u32 (dn : Int)) ∧ W.cell? ⟨ba, i, none⟩ = some (.int .u32 (a : Int)) := fun W hb =>
    ⟨(hb.cell (p := ⟨bS, 0, none⟩) hlb).trans c0, (hb.cell (p := ⟨b, k * 3, none⟩) hp.lt).trans hp.c0, (hb.cell (p := ⟨b, k * 3 + 1, none⟩) hp.lt).trans hp.c1, (hb.cell (p := ⟨b, k * 3 + 2, none⟩) hp.lt).trans hp.c2, (hb.cell (p := ⟨ba, i, none⟩) (heap_inO hp.ahb)).trans g1⟩
  have rdx : ∀ W : World, Below W1.heap.size W1 W → (W.cell? ⟨bS, 0, none⟩ = some (.slice (some ⟨b, 0, none⟩) P.length cap) ∧ W.cell? ⟨b, k * 3, none⟩ = some (.slice ao l.length co) ∧ W.cell? ⟨b, k * 3 + 1, none⟩ = some (.slice (some ⟨ba, 0, none⟩) ah.length ah.length) ∧ W.cell? ⟨b, k * 3 + 2, none⟩ = some (.int .u32 (dn : Int)) ∧ W.cell? ⟨ba, i, none⟩ = some (.int .u32 (a : Int))) ∧ W.cell? ⟨w.heap.size, 0, none⟩ = some (.int .i64 (k : Int)) ∧ W.cell? ⟨w.heap.size, 1, none⟩ = some (.int .u32 (m : Int)) ∧ W.cell? ⟨w.heap.size, 2, none⟩ = some (.string (textS st)) ∧ W.heap[w.heap.size + 1]? = some (.cells zSo 75 (0, 0)) := fun W hb => by
    have hx2 := (hb.block _ (show w.heap.size < W1.heap.size by omega)).trans hbx
    have hz2 := (hb.block _ (show w.heap.size + 1 < W1.heap.size by omega)).trans hbz
    unfold soC at hx2
    exact ⟨rd W (hbw.on hb), by rw [cell_of_row _ _ _ _ _ _ hx2]; rfl, by rw [cell_of_row _ _ _ _ _ _ hx2]; rfl, by rw [cell_of_row _ _ _ _ _ _ hx2]; rfl, hz2⟩
  obtain ⟨⟨d0, d1, d2, d3, d4⟩, e0, e1, e2, _⟩ := rdx W1.drew hd
  obtain ⟨⟨x0, x1, x2, x3, x4⟩, y0, y1, y2, _⟩ := rdx (W1.alloc (.cells #[.slice none 0 0, .slice none 0 0, .int .u32 0] 70)).drew (show Below W1.heap.size W1 (W1.alloc (.cells #[.slice none 0 0, .slice none 0 0, .int .u32 0] 70)) by go_grown).drew
  have HRD := Lib.hid rdx
  have HP := Lib.hid hp
  have HX := Lib.hid hx
  have HMAY := Lib.hid hmay
  have HBX := Lib.hid hbx
  have HBZ := Lib.hid hbz
  have HOI := Lib.hid hoi
  clear rd rdx hp hx hmay hbx hbz hbw hoi hai hma g1 c0 h hl
  unfold soC
  go_enter Try.func86, Try.ntmps86
  go_wp2_with fail
  go_region
  go_wp2_with fail
  clear d0 d1 d2 d3 d4 e0 e1 e2 x0 x1 x2 x3 x4 y0 y1 y2
  have hpb := heap_alloc_new W1 (.cells #[.slice ao l.length co, .slice (some ⟨ba, 0, none⟩) ah.length ah.length, .int .u32 (dn : Int)] 70)
  have hbD : Below W1.heap.size W1 (W1.alloc (.cells #[.slice ao l.length co, .slice (some ⟨ba, 0, none⟩) ah.length ah.length, .int .u32 (dn : Int)] 70)).drew := (show Below W1.heap.size W1 (W1.alloc (.cells #[.slice ao l.length co, .slice (some ⟨ba, 0, none⟩) ah.length ah.length, .int .u32 (dn : Int)] 70)) by go_grown).drew
  obtain ⟨D, hD⟩ : ∃ D, (W1.alloc (.cells #[.slice ao l.length co, .slice (some ⟨ba, 0, none⟩) ah.length ah.length, .int .u32 (dn : Int)] 70)).drew = D := ⟨_, rfl⟩
  have hpD : D.heap[w.heap.size + 1 + 1]? = some (.cells #[.slice ao l.length co, .slice (some ⟨ba, 0, none⟩) ah.length ah.length, .int .u32 (dn : Int)] 70 (0, 0)) := by
    rw [← hD, ← hW1s]
    exact hpb
  rw [hD] at hbD ⊢
  clear hD hpb
  have hsD : D.heap.size = w.heap.size + 1 + 1 + 1 ∨ w.heap.size + 1 + 1 < D.heap.size := .inr (heap_inO hpD)
  have hd2 : Below D.heap.size D D.drew := (Below.refl _ _).drew
  have hb2 := hbD.on hd2
  have rdD : ∀ W : World, Below D.drew.heap.size D.drew W → W.cell? ⟨w.heap.size + 1 + 1, 0, none⟩ = some (.slice ao l.length co) ∧ W.cell? ⟨w.heap.size + 1 + 1, 1, none⟩ = some (.slice (some ⟨ba, 0, none⟩) ah.length ah.length) ∧ W.cell? ⟨ba, i, none⟩ = some (.int .u32 (a : Int)) ∧ W.cell? ⟨w.heap.size, 0, none⟩ = some (.int .i64 (k : Int)) ∧ W.cell? ⟨w.heap.size, 1, none⟩ = some (.int .u32 (m : Int)) ∧ W.cell? ⟨w.heap.size, 2, none⟩ = some (.string (textS st)) ∧ W.heap[w.heap.size + 1]? = some (.cells zSo 75 (0, 0)) ∧ OpsOf W (.slice ao l.length co) l ∧ Below w.heap.size w W := fun W hb => by
    have h1 : Below W1.heap.size W1 W := hb2.on hb
    obtain ⟨⟨_, _, _, _, a4⟩, a5, a6, a7, a8⟩ := HRD.out W h1
    have hp2 : W.heap[w.heap.size + 1 + 1]? = _ := ((hd2.on hb).block _ (heap_inO hpD)).trans hpD
    have hbb := HB1.out.mono (Nat.le_refl _) |>.trans (show Below w.heap.size W1.drew W from ⟨h1.1, h1.2, h1.3, h1.4, fun j hj => h1.5 j (by omega)⟩)
    exact ⟨by rw [cell_of_row _ _ _ _ _ _ hp2]; rfl, by rw [cell_of_row _ _ _ _ _ _ hp2]; rfl, a4, a5, a6, a7, a8, HP.out.ops.on hbb, hbb⟩
  have HRD2 := Lib.hid rdD
  obtain ⟨p0, p1, p2, p3, p4, p5, p6, _⟩ := rdD D.drew (Below.refl _ _)
  have HZ := Lib.hid p6
  clear rdD hb2 hd2 hpD hbD p6
  clear hd hW1 hW1s HRD HB1
  have refuse : mayB l m i = false → (hb : Below w.heap.size w D.drew) → Hid (StepR l (k, m, st) i (.agg zSo) false) := fun h _ => Lib.hid (by
    unfold StepR
    rw [step_none h]
    exact ⟨rfl, rfl⟩)
  have HREF := Lib.hid refuse
  clear refuse
  have HBD := Lib.hid (HRD2.out D.drew (Below.refl _ _)).2.2.2.2.2.2.2.2
  have z0 : D.drew.cell? ⟨w.heap.size + 1, 0, none⟩ = some (.int .i64 0) := by have := HZ.out; unfold zSo at this; rw [cell_of_row _ _ _ _ _ _ this]; rfl
  have z1 : D.drew.cell? ⟨w.heap.size + 1, 1, none⟩ = some (.int .u32 0) := by have := HZ.out; unfold zSo at this; rw [cell_of_row _ _ _ _ _ _ this]; rfl
  have z2 : D.drew.cell? ⟨w.heap.size + 1, 2, none⟩ = some (.string ⟨#[]⟩) := by have := HZ.out; unfold zSo at this; rw [cell_of_row _ _ _ _ _ _ this]; rfl
  have f0 := cells_thaw HZ.out 0
  have f1 := cells_thaw HZ.out 1
  have f2 := cells_thaw HZ.out 2
  have hss := so_set (.int .i64 0) (.int .u32 0) (.string ⟨#[]⟩) HZ.out
  have HEND := Lib.hid (And.intro hss.1 (HBD.out.trans (hss.2.below (B := w.heap.size) (fun k e => by omega) HBD.out.size : Below w.heap.size D.drew _)))
  clear hss
  cases hb1 : m.testBit i with
  | true =>
    have e1 : (bits .and .u32 (m : Int) ((2 : Int) ^ i) != 0) = true := by
      rw [pow_int, and_u32 _ _ (by omega) (pow_lt16 (by omega))]
      refine bne_iff_ne.2 fun c => ?_
      have := and_pow_zero.1 (show m &&& 2 ^ i = 0 by omega)
      rw [hb1] at this
      cases this
    have HR := HREF.out (Bool.eq_false_iff.2 fun c => by have := (HMAY.out.1 c).1; rw [hb1] at this; cases this) HBD.out
    go_region
    generalize D.drew = D2 at z0 z1 z2 f0 f1 f2 HEND ⊢
    go_wp2_with fail
    generalize (((D2.setCell ⟨w.heap.size + 1, 0, none⟩ (.int .i64 0)).setCell ⟨w.heap.size + 1, 1, none⟩ (.int .u32 0)).setCell ⟨w.heap.size + 1, 2, none⟩ (.string ⟨#[]⟩)) = W9 at HEND ⊢
    have y0 : W9.cell? ⟨w.heap.size + 1, 0, none⟩ = some (.int .i64 0) := by rw [cell_of_row _ _ _ _ _ _ HEND.out.1]; rfl
    have y1 : W9.cell? ⟨w.heap.size + 1, 1, none⟩ = some (.int .u32 0) := by rw [cell_of_row _ _ _ _ _ _ HEND.out.1]; rfl
    have y2 : W9.cell? ⟨w.heap.size + 1, 2, none⟩ = some (.string ⟨#[]⟩) := by rw [cell_of_row _ _ _ _ _ _ HEND.out.1]; rfl
    refine bodyPost_ret (v := .tuple #[.agg #[.int .i64 0, .int .u32 0, .string ⟨#[]⟩], .bool false]) (by simp [results, Try.results86, go_sem, y0, y1, y2]) rfl ?_
    exact ⟨_, _, rfl, HR.out, HEND.out.2⟩
  | false =>
    have e1 : (bits .and .u32 (m : Int) ((2 : Int) ^ i) != 0) = false := by
      rw [pow_int, and_u32 _ _ (by omega) (pow_lt16 (by omega)), and_pow_zero.2 hb1]
      rfl
    by_cases hb2 : notN a m = 0
    case neg =>
      have e2 : (bits .andNot .u32 (a : Int) (m : Int) != 0) = true := by
        rw [andNot_u32]
        exact bne_iff_ne.2 fun c => hb2 (by omega)
      have HR := HREF.out (Bool.eq_false_iff.2 fun c => hb2 (HMAY.out.1 c).2) HBD.out
      go_region
      generalize D.drew = D2 at z0 z1 z2 f0 f1 f2 HEND ⊢
      go_wp2_with fail
      generalize (((D2.setCell ⟨w.heap.size + 1, 0, none⟩ (.int .i64 0)).setCell ⟨w.heap.size + 1, 1, none⟩ (.int .u32 0)).setCell ⟨w.heap.size + 1, 2, none⟩ (.string ⟨#[]⟩)) = W9 at HEND ⊢
      have y0 : W9.cell? ⟨w.heap.size + 1, 0, none⟩ = some (.int .i64 0) := by rw [cell_of_row _ _ _ _ _ _ HEND.out.1]; rfl
      have y1 : W9.cell? ⟨w.heap.size + 1, 1, none⟩ = some (.int .u32 0) := by rw [cell_of_row _ _ _ _ _ _ HEND.out.1]; rfl
      have y2 : W9.cell? ⟨w.heap.size + 1, 2, none⟩ = some (.string ⟨#[]⟩) := by rw [cell_of_row _ _ _ _ _ _ HEND.out.1]; rfl
      refine bodyPost_ret (v := .tuple #[.agg #[.int .i64 0, .int .u32 0, .string ⟨#[]⟩], .bool false]) (by simp [results, Try.results86, go_sem, y0, y1, y2]) rfl ?_
      exact ⟨_, _, rfl, HR.out, HEND.out.2⟩
    case pos =>
      have e2 : (bits .andNot .u32 (a : Int) (m : Int) != 0) = false := by rw [andNot_u32, hb2]; rfl
      have HM := Lib.hid (HMAY.out.2 ⟨hb1, hb2⟩)
      have hts := textS_size HX.out.ok
      have hln := HX.out.len
      simp only at hts hln
      have hst := state_text HX.out.ok
      have HS := Lib.hid (state_any (textS st) D.drew (by omega) (.inl (by omega)))
      rw [show stateP (textS st) = (st, ((textS st).size : Int)) from hst] at HS
      clear hst
      go_region
      generalize D.drew = D2 at z0 z1 z2 f0 f1 f2 p0 p1 p2 p3 p4 p5 HS HRD2 HBD HZ ⊢
      clear HEND HREF p1 p2 z0 z1 z2 f0 f1 f2
      go_wp2_with fail
      refine HS.mono ?_
      rintro _ w5 ⟨v5, rfl, ho5, hb5⟩
      clear HS
      obtain ⟨r0, _, _, r3, r4, r5, _, r7, r8⟩ := HRD2.out w5 hb5
      obtain ⟨bo, po, cpo, hv, hbo, hwf, hco⟩ := OpsOf.at r7 HOI.out
      obtain ⟨rfl, _⟩ := Value.slice.inj hv
      have l1 := load_cellsO (w := w5) (p := po + i * 11) hco
      have HO5 := Lib.hid ho5
      have HWF := Lib.hid hwf
      have HB5 := Lib.hid hb5
      obtain ⟨a5, c5, rfl⟩ := ho5.len
      clear hb5 hv hco hwf hbo r7 ho5 p0 p3 p4 p5
      go_wp2_with fail
      refine (mstep_any o HWF.out HO5.out.reads (by omega)).mono ?_
      rintro _ w6 ⟨v6, rfl, ho6, hb6⟩
      obtain ⟨a6, c6, rfl⟩ := ho6.len
      have hb26 := HB5.out.on hb6
      cases hst : (stepC o st).2 with
      | false =>
        obtain ⟨_, _, _, _, _, _, hz6, _, hbw6⟩ := HRD2.out w6 hb26
        have z0 : w6.cell? ⟨w.heap.size + 1, 0, none⟩ = some (.int .i64 0) := by unfold zSo at hz6; rw [cell_of_row _ _ _ _ _ _ hz6]; rfl
        have z1 : w6.cell? ⟨w.heap.size + 1, 1, none⟩ = some (.int .u32 0) := by unfold zSo at hz6; rw [cell_of_row _ _ _ _ _ _ hz6]; rfl
        have z2 : w6.cell? ⟨w.heap.size + 1, 2, none⟩ = some (.string ⟨#[]⟩) := by unfold zSo at hz6; rw [cell_of_row _ _ _ _ _ _ hz6]; rfl
        have f0 := cells_thaw hz6 0
        have f1 := cells_thaw hz6 1
        have f2 := cells_thaw hz6 2
        have hss := so_set (.int .i64 0) (.int .u32 0) (.string ⟨#[]⟩) hz6
        have HEND := Lib.hid (And.intro hss.1 (hbw6.trans (hss.2.below (B := w.heap.size) (fun k e => by omega) hbw6.size : Below w.heap.size w6 _)))
        have HR := Lib.hid (show StepR l (k, m, st) i (.agg zSo) false by
          unfold StepR
          rw [step_stuck HOI.out hst]
          exact ⟨rfl, rfl⟩)
        clear hss hz6 hbw6 ho6 hb6 hb26 l1 r0 r3 r4 r5
        go_wp2_with fail
        generalize (((w6.setCell ⟨w.heap.size + 1, 0, none⟩ (.int .i64 0)).setCell ⟨w.heap.size + 1, 1, none⟩ (.int .u32 0)).setCell ⟨w.heap.size + 1, 2, none⟩ (.string ⟨#[]⟩)) = W9 at HEND ⊢
        have y0 : W9.cell? ⟨w.heap.size + 1, 0, none⟩ = some (.int .i64 0) := by rw [cell_of_row _ _ _ _ _ _ HEND.out.1]; rfl
        have y1 : W9.cell? ⟨w.heap.size + 1, 1, none⟩ = some (.int .u32 0) := by rw [cell_of_row _ _ _ _ _ _ HEND.out.1]; rfl
        have y2 : W9.cell? ⟨w.heap.size + 1, 2, none⟩ = some (.string ⟨#[]⟩) := by rw [cell_of_row _ _ _ _ _ _ HEND.out.1]; rfl
        refine bodyPost_ret (v := .tuple #[.agg #[.int .i64 0, .int .u32 0, .string ⟨#[]⟩], .bool false]) (by simp [results, Try.results86, go_sem, y0, y1, y2]) rfl ?_
        exact ⟨_, _, rfl, HR.out, HEND.out.2⟩
      | true =>
        have HR := Lib.hid (show StepR l (k, m, st) i (.agg (soC (k, m ||| 2 ^ i, (stepC o st).1))) true by
          unfold StepR
          rw [step_some HM.out HOI.out hst]
          exact ⟨rfl, rfl, ho6.inI, by have := stepC_len o st; simp only; omega⟩)
        have hln6 := stepC_len o st
        have e3 : bits .or .u32 (m : Int) ((2 : Int) ^ i) = ((m ||| 2 ^ i : Nat) : Int) := by rw [pow_int]; exact or_u32 _ _ (by omega) (pow_lt16 (by omega))
        have hd6 : Below w6.heap.size w6 w6.drew := (Below.refl _ _).drew
        have HT := Lib.hid (mtext_any (ho6.on hd6).reads (by omega))
        have HALL := Lib.hid (show ∀ W, Below w6.drew.heap.size w6.drew W → W.cell? ⟨w.heap.size, 0, none⟩ = some (.int .i64 (k : Int)) ∧ W.cell? ⟨w.heap.size, 1, none⟩ = some (.int .u32 (m : Int)) ∧ W.cell? ⟨w.heap.size + 1, 0, none⟩ = some (.int .i64 0) ∧ W.cell? ⟨w.heap.size + 1, 1, none⟩ = some (.int .u32 0) ∧ W.cell? ⟨w.heap.size + 1, 2, none⟩ = some (.string ⟨#[]⟩) ∧ W.frozen? ⟨w.heap.size + 1, 0, none⟩ = false ∧ W.frozen? ⟨w.heap.size + 1, 1, none⟩ = false ∧ W.frozen? ⟨w.heap.size + 1, 2, none⟩ = false ∧ Hid (∀ x y z, ((((W.setCell ⟨w.heap.size + 1, 0, none⟩ x).setCell ⟨w.heap.size + 1, 1, none⟩ y).setCell ⟨w.heap.size + 1, 2, none⟩ z).heap[w.heap.size + 1]? = some (.cells #[x, y, z] 75 (0, 0))) ∧ Below w.heap.size w (((W.setCell ⟨w.heap.size + 1, 0, none⟩ x).setCell ⟨w.heap.size + 1, 1, none⟩ y).setCell ⟨w.heap.size + 1, 2, none⟩ z)) from fun W hb => by
          obtain ⟨_, _, _, t3, t4, _, hz6, _, hbw6⟩ := HRD2.out W ((hb26.on hd6).on hb)
          refine ⟨t3, t4, by unfold zSo at hz6; rw [cell_of_row _ _ _ _ _ _ hz6]; rfl, by unfold zSo at hz6; rw [cell_of_row _ _ _ _ _ _ hz6]; rfl, by unfold zSo at hz6; rw [cell_of_row _ _ _ _ _ _ hz6]; rfl, cells_thaw hz6 0, cells_thaw hz6 1, cells_thaw hz6 2, Lib.hid fun x y z => ?_⟩
          have hss := so_set x y z hz6
          exact ⟨hss.1, hbw6.trans (hss.2.below (B := w.heap.size) (fun k e => by omega) hbw6.size : Below w.heap.size W _)⟩)
        obtain ⟨k0, k1, k2, k3, k4, k5, k6, k7, _⟩ := HALL.out w6.drew (Below.refl _ _)
        clear ho6 hb6 hb26 l1 r0 r3 r4 r5 hd6
        go_wp2_with fail
        go_region_held3 (fun w' => w'.cell? ⟨w.heap.size, 0, none⟩ = some (.int .i64 (k : Int)) ∧ w'.cell? ⟨w.heap.size, 1, none⟩ = some (.int .u32 (m : Int))) (go_keep) (first
          | (go_at_call 34; (with_reducible refine HT.out.mono ?_); rintro _ w7 ⟨rfl, hb7⟩; obtain ⟨k0, k1, k2, k3, k4, k5, k6, k7, HE⟩ := HALL.out w7 hb7; clear hb7)
          | fail)
        have HEND := Lib.hid (HE.out (.int .i64 (k : Int)) (.int .u32 ((m ||| 2 ^ i : Nat) : Int)) (.string (textS (stepC o st).1)))
        clear k0 k1 k2 k3 k4 k5 k6 k7
        generalize (((w7.setCell ⟨w.heap.size + 1, 0, none⟩ (.int .i64 (k : Int))).setCell ⟨w.heap.size + 1, 1, none⟩ (.int .u32 ((m ||| 2 ^ i : Nat) : Int))).setCell ⟨w.heap.size + 1, 2, none⟩ (.string (textS (stepC o st).1))) = W9 at HEND ⊢
        have y0 : W9.cell? ⟨w.heap.size + 1, 0, none⟩ = some (.int .i64 (k : Int)) := by rw [cell_of_row _ _ _ _ _ _ HEND.out.1]; rfl
        have y1 : W9.cell? ⟨w.heap.size + 1, 1, none⟩ = some (.int .u32 ((m ||| 2 ^ i : Nat) : Int)) := by rw [cell_of_row _ _ _ _ _ _ HEND.out.1]; rfl
        have y2 : W9.cell? ⟨w.heap.size + 1, 2, none⟩ = some (.string (textS (stepC o st).1)) := by rw [cell_of_row _ _ _ _ _ _ HEND.out.1]; rfl
        go_wp2_with fail
        refine bodyPost_ret (v := .tuple #[.agg (soC (k, m ||| 2 ^ i, (stepC o st).1)), .bool true]) (by simp [results, Try.results86, go_sem, y0, y1, y2, soC]) rfl ?_
        exact ⟨_, _, rfl, HR.out, HEND.out.2⟩
end Od
end Go.Proofs.Ytppjmmdiglnkfaa
