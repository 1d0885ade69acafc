/- Package lin: Search. -/
import Derived.Test.YtpooekmogfkkjaaGJ
namespace Go.Proofs.Ytpooekmogfkkjaa
set_option maxRecDepth 100000
open Go.ChangeShapes Go.WideShapes Go.ChangeAt Go.RowKit Go.PlainAid Go.Deep
namespace Ln
/-- What a search answers: the entries, the exits, how many spots, and what is wrong. -/
structure Ans (l : List OpV) (ents : List (List Int)) (lim : Int) (P Q : List (List Int)) (n z : Int) : Prop where
  many : 16 < l.length → z = 34 ∧ P = [] ∧ Q = [] ∧ n = 0
  over : l.length ≤ 16 → ∀ first, US ents first → lim < ((bfs l lim most 0 (starts first)).length : Int) → z = 35 ∧ P = [] ∧ Q = [] ∧ n = 0
  good : l.length ≤ 16 → ∀ first, US ents first → ((bfs l lim most 0 (starts first)).length : Int) ≤ lim → z = 0 ∧ P = first ∧ US (exitsL l (bfs l lim most 0 (starts first))) Q ∧ n = ((bfs l lim most 0 (starts first)).length : Int)
/-- A search that has begun. -/
theorem sr_start {w0 W w : World} {v : Value} {l : List OpV} {dn E : Nat} {ah : List Nat} (h : BgI w0 W v l l.length l.length 0 dn ah) (hO : OpsOf w0 v l) (hl : l.length ≤ 16) (hb : Below W.heap.size W w) : Fix w0 v l dn ah ∧ SrAt w0 w.heap.size v l dn ah w E 0 [] := by
  have h := h.on hb
  refine ⟨⟨hO, hl, h.len, fun i a ha => h.lo i a (by have := (List.getElem?_eq_some_iff.1 ha).1; rw [h.len] at this; exact this) ha, h.dn.of fun k => ?_⟩, ⟨h.bel, ⟨_, h.bs, StsOwn.nil _ _⟩, h.ba, ⟨fun _ => none, ⟨#[], 0, h.m1, Lm.empty tNum 0 0⟩, fun t j => ⟨fun e => (by cases e), fun ⟨n, s, e, _⟩ => (by simp at e)⟩⟩, ⟨fun _ => none, ⟨#[], 0, h.m2, Lm.empty tMv 0 0⟩, fun n i r e => (by cases e)⟩, List.nodup_nil, fun s hs => (by cases hs), Nat.le_refl _, h.bel.size, Nat.le_refl _⟩⟩
  by_cases c : k < l.length
  · simp [c]
  · rw [doneP_far (by omega)]; simp [c]
theorem sum_set {Wx : World} {b : Nat} {c0 c1 c2 : Value} (x y z : Value) (h : Wx.heap[b]? = some (.cells #[c0, c1, c2] 27 (0, 0))) :
    (((Wx.setCell ⟨b, 0, none⟩ x).setCell ⟨b, 1, none⟩ y).setCell ⟨b, 2, none⟩ z).heap[b]? = some (.cells #[x, y, z] 27 (0, 0)) ∧ Keeps (fun k => k = b) Wx (((Wx.setCell ⟨b, 0, none⟩ x).setCell ⟨b, 1, none⟩ y).setCell ⟨b, 2, none⟩ z) :=
  ⟨heap_setCell_same _ _ _ _ _ _ (heap_setCell_same _ _ _ _ _ _ (heap_setCell_same _ _ _ _ _ _ h)), (((Keeps.refl (fun k => k = b) Wx).setCell (.inl (by rfl)) _).setCell (.inl (by rfl)) _).setCell (.inl (by rfl)) _⟩
set_option maxHeartbeats 2000000 in
theorem search_own {vo vE : Value} {obj kind : Int} {l : List OpV} {ents : List (List Int)} {w : World} (hO : OpsOf w vo l) (hE : Sts w vE ents) (hk : ∀ s ∈ ents, s.length ≤ 100000000) (hel : ents.length ≤ 100000) (budget : Int) (hbd : -9223372036854775808 ≤ budget ∧ budget ≤ 9223372036854775807) (lim : Int) (hlim : lim = min budget 32768) :
    Calls Try.prog 9 #[.agg #[.int .i64 obj, .int .i64 kind, vo], vE, .int .i64 budget] w fun e w' => ∃ ve vx n z, e = .returned (.tuple #[.agg #[ve, vx, .int .i64 n], .int .i64 z]) ∧ ∃ P Q, Ans l ents lim P Q n z ∧ StsOwn 0 w' ve P ∧ StsOwn 0 w' vx Q ∧ (∀ s ∈ Q, s.length ≤ 1000000000) ∧ Below w.heap.size w w' := by
  subst hlim
  obtain ⟨ao, co, rfl⟩ := hO.len
  obtain ⟨aE, cE, rfl⟩ := hE.len
  have hbw : Below w.heap.size w ((w.alloc (.cells #[.int .i64 obj, .int .i64 kind, .slice ao l.length co] 24)).alloc (.cells #[.slice none 0 0, .slice none 0 0, .int .i64 0] 27)) := by go_grown
  have hbx0 := heap_alloc_new w (.cells #[.int .i64 obj, .int .i64 kind, .slice ao l.length co] 24)
  have hbx := (Below.heap_alloc (w.alloc (.cells #[.int .i64 obj, .int .i64 kind, .slice ao l.length co] 24)) (.cells #[.slice none 0 0, .slice none 0 0, .int .i64 0] 27) w.heap.size (by rw [World.size_alloc]; omega)).trans hbx0
  have hby := heap_alloc_new (w.alloc (.cells #[.int .i64 obj, .int .i64 kind, .slice ao l.length co] 24)) (.cells #[.slice none 0 0, .slice none 0 0, .int .i64 0] 27)
  rw [World.size_alloc] at hby
  obtain ⟨W1, hW1⟩ : ∃ W, (w.alloc (.cells #[.int .i64 obj, .int .i64 kind, .slice ao l.length co] 24)).alloc (.cells #[.slice none 0 0, .slice none 0 0, .int .i64 0] 27) = W := ⟨_, rfl⟩
  rw [hW1] at hbw hbx hby
  have k0 : W1.cell? ⟨w.heap.size, 2, none⟩ = some (.slice ao l.length co) := by rw [cell_of_row _ _ _ _ _ _ hbx]; rfl
  have r0 : W1.cell? ⟨w.heap.size + 1, 0, none⟩ = some (.slice none 0 0) := by rw [cell_of_row _ _ _ _ _ _ hby]; rfl
  have r1 : W1.cell? ⟨w.heap.size + 1, 1, none⟩ = some (.slice none 0 0) := by rw [cell_of_row _ _ _ _ _ _ hby]; rfl
  have r2 : W1.cell? ⟨w.heap.size + 1, 2, none⟩ = some (.int .i64 0) := by rw [cell_of_row _ _ _ _ _ _ hby]; rfl
  have f0 := cells_thaw hby 0
  have f1 := cells_thaw hby 1
  have f2 := cells_thaw hby 2
  have HO := Lib.hid (hO.on hbw)
  have HE := Lib.hid (hE.on hbw)
  have HB := Lib.hid hbw
  have HK := Lib.hid hk
  have HX := Lib.hid hbx
  have HY := Lib.hid hby
  clear hO hE hbw hk hbx hby hbx0
  by_cases hmany : 16 < l.length
  · have q1 : (16 : Int) < (l.length : Int) := by omega
    have hss := sum_set (.slice none 0 0) (.slice none 0 0) (.int .i64 0) HY.out
    have HBL := Lib.hid hss.1
    have HKP := Lib.hid (HB.out.trans (hss.2.below (fun k e => by omega) (by have := HB.out.size; omega) : Below w.heap.size W1 _))
    clear hss
    go_enter Try.func9, Try.ntmps9
    go_wp2_with fail
    generalize (((W1.setCell ⟨w.heap.size + 1, 0, none⟩ (.slice none 0 0)).setCell ⟨w.heap.size + 1, 1, none⟩ (.slice none 0 0)).setCell ⟨w.heap.size + 1, 2, none⟩ (.int .i64 0)) = W9 at HBL HKP ⊢
    have z0 : W9.cell? ⟨w.heap.size + 1, 0, none⟩ = some (.slice none 0 0) := by rw [cell_of_row _ _ _ _ _ _ HBL.out]; rfl
    have z1 : W9.cell? ⟨w.heap.size + 1, 1, none⟩ = some (.slice none 0 0) := by rw [cell_of_row _ _ _ _ _ _ HBL.out]; rfl
    have z2 : W9.cell? ⟨w.heap.size + 1, 2, none⟩ = some (.int .i64 0) := by rw [cell_of_row _ _ _ _ _ _ HBL.out]; rfl
    refine bodyPost_ret (v := .tuple #[.agg #[.slice none 0 0, .slice none 0 0, .int .i64 0], .int .i64 34]) (by simp [results, Try.results9, go_sem, z0, z1, z2]) rfl ?_
    exact ⟨_, _, _, _, rfl, [], [], ⟨fun _ => ⟨rfl, rfl, rfl, rfl⟩, fun h => absurd h (by omega), fun h => absurd h (by omega)⟩, StsOwn.nil _ _, StsOwn.nil _ _, fun s hs => (by cases hs), HKP.out⟩
  · have q1 : ¬ ((16 : Int) < (l.length : Int)) := by omega
    have hl16 : l.length ≤ 16 := by omega
    go_enter Try.func9, Try.ntmps9
    go_wp2_with fail
    refine (begin_any HO.out hl16).mono ?_
    rintro _ w2 ⟨rfl, dn, ah, hbg⟩
    have HBG := Lib.hid hbg
    have HU := Lib.hid (unique_any (HE.out.on hbg.bel) (fun s hs => by have := HK.out s hs; omega) (by omega))
    clear hbg
    go_wp2_with fail
    refine HU.out.mono ?_
    rintro _ w3 ⟨v3, rfl, first, hV, hus, hb3⟩
    obtain ⟨hF, hS⟩ := sr_start (E := 100000000) HBG.out HO.out hl16 hb3
    obtain ⟨a3, c3, rfl⟩ := hV.reads.len
    have hfl := hus.len
    have HSP := Lib.hid (spread_any hF hS hV hus.nodup (fun s hs => by
      have hm := (hus.mem s).1 hs
      obtain ⟨i, hi⟩ := List.getElem?_of_mem hm
      obtain ⟨_, _, _, _, _, _, _, hu⟩ := HE.out.at hi
      have := HK.out s hm
      exact ⟨⟨hu.inI, by omega⟩, this⟩) (by omega) (by omega) (by omega) (min budget 32768) (by omega))
    have HUS := Lib.hid hus
    have HF := Lib.hid hF
    have HSR := Lib.hid hS
    have HV := Lib.hid hV
    have HSZ := Lib.hid (show W1.heap.size ≤ w3.heap.size from hS.bel.size)
    clear HU hus hF hS hV hb3
    go_wp2_with fail
    refine HSP.out.mono ?_
    rintro _ w4 ⟨u4, rfl, c4, L4, u4', ps, hp4, hc4, himp⟩
    have hy4 : w4.heap[w.heap.size + 1]? = some (.cells #[.slice none 0 0, .slice none 0 0, .int .i64 0] 27 (0, 0)) := (hp4.sr.bel.block _ (heap_inO HY.out)).trans HY.out
    have hbw4 : Below w.heap.size w w4 := HB.out.trans (hp4.sr.bel.mono HB.out.size)
    have r0 : w4.cell? ⟨w.heap.size + 1, 0, none⟩ = some (.slice none 0 0) := by rw [cell_of_row _ _ _ _ _ _ hy4]; rfl
    have r1 : w4.cell? ⟨w.heap.size + 1, 1, none⟩ = some (.slice none 0 0) := by rw [cell_of_row _ _ _ _ _ _ hy4]; rfl
    have r2 : w4.cell? ⟨w.heap.size + 1, 2, none⟩ = some (.int .i64 0) := by rw [cell_of_row _ _ _ _ _ _ hy4]; rfl
    have f0 := cells_thaw hy4 0
    have f1 := cells_thaw hy4 1
    have f2 := cells_thaw hy4 2
    by_cases hle : ((bfs l (min budget 32768) most 0 (starts first)).length : Int) ≤ (min budget 32768)
    · have hdec : decide (((bfs l (min budget 32768) most 0 (starts first)).length : Int) ≤ (min budget 32768)) = true := decide_eq_true hle
      rw [hdec]
      obtain rfl := himp hle
      have hol : (bfs l (min budget 32768) most 0 (starts first)).length = ps.length := by rw [← hp4.is, List.length_map]
      obtain ⟨a4, cp4, rfl, _⟩ := own_len hp4.row
      have HLN := Lib.hid (show ∀ p ∈ bfs l (min budget 32768) most 0 (starts first), p.2.length ≤ 1000000000 from fun p hp => by
        rw [← hp4.is] at hp
        obtain ⟨q, hq, rfl⟩ := List.mem_map.1 hp
        have hlt := (hp4.lt q hq).2.1
        have hm : (dec L4 q.1).2 ∈ L4 := by
          unfold dec
          simp only [List.getElem?_eq_getElem hlt, Option.getD_some]
          exact List.getElem_mem hlt
        have := (hp4.sr.ok _ hm).2
        have := hp4.sr.cnt
        omega)
      have HEX := Lib.hid (exits_any HF.out hp4 (by omega) hc4 (by omega))
      have HV4 := Lib.hid (HSR.out.ents hp4.fr HV.out (fun g hg => by obtain ⟨vs, a, _⟩ := HV.out; exact (a.lt g hg).2))
      have HOL := Lib.hid hol
      have HLE := Lib.hid hle
      have HY4 := Lib.hid hy4
      have HBW4 := Lib.hid hbw4
      have HSZ4 := Lib.hid (heap_inO hy4)
      clear hdec hle hol hy4 hbw4 hp4 r0 r1 r2 f0 f1 f2 himp
      go_wp2_with fail
      refine HEX.out.mono ?_
      rintro _ w5 ⟨v5, rfl, r5, h5, hus5, hb5⟩
      obtain ⟨a5, cp5, rfl⟩ := h5.reads.len
      have hy5 : w5.heap[w.heap.size + 1]? = some (.cells #[.slice none 0 0, .slice none 0 0, .int .i64 0] 27 (0, 0)) := (hb5.block _ HSZ4.out).trans HY4.out
      have r0 : w5.cell? ⟨w.heap.size + 1, 0, none⟩ = some (.slice none 0 0) := by rw [cell_of_row _ _ _ _ _ _ hy5]; rfl
      have r1 : w5.cell? ⟨w.heap.size + 1, 1, none⟩ = some (.slice none 0 0) := by rw [cell_of_row _ _ _ _ _ _ hy5]; rfl
      have r2 : w5.cell? ⟨w.heap.size + 1, 2, none⟩ = some (.int .i64 0) := by rw [cell_of_row _ _ _ _ _ _ hy5]; rfl
      have f0 := cells_thaw hy5 0
      have f1 := cells_thaw hy5 1
      have f2 := cells_thaw hy5 2
      have hss := sum_set (.slice a3 first.length c3) (.slice a5 r5.length cp5) (.int .i64 (ps.length : Int)) hy5
      have HBL := Lib.hid hss.1
      have hkk : Below w5.heap.size w5 w5 := Below.refl _ _
      have HKS := Lib.hid hss.2
      have H5 := Lib.hid h5
      have HUS5 := Lib.hid (And.intro hus5 hb5)
      clear hss h5 hus5 hb5 hy5
      go_wp2_with fail
      have HKP := HKS
      generalize (((w5.setCell ⟨w.heap.size + 1, 0, none⟩ (.slice a3 first.length c3)).setCell ⟨w.heap.size + 1, 1, none⟩ (.slice a5 r5.length cp5)).setCell ⟨w.heap.size + 1, 2, none⟩ (.int .i64 (ps.length : Int))) = W9 at HBL HKP ⊢
      have z0 : W9.cell? ⟨w.heap.size + 1, 0, none⟩ = some (.slice a3 first.length c3) := by rw [cell_of_row _ _ _ _ _ _ HBL.out]; rfl
      have z1 : W9.cell? ⟨w.heap.size + 1, 1, none⟩ = some (.slice a5 r5.length cp5) := by rw [cell_of_row _ _ _ _ _ _ HBL.out]; rfl
      have z2 : W9.cell? ⟨w.heap.size + 1, 2, none⟩ = some (.int .i64 (ps.length : Int)) := by rw [cell_of_row _ _ _ _ _ _ HBL.out]; rfl
      refine bodyPost_ret (v := .tuple #[.agg #[.slice a3 first.length c3, .slice a5 r5.length cp5, .int .i64 (ps.length : Int)], .int .i64 0]) (by simp [results, Try.results9, go_sem, z0, z1, z2]) rfl ?_
      have hbl9 : Below w.heap.size w W9 := (HBW4.out.trans (HUS5.out.2.mono (by have := HBW4.out.size; omega))).trans (HKP.out.below (fun k e => by omega) (by have := HBW4.out.size; have := HUS5.out.2.size; omega))
      have nosum : ∀ T, T ≠ 27 → ∀ g cur, g = w.heap.size + 1 → w5.heap[g]? = some (.cells cur T (0, 0)) → False := fun T hT g cur e hg => by
        rw [e, (HUS5.out.2.block _ HSZ4.out).trans HY4.out] at hg
        exact hT (Obj.cells.inj (Option.some.inj hg)).2.1.symm
      have hp9 := (sts_keep (HV4.out.on HUS5.out.2) HKP.out (nosum _ (by decide)) (nosum _ (by decide))).base (Nat.zero_le _)
      have hq9 := (sts_keep H5.out HKP.out (nosum _ (by decide)) (nosum _ (by decide))).base (Nat.zero_le _)
      exact ⟨_, _, _, _, rfl, first, r5, ⟨fun h => absurd h (by omega), fun _ f hf hgt => absurd hgt (by have := HLE.out; rw [hf.eq HUS.out (fun _ => Iff.rfl)]; omega), fun _ f hf _ => by
        obtain rfl := hf.eq HUS.out (fun _ => Iff.rfl)
        exact ⟨rfl, rfl, HUS5.out.1, by rw [HOL.out]⟩⟩, hp9, hq9, fun s hs => (by
        have hm := (HUS5.out.1.mem s).1 hs
        unfold exitsL at hm
        obtain ⟨p, hp, rfl⟩ := List.mem_map.1 hm
        exact HLN.out p (List.mem_filter.1 hp).1), hbl9⟩
    · have hdec : decide (((bfs l (min budget 32768) most 0 (starts first)).length : Int) ≤ (min budget 32768)) = false := decide_eq_false hle
      rw [hdec]
      have hss := sum_set (.slice none 0 0) (.slice none 0 0) (.int .i64 0) hy4
      have HBL := Lib.hid hss.1
      have HKP := Lib.hid (hbw4.trans (hss.2.below (fun k e => by omega) hbw4.size : Below w.heap.size w4 _))
      have HLE := Lib.hid hle
      clear hdec hle hss hy4 hbw4 hp4 himp
      go_wp2_with fail
      generalize (((w4.setCell ⟨w.heap.size + 1, 0, none⟩ (.slice none 0 0)).setCell ⟨w.heap.size + 1, 1, none⟩ (.slice none 0 0)).setCell ⟨w.heap.size + 1, 2, none⟩ (.int .i64 0)) = W9 at HBL HKP ⊢
      have z0 : W9.cell? ⟨w.heap.size + 1, 0, none⟩ = some (.slice none 0 0) := by rw [cell_of_row _ _ _ _ _ _ HBL.out]; rfl
      have z1 : W9.cell? ⟨w.heap.size + 1, 1, none⟩ = some (.slice none 0 0) := by rw [cell_of_row _ _ _ _ _ _ HBL.out]; rfl
      have z2 : W9.cell? ⟨w.heap.size + 1, 2, none⟩ = some (.int .i64 0) := by rw [cell_of_row _ _ _ _ _ _ HBL.out]; rfl
      refine bodyPost_ret (v := .tuple #[.agg #[.slice none 0 0, .slice none 0 0, .int .i64 0], .int .i64 35]) (by simp [results, Try.results9, go_sem, z0, z1, z2]) rfl ?_
      exact ⟨_, _, _, _, rfl, [], [], ⟨fun h => absurd h (by omega), fun _ _ _ _ => ⟨rfl, rfl, rfl, rfl⟩, fun _ f hf hle => absurd hle (by rw [hf.eq HUS.out (fun _ => Iff.rfl)]; have := HLE.out; omega)⟩, StsOwn.nil _ _, StsOwn.nil _ _, fun s hs => (by cases hs), HKP.out⟩
theorem search_any {vo vE : Value} {obj kind : Int} {l : List OpV} {ents : List (List Int)} {w : World} (hO : OpsOf w vo l) (hE : Sts w vE ents) (hk : ∀ s ∈ ents, s.length ≤ 100000000) (hel : ents.length ≤ 100000) (budget : Int) (hbd : -9223372036854775808 ≤ budget ∧ budget ≤ 9223372036854775807) (lim : Int) (hlim : lim = min budget 32768) :
    Calls Try.prog 9 #[.agg #[.int .i64 obj, .int .i64 kind, vo], vE, .int .i64 budget] w fun e w' => ∃ ve vx n z, e = .returned (.tuple #[.agg #[ve, vx, .int .i64 n], .int .i64 z]) ∧ ∃ P Q, Ans l ents lim P Q n z ∧ Sts w' ve P ∧ Sts w' vx Q ∧ Below w.heap.size w w' :=
  (search_own (obj := obj) (kind := kind) hO hE hk hel budget hbd lim hlim).mono fun _ _ ⟨ve, vx, n, z, e, P, Q, hA, h1, h2, _, hb⟩ => ⟨ve, vx, n, z, e, P, Q, hA, h1.reads, h2.reads, hb⟩
end Ln
end Go.Proofs.Ytpooekmogfkkjaa
