/- Package lin: Search. Plain: the chapter's examples. The document's helpers: States, Same. -/
import Derived.Test.YtppjmmdiglnkfaaQaw
import Derived.Test.YtppjmmdiglnkfaaQam
namespace Go.Proofs.Ytppjmmdiglnkfaa
set_option maxRecDepth 100000
open Go.ChangeShapes Go.WideShapes Go.ChangeAt Go.RowKit Go.PlainAid Go.Deep
namespace Ln
/-- What a search answers: the entries, the exits, how many spots, and what is wrong. -/
structure Ans (l : List OpV) (ents : List (List Int)) (lim : Int) (P Q : List (List Int)) (n z : Int) : Prop where
  many : 16 < l.length → z = 34 ∧ P = [] ∧ Q = [] ∧ n = 0
  over : l.length ≤ 16 → ∀ first, US ents first → lim < ((bfs l lim most 0 (starts first)).length : Int) → z = 35 ∧ P = [] ∧ Q = [] ∧ n = 0
  good : l.length ≤ 16 → ∀ first, US ents first → ((bfs l lim most 0 (starts first)).length : Int) ≤ lim → z = 0 ∧ P = first ∧ US (exitsL l (bfs l lim most 0 (starts first))) Q ∧ n = ((bfs l lim most 0 (starts first)).length : Int)
/-- A search that has begun. -/
theorem sr_start {w0 W w : World} {v : Value} {l : List OpV} {dn E : Nat} {ah : List Nat} (h : BgI w0 W v l l.length l.length 0 dn ah) (hO : OpsOf w0 v l) (hl : l.length ≤ 16) (hb : Below W.heap.size W w) : Fix w0 v l dn ah ∧ SrAt w0 w.heap.size v l dn ah w E 0 [] := by
  have h := h.on hb
  refine ⟨⟨hO, hl, h.len, fun i a ha => h.lo i a (by have := (List.getElem?_eq_some_iff.1 ha).1; rw [h.len] at this; exact this) ha, h.dn.of fun k => ?_⟩, ⟨h.bel, ⟨_, h.bs, StsOwn.nil _ _⟩, h.ba, ⟨fun _ => none, ⟨#[], 0, h.m1, Lm.empty tNum 0 0⟩, fun t j => ⟨fun e => (by cases e), fun ⟨n, s, e, _⟩ => (by simp at e)⟩⟩, ⟨fun _ => none, ⟨#[], 0, h.m2, Lm.empty tMv 0 0⟩, fun n i r e => (by cases e)⟩, List.nodup_nil, fun s hs => (by cases hs), Nat.le_refl _, h.bel.size, Nat.le_refl _⟩⟩
  by_cases c : k < l.length
  · simp [c]
  · rw [doneP_far (by omega)]; simp [c]
theorem sum_set {Wx : World} {b : Nat} {c0 c1 c2 : Value} (x y z : Value) (h : Wx.heap[b]? = some (.cells #[c0, c1, c2] 33 (0, 0))) :
    (((Wx.setCell ⟨b, 0, none⟩ x).setCell ⟨b, 1, none⟩ y).setCell ⟨b, 2, none⟩ z).heap[b]? = some (.cells #[x, y, z] 33 (0, 0)) ∧ Keeps (fun k => k = b) Wx (((Wx.setCell ⟨b, 0, none⟩ x).setCell ⟨b, 1, none⟩ y).setCell ⟨b, 2, none⟩ z) :=
  ⟨heap_setCell_same _ _ _ _ _ _ (heap_setCell_same _ _ _ _ _ _ (heap_setCell_same _ _ _ _ _ _ h)), (((Keeps.refl (fun k => k = b) Wx).setCell (.inl (by rfl)) _).setCell (.inl (by rfl)) _).setCell (.inl (by rfl)) _⟩
set_option maxHeartbeats 2000000 in
theorem search_own {vo vE : Value} {obj kind : Int} {l : List OpV} {ents : List (List Int)} {w : World} (hO : OpsOf w vo l) (hE : Sts w vE ents) (hk : ∀ s ∈ ents, s.length ≤ 100000000) (hel : ents.length ≤ 100000) (budget : Int) (hbd : -9223372036854775808 ≤ budget ∧ budget ≤ 9223372036854775807) (lim : Int) (hlim : lim = min budget 32768) :
    Calls Try.prog 16 #[.agg #[.int .i64 obj, .int .i64 kind, vo], vE, .int .i64 budget] w fun e w' => ∃ ve vx n z, e = .returned (.tuple #[.agg #[ve, vx, .int .i64 n], .int .i64 z]) ∧ ∃ P Q, Ans l ents lim P Q n z ∧ StsOwn 0 w' ve P ∧ StsOwn 0 w' vx Q ∧ (∀ s ∈ Q, s.length ≤ 1000000000) ∧ Below w.heap.size w w' := by
  subst hlim
  obtain ⟨ao, co, rfl⟩ := hO.len
  obtain ⟨aE, cE, rfl⟩ := hE.len
  have hbw : Below w.heap.size w ((w.alloc (.cells #[.int .i64 obj, .int .i64 kind, .slice ao l.length co] 24)).alloc (.cells #[.slice none 0 0, .slice none 0 0, .int .i64 0] 33)) := by go_grown
  have hbx0 := heap_alloc_new w (.cells #[.int .i64 obj, .int .i64 kind, .slice ao l.length co] 24)
  have hbx := (Below.heap_alloc (w.alloc (.cells #[.int .i64 obj, .int .i64 kind, .slice ao l.length co] 24)) (.cells #[.slice none 0 0, .slice none 0 0, .int .i64 0] 33) w.heap.size (by rw [World.size_alloc]; omega)).trans hbx0
  have hby := heap_alloc_new (w.alloc (.cells #[.int .i64 obj, .int .i64 kind, .slice ao l.length co] 24)) (.cells #[.slice none 0 0, .slice none 0 0, .int .i64 0] 33)
  rw [World.size_alloc] at hby
  obtain ⟨W1, hW1⟩ : ∃ W, (w.alloc (.cells #[.int .i64 obj, .int .i64 kind, .slice ao l.length co] 24)).alloc (.cells #[.slice none 0 0, .slice none 0 0, .int .i64 0] 33) = W := ⟨_, rfl⟩
  rw [hW1] at hbw hbx hby
  have k0 : W1.cell? ⟨w.heap.size, 2, none⟩ = some (.slice ao l.length co) := by rw [cell_of_row _ _ _ _ _ _ hbx]; rfl
  have r0 : W1.cell? ⟨w.heap.size + 1, 0, none⟩ = some (.slice none 0 0) := by rw [cell_of_row _ _ _ _ _ _ hby]; rfl
  have r1 : W1.cell? ⟨w.heap.size + 1, 1, none⟩ = some (.slice none 0 0) := by rw [cell_of_row _ _ _ _ _ _ hby]; rfl
  have r2 : W1.cell? ⟨w.heap.size + 1, 2, none⟩ = some (.int .i64 0) := by rw [cell_of_row _ _ _ _ _ _ hby]; rfl
  have f0 := cells_thaw hby 0
  have f1 := cells_thaw hby 1
  have f2 := cells_thaw hby 2
  have HO := Lib.hid (hO.on hbw)
  have HE := Lib.hid (hE.on hbw)
  have HB := Lib.hid hbw
  have HK := Lib.hid hk
  have HX := Lib.hid hbx
  have HY := Lib.hid hby
  clear hO hE hbw hk hbx hby hbx0
  by_cases hmany : 16 < l.length
  · have q1 : (16 : Int) < (l.length : Int) := by omega
    have hss := sum_set (.slice none 0 0) (.slice none 0 0) (.int .i64 0) HY.out
    have HBL := Lib.hid hss.1
    have HKP := Lib.hid (HB.out.trans (hss.2.below (fun k e => by omega) (by have := HB.out.size; omega) : Below w.heap.size W1 _))
    clear hss
    go_enter Try.func16, Try.ntmps16
    go_wp2_with fail
    generalize (((W1.setCell ⟨w.heap.size + 1, 0, none⟩ (.slice none 0 0)).setCell ⟨w.heap.size + 1, 1, none⟩ (.slice none 0 0)).setCell ⟨w.heap.size + 1, 2, none⟩ (.int .i64 0)) = W9 at HBL HKP ⊢
    have z0 : W9.cell? ⟨w.heap.size + 1, 0, none⟩ = some (.slice none 0 0) := by rw [cell_of_row _ _ _ _ _ _ HBL.out]; rfl
    have z1 : W9.cell? ⟨w.heap.size + 1, 1, none⟩ = some (.slice none 0 0) := by rw [cell_of_row _ _ _ _ _ _ HBL.out]; rfl
    have z2 : W9.cell? ⟨w.heap.size + 1, 2, none⟩ = some (.int .i64 0) := by rw [cell_of_row _ _ _ _ _ _ HBL.out]; rfl
    refine bodyPost_ret (v := .tuple #[.agg #[.slice none 0 0, .slice none 0 0, .int .i64 0], .int .i64 34]) (by simp [results, Try.results16, go_sem, z0, z1, z2]) rfl ?_
    exact ⟨_, _, _, _, rfl, [], [], ⟨fun _ => ⟨rfl, rfl, rfl, rfl⟩, fun h => absurd h (by omega), fun h => absurd h (by omega)⟩, StsOwn.nil _ _, StsOwn.nil _ _, fun s hs => (by cases hs), HKP.out⟩
  · have q1 : ¬ ((16 : Int) < (l.length : Int)) := by omega
    have hl16 : l.length ≤ 16 := by omega
    go_enter Try.func16, Try.ntmps16
    go_wp2_with fail
    refine (begin_any HO.out hl16).mono ?_
    rintro _ w2 ⟨rfl, dn, ah, hbg⟩
    have HBG := Lib.hid hbg
    have HU := Lib.hid (unique_any (HE.out.on hbg.bel) (fun s hs => by have := HK.out s hs; omega) (by omega))
    clear hbg
    go_wp2_with fail
    refine HU.out.mono ?_
    rintro _ w3 ⟨v3, rfl, first, hV, hus, hb3⟩
    obtain ⟨hF, hS⟩ := sr_start (E := 100000000) HBG.out HO.out hl16 hb3
    obtain ⟨a3, c3, rfl⟩ := hV.reads.len
    have hfl := hus.len
    have HSP := Lib.hid (spread_any hF hS hV hus.nodup (fun s hs => by
      have hm := (hus.mem s).1 hs
      obtain ⟨i, hi⟩ := List.getElem?_of_mem hm
      obtain ⟨_, _, _, _, _, _, _, hu⟩ := HE.out.at hi
      have := HK.out s hm
      exact ⟨⟨hu.inI, by omega⟩, this⟩) (by omega) (by omega) (by omega) (min budget 32768) (by omega))
    have HUS := Lib.hid hus
    have HF := Lib.hid hF
    have HSR := Lib.hid hS
    have HV := Lib.hid hV
    have HSZ := Lib.hid (show W1.heap.size ≤ w3.heap.size from hS.bel.size)
    clear HU hus hF hS hV hb3
    go_wp2_with fail
    refine HSP.out.mono ?_
    rintro _ w4 ⟨u4, rfl, c4, L4, u4', ps, hp4, hc4, himp⟩
    have hy4 : w4.heap[w.heap.size + 1]? = some (.cells #[.slice none 0 0, .slice none 0 0, .int .i64 0] 33 (0, 0)) := (hp4.sr.bel.block _ (heap_inO HY.out)).trans HY.out
    have hbw4 : Below w.heap.size w w4 := HB.out.trans (hp4.sr.bel.mono HB.out.size)
    have r0 : w4.cell? ⟨w.heap.size + 1, 0, none⟩ = some (.slice none 0 0) := by rw [cell_of_row _ _ _ _ _ _ hy4]; rfl
    have r1 : w4.cell? ⟨w.heap.size + 1, 1, none⟩ = some (.slice none 0 0) := by rw [cell_of_row _ _ _ _ _ _ hy4]; rfl
    have r2 : w4.cell? ⟨w.heap.size + 1, 2, none⟩ = some (.int .i64 0) := by rw [cell_of_row _ _ _ _ _ _ hy4]; rfl
    have f0 := cells_thaw hy4 0
    have f1 := cells_thaw hy4 1
    have f2 := cells_thaw hy4 2
    by_cases hle : ((bfs l (min budget 32768) most 0 (starts first)).length : Int) ≤ (min budget 32768)
    · have hdec : decide (((bfs l (min budget 32768) most 0 (starts first)).length : Int) ≤ (min budget 32768)) = true := decide_eq_true hle
      rw [hdec]
      obtain rfl := himp hle
      have hol : (bfs l (min budget 32768) most 0 (starts first)).length = ps.length := by rw [← hp4.is, List.length_map]
      obtain ⟨a4, cp4, rfl, _⟩ := own_len hp4.row
      have HLN := Lib.hid (show ∀ p ∈ bfs l (min budget 32768) most 0 (starts first), p.2.length ≤ 1000000000 from fun p hp => by
        rw [← hp4.is] at hp
        obtain ⟨q, hq, rfl⟩ := List.mem_map.1 hp
        have hlt := (hp4.lt q hq).2.1
        have hm : (dec L4 q.1).2 ∈ L4 := by
          unfold dec
          simp only [List.getElem?_eq_getElem hlt, Option.getD_some]
          exact List.getElem_mem hlt
        have := (hp4.sr.ok _ hm).2
        have := hp4.sr.cnt
        omega)
      have HEX := Lib.hid (exits_any HF.out hp4 (by omega) hc4 (by omega))
      have HV4 := Lib.hid (HSR.out.ents hp4.fr HV.out (fun g hg => by obtain ⟨vs, a, _⟩ := HV.out; exact (a.lt g hg).2))
      have HOL := Lib.hid hol
      have HLE := Lib.hid hle
      have HY4 := Lib.hid hy4
      have HBW4 := Lib.hid hbw4
      have HSZ4 := Lib.hid (heap_inO hy4)
      clear hdec hle hol hy4 hbw4 hp4 r0 r1 r2 f0 f1 f2 himp
      go_wp2_with fail
      refine HEX.out.mono ?_
      rintro _ w5 ⟨v5, rfl, r5, h5, hus5, hb5⟩
      obtain ⟨a5, cp5, rfl⟩ := h5.reads.len
      have hy5 : w5.heap[w.heap.size + 1]? = some (.cells #[.slice none 0 0, .slice none 0 0, .int .i64 0] 33 (0, 0)) := (hb5.block _ HSZ4.out).trans HY4.out
      have r0 : w5.cell? ⟨w.heap.size + 1, 0, none⟩ = some (.slice none 0 0) := by rw [cell_of_row _ _ _ _ _ _ hy5]; rfl
      have r1 : w5.cell? ⟨w.heap.size + 1, 1, none⟩ = some (.slice none 0 0) := by rw [cell_of_row _ _ _ _ _ _ hy5]; rfl
      have r2 : w5.cell? ⟨w.heap.size + 1, 2, none⟩ = some (.int .i64 0) := by rw [cell_of_row _ _ _ _ _ _ hy5]; rfl
      have f0 := cells_thaw hy5 0
      have f1 := cells_thaw hy5 1
      have f2 := cells_thaw hy5 2
      have hss := sum_set (.slice a3 first.length c3) (.slice a5 r5.length cp5) (.int .i64 (ps.length : Int)) hy5
      have HBL := Lib.hid hss.1
      have hkk : Below w5.heap.size w5 w5 := Below.refl _ _
      have HKS := Lib.hid hss.2
      have H5 := Lib.hid h5
      have HUS5 := Lib.hid (And.intro hus5 hb5)
      clear hss h5 hus5 hb5 hy5
      go_wp2_with fail
      have HKP := HKS
      generalize (((w5.setCell ⟨w.heap.size + 1, 0, none⟩ (.slice a3 first.length c3)).setCell ⟨w.heap.size + 1, 1, none⟩ (.slice a5 r5.length cp5)).setCell ⟨w.heap.size + 1, 2, none⟩ (.int .i64 (ps.length : Int))) = W9 at HBL HKP ⊢
      have z0 : W9.cell? ⟨w.heap.size + 1, 0, none⟩ = some (.slice a3 first.length c3) := by rw [cell_of_row _ _ _ _ _ _ HBL.out]; rfl
      have z1 : W9.cell? ⟨w.heap.size + 1, 1, none⟩ = some (.slice a5 r5.length cp5) := by rw [cell_of_row _ _ _ _ _ _ HBL.out]; rfl
      have z2 : W9.cell? ⟨w.heap.size + 1, 2, none⟩ = some (.int .i64 (ps.length : Int)) := by rw [cell_of_row _ _ _ _ _ _ HBL.out]; rfl
      refine bodyPost_ret (v := .tuple #[.agg #[.slice a3 first.length c3, .slice a5 r5.length cp5, .int .i64 (ps.length : Int)], .int .i64 0]) (by simp [results, Try.results16, go_sem, z0, z1, z2]) rfl ?_
      have hbl9 : Below w.heap.size w W9 := (HBW4.out.trans (HUS5.out.2.mono (by have := HBW4.out.size; omega))).trans (HKP.out.below (fun k e => by omega) (by have := HBW4.out.size; have := HUS5.out.2.size; omega))
      have nosum : ∀ T, T ≠ 33 → ∀ g cur, g = w.heap.size + 1 → w5.heap[g]? = some (.cells cur T (0, 0)) → False := fun T hT g cur e hg => by
        rw [e, (HUS5.out.2.block _ HSZ4.out).trans HY4.out] at hg
        exact hT (Obj.cells.inj (Option.some.inj hg)).2.1.symm
      have hp9 := (sts_keep (HV4.out.on HUS5.out.2) HKP.out (nosum _ (by decide)) (nosum _ (by decide))).base (Nat.zero_le _)
      have hq9 := (sts_keep H5.out HKP.out (nosum _ (by decide)) (nosum _ (by decide))).base (Nat.zero_le _)
      exact ⟨_, _, _, _, rfl, first, r5, ⟨fun h => absurd h (by omega), fun _ f hf hgt => absurd hgt (by have := HLE.out; rw [hf.eq HUS.out (fun _ => Iff.rfl)]; omega), fun _ f hf _ => by
        obtain rfl := hf.eq HUS.out (fun _ => Iff.rfl)
        exact ⟨rfl, rfl, HUS5.out.1, by rw [HOL.out]⟩⟩, hp9, hq9, fun s hs => (by
        have hm := (HUS5.out.1.mem s).1 hs
        unfold exitsL at hm
        obtain ⟨p, hp, rfl⟩ := List.mem_map.1 hm
        exact HLN.out p (List.mem_filter.1 hp).1), hbl9⟩
    · have hdec : decide (((bfs l (min budget 32768) most 0 (starts first)).length : Int) ≤ (min budget 32768)) = false := decide_eq_false hle
      rw [hdec]
      have hss := sum_set (.slice none 0 0) (.slice none 0 0) (.int .i64 0) hy4
      have HBL := Lib.hid hss.1
      have HKP := Lib.hid (hbw4.trans (hss.2.below (fun k e => by omega) hbw4.size : Below w.heap.size w4 _))
      have HLE := Lib.hid hle
      clear hdec hle hss hy4 hbw4 hp4 himp
      go_wp2_with fail
      generalize (((w4.setCell ⟨w.heap.size + 1, 0, none⟩ (.slice none 0 0)).setCell ⟨w.heap.size + 1, 1, none⟩ (.slice none 0 0)).setCell ⟨w.heap.size + 1, 2, none⟩ (.int .i64 0)) = W9 at HBL HKP ⊢
      have z0 : W9.cell? ⟨w.heap.size + 1, 0, none⟩ = some (.slice none 0 0) := by rw [cell_of_row _ _ _ _ _ _ HBL.out]; rfl
      have z1 : W9.cell? ⟨w.heap.size + 1, 1, none⟩ = some (.slice none 0 0) := by rw [cell_of_row _ _ _ _ _ _ HBL.out]; rfl
      have z2 : W9.cell? ⟨w.heap.size + 1, 2, none⟩ = some (.int .i64 0) := by rw [cell_of_row _ _ _ _ _ _ HBL.out]; rfl
      refine bodyPost_ret (v := .tuple #[.agg #[.slice none 0 0, .slice none 0 0, .int .i64 0], .int .i64 35]) (by simp [results, Try.results16, go_sem, z0, z1, z2]) rfl ?_
      exact ⟨_, _, _, _, rfl, [], [], ⟨fun h => absurd h (by omega), fun _ _ _ _ => ⟨rfl, rfl, rfl, rfl⟩, fun _ f hf hle => absurd hle (by rw [hf.eq HUS.out (fun _ => Iff.rfl)]; have := HLE.out; omega)⟩, StsOwn.nil _ _, StsOwn.nil _ _, fun s hs => (by cases hs), HKP.out⟩
theorem search_any {vo vE : Value} {obj kind : Int} {l : List OpV} {ents : List (List Int)} {w : World} (hO : OpsOf w vo l) (hE : Sts w vE ents) (hk : ∀ s ∈ ents, s.length ≤ 100000000) (hel : ents.length ≤ 100000) (budget : Int) (hbd : -9223372036854775808 ≤ budget ∧ budget ≤ 9223372036854775807) (lim : Int) (hlim : lim = min budget 32768) :
    Calls Try.prog 16 #[.agg #[.int .i64 obj, .int .i64 kind, vo], vE, .int .i64 budget] w fun e w' => ∃ ve vx n z, e = .returned (.tuple #[.agg #[ve, vx, .int .i64 n], .int .i64 z]) ∧ ∃ P Q, Ans l ents lim P Q n z ∧ Sts w' ve P ∧ Sts w' vx Q ∧ Below w.heap.size w w' :=
  (search_own (obj := obj) (kind := kind) hO hE hk hel budget hbd lim hlim).mono fun _ _ ⟨ve, vx, n, z, e, P, Q, hA, h1, h2, _, hb⟩ => ⟨ve, vx, n, z, e, P, Q, hA, h1.reads, h2.reads, hb⟩
end Ln
end Go.Proofs.Ytppjmmdiglnkfaa
namespace Go.Proofs.Ytppjmmdiglnkfaa
set_option maxRecDepth 100000
open Go.ChangeShapes Go.WideShapes Go.ChangeAt Go.RowKit Go.PlainAid
namespace Ln
def oA : OpV := ⟨1, 0, 0, 1, 2, 1, 0, true, 0, 0, 9⟩
def oB (r : Int) : OpV := ⟨2, 0, 0, 1, 1, 0, 0, true, r, 1, 8⟩
def lP (r : Int) : List OpV := [oA, oB r]
theorem bef_pair (r : Int) (i k : Nat) : befP (lP r) i k = false := by
  unfold befP lP
  match i, k with
  | 0, 0 => simp [befB, oA]
  | 0, 1 => simp [befB, oA, oB]
  | 1, 0 => simp [befB, oA, oB]
  | 1, 1 => simp [befB, oA, oB]
  | 0, k + 2 => simp
  | 1, k + 2 => simp
  | i + 2, 0 => simp
  | i + 2, 1 => simp
  | i + 2, k + 2 => simp
theorem may_pair (r : Int) (m i : Nat) : mayB (lP r) m i = (decide (i < 2) && !m.testBit i) := by
  cases h : mayB (lP r) m i with
  | true =>
    obtain ⟨h1, h2, _⟩ := may_iff.1 h
    have : i < 2 := h1
    simp [this, h2]
  | false =>
    by_cases c : i < 2
    · cases c2 : m.testBit i with
      | true => simp
      | false =>
        have := may_iff.2 (show i < (lP r).length ∧ m.testBit i = false ∧ ∀ k, befP (lP r) i k = true → m.testBit k = true from ⟨c, c2, fun k hk => by rw [bef_pair] at hk; cases hk⟩)
        rw [h] at this
        cases this
    · simp [c]
theorem st_a (x : Int) : stO oA [x] = some [1] := by simp [stO, stepC, doC, regC, oA]
theorem st_b (r x : Int) : stO (oB r) [x] = if x = r then some [x] else none := by
  by_cases c : x = r
  · simp [stO, stepC, doC, regC, oB, c]
  · simp [stO, stepC, doC, regC, oB, c]
theorem nx_pair (r : Int) (m : Nat) (x : Int) : nx (lP r) (m, [x]) = (if m.testBit 0 = false then [(m ||| 2 ^ 0, [1])] else []) ++ (if m.testBit 1 = false ∧ x = r then [(m ||| 2 ^ 1, [x])] else []) := by
  show nxK (lP r) (m, [x]) 2 = _
  rw [nxK_succ, nxK_succ]
  have h0 : nxK (lP r) (m, [x]) 0 = [] := rfl
  rw [h0, List.nil_append]
  congr 1
  · unfold nx1
    rw [may_pair]
    cases m.testBit 0 <;> simp [lP, st_a]
  · unfold nx1
    rw [may_pair]
    cases m.testBit 1
    · by_cases d : x = r
      · simp [lP, st_b, d]
      · simp [lP, st_b, d]
    · simp
theorem us_zero : US [[0]] [[0]] := ⟨fun _ => Iff.rfl, List.pairwise_singleton _ _⟩
theorem bfs_zero : bfs (lP 0) 9 most 0 (starts [[0]]) = [(0, [0]), (1, [1]), (2, [0]), (3, [1])] := by
  show bfs (lP 0) 9 (39996 + 1 + 1 + 1 + 1) 0 [(0, [0])] = _
  rw [bfs_go (p := (0, [0])) rfl (by decide), nx_pair]
  rw [show adds [(0, [0])] ((if Nat.testBit 0 0 = false then [(0 ||| 2 ^ 0, [(1 : Int)])] else []) ++ (if Nat.testBit 0 1 = false ∧ (0 : Int) = 0 then [(0 ||| 2 ^ 1, [(0 : Int)])] else [])) = [(0, [0]), (1, [1]), (2, [0])] by decide]
  rw [bfs_go (p := (1, [1])) rfl (by decide), nx_pair]
  rw [show adds [(0, [0]), (1, [1]), (2, [0])] ((if Nat.testBit 1 0 = false then [(1 ||| 2 ^ 0, [(1 : Int)])] else []) ++ (if Nat.testBit 1 1 = false ∧ (1 : Int) = 0 then [(1 ||| 2 ^ 1, [(1 : Int)])] else [])) = [(0, [0]), (1, [1]), (2, [0])] by decide]
  rw [bfs_go (p := (2, [0])) rfl (by decide), nx_pair]
  rw [show adds [(0, [0]), (1, [1]), (2, [0])] ((if Nat.testBit 2 0 = false then [(2 ||| 2 ^ 0, [(1 : Int)])] else []) ++ (if Nat.testBit 2 1 = false ∧ (0 : Int) = 0 then [(2 ||| 2 ^ 1, [(0 : Int)])] else [])) = [(0, [0]), (1, [1]), (2, [0]), (3, [1])] by decide]
  rw [bfs_go (p := (3, [1])) rfl (by decide), nx_pair]
  rw [show adds [(0, [0]), (1, [1]), (2, [0]), (3, [1])] ((if Nat.testBit 3 0 = false then [(3 ||| 2 ^ 0, [(1 : Int)])] else []) ++ (if Nat.testBit 3 1 = false ∧ (1 : Int) = 0 then [(3 ||| 2 ^ 1, [(1 : Int)])] else [])) = [(0, [0]), (1, [1]), (2, [0]), (3, [1])] by decide]
  exact bfs_end (by decide)
theorem bfs_two : bfs (lP 2) 9 most 0 (starts [[0]]) = [(0, [0]), (1, [1])] := by
  show bfs (lP 2) 9 (39998 + 1 + 1) 0 [(0, [0])] = _
  rw [bfs_go (p := (0, [0])) rfl (by decide), nx_pair]
  rw [show adds [(0, [0])] ((if Nat.testBit 0 0 = false then [(0 ||| 2 ^ 0, [(1 : Int)])] else []) ++ (if Nat.testBit 0 1 = false ∧ (0 : Int) = 2 then [(0 ||| 2 ^ 1, [(0 : Int)])] else [])) = [(0, [0]), (1, [1])] by decide]
  rw [bfs_go (p := (1, [1])) rfl (by decide), nx_pair]
  rw [show adds [(0, [0]), (1, [1])] ((if Nat.testBit 1 0 = false then [(1 ||| 2 ^ 0, [(1 : Int)])] else []) ++ (if Nat.testBit 1 1 = false ∧ (1 : Int) = 2 then [(1 ||| 2 ^ 1, [(1 : Int)])] else [])) = [(0, [0]), (1, [1])] by decide]
  exact bfs_end (by decide)
theorem exit_pair (r : Int) (m : Nat) : exitB (lP r) m = (m.testBit 0 && m.testBit 1) := by
  cases h : exitB (lP r) m with
  | true =>
    have := exit_iff.1 h
    simp [this 0 rfl, this 1 rfl]
  | false =>
    cases c : (m.testBit 0 && m.testBit 1) with
    | false => rfl
    | true =>
      have c := (Bool.and_eq_true _ _).mp c
      have := exit_iff.2 (show ∀ k, doneP (lP r) k = true → m.testBit k = true from fun k hk => by
        match k, hk with
        | 0, _ => exact c.1
        | 1, _ => exact c.2
        | k + 2, hk => simp [doneP, lP] at hk)
      rw [h] at this; cases this
theorem us_eq_nil {Q : List (List Int)} (h : US [] Q) : Q = [] := List.eq_nil_iff_forall_not_mem.2 fun s hs => by have := (h.mem s).1 hs; simp at this
theorem us_eq_one {Q : List (List Int)} {s : List Int} (h : US [s] Q) : Q = [s] := h.eq (⟨fun _ => Iff.rfl, List.pairwise_singleton _ _⟩ : US [s] [s]) (fun _ => Iff.rfl)
theorem ans_zero {P Q : List (List Int)} {n z : Int} (h : Ans (lP 0) [[0]] 9 P Q n z) : z = 0 ∧ n = 4 ∧ Q = [[1]] := by
  obtain ⟨h1, _, h3, h4⟩ := h.good (by decide) _ us_zero (by rw [bfs_zero]; decide)
  rw [bfs_zero] at h3 h4
  refine ⟨h1, h4, us_eq_one ?_⟩
  have : exitsL (lP 0) [(0, [0]), (1, [1]), (2, [0]), (3, [1])] = [[1]] := by
    unfold exitsL
    simp [exit_pair, show Nat.testBit 1 1 = false by decide, show Nat.testBit 3 1 = true by decide]
  rw [this] at h3
  exact h3
theorem ans_two {P Q : List (List Int)} {n z : Int} (h : Ans (lP 2) [[0]] 9 P Q n z) : z = 0 ∧ n = 2 ∧ Q = [] := by
  obtain ⟨h1, _, h3, h4⟩ := h.good (by decide) _ us_zero (by rw [bfs_two]; decide)
  rw [bfs_two] at h3 h4
  refine ⟨h1, h4, us_eq_nil ?_⟩
  have : exitsL (lP 2) [(0, [0]), (1, [1])] = [] := by
    unfold exitsL
    simp [exit_pair, show Nat.testBit 1 1 = false by decide]
  rw [this] at h3
  exact h3
end Ln
end Go.Proofs.Ytppjmmdiglnkfaa
namespace Go.Proofs.Ytppjmmdiglnkfaa
set_option maxRecDepth 100000
open Go.ChangeShapes Go.WideShapes Go.ChangeAt Go.RowKit Go.PlainAid Go.Deep
namespace Ln
set_option maxHeartbeats 4000000 in
theorem states_any {va vb : Value} {a b : List (List Int)} {w : World} (ha : Sts w va a) (hb : Sts w vb b) (hla : a.length ≤ 1000000000) : Calls Try.prog 22 #[va, vb] w fun e w' => e = .returned (.bool (decide (a = b))) ∧ Below w.heap.size w w' := by
  obtain ⟨aa, ca, rfl⟩ := ha.len
  obtain ⟨ab, cb, rfl⟩ := hb.len
  by_cases hl : a.length = b.length
  case neg =>
    have q : ((a.length : Int) != (b.length : Int)) = true := bne_iff_ne.2 (by omega)
    have HD := Lib.hid (show decide (a = b) = false from decide_eq_false fun e => hl (by rw [e]))
    clear ha hb hl
    go_enter Try.func22, Try.ntmps22
    go_wp2_with fail
    go_returns
    exact ⟨by rw [HD.out]; rfl, Below.refl _ _⟩
  have q : ((a.length : Int) != (b.length : Int)) = false := by rw [hl]; simp
  have HA := Lib.hid ha
  have HB := Lib.hid hb
  have HL := Lib.hid hl
  have HI0 := Lib.hid (show (∀ k, k < 0 → a[k]? = b[k]?) ∧ Below w.heap.size w w from ⟨fun k h => by omega, Below.refl _ _⟩)
  clear ha hb hl
  go_enter Try.func22, Try.ntmps22
  go_wp2_with fail
  go_loopw [5] (fun s5 wr => ∃ i : Nat, s5 = .int .i64 i ∧ i ≤ a.length ∧ Hid ((∀ k, k < i → a[k]? = b[k]?) ∧ Below w.heap.size w wr)) (fun s5 _ => a.length - (intOf s5).toNat)
  case atStart => exact ⟨0, rfl, Nat.zero_le _, HI0⟩
  case round =>
    clear HI0
    obtain ⟨i, rfl, hi, HI⟩ := hrel
    rename World => wq
    by_cases hil : i < a.length
    · have q1 : (i : Int) < (a.length : Int) := by omega
      have q1b : (i : Int) < (b.length : Int) := by have := HL.out; omega
      have q2 : IntKind.i64.wrap ((i : Int) + 1) = (i : Int) + 1 := IntWalk.i64_in _ (by omega)
      have q3 : (0 : Int) ≤ i := by omega
      obtain ⟨x, hx⟩ : ∃ x, a[i]? = some x := ⟨_, List.getElem?_eq_getElem hil⟩
      obtain ⟨y, hy⟩ : ∃ y, b[i]? = some y := ⟨_, List.getElem?_eq_getElem (by have := HL.out; omega)⟩
      have hb2 := HI.out.2.on (Below.refl wq.heap.size wq).drew
      obtain ⟨b1, p1, c1, u1, hv1, _, hc1, hu1⟩ := (HA.out.on hb2).at hx
      obtain ⟨b2, p2, c2, u2, hv2, _, hc2, hu2⟩ := (HB.out.on hb2).at hy
      obtain rfl : aa = some ⟨b1, p1, none⟩ := by cases hv1; rfl
      obtain rfl : ab = some ⟨b2, p2, none⟩ := by cases hv2; rfl
      obtain ⟨au1, cu1, rfl, _⟩ := hu1.parts
      obtain ⟨au2, cu2, rfl, _⟩ := hu2.parts
      have HU := Lib.hid (And.intro hu1 hu2)
      have HX := Lib.hid (And.intro hx hy)
      have HB2 := Lib.hid hb2
      clear hv1 hv2 hu1 hu2 hx hy hb2
      have HS := Lib.hid (show ∀ W, Below wq.drew.heap.size wq.drew W → W.cell? ⟨b1, p1 + i, none⟩ = some (.slice au1 x.length cu1) ∧ W.cell? ⟨b2, p2 + i, none⟩ = some (.slice au2 y.length cu2) from fun W hb => by
        refine ⟨?_, ?_⟩
        · exact (hb.cell (p := ⟨b1, p1 + i, none⟩) (World.block_lt_of_cell? _ _ hc1)).trans hc1
        · exact (hb.cell (p := ⟨b2, p2 + i, none⟩) (World.block_lt_of_cell? _ _ hc2)).trans hc2)
      by_cases hxy : x = y
      · have HE := Lib.hid (show (x == y) = true by rw [hxy]; simp)
        have HXY := Lib.hid hxy
        clear hxy
        go_wp2_with fail
        go_region_held3 (fun w' => w'.cell? ⟨b1, p1 + i, none⟩ = some (.slice au1 x.length cu1) ∧ w'.cell? ⟨b2, p2 + i, none⟩ = some (.slice au2 y.length cu2)) (go_keep) (first
          | (go_at_call 15; (with_reducible refine (rints_any _ _ x y _ HU.out.1 HU.out.2).mono ?_); rintro _ w3 ⟨rfl, hb3⟩; rw [HE.out]; obtain ⟨k0, k1⟩ := HS.out w3 hb3; have HB3 := Lib.hid hb3; clear hb3)
          | fail)
        have HN := Lib.hid (show (∀ k, k < i + 1 → a[k]? = b[k]?) ∧ Below w.heap.size w w3 from ⟨fun k hk => by
          by_cases c : k < i
          · exact HI.out.1 k c
          · obtain rfl : k = i := by omega
            rw [HX.out.1, HX.out.2, HXY.out], HB2.out.on HB3.out⟩)
        go_wp2_with fail
        go_roundw
        case measure => simp [intOf] <;> omega
        case rel => exact ⟨i + 1, by simp, by omega, HN⟩
      · have HE := Lib.hid (show (x == y) = false by simpa using hxy)
        have HD := Lib.hid (show decide (a = b) = false from decide_eq_false fun e => hxy (by
          have := HX.out.1
          rw [e, HX.out.2] at this
          exact (Option.some.inj this).symm))
        clear hxy
        go_wp2_with fail
        go_region_held3 (fun w' => w'.cell? ⟨b1, p1 + i, none⟩ = some (.slice au1 x.length cu1) ∧ w'.cell? ⟨b2, p2 + i, none⟩ = some (.slice au2 y.length cu2)) (go_keep) (first
          | (go_at_call 15; (with_reducible refine (rints_any _ _ x y _ HU.out.1 HU.out.2).mono ?_); rintro _ w3 ⟨rfl, hb3⟩; rw [HE.out]; obtain ⟨k0, k1⟩ := HS.out w3 hb3; have HB3 := Lib.hid hb3; clear hb3)
          | fail)
        go_wp2_with fail
        go_returns
        exact ⟨by rw [HD.out]; rfl, HB2.out.on HB3.out⟩
    · obtain rfl : i = a.length := by omega
      have q1 : ¬ ((a.length : Int) < (a.length : Int)) := by omega
      have HD := Lib.hid (show decide (a = b) = true from decide_eq_true (by
        apply List.ext_getElem?
        intro k
        by_cases c : k < a.length
        · exact HI.out.1 k c
        · rw [List.getElem?_eq_none (by omega), List.getElem?_eq_none (by have := HL.out; omega)]))
      go_wp2_with fail
      go_returns
      exact ⟨by rw [HD.out]; rfl, HI.out.2⟩
end Ln
end Go.Proofs.Ytppjmmdiglnkfaa
