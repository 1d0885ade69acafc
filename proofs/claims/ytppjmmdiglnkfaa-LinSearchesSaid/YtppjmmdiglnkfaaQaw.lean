/- Package lin: exits. Package lin: exits. -/
import Derived.Test.YtppjmmdiglnkfaaQav
namespace Go.Proofs.Ytppjmmdiglnkfaa
set_option maxRecDepth 100000
open Go.ChangeShapes Go.WideShapes Go.ChangeAt Go.RowKit Go.PlainAid Go.Deep
namespace Ln
attribute [local go_sem ↓ high] app_st
open Classical in
/-- Are all answered operations done? -/
noncomputable def exitB (l : List OpV) (m : Nat) : Bool := decide (∀ k, doneP l k = true → m.testBit k = true)
open Classical in
theorem exit_iff {l : List OpV} {m : Nat} : exitB l m = true ↔ ∀ k, doneP l k = true → m.testBit k = true := by
  unfold exitB
  exact decide_eq_true_iff
/-- The states of the spots that lack no answered operation. -/
noncomputable def exitsL (l : List OpV) (out : List Spt) : List (List Int) := (out.filter fun p => exitB l p.1).map Prod.snd
theorem exit_dn {l : List OpV} {dn : Nat} (h : Mk dn (doneP l)) (m : Nat) : notN dn m = 0 ↔ exitB l m = true := by
  rw [notN_zero (by have := h.lt; omega), exit_iff]
  exact ⟨fun k j hj => k j ((h.bit j).trans hj), fun k j hj => k j ((h.bit j).symm.trans hj)⟩
/-- A row of truths. -/
def boO (bs : List Bool) : Obj := .cells (bs.map Value.bool).toArray 4
theorem boO_set (bs : List Bool) (i : Nat) (b : Bool) : ((bs.map Value.bool).toArray.setIfInBounds i (.bool b)) = ((bs.set i b).map Value.bool).toArray := by simp
theorem make_bool (n : Nat) (hn : n ≤ 100000000) (w : World) : (Instr.makeSlice 59 (.int .i64 (n : Int)) (.int .i64 (n : Int))).run Try.prog w = .ok (.slice (some ⟨w.heap.size, 0, none⟩) n n) (w.alloc (boO (List.replicate n false))) := by
  obtain ⟨i0, hi, hz0, hz1, hz2⟩ := info_parts (show (Try.prog.info? 4).map (fun i => (i.zero, i.size, i.bytes)) = some (some (.bool false), 1, 1) by kernel_rfl)
  have h := run_make (P := Try.prog) w 59 4 i0 _ Try.underlying59 hi hz0 .i64 .i64 n n (by omega) (by omega) (by rw [hz2]; omega) (by omega)
  rw [h]
  simp only [Int.toNat_natCast, hz1, Nat.mul_one]
  have e : madeCells (Value.bool false).cells n = ((List.replicate n false).map Value.bool).toArray := by
    apply Array.ext'
    simp [madeCells, Value.cells]
    exact List.ext_getElem (by simp) fun i h1 h2 => by simp [Nat.mod_one]
  unfold boO
  rw [e]
/-- Which states are exits of some places. -/
structure ExI (l : List OpV) (L : List (List Int)) (W wr : World) (ps : List ((Nat × Nat) × Nat)) (bs : List Bool) : Prop where
  bel : Below W.heap.size W wr
  blk : wr.heap[W.heap.size]? = some (boO bs)
  len : bs.length = L.length
  is : ∀ n, bs[n]? = some true ↔ n < L.length ∧ ∃ q ∈ ps, q.1.2 = n ∧ exitB l q.1.1 = true
theorem ExI.on {l : List OpV} {L : List (List Int)} {W wr w' : World} {ps : List ((Nat × Nat) × Nat)} {bs : List Bool} (h : ExI l L W wr ps bs) (hb : Below wr.heap.size wr w') : ExI l L W w' ps bs := ⟨h.bel.on hb, (hb.block _ (heap_inO h.blk)).trans h.blk, h.len, h.is⟩
theorem ExI.skip {l : List OpV} {L : List (List Int)} {W wr : World} {ps : List ((Nat × Nat) × Nat)} {bs : List Bool} (h : ExI l L W wr ps bs) {q : (Nat × Nat) × Nat} (hq : exitB l q.1.1 = false) : ExI l L W wr (ps ++ [q]) bs :=
  ⟨h.bel, h.blk, h.len, fun n => (h.is n).trans ⟨fun ⟨a, x, hx, b⟩ => ⟨a, x, List.mem_append_left _ hx, b⟩, fun ⟨a, x, hx, b, c⟩ => by
    rcases List.mem_append.1 hx with hx | hx
    · exact ⟨a, x, hx, b, c⟩
    · rw [List.mem_singleton.1 hx, hq] at c; cases c⟩⟩
theorem ExI.set {l : List OpV} {L : List (List Int)} {W wr : World} {ps : List ((Nat × Nat) × Nat)} {bs : List Bool} (h : ExI l L W wr ps bs) {q : (Nat × Nat) × Nat} (hq : exitB l q.1.1 = true) (hl : q.1.2 < L.length) : ExI l L W (wr.setCell ⟨W.heap.size, q.1.2, none⟩ (.bool true)) (ps ++ [q]) (bs.set q.1.2 true) := by
  have hk : Keeps (fun k => k = W.heap.size) wr (wr.setCell ⟨W.heap.size, q.1.2, none⟩ (.bool true)) := (Keeps.refl (fun k => k = W.heap.size) wr).setCell (.inl (by rfl)) _
  refine ⟨h.bel.trans (hk.below (fun k e => by omega) h.bel.size), ?_, by rw [List.length_set]; exact h.len, fun n => ?_⟩
  · have := heap_setCell_same wr W.heap.size q.1.2 _ _ (.bool true) h.blk
    rw [boO_set] at this
    exact this
  · by_cases c : q.1.2 = n
    · subst c
      rw [List.getElem?_set_self (by rw [h.len]; exact hl)]
      exact ⟨fun _ => ⟨hl, q, by simp, rfl, hq⟩, fun _ => rfl⟩
    · rw [List.getElem?_set_ne c, h.is n]
      constructor
      · rintro ⟨a, x, hx, b⟩
        exact ⟨a, x, List.mem_append_left _ hx, b⟩
      · rintro ⟨a, x, hx, b, d⟩
        rcases List.mem_append.1 hx with hx | hx
        · exact ⟨a, x, hx, b, d⟩
        · rw [List.mem_singleton.1 hx] at b; exact absurd b c
/-- The states whose truth is so, one by one. -/
def pick (L : List (List Int)) (bs : List Bool) (n : Nat) : List (List Int) := (List.range n).filterMap fun i => if bs[i]? = some true then L[i]? else none
theorem pick_yes {L : List (List Int)} {bs : List Bool} {n : Nat} {s : List Int} (h : bs[n]? = some true) (hs : L[n]? = some s) : pick L bs (n + 1) = pick L bs n ++ [s] := by
  unfold pick
  rw [List.range_succ, List.filterMap_append]
  simp [h, hs]
theorem pick_no {L : List (List Int)} {bs : List Bool} {n : Nat} (h : bs[n]? = some false) : pick L bs (n + 1) = pick L bs n := by
  unfold pick
  rw [List.range_succ, List.filterMap_append]
  simp [h]
theorem pick_len (L : List (List Int)) (bs : List Bool) (n : Nat) : (pick L bs n).length ≤ n := by
  unfold pick
  refine Nat.le_trans (List.length_filterMap_le _ _) ?_
  rw [List.length_range]
  exact Nat.le_refl _
theorem pick_mem {L : List (List Int)} {bs : List Bool} {n : Nat} {s : List Int} : s ∈ pick L bs n ↔ ∃ i, i < n ∧ bs[i]? = some true ∧ L[i]? = some s := by
  unfold pick
  rw [List.mem_filterMap]
  constructor
  · rintro ⟨i, hi, h⟩
    split at h
    · rename_i hb; exact ⟨i, List.mem_range.1 hi, hb, h⟩
    · cases h
  · rintro ⟨i, hi, hb, h⟩
    exact ⟨i, List.mem_range.2 hi, by rw [if_pos hb]; exact h⟩
theorem pick_exits {l : List OpV} {L : List (List Int)} {W wr : World} {ps : List ((Nat × Nat) × Nat)} {bs : List Bool} {out : List Spt} (h : ExI l L W wr ps bs) (hi : ps.map (fun p => dec L p.1) = out) (hl : ∀ q ∈ ps, q.1.2 < L.length) (s : List Int) : s ∈ pick L bs L.length ↔ s ∈ exitsL l out := by
  rw [pick_mem]
  unfold exitsL
  rw [List.mem_map]
  constructor
  · rintro ⟨i, hil, hb, hs⟩
    obtain ⟨_, q, hq, rfl, he⟩ := (h.is i).1 hb
    refine ⟨dec L q.1, List.mem_filter.2 ⟨by rw [← hi]; exact List.mem_map.2 ⟨q, hq, rfl⟩, he⟩, ?_⟩
    unfold dec
    rw [hs]; rfl
  · rintro ⟨p, hp, rfl⟩
    obtain ⟨hp, he⟩ := List.mem_filter.1 hp
    rw [← hi] at hp
    obtain ⟨q, hq, rfl⟩ := List.mem_map.1 hp
    refine ⟨q.1.2, hl q hq, (h.is _).2 ⟨hl q hq, q, hq, rfl, he⟩, ?_⟩
    unfold dec
    rw [List.getElem?_eq_getElem (hl q hq)]
    rfl
end Ln
end Go.Proofs.Ytppjmmdiglnkfaa
namespace Go.Proofs.Ytppjmmdiglnkfaa
set_option maxRecDepth 100000
open Go.ChangeShapes Go.WideShapes Go.ChangeAt Go.RowKit Go.PlainAid Go.Deep
namespace Ln
attribute [local go_sem ↓ high] app_st
theorem US.congr {l l' r : List (List Int)} (h : US l r) (hm : ∀ s, s ∈ l ↔ s ∈ l') : US l' r := ⟨fun s => (h.mem s).trans (hm s), h.ord⟩
set_option maxHeartbeats 8000000 in
theorem exits_any {w0 : World} {n₁ : Nat} {v : Value} {l : List OpV} {dn : Nat} {ah : List Nat} {w W : World} {E c : Nat} {L : List (List Int)} {u : Value} {ps : List ((Nat × Nat) × Nat)} {out : List Spt} (hF : Fix w0 v l dn ah) (h : PlI w0 n₁ v l dn ah w W E c L u ps out) (hE : E ≤ 500000000) (hc : c ≤ 8000000) (hps : ps.length ≤ 10000000) :
    Calls Try.prog 43 #[.pointer (some ⟨w0.heap.size + 1 + 1 + 1, 0, none⟩), u] W fun e w' => ∃ v', e = .returned v' ∧ ∃ r, StsOwn W.heap.size w' v' r ∧ US (exitsL l out) r ∧ Below W.heap.size W w' := by
  obtain ⟨vs, _, c2, c3, hst⟩ := h.sr.reads
  obtain ⟨aL, cL, rfl⟩ := hst.reads.len
  have hcn := h.sr.cnt
  have mk := make_bool L.length (by omega) W
  have hbl : w0.heap.size + 1 + 1 + 1 < W.heap.size := by obtain ⟨_, e, _⟩ := h.sr.bs; exact heap_inO e
  obtain ⟨aP, cP, rfl, _⟩ := own_len h.row
  have hbw : Below W.heap.size W (W.alloc (boO (List.replicate L.length false))) := by go_grown
  have hi0 : ExI l L W (W.alloc (boO (List.replicate L.length false))) (ps.take 0) (List.replicate L.length false) := ⟨hbw, heap_alloc_new W _, List.length_replicate, fun n => ⟨fun e => (by
    have := List.mem_of_getElem? e
    rw [List.mem_replicate] at this
    cases this.2), fun ⟨_, q, hq, _⟩ => (by simp at hq)⟩⟩
  have HI0 := Lib.hid hi0
  have HF := Lib.hid hF
  have HP := Lib.hid h
  have HST := Lib.hid hst
  have HC := Lib.hid (And.intro c2 c3)
  clear hF h hst hi0 hbw
  go_enter Try.func43, Try.ntmps43
  go_wp2_with fail
  go_loopw [19] (fun s19 wr => ∃ (i : Nat) (bs : List Bool), s19 = .int .i64 i ∧ i ≤ ps.length ∧ Hid (ExI l L W wr (ps.take i) bs)) (fun s19 _ => ps.length - (intOf s19).toNat)
  case atStart => exact ⟨0, _, rfl, Nat.zero_le _, HI0⟩
  case round =>
    clear HI0 mk c2 c3
    obtain ⟨i, bs, rfl, hi, HI⟩ := hrel
    rename World => wq
    by_cases hil : i < ps.length
    · have q1 : (i : Int) < (ps.length : Int) := by omega
      have q2 : IntKind.i64.wrap ((i : Int) + 1) = (i : Int) + 1 := IntWalk.i64_in _ (by omega)
      obtain ⟨⟨⟨m, n⟩, o⟩, hq⟩ : ∃ q, ps[i]? = some q := ⟨_, List.getElem?_eq_getElem hil⟩
      obtain ⟨hm, hn, _⟩ := HP.out.lt _ (List.mem_of_getElem? hq)
      simp only at hm hn
      obtain ⟨g, cp, hveq, hg, hcells⟩ := own_at (ownsRow_onI HP.out.row HI.out.bel) (by omega)
      obtain rfl : aP = some ⟨g, 0, none⟩ := by cases hveq; rfl
      obtain ⟨e0, e1, e2⟩ := flatP_get ps i _ hq
      have g0 := hcells _ _ e0
      have g1 := hcells _ _ e1
      have g2 := hcells _ _ e2
      simp only at g0 g1 g2
      have hbw1 : Below wq.heap.size wq (wq.alloc (.cells #[.int .u32 (m : Int), .int .i64 (n : Int), .int .u32 (o : Int)] 128)) := by go_grown
      have hbx1 := heap_alloc_new wq (.cells #[.int .u32 (m : Int), .int .i64 (n : Int), .int .u32 (o : Int)] 128)
      obtain ⟨W2, hW2⟩ : ∃ W, wq.alloc (.cells #[.int .u32 (m : Int), .int .i64 (n : Int), .int .u32 (o : Int)] 128) = W := ⟨_, rfl⟩
      rw [hW2] at hbw1 hbx1
      have hbx2 : W2.drew.heap[wq.heap.size]? = some (.cells #[.int .u32 (m : Int), .int .i64 (n : Int), .int .u32 (o : Int)] 128 (0, 0)) := hbx1
      have hI2 := (HI.out.on hbw1).on (Below.refl W2.heap.size W2).drew
      have k0 : W2.drew.cell? ⟨wq.heap.size, 0, none⟩ = some (.int .u32 (m : Int)) := by rw [cell_of_row _ _ _ _ _ _ hbx2]; rfl
      have k1 : W2.drew.cell? ⟨wq.heap.size, 1, none⟩ = some (.int .i64 (n : Int)) := by rw [cell_of_row _ _ _ _ _ _ hbx2]; rfl
      have k2 : W2.drew.cell? ⟨w0.heap.size + 1 + 1 + 1, 2, none⟩ = some (.int .u32 (dn : Int)) := (hI2.bel.cell (p := ⟨w0.heap.size + 1 + 1 + 1, 2, none⟩) hbl).trans HC.out.1
      have eN : bits .andNot .u32 (dn : Int) (m : Int) = (notN dn m : Int) := andNot_u32 dn m
      have hdn := exit_dn HF.out.dnk m
      have htk := take_succ hq
      have HI2 := Lib.hid hI2
      have HN := Lib.hid (And.intro hn htk)
      clear hveq hg hcells e0 e1 e2 hq hbw1 hbx1 hbx2 hI2 htk HI
      cases he : exitB l m with
      | false =>
        have eZ : (bits .andNot .u32 (dn : Int) (m : Int) == 0) = false := by
          rw [eN]
          refine beq_eq_false_iff_ne.2 fun c => ?_
          have := hdn.1 (by omega)
          rw [he] at this; cases this
        have HE := Lib.hid (show ExI l L W W2.drew (ps.take (i + 1)) bs by rw [HN.out.2]; exact HI2.out.skip he)
        clear eN hdn
        go_wp2_with fail
        go_region
        go_wp2_with fail
        go_roundw
        case measure => simp [intOf] <;> omega
        case rel => exact ⟨i + 1, bs, by simp, by omega, HE⟩
      | true =>
        have eZ : bits .andNot .u32 (dn : Int) (m : Int) = 0 := by rw [eN, hdn.2 he]; rfl
        have HE := Lib.hid (show ExI l L W (W2.drew.setCell ⟨W.heap.size, n, none⟩ (.bool true)) (ps.take (i + 1)) (bs.set n true) by rw [HN.out.2]; exact HI2.out.set (q := ((m, n), o)) he HN.out.1)
        have hbn : ∃ b, W2.drew.cell? ⟨W.heap.size, n, none⟩ = some b := by
          have := HI2.out.blk
          unfold boO at this
          rw [cell_of_row _ _ _ _ _ _ this]
          have hlb : n < bs.length := by rw [HI2.out.len]; exact HN.out.1
          exact ⟨_, by simp [List.getElem?_eq_getElem hlb]; rfl⟩
        obtain ⟨bv, k3⟩ := hbn
        have f3 := cells_thaw HI2.out.blk n
        have q3 : (n : Int) < (L.length : Int) := by omega
        have q4 : (0 : Int) ≤ n := by omega
        clear eN hdn
        go_wp2_with fail
        go_region
        go_wp2_with fail
        go_roundw
        case measure => simp [intOf] <;> omega
        case rel => exact ⟨i + 1, _, by simp, by omega, HE⟩
    · obtain rfl : i = ps.length := by omega
      have q1 : ¬ ((ps.length : Int) < (ps.length : Int)) := by omega
      have hI := HI.out
      rw [List.take_length] at hI
      have HX := Lib.hid hI
      have k3 : wq.cell? ⟨w0.heap.size + 1 + 1 + 1, 3, none⟩ = some (.slice aL L.length cL) := (hI.bel.cell (p := ⟨w0.heap.size + 1 + 1 + 1, 3, none⟩) hbl).trans HC.out.2
      have HJ0 := Lib.hid (show StsOwn wq.heap.size wq (.slice none 0 0) (pick L bs 0) ∧ Below wq.heap.size wq wq from ⟨StsOwn.nil _ _, Below.refl _ _⟩)
      clear hI HI
      go_wp2_with fail
      go_loopw [8, 43] (fun s8 s43 wr => ∃ (j : Nat) (aA : Option Addr) (cA : Nat), s43 = .int .i64 j ∧ s8 = .slice aA (pick L bs j).length cA ∧ j ≤ L.length ∧ Hid (StsOwn wq.heap.size wr (.slice aA (pick L bs j).length cA) (pick L bs j) ∧ Below wq.heap.size wq wr)) (fun _ s43 _ => L.length - (intOf s43).toNat)
      case atStart => exact ⟨0, none, 0, rfl, rfl, Nat.zero_le _, HJ0⟩
      case round =>
        clear HJ0 k3
        obtain ⟨j, aA, cA, rfl, rfl, hj, HJ⟩ := hrel
        rename World => wz
        by_cases hjl : j < L.length
        · have r1 : (j : Int) < (L.length : Int) := by omega
          have r2 : IntKind.i64.wrap ((j : Int) + 1) = (j : Int) + 1 := IntWalk.i64_in _ (by omega)
          have r3 : (0 : Int) ≤ j := by omega
          obtain ⟨s, hs⟩ : ∃ s, L[j]? = some s := ⟨_, List.getElem?_eq_getElem hjl⟩
          have hbz := HX.out.bel.trans (HJ.out.2.mono HX.out.bel.size)
          obtain ⟨bq, pq, cq, us, hveq, _, hcu, hu⟩ := (HST.out.on hbz).at hs
          obtain rfl : aL = some ⟨bq, pq, none⟩ := by cases hveq; rfl
          obtain ⟨au, cu, rfl⟩ := hu.len
          have hlb : j < bs.length := by rw [HX.out.len]; exact hjl
          obtain ⟨bv, hbv⟩ : ∃ b, bs[j]? = some b := ⟨_, List.getElem?_eq_getElem hlb⟩
          have k4 : wz.cell? ⟨W.heap.size, j, none⟩ = some (.bool bv) := by
            have := (HJ.out.2.block W.heap.size (heap_inO HX.out.blk)).trans HX.out.blk
            unfold boO at this
            rw [cell_of_row _ _ _ _ _ _ this]
            simp [hbv]
          clear hveq hbz
          cases bv with
          | false =>
            have hpk := pick_no (L := L) hbv
            have HE := Lib.hid (show StsOwn wq.heap.size wz (.slice aA (pick L bs (j + 1)).length cA) (pick L bs (j + 1)) ∧ Below wq.heap.size wq wz by rw [hpk]; exact HJ.out)
            have hlk : (pick L bs (j + 1)).length = (pick L bs j).length := by rw [hpk]
            clear hpk hbv hs hu
            go_wp2_with fail
            go_roundw
            case measure => simp [intOf] <;> omega
            case rel => exact ⟨j + 1, aA, cA, by simp, by rw [hlk], by omega, HE⟩
          | true =>
            have hpk := pick_yes hbv hs
            have hpl := pick_len L bs j
            obtain ⟨v4, w4, hr4, ho4, hk4⟩ := sts_push HJ.out.1 hu HJ.out.2.size (by omega)
            obtain ⟨a4, c4, rfl⟩ := ho4.reads.len
            have hb4 : Below wq.heap.size wz w4 := hk4.below (fun k e => by
              obtain ⟨vs, h1, _⟩ := HJ.out.1
              exact (h1.lt k e).1) HJ.out.2.size
            have hlk : (pick L bs j ++ [s]).length = (pick L bs j).length + 1 := by simp
            rw [hlk] at hr4 ho4
            have HE := Lib.hid (show StsOwn wq.heap.size w4 (.slice a4 (pick L bs (j + 1)).length c4) (pick L bs (j + 1)) ∧ Below wq.heap.size wq w4 by rw [hpk, hlk]; exact ⟨ho4, HJ.out.2.trans hb4⟩)
            have hlk2 : (pick L bs (j + 1)).length = (pick L bs j).length + 1 := by rw [hpk, hlk]
            clear hpk hbv hs hu hk4 hb4 ho4 hlk
            go_wp2_with fail
            go_roundw
            case measure => simp [intOf] <;> omega
            case rel => exact ⟨j + 1, a4, c4, by simp, by rw [hlk2], by omega, HE⟩
        · obtain rfl : j = L.length := by omega
          have r1 : ¬ ((L.length : Int) < (L.length : Int)) := by omega
          have hbz := HX.out.bel.trans (HJ.out.2.mono HX.out.bel.size)
          have hmem := pick_exits HX.out HP.out.is (fun q hq => (HP.out.lt q hq).2.1)
          have hpl := pick_len L bs L.length
          have HU := Lib.hid (unique_any HJ.out.1.reads (fun s hs => by
            obtain ⟨i, _, _, hi⟩ := pick_mem.1 hs
            have := (HP.out.sr.ok s (List.mem_of_getElem? hi)).2
            omega) (by omega))
          have HM := Lib.hid hmem
          have HBZ := Lib.hid hbz
          clear hbz hmem
          go_wp2_with fail
          refine HU.out.mono ?_
          rintro _ w5 ⟨v5, rfl, r, h5, hus, hb5⟩
          obtain ⟨a5, c5, rfl⟩ := h5.reads.len
          have H5 := Lib.hid (show StsOwn W.heap.size w5 (.slice a5 r.length c5) r ∧ US (exitsL l out) r ∧ Below W.heap.size W w5 from ⟨h5.base HBZ.out.size, hus.congr HM.out, HBZ.out.on hb5⟩)
          clear h5 hus hb5
          go_wp2_with fail
          go_returns
          exact ⟨_, rfl, r, H5.out⟩
end Ln
end Go.Proofs.Ytppjmmdiglnkfaa
