/- Package lin: exits. Package order, plain: what its search does. -/
import Derived.Test.YtppjmmdiglnkfaaQav
namespace Go.Proofs.Ytppjmmdiglnkfaa
set_option maxRecDepth 100000
open Go.ChangeShapes Go.WideShapes Go.ChangeAt Go.RowKit Go.PlainAid Go.Deep
namespace Ln
attribute [local go_sem ↓ high] app_st
open Classical in
/-- Are all answered operations done? -/
noncomputable def exitB (l : List OpV) (m : Nat) : Bool := decide (∀ k, doneP l k = true → m.testBit k = true)
open Classical in
theorem exit_iff {l : List OpV} {m : Nat} : exitB l m = true ↔ ∀ k, doneP l k = true → m.testBit k = true := by
  unfold exitB
  exact decide_eq_true_iff
/-- The states of the spots that lack no answered operation. -/
noncomputable def exitsL (l : List OpV) (out : List Spt) : List (List Int) := (out.filter fun p => exitB l p.1).map Prod.snd
theorem exit_dn {l : List OpV} {dn : Nat} (h : Mk dn (doneP l)) (m : Nat) : notN dn m = 0 ↔ exitB l m = true := by
  rw [notN_zero (by have := h.lt; omega), exit_iff]
  exact ⟨fun k j hj => k j ((h.bit j).trans hj), fun k j hj => k j ((h.bit j).symm.trans hj)⟩
/-- A row of truths. -/
def boO (bs : List Bool) : Obj := .cells (bs.map Value.bool).toArray 4
theorem boO_set (bs : List Bool) (i : Nat) (b : Bool) : ((bs.map Value.bool).toArray.setIfInBounds i (.bool b)) = ((bs.set i b).map Value.bool).toArray := by simp
theorem make_bool (n : Nat) (hn : n ≤ 100000000) (w : World) : (Instr.makeSlice 59 (.int .i64 (n : Int)) (.int .i64 (n : Int))).run Try.prog w = .ok (.slice (some ⟨w.heap.size, 0, none⟩) n n) (w.alloc (boO (List.replicate n false))) := by
  obtain ⟨i0, hi, hz0, hz1, hz2⟩ := info_parts (show (Try.prog.info? 4).map (fun i => (i.zero, i.size, i.bytes)) = some (some (.bool false), 1, 1) by kernel_rfl)
  have h := run_make (P := Try.prog) w 59 4 i0 _ Try.underlying59 hi hz0 .i64 .i64 n n (by omega) (by omega) (by rw [hz2]; omega) (by omega)
  rw [h]
  simp only [Int.toNat_natCast, hz1, Nat.mul_one]
  have e : madeCells (Value.bool false).cells n = ((List.replicate n false).map Value.bool).toArray := by
    apply Array.ext'
    simp [madeCells, Value.cells]
    exact List.ext_getElem (by simp) fun i h1 h2 => by simp [Nat.mod_one]
  unfold boO
  rw [e]
/-- Which states are exits of some places. -/
structure ExI (l : List OpV) (L : List (List Int)) (W wr : World) (ps : List ((Nat × Nat) × Nat)) (bs : List Bool) : Prop where
  bel : Below W.heap.size W wr
  blk : wr.heap[W.heap.size]? = some (boO bs)
  len : bs.length = L.length
  is : ∀ n, bs[n]? = some true ↔ n < L.length ∧ ∃ q ∈ ps, q.1.2 = n ∧ exitB l q.1.1 = true
theorem ExI.on {l : List OpV} {L : List (List Int)} {W wr w' : World} {ps : List ((Nat × Nat) × Nat)} {bs : List Bool} (h : ExI l L W wr ps bs) (hb : Below wr.heap.size wr w') : ExI l L W w' ps bs := ⟨h.bel.on hb, (hb.block _ (heap_inO h.blk)).trans h.blk, h.len, h.is⟩
theorem ExI.skip {l : List OpV} {L : List (List Int)} {W wr : World} {ps : List ((Nat × Nat) × Nat)} {bs : List Bool} (h : ExI l L W wr ps bs) {q : (Nat × Nat) × Nat} (hq : exitB l q.1.1 = false) : ExI l L W wr (ps ++ [q]) bs :=
  ⟨h.bel, h.blk, h.len, fun n => (h.is n).trans ⟨fun ⟨a, x, hx, b⟩ => ⟨a, x, List.mem_append_left _ hx, b⟩, fun ⟨a, x, hx, b, c⟩ => by
    rcases List.mem_append.1 hx with hx | hx
    · exact ⟨a, x, hx, b, c⟩
    · rw [List.mem_singleton.1 hx, hq] at c; cases c⟩⟩
theorem ExI.set {l : List OpV} {L : List (List Int)} {W wr : World} {ps : List ((Nat × Nat) × Nat)} {bs : List Bool} (h : ExI l L W wr ps bs) {q : (Nat × Nat) × Nat} (hq : exitB l q.1.1 = true) (hl : q.1.2 < L.length) : ExI l L W (wr.setCell ⟨W.heap.size, q.1.2, none⟩ (.bool true)) (ps ++ [q]) (bs.set q.1.2 true) := by
  have hk : Keeps (fun k => k = W.heap.size) wr (wr.setCell ⟨W.heap.size, q.1.2, none⟩ (.bool true)) := (Keeps.refl (fun k => k = W.heap.size) wr).setCell (.inl (by rfl)) _
  refine ⟨h.bel.trans (hk.below (fun k e => by omega) h.bel.size), ?_, by rw [List.length_set]; exact h.len, fun n => ?_⟩
  · have := heap_setCell_same wr W.heap.size q.1.2 _ _ (.bool true) h.blk
    rw [boO_set] at this
    exact this
  · by_cases c : q.1.2 = n
    · subst c
      rw [List.getElem?_set_self (by rw [h.len]; exact hl)]
      exact ⟨fun _ => ⟨hl, q, by simp, rfl, hq⟩, fun _ => rfl⟩
    · rw [List.getElem?_set_ne c, h.is n]
      constructor
      · rintro ⟨a, x, hx, b⟩
        exact ⟨a, x, List.mem_append_left _ hx, b⟩
      · rintro ⟨a, x, hx, b, d⟩
        rcases List.mem_append.1 hx with hx | hx
        · exact ⟨a, x, hx, b, d⟩
        · rw [List.mem_singleton.1 hx] at b; exact absurd b c
/-- The states whose truth is so, one by one. -/
def pick (L : List (List Int)) (bs : List Bool) (n : Nat) : List (List Int) := (List.range n).filterMap fun i => if bs[i]? = some true then L[i]? else none
theorem pick_yes {L : List (List Int)} {bs : List Bool} {n : Nat} {s : List Int} (h : bs[n]? = some true) (hs : L[n]? = some s) : pick L bs (n + 1) = pick L bs n ++ [s] := by
  unfold pick
  rw [List.range_succ, List.filterMap_append]
  simp [h, hs]
theorem pick_no {L : List (List Int)} {bs : List Bool} {n : Nat} (h : bs[n]? = some false) : pick L bs (n + 1) = pick L bs n := by
  unfold pick
  rw [List.range_succ, List.filterMap_append]
  simp [h]
theorem pick_len (L : List (List Int)) (bs : List Bool) (n : Nat) : (pick L bs n).length ≤ n := by
  unfold pick
  refine Nat.le_trans (List.length_filterMap_le _ _) ?_
  rw [List.length_range]
  exact Nat.le_refl _
theorem pick_mem {L : List (List Int)} {bs : List Bool} {n : Nat} {s : List Int} : s ∈ pick L bs n ↔ ∃ i, i < n ∧ bs[i]? = some true ∧ L[i]? = some s := by
  unfold pick
  rw [List.mem_filterMap]
  constructor
  · rintro ⟨i, hi, h⟩
    split at h
    · rename_i hb; exact ⟨i, List.mem_range.1 hi, hb, h⟩
    · cases h
  · rintro ⟨i, hi, hb, h⟩
    exact ⟨i, List.mem_range.2 hi, by rw [if_pos hb]; exact h⟩
theorem pick_exits {l : List OpV} {L : List (List Int)} {W wr : World} {ps : List ((Nat × Nat) × Nat)} {bs : List Bool} {out : List Spt} (h : ExI l L W wr ps bs) (hi : ps.map (fun p => dec L p.1) = out) (hl : ∀ q ∈ ps, q.1.2 < L.length) (s : List Int) : s ∈ pick L bs L.length ↔ s ∈ exitsL l out := by
  rw [pick_mem]
  unfold exitsL
  rw [List.mem_map]
  constructor
  · rintro ⟨i, hil, hb, hs⟩
    obtain ⟨_, q, hq, rfl, he⟩ := (h.is i).1 hb
    refine ⟨dec L q.1, List.mem_filter.2 ⟨by rw [← hi]; exact List.mem_map.2 ⟨q, hq, rfl⟩, he⟩, ?_⟩
    unfold dec
    rw [hs]; rfl
  · rintro ⟨p, hp, rfl⟩
    obtain ⟨hp, he⟩ := List.mem_filter.1 hp
    rw [← hi] at hp
    obtain ⟨q, hq, rfl⟩ := List.mem_map.1 hp
    refine ⟨q.1.2, hl q hq, (h.is _).2 ⟨hl q hq, q, hq, rfl, he⟩, ?_⟩
    unfold dec
    rw [List.getElem?_eq_getElem (hl q hq)]
    rfl
end Ln
end Go.Proofs.Ytppjmmdiglnkfaa
namespace Go.Proofs.Ytppjmmdiglnkfaa
set_option maxRecDepth 100000
namespace Od
open Ln
/-- A spot: how many pieces are done, the operations of the next one that are, and the state. -/
abbrev Spo := Nat × Nat × List Int
/-- What a search has so far: spots that lead nowhere, those met, and the order, from its end. -/
structure Stt where
  dead : List Spo
  seen : List Spo
  back : List Int
noncomputable def stepP (l : List OpV) (x : Spo) (i : Nat) : Option Spo := (nx1 l x.2 i).map fun q => (x.1, q)
def idAt (l : List OpV) (i : Nat) : Int := match l[i]? with | some o => o.id | none => 0
/-- The operations of a piece. -/
def pieceAt (P : List (List OpV)) (k : Nat) : List OpV := (P[k]?).getD []
noncomputable def goL (lim : Int) (E : Stt → Spo → Stt × Bool) (l : List OpV) (x : Spo) : List Nat → Stt → Stt × Bool
  | [], s => (s, false)
  | i :: r, s => if lim < (s.seen.length : Int) then (s, false) else match stepP l x i with
    | none => goL lim E l x r s
    | some y => if (E s y).2 = true then ({(E s y).1 with back := (E s y).1.back ++ [idAt l i]}, true) else goL lim E l x r (E s y).1
def Stt.meet (s : Stt) (x : Spo) : Stt := {s with seen := x :: s.seen}
def Stt.bury (s : Stt) (x : Spo) : Stt := {s with dead := x :: s.dead}
/-- What is told of a spot that was met. -/
def tellP (x : Spo) (r : Stt × Bool) : Stt × Bool := if r.2 = true then r else (r.1.bury x, false)
open Classical in
noncomputable def endsF (lim : Int) (P : List (List OpV)) : Nat → Stt → Spo → Stt × Bool
  | 0, s, _ => (s, false)
  | f + 1, s, x => if x.1 = P.length then (s, true) else if x ∈ s.dead then (s, false) else
    tellP x (if exitB (pieceAt P x.1) x.2.1 = true then endsF lim P f (s.meet x) (x.1 + 1, 0, x.2.2) else goL lim (endsF lim P f) (pieceAt P x.1) x (List.range' 0 (pieceAt P x.1).length) (s.meet x))
theorem goL_over {lim : Int} {E : Stt → Spo → Stt × Bool} {l : List OpV} {x : Spo} {s : Stt} (h : lim < (s.seen.length : Int)) : ∀ r, goL lim E l x r s = (s, false)
  | [] => rfl
  | i :: r => by rw [goL, if_pos h]
theorem goL_skip {lim : Int} {E : Stt → Spo → Stt × Bool} {l : List OpV} {x : Spo} {s : Stt} {i : Nat} {r : List Nat} (h : ¬ lim < (s.seen.length : Int)) (hs : stepP l x i = none) : goL lim E l x (i :: r) s = goL lim E l x r s := by rw [goL, if_neg h, hs]
theorem goL_yes {lim : Int} {E : Stt → Spo → Stt × Bool} {l : List OpV} {x y : Spo} {s : Stt} {i : Nat} {r : List Nat} (h : ¬ lim < (s.seen.length : Int)) (hs : stepP l x i = some y) (he : (E s y).2 = true) : goL lim E l x (i :: r) s = ({(E s y).1 with back := (E s y).1.back ++ [idAt l i]}, true) := by rw [goL, if_neg h, hs]; simp only; rw [if_pos he]
theorem goL_no {lim : Int} {E : Stt → Spo → Stt × Bool} {l : List OpV} {x y : Spo} {s : Stt} {i : Nat} {r : List Nat} (h : ¬ lim < (s.seen.length : Int)) (hs : stepP l x i = some y) (he : (E s y).2 = false) : goL lim E l x (i :: r) s = goL lim E l x r (E s y).1 := by rw [goL, if_neg h, hs]; simp only; rw [if_neg (by rw [he]; decide)]
open Classical in
theorem ends_end {lim : Int} {P : List (List OpV)} {f : Nat} {s : Stt} {x : Spo} (h : x.1 = P.length) : endsF lim P (f + 1) s x = (s, true) := by rw [endsF, if_pos h]
open Classical in
theorem ends_dead {lim : Int} {P : List (List OpV)} {f : Nat} {s : Stt} {x : Spo} (h : x.1 ≠ P.length) (hd : x ∈ s.dead) : endsF lim P (f + 1) s x = (s, false) := by rw [endsF, if_neg h, if_pos hd]
open Classical in
theorem ends_up {lim : Int} {P : List (List OpV)} {f : Nat} {s : Stt} {x : Spo} (h : x.1 ≠ P.length) (hd : x ∉ s.dead) (he : exitB (pieceAt P x.1) x.2.1 = true) : endsF lim P (f + 1) s x = tellP x (endsF lim P f (s.meet x) (x.1 + 1, 0, x.2.2)) := by rw [endsF, if_neg h, if_neg hd, if_pos he]
open Classical in
theorem ends_go {lim : Int} {P : List (List OpV)} {f : Nat} {s : Stt} {x : Spo} (h : x.1 ≠ P.length) (hd : x ∉ s.dead) (he : exitB (pieceAt P x.1) x.2.1 = false) : endsF lim P (f + 1) s x = tellP x (goL lim (endsF lim P f) (pieceAt P x.1) x (List.range' 0 (pieceAt P x.1).length) (s.meet x)) := by rw [endsF, if_neg h, if_neg hd, if_neg (by rw [he]; decide)]
/-- What only grows. -/
structure Gr (s t : Stt) : Prop where
  seen : ∃ r, t.seen = r ++ s.seen
  dead : ∀ d ∈ s.dead, d ∈ t.dead
  few : t.dead.length + s.seen.length ≤ s.dead.length + t.seen.length
theorem Gr.refl (s : Stt) : Gr s s := ⟨⟨[], rfl⟩, fun _ h => h, Nat.le_refl _⟩
theorem Gr.trans {a b c : Stt} (h : Gr a b) (k : Gr b c) : Gr a c := by
  obtain ⟨r, hr⟩ := h.seen
  obtain ⟨q, hq⟩ := k.seen
  refine ⟨⟨q ++ r, by rw [hq, hr, List.append_assoc]⟩, fun d hd => k.dead d (h.dead d hd), ?_⟩
  have := h.few
  have := k.few
  omega
theorem Gr.len {s t : Stt} (h : Gr s t) : s.seen.length ≤ t.seen.length := by
  obtain ⟨r, hr⟩ := h.seen
  rw [hr, List.length_append]
  omega
theorem goL_gr {lim : Int} {E : Stt → Spo → Stt × Bool} (hE : ∀ s y, Gr s (E s y).1) (l : List OpV) (x : Spo) : ∀ (r : List Nat) (s : Stt), Gr s (goL lim E l x r s).1
  | [], s => Gr.refl s
  | i :: r, s => by
    by_cases h : lim < (s.seen.length : Int)
    · rw [goL_over h]; exact Gr.refl s
    · cases hs : stepP l x i with
      | none => rw [goL_skip h hs]; exact goL_gr hE l x r s
      | some y =>
        cases he : (E s y).2 with
        | true =>
          rw [goL_yes h hs he]
          have := hE s y
          exact ⟨this.seen, this.dead, this.few⟩
        | false => rw [goL_no h hs he]; exact (hE s y).trans (goL_gr hE l x r _)
theorem tell_gr {x : Spo} {s : Stt} {r : Stt × Bool} (h : Gr (s.meet x) r.1) : Gr s (tellP x r).1 := by
  obtain ⟨q, hq⟩ := h.seen
  have hf := h.few
  have e : (s.meet x).seen = x :: s.seen := rfl
  have e2 : (s.meet x).dead = s.dead := rfl
  rw [e, e2, List.length_cons] at hf
  rw [e] at hq
  unfold tellP
  split
  · exact ⟨⟨q ++ [x], by rw [hq]; simp⟩, h.dead, by omega⟩
  · refine ⟨⟨q ++ [x], by show r.1.seen = _; rw [hq]; simp⟩, fun d hd => List.mem_cons_of_mem _ (h.dead d hd), ?_⟩
    show (x :: r.1.dead).length + _ ≤ _ + r.1.seen.length
    rw [List.length_cons]
    omega
open Classical in
theorem ends_gr (lim : Int) (P : List (List OpV)) : ∀ (f : Nat) (s : Stt) (x : Spo), Gr s (endsF lim P f s x).1
  | 0, s, _ => Gr.refl s
  | f + 1, s, x => by
    by_cases h : x.1 = P.length
    · rw [ends_end h]; exact Gr.refl s
    · by_cases hd : x ∈ s.dead
      · rw [ends_dead h hd]; exact Gr.refl s
      · cases he : exitB (pieceAt P x.1) x.2.1 with
        | true => rw [ends_up h hd he]; exact tell_gr (ends_gr lim P f _ _)
        | false => rw [ends_go h hd he]; exact tell_gr (goL_gr (ends_gr lim P f) _ _ _ _)
/-- How many are met beyond a limit. -/
theorem goL_most {lim : Int} {E : Stt → Spo → Stt × Bool} {l : List OpV} {x : Spo} {n : Nat} (hE : ∀ s y, y.1 = x.1 → (s.seen.length : Int) ≤ lim → ((E s y).1.seen.length : Int) ≤ lim + 1 + n) : ∀ (r : List Nat) (s : Stt), ((goL lim E l x r s).1.seen.length : Int) ≤ max (s.seen.length : Int) (lim + 1 + n)
  | [], s => by show (s.seen.length : Int) ≤ _; omega
  | i :: r, s => by
    by_cases h : lim < (s.seen.length : Int)
    · rw [goL_over h]; show (s.seen.length : Int) ≤ _; omega
    · cases hs : stepP l x i with
      | none => rw [goL_skip h hs]; exact goL_most (l := l) (x := x) (n := n) hE r s
      | some y =>
        have hy : y.1 = x.1 := by
          unfold stepP at hs
          obtain ⟨q, _, rfl⟩ := Option.map_eq_some_iff.1 hs
          rfl
        have h1 := hE s y hy (by omega)
        cases he : (E s y).2 with
        | true =>
          rw [goL_yes h hs he]
          show ((E s y).1.seen.length : Int) ≤ _
          omega
        | false =>
          rw [goL_no h hs he]
          have := goL_most (l := l) (x := x) (n := n) hE r (E s y).1
          omega
theorem tell_seen (x : Spo) (r : Stt × Bool) : (tellP x r).1.seen = r.1.seen := by
  unfold tellP
  split <;> rfl
open Classical in
theorem ends_most {lim : Int} (P : List (List OpV)) : ∀ (f : Nat) (s : Stt) (x : Spo), x.1 ≤ P.length → ((endsF lim P f s x).1.seen.length : Int) ≤ max ((s.seen.length : Int) + 1) (lim + 1) + (P.length - x.1 : Nat)
  | 0, s, x, _ => by show (s.seen.length : Int) ≤ _; omega
  | f + 1, s, x, hx => by
    by_cases h : x.1 = P.length
    · rw [ends_end h]; show (s.seen.length : Int) ≤ _; omega
    · by_cases hd : x ∈ s.dead
      · rw [ends_dead h hd]; show (s.seen.length : Int) ≤ _; omega
      · have em : (s.meet x).seen.length = s.seen.length + 1 := rfl
        cases he : exitB (pieceAt P x.1) x.2.1 with
        | true =>
          rw [ends_up h hd he, tell_seen]
          have := ends_most (lim := lim) P f (s.meet x) (x.1 + 1, 0, x.2.2) (show x.1 + 1 ≤ P.length by omega)
          rw [em] at this
          simp only at this
          omega
        | false =>
          rw [ends_go h hd he, tell_seen]
          have := goL_most (lim := lim) (E := endsF lim P f) (l := pieceAt P x.1) (x := x) (n := P.length - x.1) (fun t y hy ht => by
            have := ends_most (lim := lim) P f t y (by rw [hy]; exact hx)
            rw [hy] at this
            omega) (List.range' 0 (pieceAt P x.1).length) (s.meet x)
          rw [em] at this
          omega
theorem tell_back (x : Spo) (r : Stt × Bool) : (tellP x r).1.back = r.1.back := by
  unfold tellP
  split <;> rfl
theorem tell_ok (x : Spo) (r : Stt × Bool) : (tellP x r).2 = r.2 := by
  unfold tellP
  split
  · rfl
  · rename_i h
    simp at h
    exact h.symm
/-- The order grows on the way back alone. -/
def BackOk (n : Nat) (s : Stt) (r : Stt × Bool) : Prop := (r.2 = false → r.1.back = s.back) ∧ r.1.back.length ≤ s.back.length + n
theorem goL_back {lim : Int} {E : Stt → Spo → Stt × Bool} {l : List OpV} {x : Spo} {n : Nat} (hE : ∀ s y, BackOk n s (E s y)) : ∀ (r : List Nat) (s : Stt), BackOk (n + 1) s (goL lim E l x r s)
  | [], s => ⟨fun _ => rfl, Nat.le_add_right _ _⟩
  | i :: r, s => by
    by_cases h : lim < (s.seen.length : Int)
    · rw [goL_over h]; exact ⟨fun _ => rfl, Nat.le_add_right _ _⟩
    · cases hs : stepP l x i with
      | none => rw [goL_skip h hs]; exact goL_back hE r s
      | some y =>
        obtain ⟨h1, h2⟩ := hE s y
        cases he : (E s y).2 with
        | true =>
          rw [goL_yes h hs he]
          refine ⟨fun e => (by cases e), ?_⟩
          show ((E s y).1.back ++ [idAt l i]).length ≤ _
          rw [List.length_append, List.length_singleton]
          omega
        | false =>
          rw [goL_no h hs he]
          obtain ⟨h3, h4⟩ := goL_back hE r (E s y).1
          rw [h1 he] at h3 h4
          exact ⟨h3, h4⟩
open Classical in
theorem ends_back (lim : Int) (P : List (List OpV)) : ∀ (f : Nat) (s : Stt) (x : Spo), BackOk f s (endsF lim P f s x)
  | 0, s, _ => ⟨fun _ => rfl, Nat.le_add_right _ _⟩
  | f + 1, s, x => by
    by_cases h : x.1 = P.length
    · rw [ends_end h]; exact ⟨fun _ => rfl, Nat.le_add_right _ _⟩
    · by_cases hd : x ∈ s.dead
      · rw [ends_dead h hd]; exact ⟨fun _ => rfl, Nat.le_add_right _ _⟩
      · cases he : exitB (pieceAt P x.1) x.2.1 with
        | true =>
          rw [ends_up h hd he]
          obtain ⟨h1, h2⟩ := ends_back lim P f (s.meet x) (x.1 + 1, 0, x.2.2)
          unfold BackOk
          rw [tell_back, tell_ok]
          exact ⟨h1, Nat.le_trans h2 (by show s.back.length + f ≤ _; omega)⟩
        | false =>
          rw [ends_go h hd he]
          obtain ⟨h1, h2⟩ := goL_back (lim := lim) (l := pieceAt P x.1) (x := x) (ends_back lim P f) (List.range' 0 (pieceAt P x.1).length) (s.meet x)
          unfold BackOk
          rw [tell_back, tell_ok]
          exact ⟨h1, h2⟩
/-! ### How far a spot is from the end -/
def freeN : Nat → Nat → Nat
  | 0, _ => 0
  | n + 1, m => freeN n m + if m.testBit n = true then 0 else 1
theorem free_zero : ∀ n, freeN n 0 = n
  | 0 => rfl
  | n + 1 => by rw [freeN, free_zero n, Nat.zero_testBit]; rfl
theorem free_far {m i : Nat} : ∀ n, n ≤ i → freeN n (m ||| 2 ^ i) = freeN n m
  | 0, _ => rfl
  | n + 1, h => by
    rw [freeN, freeN, free_far n (by omega), Nat.testBit_or, Nat.testBit_two_pow_of_ne (by omega), Bool.or_false]
theorem free_set {m i : Nat} (hm : m.testBit i = false) : ∀ n, i < n → freeN n (m ||| 2 ^ i) + 1 = freeN n m
  | 0, h => by omega
  | n + 1, h => by
    rw [freeN, freeN]
    by_cases c : i = n
    · subst c
      rw [free_far _ (Nat.le_refl _), hm, Nat.testBit_or, Nat.testBit_two_pow_self]
      simp
    · have := free_set hm n (by omega)
      rw [Nat.testBit_or, Nat.testBit_two_pow_of_ne c, Bool.or_false]
      omega
theorem free_le (m : Nat) : ∀ n, freeN n m ≤ n
  | 0 => Nat.le_refl _
  | n + 1 => by
    have := free_le m n
    rw [freeN]
    split <;> omega
/-- All that is left behind some pieces. -/
def muR : List (List OpV) → Nat
  | [] => 0
  | l :: P => l.length + 1 + muR P
def mu (P : List (List OpV)) (x : Spo) : Nat := if x.1 < P.length then freeN (pieceAt P x.1).length x.2.1 + 1 + muR (P.drop (x.1 + 1)) else 0
theorem mu_up {P : List (List OpV)} {x : Spo} (h : x.1 < P.length) : mu P (x.1 + 1, 0, x.2.2) < mu P x := by
  unfold mu
  rw [if_pos h]
  simp only
  split
  · rename_i h2
    rw [List.drop_eq_getElem_cons h2, free_zero]
    have : pieceAt P (x.1 + 1) = P[x.1 + 1] := by unfold pieceAt; rw [List.getElem?_eq_getElem h2]; rfl
    rw [this, muR]
    omega
  · omega
theorem mu_step {P : List (List OpV)} {x y : Spo} {i : Nat} (h : x.1 < P.length) (hs : stepP (pieceAt P x.1) x i = some y) : mu P y < mu P x ∧ y.1 = x.1 := by
  unfold stepP at hs
  obtain ⟨q, hq, rfl⟩ := Option.map_eq_some_iff.1 hs
  obtain ⟨hm, o, t, ho, _, rfl⟩ := nx1_some hq
  have hm := may_iff.1 hm
  have := free_set hm.2.1 (pieceAt P x.1).length hm.1
  refine ⟨?_, rfl⟩
  unfold mu
  rw [if_pos h, if_pos h]
  simp only
  omega
theorem mu_pos {P : List (List OpV)} {x : Spo} (h : x.1 < P.length) : 0 < mu P x := by
  unfold mu
  rw [if_pos h]
  omega
end Od
end Go.Proofs.Ytppjmmdiglnkfaa
