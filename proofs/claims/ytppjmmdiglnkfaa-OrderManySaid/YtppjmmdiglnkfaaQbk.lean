/- slices.Reverse of numbers: the contract of the shelf at this program Package order: a row of numbers reversed; the pieces, one by one. -/
import Derived.Shelf.Strings.Builder1
import Derived.Shelf.Strings.BuilderF
import Derived.Shelf.Strings.BuilderK
import Derived.Shelf.Sort.Plain
import Derived.Shelf.Slices.Reverse
import Derived.Ground.Names2Prog
import Derived.Shelf.Slices.Clone
import Derived.Shelf.Slices.CompactS
import Derived.Shelf.Slices.SearchI
import Derived.Shelf.Slices.Delete
import Derived.Test.YtppjmmdiglnkfaaRows
import Derived.Test.YtppjmmdiglnkfaaQbj
import Derived.Sort.OwnSortedInts
import Derived.Test.YtppjmmdiglnkfaaQar
namespace Go.Proofs.Ytppjmmdiglnkfaa
set_option maxRecDepth 100000
open Go.Shelf
def sh_lays112_ren : Go.Shelf.Ren := ⟨fun | 112 => 37 | n => n, fun | 28 => 27 | 3 => 3 | 4 => 4 | 0 => 0 | n => n, fun | n => n⟩
theorem sh_lays112 : Go.Proofs.Lays.n112 Try.prog sh_lays112_ren := {
  mixed := by kernel_rfl
  f112 := Try.func37.trans (congrArg some (by kernel_rfl))
  t0 := Try.underlying0
  a0 := Try.isAgg0
  z0 := Try.sizeOf0
  v0 := Try.zeroValue0
  t3 := Try.underlying3
  a3 := Try.isAgg3
  z3 := Try.sizeOf3
  v3 := Try.zeroValue3
  t4 := Try.underlying4
  a4 := Try.isAgg4
  z4 := Try.sizeOf4
  v4 := Try.zeroValue4
  t28 := Try.underlying27
  a28 := Try.isAgg27
  z28 := Try.sizeOf27
  v28 := Try.zeroValue27 }
open Go.RowKit Go.Lib Go.Sort in
/-- slices.Reverse at []int: "Reverse reverses the elements of the slice in place.": THE SLICE's CELLS HOLD 'zs.reverse' BEHIND THE CALL; all else is as it was, but for the count of draws (the exchange 's[i], s[j] = s[j], s[i]' draws its order, once a round). IN THE WORDS OF slices.Sort's CONTRACT: 'Holds': the cells hold zs and none is frozen; 'putRow': the world with those cells holding another array. A slice of length 0 that is not nil is among them ('zs = []'); nil: '.._nil'. (LAID: no walk: one application.) -/
theorem sh_slices_Reverse_int (blk off cap : Nat) (zs : List Int) (w : World) (hH : Holds (Value.int .i64) w blk off zs.toArray) (hsz : zs.length ≤ 9223372036854775807) :
    Calls Try.prog 37 #[.slice (some ⟨blk, off, none⟩) zs.length cap] w fun e w' => e = .returned (.tuple #[]) ∧ ∃ n, w' = putRow (Value.int .i64) (Sort.ahead w n) blk off zs.reverse.toArray := Any.slices_Reverse_int sh_lays112 blk off cap zs w hH hsz
open Go.RowKit Go.Lib Go.Sort in
/-- The same at a slice of length 0, a nil one too: nothing is read, nothing written, nothing drawn. (LAID: no walk: one application.) -/
theorem sh_slices_Reverse_int_empty (a : Option Addr) (cap : Nat) (w : World) :
    Calls Try.prog 37 #[.slice a 0 cap] w fun e w' => e = .returned (.tuple #[]) ∧ w' = w := Any.slices_Reverse_int_empty sh_lays112 a cap w
end Go.Proofs.Ytppjmmdiglnkfaa
namespace Go.Proofs.Ytppjmmdiglnkfaa
set_option maxRecDepth 100000
open Go.ChangeShapes Go.WideShapes Go.ChangeAt Go.RowKit Go.PlainAid Go.Deep
namespace Od
open Ln Cu
theorem rev_any {n₀ : Nat} {w : World} {v : Value} {L : List Int} (h : OwnI n₀ w v L) (hl : L.length ≤ 1000000) : Calls Try.prog 37 #[v] w fun e w' => e = .returned (.tuple #[]) ∧ OwnI n₀ w' v L.reverse ∧ Keeps (OwnB v) w w' := by
  obtain ⟨h1, h2⟩ := h
  have hr : ∀ x ∈ L.reverse, -9223372036854775808 ≤ x ∧ x ≤ 9223372036854775807 := fun x hx => h2 x (List.mem_reverse.1 hx)
  rcases h1 with ⟨rfl, ao, rfl⟩ | ⟨g, o, cap, cur, rfl, hn, hg, hlc, hs, hm, hc⟩
  · refine (sh_slices_Reverse_int_empty ao 0 w).mono ?_
    rintro _ _ ⟨rfl, rfl⟩
    exact ⟨rfl, ⟨.inl ⟨rfl, ao, rfl⟩, hr⟩, Keeps.refl _ _⟩
  · by_cases h0 : L = []
    · subst h0
      refine (sh_slices_Reverse_int_empty (some ⟨g, o, none⟩) cap w).mono ?_
      rintro _ _ ⟨rfl, rfl⟩
      exact ⟨rfl, ⟨.inr ⟨g, o, cap, cur, rfl, hn, hg, hlc, hs, hm, hc⟩, hr⟩, Keeps.refl _ _⟩
    have hpos := List.length_pos_iff.2 h0
    have hH : Sort.Holds (Value.int .i64) w g o L.toArray := fun j hj => by
      have hj' : j < L.length := by simpa using hj
      refine ⟨?_, by simp [World.frozen?, hg]⟩
      rw [cell_of_row _ _ _ _ _ _ hg, hc j L[j] (List.getElem?_eq_getElem hj')]
      simp [hj']
    refine (sh_slices_Reverse_int g o cap L w hH (by omega)).mono ?_
    rintro _ _ ⟨rfl, n, rfl⟩
    have hb : (Sort.putRow (Value.int .i64) (Sort.ahead w n) g o L.reverse.toArray).heap[g]? = some (.cells (Sort.putCells (Value.int .i64) o L.reverse.toArray cur) 3 (0, 0)) := by
      simp [Sort.putRow, Sort.mapBlock, Sort.ahead, Array.getElem?_modify, hg, Sort.onCells]
    refine ⟨rfl, ⟨.inr ⟨g, o, cap, _, by rw [List.length_reverse], hn, hb, by rw [List.length_reverse]; exact hlc, by simpa [Sort.putCells] using hs, hm, fun i x hi => ?_⟩, hr⟩, ⟨rfl, rfl, rfl, by simp [Sort.putRow, Sort.mapBlock, Sort.ahead], fun k hk hne => ?_⟩⟩
    · have hil : i < L.length := by have := (List.getElem?_eq_some_iff.1 hi).1; rwa [List.length_reverse] at this
      have hoc : o + i < cur.size := by omega
      have hd : L.reverse.toArray[i]! = x := by
        obtain ⟨h3, h4⟩ := List.getElem?_eq_some_iff.1 hi
        rw [getElem!_pos _ i (by simpa using hil)]
        simpa using h4
      unfold Sort.putCells
      rw [Array.getElem?_mapIdx, Array.getElem?_eq_getElem hoc, Option.map_some, if_pos ⟨by omega, by simp; omega⟩, show o + i - o = i by omega, hd]
    · by_cases c : g = k
      · subst c
        exfalso
        exact hne ⟨o, L.length, cap - 1, by rw [show cap - 1 + 1 = cap by omega]⟩
      · simp [Sort.putRow, Sort.mapBlock, Sort.ahead, Array.getElem?_modify, c]
/-! ### The pieces -/
def rtPc : RT := ⟨70, 64, .agg #[.slice none 0 0, .slice none 0 0, .int .u32 0], 3, 56⟩
theorem rtPc_good : rtPc.Good := ⟨Try.underlying64, by kernel_rfl, rfl, by decide, by decide⟩
def appPc (vs : Array Value) : Sem Value := Builtin.append_ #[64, 64] 64 vs
theorem app_pc (vs : Array Value) : Builtin.append_ #[64, 64] 64 vs = appPc vs := rfl
theorem mfirst_any (k : Int) (w : World) : Calls Try.prog 35 #[.int .i64 k] w fun e w' => ∃ v', e = .returned v' ∧ IntsOf w' v' (firstC k) ∧ Below w.heap.size w w' := by
  by_cases c1 : k = 1
  · have HA := Lib.hid (show firstC k = [0] by simp [firstC, c1])
    subst c1
    go_enter Try.func35, Try.ntmps35
    go_wp2_with fail
    go_returns
    exact ⟨_, rfl, by rw [HA.out]; exact (OwnI.fresh w (Nat.le_refl _) 0 (by omega)).reads, by go_grown⟩
  · have q1 : (k == 1) = false := beq_eq_false_iff_ne.2 c1
    by_cases c2 : k = 2
    · have HA := Lib.hid (show firstC k = [0] by simp [firstC, c2])
      subst c2
      clear c1 q1
      go_enter Try.func35, Try.ntmps35
      go_wp2_with fail
      go_returns
      exact ⟨_, rfl, by rw [HA.out]; exact (OwnI.fresh w (Nat.le_refl _) 0 (by omega)).reads, by go_grown⟩
    · have q2 : (k == 2) = false := beq_eq_false_iff_ne.2 c2
      have HA := Lib.hid (show firstC k = [] by simp [firstC, c1, c2])
      clear c1 c2
      go_enter Try.func35, Try.ntmps35
      go_wp2_with fail
      go_returns
      exact ⟨_, rfl, by rw [HA.out]; exact .inl ⟨rfl, none, 0, rfl⟩, by go_grown⟩
/-- What stands in memory while pieces are made: i of the segments are. -/
structure LsI (w : World) (bS bM : Nat) (lim : Int) (sc : Array Value) (vps : Value) (ps : List (SegV × Value)) (i : Nat) (wr : World) (v : Value) (P : List (List OpV)) : Prop where
  bel : Below w.heap.size w wr
  seg0 : wr.heap[w.heap.size]? = some (.cells sc 24 (0, 0))
  segs : wr.ownsRow w.heap.size 24 3 vps ps.length (flatS ps)
  bs : wr.heap[bS]? = some (soO v bM 0 lim (.slice none 0 0))
  mm : wr.heap[bM]? = some (.map #[] 0)
  row : ∃ cs, wr.ownsRow w.heap.size 70 3 v P.length cs ∧ ∀ k l, P[k]? = some l → ∃ q va vd, ps[k]? = some q ∧ cs[k * 3]? = some q.2 ∧ cs[k * 3 + 1]? = some va ∧ cs[k * 3 + 2]? = some vd ∧ Pc wr l q.2 va vd ∧ l.Perm q.1.ops ∧ l.Pairwise fun x y => ltO cfId y x = false
  len : P.length = i
  olds : ∀ j q, i ≤ j → ps[j]? = some q → OpsOwn w.heap.size wr q.2 q.1.ops
  base : w.heap.size ≤ bS ∧ w.heap.size ≤ bM
theorem LsI.on {w : World} {bS bM : Nat} {lim : Int} {sc : Array Value} {vps : Value} {ps : List (SegV × Value)} {i : Nat} {wr w' : World} {v : Value} {P : List (List OpV)} (h : LsI w bS bM lim sc vps ps i wr v P) (hb : Below wr.heap.size wr w') : LsI w bS bM lim sc vps ps i w' v P := by
  obtain ⟨cs, h1, h3⟩ := h.row
  refine ⟨h.bel.on hb, (hb.block _ (heap_inO h.seg0)).trans h.seg0, ownsRow_onI h.segs hb, (hb.block _ (heap_inO h.bs)).trans h.bs, (hb.block _ (heap_inO h.mm)).trans h.mm, ⟨cs, ownsRow_onI h1 hb, fun k l hk => ?_⟩, h.len, fun j q hj hq => (h.olds j q hj hq).on hb, h.base⟩
  obtain ⟨q, va, vd, a, b, c, d, e, f⟩ := h3 k l hk
  exact ⟨q, va, vd, a, b, c, d, e.on hb, f⟩
theorem pw_ne {ps : List (SegV × Value)} (h : ps.Pairwise fun p r => p.2.ownBlock = none ∨ p.2.ownBlock ≠ r.2.ownBlock) {j k : Nat} {q r : SegV × Value} (hj : ps[j]? = some q) (hk : ps[k]? = some r) (hne : j ≠ k) : ∀ b, q.2.ownBlock = some b → r.2.ownBlock ≠ some b := by
  intro b hb hr
  obtain ⟨h1, rfl⟩ := List.getElem?_eq_some_iff.1 hj
  obtain ⟨h2, rfl⟩ := List.getElem?_eq_some_iff.1 hk
  rw [List.pairwise_iff_getElem] at h
  rcases Nat.lt_or_ge j k with c | c
  · rcases h j k h1 h2 c with e | e
    · rw [hb] at e; cases e
    · exact e (by rw [hb, hr])
  · rcases h k j h2 h1 (by omega) with e | e
    · rw [hr] at e; cases e
    · exact e (by rw [hb, hr])
theorem own_ty {n₀ : Nat} {W : World} {u : Value} {l : List OpV} (h : OpsOwn n₀ W u l) {b : Nat} (hb : u.ownBlock = some b) : n₀ ≤ b ∧ ∃ cur, W.heap[b]? = some (.cells cur 43 (0, 0)) := by
  rcases h.2 with ⟨rfl, _⟩ | ⟨g, cap, cur, rfl, hn, hg, _⟩
  · simp [Value.ownBlock] at hb
  · obtain rfl : g = b := by simpa [Value.ownBlock] using hb
    exact ⟨hn, cur, hg⟩
theorem row_ty {n₀ : Nat} {T : TypeId} {W : World} {k n : Nat} {u : Value} {cs : List Value} (h : W.ownsRow n₀ T k u n cs) {b : Nat} (hb : u.ownBlock = some b) : n₀ ≤ b ∧ ∃ cur, W.heap[b]? = some (.cells cur T (0, 0)) := by
  rcases h.2 with ⟨rfl, _⟩ | ⟨g, cap, cur, rfl, hn, hg, _⟩
  · simp [Value.ownBlock] at hb
  · obtain rfl : g = b := by simpa [Value.ownBlock] using hb
    exact ⟨hn, cur, hg⟩
theorem ty_ne {W : World} {b : Nat} {c c' : Array Value} {T T' : TypeId} (h : W.heap[b]? = some (.cells c T (0, 0))) (h' : W.heap[b]? = some (.cells c' T' (0, 0))) : T = T' := by
  rw [h] at h'
  exact (Obj.cells.inj (Option.some.inj h')).2.1
/-- A piece more. -/
theorem LsI.next {w : World} {bS bM : Nat} {lim : Int} {sc : Array Value} {vps : Value} {ps : List (SegV × Value)} {i : Nat} {wr w4 : World} {v : Value} {P : List (List OpV)} (h : LsI w bS bM lim sc vps ps i wr v P) (hp : ps.Pairwise fun p r => p.2.ownBlock = none ∨ p.2.ownBlock ≠ r.2.ownBlock) {q : SegV × Value} (hq : ps[i]? = some q) (hi : i ≤ 1000000) (hk : Keeps (fun k => q.2.ownBlock = some k) wr w4) {S : List OpV} {va vd : Value} (hpc : Pc w4 S q.2 va vd) (hpm : S.Perm q.1.ops) (hst : S.Pairwise fun x y => ltO cfId y x = false) :
    ∃ v' w5, w4.cell? ⟨bS, 0, none⟩ = some v ∧ (∀ o, (w4.alloc o).cell? ⟨bS, 0, none⟩ = some v) ∧ (∃ ao cap, v = .slice ao P.length cap) ∧ (appPc #[v, .slice (some ⟨w4.heap.size, 0, none⟩) 1 1]).run Try.prog (w4.alloc (.cells #[q.2, va, vd] 70)) = .ok v' w5 ∧ (∃ ao cap, v' = .slice ao (P.length + 1) cap) ∧ w5.cell? ⟨bS, 0, none⟩ = some v ∧ w5.frozen? ⟨bS, 0, none⟩ = false ∧
      LsI w bS bM lim sc vps ps (i + 1) (w5.setCell ⟨bS, 0, none⟩ v') v' (P ++ [S]) := by
  obtain ⟨cs, hrow, hat⟩ := h.row
  have hqo := h.olds i q (Nat.le_refl _) hq
  -- behind the sort
  have nq : ∀ T g cur, q.2.ownBlock = some g → T ≠ 43 → wr.heap[g]? = some (.cells cur T (0, 0)) → False := fun T g cur e hT hg => by
    obtain ⟨_, cur', hg'⟩ := own_ty hqo e
    exact hT (ty_ne hg hg')
  have nqm : ∀ g, q.2.ownBlock = some g → g ≠ bM := fun g e e2 => by
    obtain ⟨_, cur', hg'⟩ := own_ty hqo e
    rw [e2, h.mm] at hg'; cases hg'
  have s4 : w4.heap[w.heap.size]? = some (.cells sc 24 (0, 0)) := (hk.block _ (heap_inO h.seg0) fun e => nq _ _ _ e (by decide) h.seg0).trans h.seg0
  have g4 := row_keep h.segs hk fun g cur e hg => nq _ g cur e (by decide) hg
  have b4 : w4.heap[bS]? = some (soO v bM 0 lim (.slice none 0 0)) := (hk.block _ (heap_inO h.bs) fun e => nq 66 _ _ e (by decide) (by have := h.bs; unfold soO at this; exact this)).trans h.bs
  have m4 : w4.heap[bM]? = some (.map #[] 0) := (hk.block _ (heap_inO h.mm) fun e => nqm _ e rfl).trans h.mm
  have r4 := row_keep hrow hk fun g cur e hg => nq _ g cur e (by decide) hg
  have hpk : ∀ k l, P[k]? = some l → ∃ q va vd, ps[k]? = some q ∧ cs[k * 3]? = some q.2 ∧ cs[k * 3 + 1]? = some va ∧ cs[k * 3 + 2]? = some vd ∧ Pc w4 l q.2 va vd ∧ l.Perm q.1.ops ∧ l.Pairwise fun x y => ltO cfId y x = false := fun k l hkl => by
    obtain ⟨r, va, vd, a, b, c, d, e, f⟩ := hat k l hkl
    have hki : k ≠ i := by have := (List.getElem?_eq_some_iff.1 hkl).1; have := h.len; omega
    refine ⟨r, va, vd, a, b, c, d, ?_, f⟩
    obtain ⟨ba, ah, h1, h2, h3⟩ := e.ah
    refine ⟨?_, e.wf, e.few, ⟨ba, ah, h1, (hk.block _ (heap_inO h2) fun e2 => nq 68 _ _ e2 (by decide) (by unfold ahO at h2; exact h2)).trans h2, h3⟩, e.dn⟩
    refine World.ownsRow.kept (row := q.2.ownBlock) e.ops ⟨hk.os, hk.tape, hk.output, hk.size, fun j hj hne => hk.block j hj fun e3 => hne e3.symm⟩ ?_
    cases hb : r.2.ownBlock with
    | none => exact .inl rfl
    | some b =>
      right
      intro e4
      exact pw_ne hp a hq hki b hb e4.symm
  have ho4 : ∀ j r, i + 1 ≤ j → ps[j]? = some r → OpsOwn w.heap.size w4 r.2 r.1.ops := fun j r hj hr => by
    refine World.ownsRow.kept (row := q.2.ownBlock) (h.olds j r (by omega) hr) ⟨hk.os, hk.tape, hk.output, hk.size, fun j hj hne => hk.block j hj fun e3 => hne e3.symm⟩ ?_
    cases hb : r.2.ownBlock with
    | none => exact .inl rfl
    | some b =>
      right
      intro e4
      exact pw_ne hp hr hq (by omega) b hb e4.symm
  have bel4 : Below w.heap.size w w4 := h.bel.trans (hk.below (fun g e => (own_ty hqo e).1) h.bel.size)
  -- the append
  obtain ⟨ba, ah, hva, hah⟩ := hpc.ah
  obtain ⟨dn, hvd, hdn⟩ := hpc.dn
  have hone : q.2.oneCell' = true := by
    obtain ⟨ao, cap, e, _⟩ := own_len hpc.ops
    rw [e]; rfl
  obtain ⟨v', w5, hr, ho5, hk5⟩ := row_push rtPc_good (v := v) (n := P.length) (a := cs) r4 [q.2, va, vd] rfl (fun x hx => by
    simp only [List.mem_cons, List.not_mem_nil, or_false] at hx
    rcases hx with rfl | rfl | rfl
    · exact hone
    · rw [hva]; rfl
    · rw [hvd]; rfl) bel4.size (by have := h.len; omega)
  have nv : ∀ T g cur, v.ownBlock = some g → T ≠ 70 → w4.heap[g]? = some (.cells cur T (0, 0)) → False := fun T g cur e hT hg => by
    obtain ⟨_, cur', hg'⟩ := row_ty r4 e
    exact hT (ty_ne hg hg')
  have b5 : w5.heap[bS]? = some (soO v bM 0 lim (.slice none 0 0)) := (hk5.block _ (heap_inO b4) fun e => nv 66 _ _ e (by decide) (by unfold soO at b4; exact b4)).trans b4
  have hk6 : Keeps (fun k => k = bS) w5 (w5.setCell ⟨bS, 0, none⟩ v') := (Keeps.refl (fun k => k = bS) w5).setCell (.inl (by rfl)) _
  have nb : ∀ T g cur, g = bS → T ≠ 66 → w5.heap[g]? = some (.cells cur T (0, 0)) → False := fun T g cur e hT hg => by
    rw [e] at hg
    unfold soO at b5
    exact hT (ty_ne hg b5)
  have fr : ∀ T, T ≠ 66 → T ≠ 70 → ∀ (g : Nat) (cur : Array Value), w4.heap[g]? = some (Obj.cells cur T (0, 0)) → (w5.setCell ⟨bS, 0, none⟩ v').heap[g]? = some (Obj.cells cur T (0, 0)) := fun T h1 h2 g cur hg => by
    have e5 := (hk5.block _ (heap_inO hg) fun e => nv _ _ _ e h2 hg).trans hg
    exact (hk6.block _ (heap_inO e5) fun e => nb _ _ _ e h1 e5).trans e5
  have frow : ∀ {n₀ k n : Nat} {T : TypeId} {u : Value} {c : List Value}, T ≠ 66 → T ≠ 70 → w4.ownsRow n₀ T k u n c → (w5.setCell ⟨bS, 0, none⟩ v').ownsRow n₀ T k u n c := fun {n₀ k n T u c} h1 h2 hr => by
    have e5 := row_keep hr hk5 fun g cur e hg => nv _ g cur e h2 hg
    exact row_keep e5 hk6 fun g cur e hg => nb _ g cur e h1 hg
  have fpc : ∀ {l : List OpV} {u va vd : Value}, Pc w4 l u va vd → Pc (w5.setCell ⟨bS, 0, none⟩ v') l u va vd := fun {l u va vd} e => by
    obtain ⟨ba, ah, h1, h2, h3⟩ := e.ah
    exact ⟨frow (by decide) (by decide) e.ops, e.wf, e.few, ⟨ba, ah, h1, by unfold ahO at h2 ⊢; exact fr _ (by decide) (by decide) _ _ h2, h3⟩, e.dn⟩
  have c4 : w4.cell? ⟨bS, 0, none⟩ = some v := by unfold soO at b4; rw [cell_of_row _ _ _ _ _ _ b4]; rfl
  have c5 : w5.cell? ⟨bS, 0, none⟩ = some v := by unfold soO at b5; rw [cell_of_row _ _ _ _ _ _ b5]; rfl
  obtain ⟨a0, p0, hv0, _⟩ := own_len r4
  obtain ⟨a1, p1, hv1, _⟩ := own_len ho5
  refine ⟨v', w5, c4, fun o => ((show Below w4.heap.size w4 (w4.alloc o) by go_grown).cell (p := ⟨bS, 0, none⟩) (heap_inO b4)).trans c4, ⟨a0, p0, hv0⟩, hr, ⟨a1, p1, hv1⟩, c5, cells_thaw b5 0, ⟨?_, fr _ (by decide) (by decide) _ _ s4, frow (by decide) (by decide) g4, ?_, ?_, ⟨cs ++ [q.2, va, vd], ?_, fun k l hkl => ?_⟩, by rw [List.length_append, h.len]; rfl, fun j r hj hr => frow (by decide) (by decide) (ho4 j r hj hr), h.base⟩⟩
  · have e1 : Below w.heap.size w4 w5 := hk5.below (fun g e => (row_ty r4 e).1) bel4.size
    have e2 : Below w.heap.size w5 (w5.setCell ⟨bS, 0, none⟩ v') := hk6.below (fun g e => by rw [e]; exact h.base.1) (Nat.le_trans bel4.size e1.size)
    exact bel4.trans (e1.trans e2)
  · have := heap_setCell_same w5 bS 0 _ _ v' b5
    exact this
  · have e5 := (hk5.block _ (heap_inO m4) fun e => by
      obtain ⟨_, cur', hg'⟩ := row_ty r4 e
      rw [m4] at hg'; cases hg').trans m4
    exact (hk6.block _ (heap_inO e5) fun e => by
      rw [e, b5] at e5
      unfold soO at e5
      cases e5).trans e5
  · rw [List.length_append]
    exact row_keep ho5 hk6 fun g cur e hg => nb _ g cur e (by decide) hg
  · have hcl : cs.length = P.length * 3 := r4.1
    by_cases c : k < P.length
    · rw [List.getElem?_append_left c] at hkl
      obtain ⟨r, xa, xd, a, b, c', d, e, f⟩ := hpk k l hkl
      have l1 := (List.getElem?_eq_some_iff.1 b).1
      have l2 := (List.getElem?_eq_some_iff.1 c').1
      have l3 := (List.getElem?_eq_some_iff.1 d).1
      exact ⟨r, xa, xd, a, by rw [List.getElem?_append_left l1]; exact b, by rw [List.getElem?_append_left l2]; exact c', by rw [List.getElem?_append_left l3]; exact d, fpc e, f⟩
    · have hkP : k = P.length := by
        have := (List.getElem?_eq_some_iff.1 hkl).1
        rw [List.length_append, List.length_singleton] at this
        omega
      subst hkP
      rw [List.getElem?_concat_length] at hkl
      obtain rfl := Option.some.inj hkl
      refine ⟨q, va, vd, by rw [h.len]; exact hq, ?_, ?_, ?_, fpc hpc, hpm, hst⟩
      · rw [List.getElem?_append_right (by omega), hcl, Nat.sub_self]; rfl
      · rw [List.getElem?_append_right (by omega), hcl, show P.length * 3 + 1 - P.length * 3 = 1 by omega]; rfl
      · rw [List.getElem?_append_right (by omega), hcl, show P.length * 3 + 2 - P.length * 3 = 2 by omega]; rfl
/-- All pieces are made: a search that has met nothing. -/
theorem LsI.so {w : World} {bS bM : Nat} {lim : Int} {sc : Array Value} {vps : Value} {ps : List (SegV × Value)} {i : Nat} {wr : World} {v : Value} {P : List (List OpV)} (h : LsI w bS bM lim sc vps ps i wr v P) : SoAt w.heap.size bS bM lim v P wr ⟨[], [], []⟩ := by
  obtain ⟨cs, h1, h3⟩ := h.row
  refine ⟨⟨cs, ownsRow_baseI h1 (Nat.zero_le _), fun k l hk => ?_⟩, ⟨_, h.bs, OwnI.nil _ _ _⟩, ⟨fun _ => none, ⟨#[], 0, h.mm, Lm.empty tSo 0 0⟩, fun k => ⟨fun e => (by cases e), fun ⟨d, hd, _⟩ => (by cases hd)⟩⟩, fun d hd => (by cases hd), Nat.le_refl _, h.base.1, h.base.2, h.bel.size⟩
  obtain ⟨q, va, vd, _, b, c, d, e, _⟩ := h3 k l hk
  exact ⟨q.2, va, vd, b, c, d, e⟩
end Od
end Go.Proofs.Ytppjmmdiglnkfaa
