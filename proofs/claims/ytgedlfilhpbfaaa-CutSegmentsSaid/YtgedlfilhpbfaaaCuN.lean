/- Package cut: put. -/
import Derived.Test.YtgedlfilhpbfaaaCuM
import Derived.Lib.QuietBelow
import Derived.Shelf.RegionOpenPlain
import Derived.Deep.RegionLaw
namespace Go.Proofs.Ytgedlfilhpbfaaa
set_option maxRecDepth 100000
open Go.ChangeShapes Go.WideShapes Go.ChangeAt Go.RowKit Go.PlainAid Go.Deep Go.Shelf
namespace Cu
attribute [local go_sem ↓ high] load_op store_o app_opO
def SegV.add (s : SegV) (o : OpV) : SegV := ⟨s.obj, s.kind, s.ops ++ [o]⟩
theorem SegM.at {w0 W : World} {v : Value} {ps : List (SegV × Value)} {R : List (Nat × Obj)} (h : SegM w0 W v ps R) (h0 : 0 < ps.length) : ∃ g cap, v = .slice (some ⟨g, 0, none⟩) ps.length cap ∧ g < W.heap.size ∧ ∀ (i : Nat) (q : SegV × Value), ps[i]? = some q → ∀ (j : Nat) (x : Value), (segC q.1 q.2)[j]? = some x → W.cell? ⟨g, i * 3 + j, none⟩ = some x ∧ W.frozen? ⟨g, i * 3 + j, none⟩ = false := by
  obtain ⟨_, hh⟩ := h.row
  rcases hh with ⟨rfl, h1⟩ | ⟨g, cap, cur, rfl, hn, hg, hl, hc, hsz, ht⟩
  · omega
  · refine ⟨g, cap, rfl, heap_inO hg, fun i q hq j x hx => ⟨?_, frozen_of_row _ _ _ _ _ hg⟩⟩
    have := flatS_at ps i q hq j x hx
    rw [cell_of_row _ _ _ _ _ _ hg, ← Array.getElem?_toList]
    rw [← ht, List.getElem?_take] at this
    split at this
    · exact this
    · cases this
theorem flatS_set (init : List (SegV × Value)) (s s' : SegV) (u u' : Value) (h1 : s.obj = s'.obj) (h2 : s.kind = s'.kind) : (flatS (init ++ [(s, u)])).set (init.length * 3 + 2) u' = flatS (init ++ [(s', u')]) := by
  rw [flatS_app, flatS_app, List.set_append_right _ _ (by rw [flatS_len]; omega), flatS_len, show init.length * 3 + 2 - init.length * 3 = 2 by omega]
  simp [flatS, segC, h1, h2]
theorem ops_lies {n₀ : Nat} {W : World} {u : Value} {l : List OpV} {o : OpV} {vb : Nat} (h : OpsOwn n₀ W u l) (hv : OpAt W vb o) (hn : n₀ ≤ W.heap.size) (hl : l.length ≤ 65536) :
    ∃ g cap W', (appOO #[u, .slice (some ⟨vb, 0, none⟩) 1 1]).run Try.prog W = .ok (.slice (some ⟨g, 0, none⟩) (l.length + 1) cap) W' ∧ OpsOwn n₀ W' (.slice (some ⟨g, 0, none⟩) (l.length + 1) cap) (l ++ [o]) ∧ W.grownBy W' u.ownBlock ∧ (u.ownBlock = some g ∨ g = W.heap.size) := by
  obtain ⟨i0, hi, hz0, hz1, hz2⟩ := info_parts info_op
  obtain ⟨g, cap, w2, hrn, h2, h3, h4, _⟩ := run_append_lies (P := Try.prog) (w := W) 22 22 n₀ 35 i0 _ 11 88 Try.underlying22 hi hz0 hz1 hz2 (by simp [Value.cells]) (by decide) u l.length (flatO l) h ⟨vb, 0, none⟩ 1 1 (flatO [o]) rfl
    (World.news_of_block (cs := #[Value.int .i64 o.id, Value.int .i64 o.proc, Value.int .i64 o.obj, Value.int .i64 o.kind, Value.int .i64 o.meth, Value.int .i64 o.arg, Value.int .i64 o.sec, Value.bool o.done, Value.int .i64 o.res, Value.int .i64 o.inv, Value.int .i64 o.ret]) hv) (flatO_one [o]) (by decide) (by unfold maxLen; omega) (by omega) hn _ rfl
  refine ⟨g, cap, w2, hrn, ?_, h3, h4⟩
  unfold OpsOwn
  rw [List.length_append, show flatO (l ++ [o]) = flatO l ++ flatO [o] by unfold flatO; rw [List.flatMap_append]]
  exact h2
set_option maxHeartbeats 1000000 in
/-- An operation more behind the last segment's. -/
theorem SegM.put {w0 W : World} {v : Value} {init : List (SegV × Value)} {s : SegV} {u : Value} {R : List (Nat × Obj)} (h : SegM w0 W v (init ++ [(s, u)]) R) (hl : LastM w0 W init (s, u) R) {vb : Nat} {o : OpV} (hv : OpAt W vb o) (ho : o.Wf) (hlen : s.ops.length ≤ 65536) :
    ∃ g cap g' cap' W1, v = .slice (some ⟨g, 0, none⟩) (init.length + 1) cap ∧ (appOO #[u, .slice (some ⟨vb, 0, none⟩) 1 1]).run Try.prog W = .ok (.slice (some ⟨g', 0, none⟩) (s.ops.length + 1) cap') W1 ∧
      (∃ x, W1.cell? ⟨g, init.length * 3 + 2, none⟩ = some x) ∧ W1.frozen? ⟨g, init.length * 3 + 2, none⟩ = false ∧
      SegM w0 (W1.setCell ⟨g, init.length * 3 + 2, none⟩ (.slice (some ⟨g', 0, none⟩) (s.ops.length + 1) cap')) v (init ++ [(s.add o, .slice (some ⟨g', 0, none⟩) (s.ops.length + 1) cap')]) R ∧
      LastM w0 (W1.setCell ⟨g, init.length * 3 + 2, none⟩ (.slice (some ⟨g', 0, none⟩) (s.ops.length + 1) cap')) init (s.add o, .slice (some ⟨g', 0, none⟩) (s.ops.length + 1) cap') R := by
  obtain ⟨g', cap', W1, hrun, hown, hgr, hlies⟩ := ops_lies hl.own hv h.below.size hlen
  have hune := seg_ne h (h.rd (s, u) (by simp))
  have hrow1 : W1.ownsRow w0.heap.size 29 3 v (init ++ [(s, u)]).length (flatS (init ++ [(s, u)])) := h.row.kept hgr (by
    rcases hune with e | e
    · rw [show (s, u).2 = u from rfl] at e; rw [e]; cases v.ownBlock <;> simp
    · exact .inr (Ne.symm e))
  have hlast : (s.add o).ops = s.ops ++ [o] := rfl
  have hwf : ∀ x ∈ s.ops ++ [o], x.Wf := fun x hx => by
    rcases List.mem_append.1 hx with hx | hx
    · exact (h.rd (s, u) (by simp)).1.2 x hx
    · rw [List.mem_singleton.1 hx]; exact ho
  have hsz1 := hgr.size
  have hb1 : Below w0.heap.size w0 W1 := h.below.grown hgr h.below.size (fun k e => (own_lt hl.own e).1)
  have hblk : ∀ p ∈ init, ∀ b, p.2.ownBlock = some b → b ≠ g' := fun p hp b hb e => by
    subst e
    rcases hlies with e | e
    · rcases hl.apart p hp with c | c
      · rw [hb] at c; cases c
      · exact c (by rw [hb, e])
    · obtain ⟨cur, hc⟩ := (h.rd p (by simp [hp])).2 b hb
      have := heap_inO hc
      omega
  have hinit : ∀ p ∈ init, OpsRd W1 p.2 p.1.ops := fun p hp => (h.rd p (by simp [hp])).grown hgr (hl.apart p hp)
  have hkeep : ∀ x ∈ R, W1.heap[x.1]? = some x.2 ∧ x.1 ≠ g' := fun x hx => ⟨(hgr.block x.1 (h.lt hx) (fun e => hl.keep x hx e.symm)).trans (h.mem hx), fun e => by
    rcases hlies with c | c
    · exact hl.keep x hx (by rw [e]; exact c)
    · have := h.lt hx; omega⟩
  obtain ⟨hfl, hh⟩ := hrow1
  rcases hh with ⟨rfl, h1⟩ | ⟨g, cap, cur, rfl, hn, hg, hle, hc, hsz, ht⟩
  · simp at h1
  · have hlen1 : (init ++ [(s, u)]).length = init.length + 1 := by simp
    rw [hlen1] at hle ht hfl
    rcases hown.2 with ⟨e, _⟩ | ⟨g2, c2, cur2, e, hn2, hg2, r2⟩
    · cases e
    · obtain rfl : g' = g2 := (Addr.mk.inj (Option.some.inj (Value.slice.inj e).1)).1
      have hgg : g' ≠ g := fun e => by
        subst e
        rw [hg] at hg2
        exact absurd (show 29 = 35 from by injection hg2 with hg2; injection hg2) (by decide)
      have hck : init.length * 3 + 2 < cur.size := by rw [hsz]; omega
      have hG : W1.grownBy (W1.setCell ⟨g, init.length * 3 + 2, none⟩ (.slice (some ⟨g', 0, none⟩) (s.ops.length + 1) cap')) (some g) := ⟨rfl, rfl, rfl, by simp, fun k _ hk => heap_setCell_other _ _ _ _ (fun e => hk (by rw [e]))⟩
      have hOwn : OpsOwn w0.heap.size (W1.setCell ⟨g, init.length * 3 + 2, none⟩ (.slice (some ⟨g', 0, none⟩) (s.ops.length + 1) cap')) (.slice (some ⟨g', 0, none⟩) (s.ops.length + 1) cap') (s.ops ++ [o]) := World.ownsRow.kept hown hG (.inr (by simpa [Value.ownBlock] using hgg))
      refine ⟨g, cap, g', cap', W1, by rw [hlen1], hrun, ⟨_, by rw [cell_of_row _ _ _ _ _ _ hg, Array.getElem?_eq_getElem hck]⟩, frozen_of_row _ _ _ _ _ hg, ⟨hb1.grown hG hb1.size (fun k e => by cases e; exact hn), ?_, fun q hq => ?_, fun x hx => ⟨(hG.block x.1 (Nat.lt_of_lt_of_le (h.lt hx) hsz1) (fun e => ?_)).trans (hkeep x hx).1, (h.keep x hx).2⟩⟩, ⟨hOwn, fun p hp => ?_, fun x hx e => ?_⟩⟩
      · refine ⟨by rw [flatS_len], .inr ⟨g, cap, cur.setIfInBounds (init.length * 3 + 2) (.slice (some ⟨g', 0, none⟩) (s.ops.length + 1) cap'), by simp, hn, heap_setCell_same _ _ _ _ _ _ hg, by simpa using hle, hc, by simp [hsz], ?_⟩⟩
        rw [← flatS_set init s (s.add o) u _ rfl rfl, ← ht, Array.toList_setIfInBounds]
        simp only [List.length_append, List.length_cons, List.length_nil]
        first | done | rw [List.take_set]
      · rcases List.mem_append.1 hq with hq | hq
        · refine (hinit q hq).grown hG ?_
          cases hb : q.2.ownBlock with
          | none => exact .inl rfl
          | some b =>
            right
            intro e
            cases e
            obtain ⟨cur', hc'⟩ := (hinit q hq).2 _ hb
            rw [hg] at hc'
            exact absurd (show 29 = 35 from by injection hc' with hc'; injection hc') (by decide)
        · rw [List.mem_singleton] at hq
          subst hq
          exact OpsOwn.rd hOwn hwf
      · have := (h.keep x hx).2
        simp [Value.ownBlock] at this
        cases e
        exact this rfl
      · cases hb : p.2.ownBlock with
        | none => exact .inl rfl
        | some b => exact .inr (by simpa [Value.ownBlock] using hblk p hp b hb)
      · have e : g' = x.1 := by simpa [Value.ownBlock] using e
        exact (hkeep x hx).2 e.symm
set_option maxHeartbeats 4000000 in
theorem put_any {w0 W : World} {v : Value} {init : List (SegV × Value)} {s : SegV} {u : Value} {R : List (Nat × Obj)} (h : SegM w0 W v (init ++ [(s, u)]) R) (hl : LastM w0 W init (s, u) R) (o : OpV) (ho : o.Wf) (hin : init.length ≤ 65536) (hlen : s.ops.length ≤ 65536) :
    Calls Try.prog 20 #[v, Value.agg #[Value.int .i64 o.id, Value.int .i64 o.proc, Value.int .i64 o.obj, Value.int .i64 o.kind, Value.int .i64 o.meth, Value.int .i64 o.arg, Value.int .i64 o.sec, Value.bool o.done, Value.int .i64 o.res, Value.int .i64 o.inv, Value.int .i64 o.ret]] W fun e W' => e = .returned (.tuple #[]) ∧ ∃ u', SegM w0 W' v (init ++ [(s.add o, u')]) R ∧ LastM w0 W' init (s.add o, u') R := by
  have mixed := mixed
  have h1 := h.push (.cells #[Value.int .i64 o.id, Value.int .i64 o.proc, Value.int .i64 o.obj, Value.int .i64 o.kind, Value.int .i64 o.meth, Value.int .i64 o.arg, Value.int .i64 o.sec, Value.bool o.done, Value.int .i64 o.res, Value.int .i64 o.inv, Value.int .i64 o.ret] 35 (0, 0))
  have l1 := hl.push (.cells #[Value.int .i64 o.id, Value.int .i64 o.proc, Value.int .i64 o.obj, Value.int .i64 o.kind, Value.int .i64 o.meth, Value.int .i64 o.arg, Value.int .i64 o.sec, Value.bool o.done, Value.int .i64 o.res, Value.int .i64 o.inv, Value.int .i64 o.ret] 35 (0, 0))
  obtain ⟨W0, hW0⟩ : ∃ w, W.alloc (.cells #[Value.int .i64 o.id, Value.int .i64 o.proc, Value.int .i64 o.obj, Value.int .i64 o.kind, Value.int .i64 o.meth, Value.int .i64 o.arg, Value.int .i64 o.sec, Value.bool o.done, Value.int .i64 o.res, Value.int .i64 o.inv, Value.int .i64 o.ret] 35) = w := ⟨_, rfl⟩
  rw [hW0] at h1 l1
  have h2 := (h1.push (.cells #[Value.int .i64 o.id, Value.int .i64 o.proc, Value.int .i64 o.obj, Value.int .i64 o.kind, Value.int .i64 o.meth, Value.int .i64 o.arg, Value.int .i64 o.sec, Value.bool o.done, Value.int .i64 o.res, Value.int .i64 o.inv, Value.int .i64 o.ret] 35 (0, 0))).on (below_drew _)
  have l2 := (l1.push (.cells #[Value.int .i64 o.id, Value.int .i64 o.proc, Value.int .i64 o.obj, Value.int .i64 o.kind, Value.int .i64 o.meth, Value.int .i64 o.arg, Value.int .i64 o.sec, Value.bool o.done, Value.int .i64 o.res, Value.int .i64 o.inv, Value.int .i64 o.ret] 35 (0, 0))).on (below_drew _)
  have h1 := h1.on (below_drew _)
  obtain ⟨g, cap, g', cap', W1, rfl, hrun, ⟨x, hx⟩, hfx, h3, l3⟩ := h2.put l2 (vb := W0.heap.size) (o := o) (h2.mem List.mem_cons_self) ho hlen
  have hq : (init ++ [(s, u)])[init.length]? = some (s, u) := by simp
  obtain ⟨ga, _, e1, _, c1⟩ := h1.at (by simp)
  obtain rfl : g = ga := (Addr.mk.inj (Option.some.inj (Value.slice.inj e1).1)).1
  obtain ⟨gb, _, e2, _, c2⟩ := h2.at (by simp)
  obtain rfl : g = gb := (Addr.mk.inj (Option.some.inj (Value.slice.inj e2).1)).1
  clear e1 e2
  have k1 := (c1 _ _ hq 2 u rfl).1
  have k2 := (c2 _ _ hq 2 u rfl).1
  have m1 := OpAt.load (o := o) (h1.mem List.mem_cons_self)
  have m2 := OpAt.load (o := o) (h2.mem (List.mem_cons_of_mem _ List.mem_cons_self))
  simp only at m1 m2
  have HE := Lib.hid (And.intro (h3.sub (R' := R) fun x hx => by simp [hx]) (l3.sub (R' := R) fun x hx => by simp [hx]))
  have q1 : IntKind.i64.wrap ((init.length : Int) + 1 - 1) = (init.length : Int) := by rw [IntWalk.i64_in _ (by omega)]; omega
  have q2 : (init.length : Int) < (init.length : Int) + 1 := by omega
  clear h1 l1 h2 l2 c1 c2 hq h3 l3 h hl
  go_enter Try.func20, Try.ntmps20
  go_wp2_with fail
  go_big_region_o
  all_goals go_wp2_with fail
  go_returns
  exact ⟨rfl, _, HE.out.1, HE.out.2⟩
end Cu
end Go.Proofs.Ytgedlfilhpbfaaa
