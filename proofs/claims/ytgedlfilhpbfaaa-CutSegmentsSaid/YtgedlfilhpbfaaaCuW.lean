/- Package cut: lists of segments that are read; the law's example. -/
import Derived.Test.YtgedlfilhpbfaaaCuR
import Derived.Test.YtgedlfilhpbfaaaHtG
namespace Go.Proofs.Ytgedlfilhpbfaaa
set_option maxRecDepth 100000
open Go.ChangeShapes Go.WideShapes Go.ChangeAt Go.RowKit Go.PlainAid Go.Deep Go.Shelf Go.Sort
namespace Cu
/-- The segments that a slice reads as. -/
def SegsOf (W : World) (v : Value) (l : List SegV) : Prop :=
  (l = [] ∧ ∃ ao cap, v = .slice ao 0 cap) ∨ ∃ b cap, v = .slice (some ⟨b, 0, none⟩) l.length cap ∧ b < W.heap.size ∧ 0 < l.length ∧ ∀ (i : Nat) (s : SegV), l[i]? = some s → ∃ u, OpsOf W u s.ops ∧ ∀ (j : Nat) (x : Value), (segC s u)[j]? = some x → W.cell? ⟨b, i * 3 + j, none⟩ = some x
theorem SegsOf.len {W : World} {v : Value} {l : List SegV} (h : SegsOf W v l) : ∃ ao cap, v = .slice ao l.length cap := by
  rcases h with ⟨rfl, ao, cap, rfl⟩ | ⟨b, cap, rfl, _⟩
  · exact ⟨_, _, rfl⟩
  · exact ⟨_, _, rfl⟩
theorem SegsOf.on {W W' : World} {v : Value} {l : List SegV} (h : SegsOf W v l) (hb : Below W.heap.size W W') : SegsOf W' v l := by
  rcases h with h | ⟨b, cap, hv, hlt, h0, hr⟩
  · exact .inl h
  · refine .inr ⟨b, cap, hv, Nat.lt_of_lt_of_le hlt hb.size, h0, fun i s hs => ?_⟩
    obtain ⟨u, hu, hc⟩ := hr i s hs
    exact ⟨u, hu.on hb, fun j x hx => (hb.cell (p := ⟨b, i * 3 + j, none⟩) hlt).trans (hc j x hx)⟩
theorem SegsOf.at {W : World} {v : Value} {l : List SegV} (h : SegsOf W v l) {i : Nat} {s : SegV} (hi : l[i]? = some s) : ∃ b cap u, v = .slice (some ⟨b, 0, none⟩) l.length cap ∧ b < W.heap.size ∧ OpsOf W u s.ops ∧ ∀ (j : Nat) (x : Value), (segC s u)[j]? = some x → W.cell? ⟨b, i * 3 + j, none⟩ = some x := by
  rcases h with ⟨rfl, _⟩ | ⟨b, cap, hv, hlt, h0, hr⟩
  · simp at hi
  · obtain ⟨u, hu, hc⟩ := hr i s hi
    exact ⟨b, cap, u, hv, hlt, hu, hc⟩
theorem SegM.segs {w0 W : World} {v : Value} {ps : List (SegV × Value)} {R : List (Nat × Obj)} (h : SegM w0 W v ps R) : SegsOf W v (ps.map Prod.fst) := by
  by_cases h0 : ps = []
  · subst h0
    obtain ⟨_, hh⟩ := h.row
    rcases hh with ⟨rfl, _⟩ | ⟨g, cap, cur, rfl, _⟩
    · exact .inl ⟨rfl, _, _, rfl⟩
    · exact .inl ⟨rfl, _, _, rfl⟩
  · have hl := List.length_pos_iff.2 h0
    obtain ⟨g, cap, hv, hlt, hr⟩ := h.at hl
    refine .inr ⟨g, cap, by rw [List.length_map]; exact hv, hlt, by rw [List.length_map]; exact hl, fun i s hs => ?_⟩
    rw [List.getElem?_map] at hs
    obtain ⟨q, hq, rfl⟩ := Option.map_eq_some_iff.1 hs
    exact ⟨q.2, (h.rd q (List.mem_of_getElem? hq)).1, fun j x hx => (hr i q hq j x hx).1⟩
theorem load_s (v : Value) : Instr.loadAt 29 v = loadS 29 v := rfl
theorem load_seg {W : World} {b p : Nat} {s : SegV} {u : Value} (h : ∀ (j : Nat) (x : Value), (segC s u)[j]? = some x → W.cell? ⟨b, p + j, none⟩ = some x) : (loadS 29 (.pointer (some ⟨b, p, none⟩))).run Try.prog W = .ok (.agg #[.int .i64 s.obj, .int .i64 s.kind, u]) W :=
  loadMany_range (P := Try.prog) (t := 29) (segC s u) _ h Try.underlying29 (by kernel_rfl) (by kernel_rfl)
def exA : OpV := ⟨1, 0, 0, 0, 0, 0, 0, true, 0, 1, 4⟩
def exB : OpV := ⟨2, 0, 0, 0, 0, 0, 0, true, 0, 3, 6⟩
def exC : OpV := ⟨3, 0, 0, 0, 0, 0, 0, true, 0, 7, 9⟩
theorem ex_sorted {S : List OpV} (h : Sorted cfInv [exA, exB, exC] S) : S = [exA, exB, exC] := by
  refine sorted_same (l := [exA, exB, exC]) ?_ h ⟨List.Perm.refl _, ?_⟩
  · intro x hx y hy hxy
    simp only [List.mem_cons, List.not_mem_nil, or_false] at hx hy
    rcases hx with rfl | rfl | rfl <;> rcases hy with rfl | rfl | rfl <;> first | rfl | (simp [exA, exB, exC] at hxy)
  · simp [exA, exB, exC, ltO, cfInv, cmpZ]
theorem ex_cut : cutL [exA, exB, exC] = [[exA, exB], [exC]] := by simp [cutL, cutStep, befB, exA, exB, exC]
theorem ex_wf : ∀ o ∈ [exA, exB, exC], o.Wf := by
  intro x hx
  simp only [List.mem_cons, List.not_mem_nil, or_false] at hx
  rcases hx with rfl | rfl | rfl <;> constructor <;> simp [exA, exB, exC]
set_option maxHeartbeats 2000000 in
theorem awake_any (w : World) : Calls Try.prog 8 #[] w fun e w' => e = .returned (.bool true) ∧ Below w.heap.size w w' := by
  go_enter Try.func8, Try.ntmps8
  go_wp2_with fail
  refine (segments_any (s := ⟨0, 0, [exA, exB, exC]⟩) (RowO.reads (heap_alloc_new w _) (by rfl) ex_wf) (by simp)).mono ?_
  rintro _ w1 ⟨v', rfl, ps, S, hm, hs, hcut⟩
  obtain rfl := ex_sorted hs
  rw [ex_cut] at hcut
  have HB := Lib.hid ((show Below w.heap.size w _ by go_grown).on hm.below)
  have hsg := hm.segs
  rw [hcut] at hsg
  obtain ⟨b, cap, u0, rfl, hlt, ho0, hc0⟩ := hsg.at (i := 0) (s := ⟨0, 0, [exA, exB]⟩) rfl
  obtain ⟨b', cap', u1, hv, _, ho1, hc1⟩ := hsg.at (i := 1) (s := ⟨0, 0, [exC]⟩) rfl
  obtain rfl : b = b' := (Addr.mk.inj (Option.some.inj (Value.slice.inj hv).1)).1
  obtain ⟨a0, p0, rfl⟩ := ho0.len
  obtain ⟨a1, p1, rfl⟩ := ho1.len
  have c0 := hc0 2 _ rfl
  have c1 := hc1 2 _ rfl
  simp only [Nat.zero_mul, Nat.zero_add, Nat.one_mul, Nat.reduceAdd] at c0 c1
  clear hm hs hcut hsg hlt ho0 hc0 hv ho1 hc1
  go_wp2_with fail
  go_returns
  exact ⟨rfl, HB.out⟩
end Cu
end Go.Proofs.Ytgedlfilhpbfaaa
