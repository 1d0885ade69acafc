/- Lists of states, and segments, as parameters. -/
import Derived.Test.YtpooekmogfkkjaaSLnR
import Derived.Test.YtpooekmogfkkjaaSMoP
import Derived.Test.YtpooekmogfkkjaaGD
import Derived.Deep.Slices
import Derived.Deep.Fields
namespace Go.Proofs.Ytpooekmogfkkjaa
set_option maxRecDepth 100000
open Go.ChangeShapes Go.WideShapes Go.ChangeAt Go.RowKit Go.PlainAid Go.Deep
namespace Ln
theorem ints_read {H : Type} {enc : TypeId × Value → H} {w : World} {base : Nat} {sp : Nat → Bool} {held : Bool} {fuel : Nat} {cs : List Value} {x : DataW H × List MemPlace}
    (hf : DataW.trod enc Try.prog w base sp held fuel 36 cs = some x) : ∃ (v : Value) (l : List Int), cs = [v] ∧ IntsC w v l ∧ (l = [] ∨ ∃ el rest, x.1 = .slice el rest ∧ el.length = l.length) := by
  rcases open_slice Try.underlying36 hf with ⟨h0, _⟩ | ⟨a, len, cap, m, n, Dt, Pl, hcs, hb, hl, hm, hmm, hx, hi⟩
  · exact ⟨.slice none 0 0, [], h0, IntsC.none w, .inl rfl⟩
  · have hC : Try.prog.cellsOf 3 = 1 := by kernel_rfl
    have hlm : len ≤ m := by rw [hmm]; split <;> omega
    by_cases h0 : len = 0
    · subst h0
      exact ⟨_, [], hcs, ⟨.inl ⟨rfl, _, _, rfl⟩, CapOk.mk hl⟩, .inl rfl⟩
    · have each : ∀ i, ∃ y : Int, i < len → (-9223372036854775808 ≤ y ∧ y ≤ 9223372036854775807) ∧ w.cell? (a.add i) = some (.int .i64 y) := fun i => by
        by_cases c : i < len
        · obtain ⟨cs', hc, ht⟩ := hi i (by omega)
          rw [hC] at hc
          obtain ⟨_, hcl, hat⟩ := World.cells?_some hc
          obtain ⟨y, hy, _, hw⟩ := DataW.trod_int Try.underlying3 ht
          refine ⟨y, fun _ => ⟨bounds_i64 hw, ?_⟩⟩
          have := hat 0 (by omega)
          rw [hy, Go.Deep.add_add, Nat.mul_one, Nat.add_zero] at this
          exact this
        · exact ⟨0, fun h => absurd h c⟩
      obtain ⟨f, hf'⟩ := Classical.axiomOfChoice each
      have h00 := (hf' 0 (by omega)).2
      obtain ⟨b, off, spot⟩ := a
      have hspot : spot = none := by simpa [Addr.add] using World.cell?_spot h00
      subst hspot
      refine ⟨_, (List.range len).map f, hcs, ⟨?_, CapOk.mk hl⟩, .inr ⟨_, _, congrArg Prod.fst hx, by simp⟩⟩
      refine .inr ⟨b, off, cap, by simp, World.block_lt_of_cell? w _ h00, by simp; omega, by simp; unfold maxLen at hm; omega, fun i x hx => ?_⟩
      have hil : i < len := by have := (List.getElem?_eq_some_iff.1 hx).1; simpa using this
      have hxf : f i = x := by simpa [List.getElem?_map, List.getElem?_range hil] using hx
      subst hxf
      obtain ⟨hw, hc⟩ := hf' i hil
      exact ⟨hw, by rw [← hc, Addr.add_mid]⟩
/-- States that came in. -/
def StsC (w : World) (v : Value) (l : List (List Int)) : Prop := ∃ vs, Rd w v 1 l.length vs ∧ ∀ (i : Nat) (u : Value) (s : List Int), vs[i]? = some u → l[i]? = some s → IntsC w u s
theorem StsC.sts {w : World} {v : Value} {l : List (List Int)} (h : StsC w v l) : Sts w v l := by
  obtain ⟨vs, h1, h2⟩ := h
  exact ⟨vs, h1, fun i u s hu hs => (h2 i u s hu hs).ints⟩
theorem StsC.on {w w' : World} {v : Value} {l : List (List Int)} (h : StsC w v l) (hb : Below w.heap.size w w') : StsC w' v l := by
  obtain ⟨vs, h1, h2⟩ := h
  exact ⟨vs, h1.on hb, fun i u s hu hs => (h2 i u s hu hs).on hb⟩
theorem sts_open {H : Type} {enc : TypeId × Value → H} {w : World} {base b0 : Nat} {sp : Nat → Bool} {held : Bool} {r : Reach} {v : Value} {d : DataW H} {p : List MemPlace}
    (hv : Value.okWide Try.prog w r b0 25 v) (h : DataW.Trod enc Try.prog w base sp held 25 v d p) : ∃ l : List (List Int), StsC w v l ∧ ((∀ n ∈ DataW.weights Try.prog 25 d, n ≤ reachBytes) → ∀ s ∈ l, s.length ≤ 17592186044416) := by
  obtain ⟨ao, len0, cap0, rfl⟩ := okWide_slice Try.underlying25 hv
  obtain ⟨fuel, hf⟩ := h
  rcases open_slice Try.underlying25 hf with ⟨h0, _⟩ | ⟨a, len, cap, m, n, Dt, Pl, hcs, hb, hl, hm, hmm, hx, hi⟩
  · have : Value.slice ao len0 cap0 = .slice none 0 0 := by simpa [Value.cells] using h0
    cases this
    exact ⟨[], ⟨[], Rd.nil _ _ _ _, fun i u s hu => by simp at hu⟩, fun _ s hs => by cases hs⟩
  · have e : Value.slice ao len0 cap0 = .slice (some a) len cap := by simpa [Value.cells] using hcs
    cases e
    have hC : Try.prog.cellsOf 36 = 1 := by kernel_rfl
    have hlm : len0 ≤ m := by rw [hmm]; split <;> omega
    by_cases h0 : len0 = 0
    · subst h0
      exact ⟨[], ⟨[], Rd.nil _ _ _ _, fun i u s hu => by simp at hu⟩, fun _ s hs => by cases hs⟩
    · have each : ∀ i, ∃ y : Value × List Int, i < len0 → IntsC w y.1 y.2 ∧ w.cell? (a.add i) = some y.1 ∧ (y.2 = [] ∨ ∃ el rest, Dt i = .slice el rest ∧ el.length = y.2.length) := fun i => by
        by_cases c : i < len0
        · obtain ⟨cs', hc, ht⟩ := hi i (by omega)
          rw [hC] at hc
          obtain ⟨_, hcl, hat⟩ := World.cells?_some hc
          obtain ⟨u, s, hy, hu, hw⟩ := ints_read ht
          refine ⟨(u, s), fun _ => ⟨hu, ?_, hw⟩⟩
          have := hat 0 (by omega)
          rw [hy, Go.Deep.add_add, Nat.mul_one, Nat.add_zero] at this
          exact this
        · exact ⟨(.slice none 0 0, []), fun h => absurd h c⟩
      obtain ⟨f, hf'⟩ := Classical.axiomOfChoice each
      have h00 := (hf' 0 (by omega)).2.1
      obtain ⟨b, off, spot⟩ := a
      have hspot : spot = none := by simpa [Addr.add] using World.cell?_spot h00
      subst hspot
      refine ⟨(List.range len0).map fun i => (f i).2, ⟨(List.range len0).map fun i => (f i).1, ⟨by simp, .inr ⟨b, off, cap0, by simp, World.block_lt_of_cell? w _ h00, by simp; omega, fun i u hu => ?_⟩⟩, fun i u s hu hs => ?_⟩, fun hW s hs => ?_⟩
      · have hil : i < len0 := by have := (List.getElem?_eq_some_iff.1 hu).1; simpa using this
        have hxf : (f i).1 = u := by simpa [List.getElem?_map, List.getElem?_range hil] using hu
        rw [← hxf, ← (hf' i hil).2.1, Addr.add_mid]
      · have hil : i < len0 := by have := (List.getElem?_eq_some_iff.1 hu).1; simpa using this
        have hxf : (f i).1 = u := by simpa [List.getElem?_map, List.getElem?_range hil] using hu
        have hxs : (f i).2 = s := by simpa [List.getElem?_map, List.getElem?_range hil] using hs
        rw [← hxf, ← hxs]
        exact (hf' i hil).1
      · obtain ⟨i, hil, rfl⟩ := List.mem_map.1 hs
        have hil : i < len0 := by simpa using hil
        rcases (hf' i hil).2.2 with e | ⟨el, rest, hd, hel⟩
        · rw [e]; exact Nat.zero_le _
        · have hdd : d = _ := congrArg Prod.fst hx
          have hmem : ∀ (l : List (DataW H)) (y : DataW H), y ∈ l → ∀ n ∈ DataW.weights Try.prog 36 y, n ∈ DataW.weightsAll Try.prog 36 l := fun l => by
            induction l with
            | nil => intro y hy; cases hy
            | cons z r ih =>
              intro y hy n hn
              rw [DataW.weightsAll, List.mem_append]
              rcases List.mem_cons.1 hy with rfl | hy
              · exact .inl hn
              · exact .inr (ih y hy n hn)
          have h1 : (el.length + rest.length) * Try.prog.bytesOf 3 ∈ DataW.weights Try.prog 36 (Dt i) := by rw [hd]; simp [DataW.weights, Try.underlying36]
          have h2 : (el.length + rest.length) * Try.prog.bytesOf 3 ∈ DataW.weights Try.prog 25 d := by
            rw [hdd]
            simp only [DataW.weights, Try.underlying25]
            refine List.mem_cons_of_mem _ (List.mem_append_left _ (hmem _ _ (List.mem_map.2 ⟨i, List.mem_range.2 hil, rfl⟩) _ h1))
          have h3 := hW _ h2
          rw [show Try.prog.bytesOf 3 = 8 by kernel_rfl] at h3
          simp only [reachBytes] at h3
          omega
theorem ops_readL {H : Type} {enc : TypeId × Value → H} {w : World} {base : Nat} {sp : Nat → Bool} {held : Bool} {fuel : Nat} {cs : List Value} {x : DataW H × List MemPlace}
    (hf : DataW.trod enc Try.prog w base sp held fuel 22 cs = some x) : ∃ (v : Value) (l : List OpV), cs = [v] ∧ OpsOf w v l := by
  rcases open_slice Try.underlying22 hf with ⟨h0, _⟩ | ⟨a, len, cap, m, n, Dt, Pl, hcs, hb, hl, hm, hmm, hx, hi⟩
  · exact ⟨.slice none 0 0, [], h0, .inl ⟨rfl, none, 0, rfl⟩, by simp⟩
  · have hC : Try.prog.cellsOf 77 = 11 := by kernel_rfl
    have hlm : len ≤ m := by rw [hmm]; split <;> omega
    by_cases h0 : len = 0
    · subst h0
      exact ⟨_, [], hcs, .inl ⟨rfl, _, _, rfl⟩, by simp⟩
    · have each : ∀ i, ∃ y : OpV, i < len → y.Wf ∧ ∀ (j : Nat) (u : Value), (#[Value.int .i64 y.id, Value.int .i64 y.proc, Value.int .i64 y.obj, Value.int .i64 y.kind, Value.int .i64 y.meth, Value.int .i64 y.arg, Value.int .i64 y.sec, Value.bool y.done, Value.int .i64 y.res, Value.int .i64 y.inv, Value.int .i64 y.ret]).toList[j]? = some u → w.cell? ((a.add (i * 11)).add j) = some u := fun i => by
        by_cases c : i < len
        · obtain ⟨cs', hc, ht⟩ := hi i (by omega)
          rw [hC] at hc
          obtain ⟨_, hcl, hat⟩ := World.cells?_some hc
          obtain ⟨y, hy, hw⟩ := op_read ht
          refine ⟨y, fun _ => ⟨hw, fun j u hj => ?_⟩⟩
          have hj11 : j < 11 := (List.getElem?_eq_some_iff.1 hj).1
          have := hat j hj11
          rw [hy] at this
          rw [this]
          exact hj
        · exact ⟨⟨0, 0, 0, 0, 0, 0, 0, false, 0, 0, 0⟩, fun h => absurd h c⟩
      obtain ⟨f, hf'⟩ := Classical.axiomOfChoice each
      have h00 := (hf' 0 (by omega)).2 0 _ rfl
      obtain ⟨b, off, spot⟩ := a
      have hspot : spot = none := by simpa [Addr.add] using World.cell?_spot h00
      subst hspot
      refine ⟨_, (List.range len).map f, hcs, .inr ⟨b, off, cap, by simp, World.block_lt_of_cell? w _ h00, by simp; omega, fun i x hx' j u hj => ?_⟩, fun x hx' => ?_⟩
      · have hil : i < len := by have := (List.getElem?_eq_some_iff.1 hx').1; simpa using this
        have hxf : f i = x := by simpa [List.getElem?_map, List.getElem?_range hil] using hx'
        subst hxf
        have := (hf' i hil).2 j u hj
        rwa [Go.Deep.add_add, Addr.add_mid, ← Nat.add_assoc] at this
      · obtain ⟨i, hil, rfl⟩ := List.mem_map.1 hx'
        exact (hf' i (by simpa using hil)).1
/-- A segment. -/
structure SegP where
  obj : Int
  kind : Int
  ops : List OpV
theorem segp_open {H : Type} {enc : TypeId × Value → H} {w : World} {base b0 : Nat} {sp : Nat → Bool} {held : Bool} {r : Reach} {v : Value} {d : DataW H} {p : List MemPlace}
    (hv : Value.okWide Try.prog w r b0 24 v) (h : DataW.Trod enc Try.prog w base sp held 24 v d p) : ∃ (s : SegP) (u : Value), v = .agg #[.int .i64 s.obj, .int .i64 s.kind, u] ∧ OpsOf w u s.ops := by
  obtain ⟨cs, rfl, hsz⟩ := okWide_struct Try.underlying24 hv
  obtain ⟨fuel, hf⟩ := h
  obtain ⟨ys, n, _, _, hlen, hyl, hg⟩ := DataW.trod_struct Try.underlying24 hf
  have hcl : (Value.agg cs).cells.toList = cs.toList := by simp [Value.cells]
  rw [hcl] at hlen hg
  have hl : cs.toList.length = 3 := hlen.trans (by kernel_rfl)
  have h0 : DataW.trod enc Try.prog w base sp held n 3 ((cs.toList.drop 0).take (Try.prog.cellsOf 3)) = ys[0]? := hg 0 _ rfl
  have h1 : DataW.trod enc Try.prog w base sp held n 3 ((cs.toList.drop 1).take (Try.prog.cellsOf 3)) = ys[1]? := hg 1 _ rfl
  have h2 : DataW.trod enc Try.prog w base sp held n 22 ((cs.toList.drop 2).take (Try.prog.cellsOf 22)) = ys[2]? := hg 2 _ rfl
  have hyl2 : ys.length = 3 := hyl
  rw [show Try.prog.cellsOf 3 = 1 by kernel_rfl, List.getElem?_eq_getElem (by omega)] at h0 h1
  rw [show Try.prog.cellsOf 22 = 1 by kernel_rfl, List.getElem?_eq_getElem (by omega)] at h2
  obtain ⟨a, e0, _⟩ := DataW.trod_int Try.underlying3 h0
  obtain ⟨b, e1, _⟩ := DataW.trod_int Try.underlying3 h1
  obtain ⟨u, l, e2, hu⟩ := ops_readL h2
  refine ⟨⟨a, b, l⟩, u, ?_, hu⟩
  obtain ⟨cl⟩ := cs
  match cl, hl with
  | [x, y, z], _ =>
    simp at e0 e1 e2
    rw [e0, e1, e2]
end Ln
end Go.Proofs.Ytpooekmogfkkjaa
