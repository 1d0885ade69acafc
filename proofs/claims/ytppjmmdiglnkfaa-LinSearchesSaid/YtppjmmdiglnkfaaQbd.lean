/- Lists of states, and segments, as parameters. The document's helpers: Alike, Short, Same; small segments. -/
import Derived.Test.YtppjmmdiglnkfaaQag
import Derived.Test.YtppjmmdiglnkfaaQbc
import Derived.Test.YtppjmmdiglnkfaaQac
import Derived.Deep.Slices
import Derived.Deep.Fields
import Derived.Test.YtppjmmdiglnkfaaQax
import Derived.Test.YtppjmmdiglnkfaaQao
import Derived.Test.YtppjmmdiglnkfaaQak
namespace Go.Proofs.Ytppjmmdiglnkfaa
set_option maxRecDepth 100000
open Go.ChangeShapes Go.WideShapes Go.ChangeAt Go.RowKit Go.PlainAid Go.Deep
namespace Ln
theorem ints_read {H : Type} {enc : TypeId × Value → H} {w : World} {base : Nat} {sp : Nat → Bool} {held : Bool} {fuel : Nat} {cs : List Value} {x : DataW H × List MemPlace}
    (hf : DataW.trod enc Try.prog w base sp held fuel 27 cs = some x) : ∃ (v : Value) (l : List Int), cs = [v] ∧ IntsC w v l ∧ (l = [] ∨ ∃ el rest, x.1 = .slice el rest ∧ el.length = l.length) := by
  rcases open_slice Try.underlying27 hf with ⟨h0, _⟩ | ⟨a, len, cap, m, n, Dt, Pl, hcs, hb, hl, hm, hmm, hx, hi⟩
  · exact ⟨.slice none 0 0, [], h0, IntsC.none w, .inl rfl⟩
  · have hC : Try.prog.cellsOf 3 = 1 := by kernel_rfl
    have hlm : len ≤ m := by rw [hmm]; split <;> omega
    by_cases h0 : len = 0
    · subst h0
      exact ⟨_, [], hcs, ⟨.inl ⟨rfl, _, _, rfl⟩, CapOk.mk hl⟩, .inl rfl⟩
    · have each : ∀ i, ∃ y : Int, i < len → (-9223372036854775808 ≤ y ∧ y ≤ 9223372036854775807) ∧ w.cell? (a.add i) = some (.int .i64 y) := fun i => by
        by_cases c : i < len
        · obtain ⟨cs', hc, ht⟩ := hi i (by omega)
          rw [hC] at hc
          obtain ⟨_, hcl, hat⟩ := World.cells?_some hc
          obtain ⟨y, hy, _, hw⟩ := DataW.trod_int Try.underlying3 ht
          refine ⟨y, fun _ => ⟨bounds_i64 hw, ?_⟩⟩
          have := hat 0 (by omega)
          rw [hy, Go.Deep.add_add, Nat.mul_one, Nat.add_zero] at this
          exact this
        · exact ⟨0, fun h => absurd h c⟩
      obtain ⟨f, hf'⟩ := Classical.axiomOfChoice each
      have h00 := (hf' 0 (by omega)).2
      obtain ⟨b, off, spot⟩ := a
      have hspot : spot = none := by simpa [Addr.add] using World.cell?_spot h00
      subst hspot
      refine ⟨_, (List.range len).map f, hcs, ⟨?_, CapOk.mk hl⟩, .inr ⟨_, _, congrArg Prod.fst hx, by simp⟩⟩
      refine .inr ⟨b, off, cap, by simp, World.block_lt_of_cell? w _ h00, by simp; omega, by simp; unfold maxLen at hm; omega, fun i x hx => ?_⟩
      have hil : i < len := by have := (List.getElem?_eq_some_iff.1 hx).1; simpa using this
      have hxf : f i = x := by simpa [List.getElem?_map, List.getElem?_range hil] using hx
      subst hxf
      obtain ⟨hw, hc⟩ := hf' i hil
      exact ⟨hw, by rw [← hc, Addr.add_mid]⟩
/-- States that came in. -/
def StsC (w : World) (v : Value) (l : List (List Int)) : Prop := ∃ vs, Rd w v 1 l.length vs ∧ ∀ (i : Nat) (u : Value) (s : List Int), vs[i]? = some u → l[i]? = some s → IntsC w u s
theorem StsC.sts {w : World} {v : Value} {l : List (List Int)} (h : StsC w v l) : Sts w v l := by
  obtain ⟨vs, h1, h2⟩ := h
  exact ⟨vs, h1, fun i u s hu hs => (h2 i u s hu hs).ints⟩
theorem StsC.on {w w' : World} {v : Value} {l : List (List Int)} (h : StsC w v l) (hb : Below w.heap.size w w') : StsC w' v l := by
  obtain ⟨vs, h1, h2⟩ := h
  exact ⟨vs, h1.on hb, fun i u s hu hs => (h2 i u s hu hs).on hb⟩
theorem sts_open {H : Type} {enc : TypeId × Value → H} {w : World} {base b0 : Nat} {sp : Nat → Bool} {held : Bool} {r : Reach} {v : Value} {d : DataW H} {p : List MemPlace}
    (hv : Value.okWide Try.prog w r b0 29 v) (h : DataW.Trod enc Try.prog w base sp held 29 v d p) : ∃ l : List (List Int), StsC w v l ∧ ((∀ n ∈ DataW.weights Try.prog 29 d, n ≤ reachBytes) → ∀ s ∈ l, s.length ≤ 17592186044416) := by
  obtain ⟨ao, len0, cap0, rfl⟩ := okWide_slice Try.underlying29 hv
  obtain ⟨fuel, hf⟩ := h
  rcases open_slice Try.underlying29 hf with ⟨h0, _⟩ | ⟨a, len, cap, m, n, Dt, Pl, hcs, hb, hl, hm, hmm, hx, hi⟩
  · have : Value.slice ao len0 cap0 = .slice none 0 0 := by simpa [Value.cells] using h0
    cases this
    exact ⟨[], ⟨[], Rd.nil _ _ _ _, fun i u s hu => by simp at hu⟩, fun _ s hs => by cases hs⟩
  · have e : Value.slice ao len0 cap0 = .slice (some a) len cap := by simpa [Value.cells] using hcs
    cases e
    have hC : Try.prog.cellsOf 27 = 1 := by kernel_rfl
    have hlm : len0 ≤ m := by rw [hmm]; split <;> omega
    by_cases h0 : len0 = 0
    · subst h0
      exact ⟨[], ⟨[], Rd.nil _ _ _ _, fun i u s hu => by simp at hu⟩, fun _ s hs => by cases hs⟩
    · have each : ∀ i, ∃ y : Value × List Int, i < len0 → IntsC w y.1 y.2 ∧ w.cell? (a.add i) = some y.1 ∧ (y.2 = [] ∨ ∃ el rest, Dt i = .slice el rest ∧ el.length = y.2.length) := fun i => by
        by_cases c : i < len0
        · obtain ⟨cs', hc, ht⟩ := hi i (by omega)
          rw [hC] at hc
          obtain ⟨_, hcl, hat⟩ := World.cells?_some hc
          obtain ⟨u, s, hy, hu, hw⟩ := ints_read ht
          refine ⟨(u, s), fun _ => ⟨hu, ?_, hw⟩⟩
          have := hat 0 (by omega)
          rw [hy, Go.Deep.add_add, Nat.mul_one, Nat.add_zero] at this
          exact this
        · exact ⟨(.slice none 0 0, []), fun h => absurd h c⟩
      obtain ⟨f, hf'⟩ := Classical.axiomOfChoice each
      have h00 := (hf' 0 (by omega)).2.1
      obtain ⟨b, off, spot⟩ := a
      have hspot : spot = none := by simpa [Addr.add] using World.cell?_spot h00
      subst hspot
      refine ⟨(List.range len0).map fun i => (f i).2, ⟨(List.range len0).map fun i => (f i).1, ⟨by simp, .inr ⟨b, off, cap0, by simp, World.block_lt_of_cell? w _ h00, by simp; omega, fun i u hu => ?_⟩⟩, fun i u s hu hs => ?_⟩, fun hW s hs => ?_⟩
      · have hil : i < len0 := by have := (List.getElem?_eq_some_iff.1 hu).1; simpa using this
        have hxf : (f i).1 = u := by simpa [List.getElem?_map, List.getElem?_range hil] using hu
        rw [← hxf, ← (hf' i hil).2.1, Addr.add_mid]
      · have hil : i < len0 := by have := (List.getElem?_eq_some_iff.1 hu).1; simpa using this
        have hxf : (f i).1 = u := by simpa [List.getElem?_map, List.getElem?_range hil] using hu
        have hxs : (f i).2 = s := by simpa [List.getElem?_map, List.getElem?_range hil] using hs
        rw [← hxf, ← hxs]
        exact (hf' i hil).1
      · obtain ⟨i, hil, rfl⟩ := List.mem_map.1 hs
        have hil : i < len0 := by simpa using hil
        rcases (hf' i hil).2.2 with e | ⟨el, rest, hd, hel⟩
        · rw [e]; exact Nat.zero_le _
        · have hdd : d = _ := congrArg Prod.fst hx
          have hmem : ∀ (l : List (DataW H)) (y : DataW H), y ∈ l → ∀ n ∈ DataW.weights Try.prog 27 y, n ∈ DataW.weightsAll Try.prog 27 l := fun l => by
            induction l with
            | nil => intro y hy; cases hy
            | cons z r ih =>
              intro y hy n hn
              rw [DataW.weightsAll, List.mem_append]
              rcases List.mem_cons.1 hy with rfl | hy
              · exact .inl hn
              · exact .inr (ih y hy n hn)
          have h1 : (el.length + rest.length) * Try.prog.bytesOf 3 ∈ DataW.weights Try.prog 27 (Dt i) := by rw [hd]; simp [DataW.weights, Try.underlying27]
          have h2 : (el.length + rest.length) * Try.prog.bytesOf 3 ∈ DataW.weights Try.prog 29 d := by
            rw [hdd]
            simp only [DataW.weights, Try.underlying29]
            refine List.mem_cons_of_mem _ (List.mem_append_left _ (hmem _ _ (List.mem_map.2 ⟨i, List.mem_range.2 hil, rfl⟩) _ h1))
          have h3 := hW _ h2
          rw [show Try.prog.bytesOf 3 = 8 by kernel_rfl] at h3
          simp only [reachBytes] at h3
          omega
theorem ops_readL {H : Type} {enc : TypeId × Value → H} {w : World} {base : Nat} {sp : Nat → Bool} {held : Bool} {fuel : Nat} {cs : List Value} {x : DataW H × List MemPlace}
    (hf : DataW.trod enc Try.prog w base sp held fuel 22 cs = some x) : ∃ (v : Value) (l : List OpV), cs = [v] ∧ OpsOf w v l := by
  rcases open_slice Try.underlying22 hf with ⟨h0, _⟩ | ⟨a, len, cap, m, n, Dt, Pl, hcs, hb, hl, hm, hmm, hx, hi⟩
  · exact ⟨.slice none 0 0, [], h0, .inl ⟨rfl, none, 0, rfl⟩, by simp⟩
  · have hC : Try.prog.cellsOf 43 = 11 := by kernel_rfl
    have hlm : len ≤ m := by rw [hmm]; split <;> omega
    by_cases h0 : len = 0
    · subst h0
      exact ⟨_, [], hcs, .inl ⟨rfl, _, _, rfl⟩, by simp⟩
    · have each : ∀ i, ∃ y : OpV, i < len → y.Wf ∧ ∀ (j : Nat) (u : Value), (#[Value.int .i64 y.id, Value.int .i64 y.proc, Value.int .i64 y.obj, Value.int .i64 y.kind, Value.int .i64 y.meth, Value.int .i64 y.arg, Value.int .i64 y.sec, Value.bool y.done, Value.int .i64 y.res, Value.int .i64 y.inv, Value.int .i64 y.ret]).toList[j]? = some u → w.cell? ((a.add (i * 11)).add j) = some u := fun i => by
        by_cases c : i < len
        · obtain ⟨cs', hc, ht⟩ := hi i (by omega)
          rw [hC] at hc
          obtain ⟨_, hcl, hat⟩ := World.cells?_some hc
          obtain ⟨y, hy, hw⟩ := op_read ht
          refine ⟨y, fun _ => ⟨hw, fun j u hj => ?_⟩⟩
          have hj11 : j < 11 := (List.getElem?_eq_some_iff.1 hj).1
          have := hat j hj11
          rw [hy] at this
          rw [this]
          exact hj
        · exact ⟨⟨0, 0, 0, 0, 0, 0, 0, false, 0, 0, 0⟩, fun h => absurd h c⟩
      obtain ⟨f, hf'⟩ := Classical.axiomOfChoice each
      have h00 := (hf' 0 (by omega)).2 0 _ rfl
      obtain ⟨b, off, spot⟩ := a
      have hspot : spot = none := by simpa [Addr.add] using World.cell?_spot h00
      subst hspot
      refine ⟨_, (List.range len).map f, hcs, .inr ⟨b, off, cap, by simp, World.block_lt_of_cell? w _ h00, by simp; omega, fun i x hx' j u hj => ?_⟩, fun x hx' => ?_⟩
      · have hil : i < len := by have := (List.getElem?_eq_some_iff.1 hx').1; simpa using this
        have hxf : f i = x := by simpa [List.getElem?_map, List.getElem?_range hil] using hx'
        subst hxf
        have := (hf' i hil).2 j u hj
        rwa [Go.Deep.add_add, Addr.add_mid, ← Nat.add_assoc] at this
      · obtain ⟨i, hil, rfl⟩ := List.mem_map.1 hx'
        exact (hf' i (by simpa using hil)).1
/-- A segment. -/
structure SegP where
  obj : Int
  kind : Int
  ops : List OpV
theorem segp_open {H : Type} {enc : TypeId × Value → H} {w : World} {base b0 : Nat} {sp : Nat → Bool} {held : Bool} {r : Reach} {v : Value} {d : DataW H} {p : List MemPlace}
    (hv : Value.okWide Try.prog w r b0 24 v) (h : DataW.Trod enc Try.prog w base sp held 24 v d p) : ∃ (s : SegP) (u : Value), v = .agg #[.int .i64 s.obj, .int .i64 s.kind, u] ∧ OpsOf w u s.ops := by
  obtain ⟨cs, rfl, hsz⟩ := okWide_struct Try.underlying24 hv
  obtain ⟨fuel, hf⟩ := h
  obtain ⟨ys, n, _, _, hlen, hyl, hg⟩ := DataW.trod_struct Try.underlying24 hf
  have hcl : (Value.agg cs).cells.toList = cs.toList := by simp [Value.cells]
  rw [hcl] at hlen hg
  have hl : cs.toList.length = 3 := hlen.trans (by kernel_rfl)
  have h0 : DataW.trod enc Try.prog w base sp held n 3 ((cs.toList.drop 0).take (Try.prog.cellsOf 3)) = ys[0]? := hg 0 _ rfl
  have h1 : DataW.trod enc Try.prog w base sp held n 3 ((cs.toList.drop 1).take (Try.prog.cellsOf 3)) = ys[1]? := hg 1 _ rfl
  have h2 : DataW.trod enc Try.prog w base sp held n 22 ((cs.toList.drop 2).take (Try.prog.cellsOf 22)) = ys[2]? := hg 2 _ rfl
  have hyl2 : ys.length = 3 := hyl
  rw [show Try.prog.cellsOf 3 = 1 by kernel_rfl, List.getElem?_eq_getElem (by omega)] at h0 h1
  rw [show Try.prog.cellsOf 22 = 1 by kernel_rfl, List.getElem?_eq_getElem (by omega)] at h2
  obtain ⟨a, e0, _⟩ := DataW.trod_int Try.underlying3 h0
  obtain ⟨b, e1, _⟩ := DataW.trod_int Try.underlying3 h1
  obtain ⟨u, l, e2, hu⟩ := ops_readL h2
  refine ⟨⟨a, b, l⟩, u, ?_, hu⟩
  obtain ⟨cl⟩ := cs
  match cl, hl with
  | [x, y, z], _ =>
    simp at e0 e1 e2
    rw [e0, e1, e2]
end Ln
end Go.Proofs.Ytppjmmdiglnkfaa
namespace Go.Proofs.Ytppjmmdiglnkfaa
set_option maxRecDepth 100000
open Go.ChangeShapes Go.WideShapes Go.ChangeAt Go.RowKit Go.PlainAid Go.Deep
namespace Ln
/-- A truth that is told only if it is so. -/
def IfB (P : Prop) (w : World) (e : Ending) (w' : World) : Prop := ∃ b, e = .returned (.bool b) ∧ (b = true → P) ∧ Below w.heap.size w w'
set_option maxHeartbeats 4000000 in
theorem alike_any {obj kind : Int} {vo : Value} {l : List OpV} {w : World} (h : OpsOf w vo l) (hl : l.length ≤ 1000000000) : Calls Try.prog 23 #[.agg #[.int .i64 obj, .int .i64 kind, vo]] w (IfB (∀ o ∈ l, o.kind = kind) w) := by
  obtain ⟨ao, co, rfl⟩ := h.len
  have hbw : Below w.heap.size w (w.alloc (.cells #[.int .i64 obj, .int .i64 kind, .slice ao l.length co] 24)) := by go_grown
  have hbx := heap_alloc_new w (.cells #[.int .i64 obj, .int .i64 kind, .slice ao l.length co] 24)
  obtain ⟨W1, hW1⟩ : ∃ W, w.alloc (.cells #[.int .i64 obj, .int .i64 kind, .slice ao l.length co] 24) = W := ⟨_, rfl⟩
  rw [hW1] at hbw hbx
  have HB := Lib.hid hbw
  have HX := Lib.hid hbx
  have H := Lib.hid (h.on hbw)
  have HI0 := Lib.hid (show (∀ k o, k < 0 → l[k]? = some o → o.kind = kind) ∧ Below W1.heap.size W1 W1 from ⟨fun k o h => by omega, Below.refl _ _⟩)
  clear hbw hbx h
  go_enter Try.func23, Try.ntmps23
  go_wp2_with fail
  go_loopw [3] (fun s3 wr => ∃ i : Nat, s3 = .int .i64 i ∧ i ≤ l.length ∧ Hid ((∀ k o, k < i → l[k]? = some o → o.kind = kind) ∧ Below W1.heap.size W1 wr)) (fun s3 _ => l.length - (intOf s3).toNat)
  case atStart => exact ⟨0, rfl, Nat.zero_le _, HI0⟩
  case round =>
    clear HI0
    obtain ⟨i, rfl, hi, HI⟩ := hrel
    rename World => wq
    have hxq := (HI.out.2.block _ (heap_inO HX.out)).trans HX.out
    have g2 : wq.cell? ⟨w.heap.size, 2, none⟩ = some (.slice ao l.length co) := by rw [cell_of_row _ _ _ _ _ _ hxq]; rfl
    by_cases hil : i < l.length
    · have q1 : (i : Int) < (l.length : Int) := by omega
      have q2 : IntKind.i64.wrap ((i : Int) + 1) = (i : Int) + 1 := IntWalk.i64_in _ (by omega)
      have q3 : (0 : Int) ≤ i := by omega
      obtain ⟨o, ho⟩ : ∃ o, l[i]? = some o := ⟨_, List.getElem?_eq_getElem hil⟩
      have hbd := HI.out.2.on (Below.refl wq.heap.size wq).drew
      obtain ⟨b, p, cap, hv, _, _, hc⟩ := OpsOf.at (H.out.on hbd) ho
      obtain rfl : ao = some ⟨b, p, none⟩ := by cases hv; rfl
      have hxd := (hbd.block _ (heap_inO HX.out)).trans HX.out
      have d1 : wq.drew.cell? ⟨w.heap.size, 1, none⟩ = some (.int .i64 kind) := by rw [cell_of_row _ _ _ _ _ _ hxd]; rfl
      have d2 : wq.drew.cell? ⟨w.heap.size, 2, none⟩ = some (.slice (some ⟨b, p, none⟩) l.length co) := by rw [cell_of_row _ _ _ _ _ _ hxd]; rfl
      have d3 : wq.drew.cell? ⟨b, p + i * 11 + 3, none⟩ = some (.int .i64 o.kind) := hc 3 _ rfl
      have HBD := Lib.hid hbd
      have HO := Lib.hid ho
      clear hv hc ho hbd hxd hxq
      by_cases hk : o.kind = kind
      · have q5 : (o.kind != kind) = false := by rw [hk]; simp
        have HE := Lib.hid (show (∀ k o, k < i + 1 → l[k]? = some o → o.kind = kind) ∧ Below W1.heap.size W1 wq.drew from ⟨fun k x hx hlx => by
          by_cases c : k < i
          · exact HI.out.1 k x c hlx
          · obtain rfl : k = i := by omega
            rw [HO.out] at hlx
            rw [← Option.some.inj hlx]; exact hk, HBD.out⟩)
        clear hk
        go_wp2_with fail
        go_region
        go_wp2_with fail
        go_roundw
        case measure => simp [intOf] <;> omega
        case rel => exact ⟨i + 1, by simp, by omega, HE⟩
      · have q5 : (o.kind != kind) = true := bne_iff_ne.2 hk
        clear hk
        go_wp2_with fail
        go_region
        go_wp2_with fail
        go_returns
        exact ⟨false, rfl, fun h => (by cases h), HB.out.on HBD.out⟩
    · obtain rfl : i = l.length := by omega
      have q1 : ¬ ((l.length : Int) < (l.length : Int)) := by omega
      go_wp2_with fail
      go_returns
      exact ⟨true, rfl, fun _ o ho => by
        obtain ⟨k, hk⟩ := List.getElem?_of_mem ho
        exact HI.out.1 k o (List.getElem?_eq_some_iff.1 hk).1 hk, HB.out.on HI.out.2⟩
/-- States that are few and short, and rise where they must. -/
structure ShortP (kind : Int) (l : List (List Int)) : Prop where
  few : l.length ≤ 20
  sum : (l.map List.length).sum ≤ 200
  rise : kind = 5 → ∀ s ∈ l, risesB s = true
set_option maxHeartbeats 4000000 in
theorem short_any {kind : Int} {v : Value} {l : List (List Int)} {w : World} (h : Sts w v l) (hz : ∀ s ∈ l, s.length ≤ 17592186044416) : Calls Try.prog 45 #[.int .i64 kind, v] w (IfB (ShortP kind l) w) := by
  obtain ⟨al, cl, rfl⟩ := h.len
  have H := Lib.hid h
  have HZ := Lib.hid hz
  have HI0 := Lib.hid (show ((l.take 0).map List.length).sum ≤ 17592186044416 * 0 ∧ (∀ k s, k < 0 → l[k]? = some s → kind = 5 → risesB s = true) ∧ Below w.heap.size w w from ⟨by simp, fun k s h => by omega, Below.refl _ _⟩)
  clear h hz
  go_enter Try.func45, Try.ntmps45
  go_wp2_with fail
  go_loopw [5, 6] (fun s5 s6 wr => ∃ i : Nat, s6 = .int .i64 i ∧ s5 = .int .i64 (((l.take i).map List.length).sum : Nat) ∧ i ≤ l.length ∧ i ≤ 21 ∧ Hid (((l.take i).map List.length).sum ≤ 17592186044416 * i ∧ (∀ k s, k < i → l[k]? = some s → kind = 5 → risesB s = true) ∧ Below w.heap.size w wr)) (fun _ s6 _ => l.length - (intOf s6).toNat)
  case atStart => exact ⟨0, rfl, rfl, Nat.zero_le _, by omega, HI0⟩
  case round =>
    clear HI0
    obtain ⟨i, rfl, rfl, hi, hi2, HI⟩ := hrel
    rename World => wq
    by_cases hil : i < l.length
    case pos =>
      have q1 : (i : Int) < (l.length : Int) := by omega
      by_cases h20 : i ≤ 20
      case pos =>
        have q1b : (i : Int) ≤ 20 := by omega
        have q2 : IntKind.i64.wrap ((i : Int) + 1) = (i : Int) + 1 := IntWalk.i64_in _ (by omega)
        have q3 : (0 : Int) ≤ i := by omega
        obtain ⟨s, hs⟩ : ∃ s, l[i]? = some s := ⟨_, List.getElem?_eq_getElem hil⟩
        obtain ⟨b, p, cap, u, hveq, hlt, hc, hu⟩ := (H.out.on HI.out.2.2).at hs
        obtain rfl : al = some ⟨b, p, none⟩ := by cases hveq; rfl
        obtain ⟨au, cu, rfl, _⟩ := hu.parts
        have hnx : ((l.take (i + 1)).map List.length).sum = ((l.take i).map List.length).sum + s.length := by
          rw [take_succ hs, List.map_append, List.sum_append]
          simp
        have hsl := HZ.out s (List.mem_of_getElem? hs)
        have hsm := HI.out.1
        have HNX := Lib.hid hnx
        have HS := Lib.hid hs
        have HU := Lib.hid hu
        clear hnx hveq hs hlt hu
        generalize ((l.take i).map List.length).sum = n at hsm HNX ⊢
        have q4 : IntKind.i64.wrap ((n : Int) + (s.length : Int)) = (n : Int) + (s.length : Int) := IntWalk.i64_in _ (by omega)
        by_cases hk : kind = 5
        · subst hk
          cases hr : risesB s with
          | true =>
            have HR := Lib.hid hr
            go_wp2_with fail
            refine (rrising_any _ s _ HU.out).mono ?_
            rintro _ w3 ⟨rfl, hb3⟩
            rw [HR.out]
            have HE := Lib.hid (show ((l.take (i + 1)).map List.length).sum ≤ 17592186044416 * (i + 1) ∧ (∀ k s, k < i + 1 → l[k]? = some s → (5 : Int) = 5 → risesB s = true) ∧ Below w.heap.size w w3 from ⟨by rw [HNX.out]; omega, fun k x hk hx he => by
              by_cases c : k < i
              · exact HI.out.2.1 k x c hx (by first | exact he | trivial)
              · obtain rfl : k = i := by omega
                rw [HS.out] at hx
                rw [← Option.some.inj hx]; exact HR.out, HI.out.2.2.on hb3⟩)
            clear hb3
            go_wp2_with fail
            go_roundw
            case measure => simp [intOf] <;> omega
            case rel => exact ⟨i + 1, by simp, by rw [HNX.out]; simp, by omega, by omega, HE⟩
          | false =>
            have HR := Lib.hid hr
            go_wp2_with fail
            refine (rrising_any _ s _ HU.out).mono ?_
            rintro _ w3 ⟨rfl, hb3⟩
            rw [HR.out]
            have HB3 := Lib.hid (HI.out.2.2.on hb3)
            clear hb3
            go_wp2_with fail
            go_returns
            exact ⟨false, rfl, fun h => (by cases h), HB3.out⟩
        · have q5 : (kind == 5) = false := beq_eq_false_iff_ne.2 hk
          have HE := Lib.hid (show ((l.take (i + 1)).map List.length).sum ≤ 17592186044416 * (i + 1) ∧ (∀ k s, k < i + 1 → l[k]? = some s → kind = 5 → risesB s = true) ∧ Below w.heap.size w wq from ⟨by rw [HNX.out]; omega, fun k x _ _ he => absurd he hk, HI.out.2.2⟩)
          clear hk
          go_wp2_with fail
          go_roundw
          case measure => simp [intOf] <;> omega
          case rel => exact ⟨i + 1, by simp, by rw [HNX.out]; simp, by omega, by omega, HE⟩
      case neg =>
        have q1b : ¬ ((i : Int) ≤ 20) := by omega
        have q6 : ¬ ((l.length : Int) ≤ 20) := by omega
        have HB := Lib.hid HI.out.2.2
        generalize ((l.take i).map List.length).sum = n at HI ⊢
        go_wp2_with fail
        go_returns
        exact ⟨false, rfl, fun h => (by cases h), HB.out⟩
    case neg =>
      obtain rfl : i = l.length := by omega
      have q1 : ¬ ((l.length : Int) < (l.length : Int)) := by omega
      have hr := HI.out.2.1
      have HR := Lib.hid hr
      have HB := Lib.hid HI.out.2.2
      rw [List.take_length]
      clear hr HI
      by_cases h20 : l.length ≤ 20
      case neg =>
        have q6 : ¬ ((l.length : Int) ≤ 20) := by omega
        generalize (l.map List.length).sum = n
        go_wp2_with fail
        go_returns
        exact ⟨false, rfl, fun h => (by cases h), HB.out⟩
      case pos =>
        have q6 : (l.length : Int) ≤ 20 := by omega
        obtain ⟨n, hn⟩ : ∃ n, (l.map List.length).sum = n := ⟨_, rfl⟩
        rw [hn]
        have HN := Lib.hid hn
        clear hn
        by_cases h2 : n ≤ 200
        · have q7 : (n : Int) ≤ 200 := by omega
          go_wp2_with fail
          go_returns
          exact ⟨true, rfl, fun _ => ⟨h20, by rw [HN.out]; exact h2, fun he s hs => by
            obtain ⟨k, hk⟩ := List.getElem?_of_mem hs
            exact HR.out k s (List.getElem?_eq_some_iff.1 hk).1 hk he⟩, HB.out⟩
        · have q7 : ¬ ((n : Int) ≤ 200) := by omega
          go_wp2_with fail
          go_returns
          exact ⟨false, rfl, fun h => (by cases h), HB.out⟩
end Ln
end Go.Proofs.Ytppjmmdiglnkfaa
