/- The acts that a law of package btree is called with, as plain data. The pages that a law of package journal is called with, as plain data. Plain: what a tree that is in order gives. Package btree: the law's long. -/
import Derived.Test.YtkdhlofcdcnjgaaGreatRows
import Derived.Test.YtkdhlofcdcnjgaaGreatGA
import Derived.Deep.Slices
import Derived.Deep.Fields
import Derived.ChangeSame
import Derived.SizedLaws
import Derived.Test.YtkdhlofcdcnjgaaGreatGE
import Derived.Test.YtkdhlofcdcnjgaaGreatBF
import Derived.Test.YtkdhlofcdcnjgaaGreatBD
import Derived.Test.YtkdhlofcdcnjgaaGreatBA
namespace Go.Proofs.YtkdhlofcdcnjgaaGreat
set_option maxRecDepth 100000
open Go.ChangeShapes Go.WideShapes Go.ChangeAt Go.RowKit Go.PlainAid Go.Deep

/-- A call that a law is told to make. -/
structure ActV where
  kind : Int
  key : ByteArray
  val : ByteArray
def ActV.cells (x : ActV) : List Value := [.int .i64 x.kind, .string x.key, .string x.val]
theorem ActV.cells_length (x : ActV) : x.cells.length = 3 := rfl
structure ActV.Wf (x : ActV) : Prop where
  kind : -9223372036854775808 ≤ x.kind ∧ x.kind ≤ 9223372036854775807
  key : (x.key.size : Int) ≤ 9223372036854775807
  val : (x.val.size : Int) ≤ 9223372036854775807

section
variable {H : Type} {enc : TypeId × Value → H} {P : Program} {w : World} {base : Nat} {sp : Nat → Bool} {held : Bool}
/-- The cells of a struct that can be read, one a field. -/
theorem struct_cells {e : TypeId} {fs : Array Field} {fuel : Nat} {cs : List Value} {x : DataW H × List MemPlace} (he : P.underlying e = some (.struct fs)) (hone : oneCellFields P fs = true) (hC : P.cellsOf e = fs.size)
    (h : DataW.trod enc P w base sp held fuel e cs = some x) : cs.length = fs.size ∧ ∀ (j : Nat) (f : Field), fs[j]? = some f → ∃ (v : Value) (y : DataW H × List MemPlace) (n : Nat), cs[j]? = some v ∧ DataW.trod enc P w base sp held n f.type [v] = some y := by
  obtain ⟨ys, n, _, _, hlen, hyl, hf⟩ := DataW.trod_struct he h
  have hlen' : cs.length = fs.size := hlen.trans hC
  refine ⟨hlen', fun j f hj => ?_⟩
  obtain ⟨ho, hk⟩ := hone_of hone j f hj
  have hjl : j < fs.size := (Array.getElem?_eq_some_iff.1 hj).1
  have h1 := hf j f hj
  rw [ho, hk] at h1
  have hv : cs[j]? = some (cs[j]'(by omega)) := List.getElem?_eq_getElem (by omega)
  have e1 : (cs.drop j).take 1 = [cs[j]'(by omega)] := by
    rw [List.drop_eq_getElem_cons (by omega)]
    rfl
  rw [e1] at h1
  have hy : ys[j]? = some (ys[j]'(by omega)) := List.getElem?_eq_getElem (by omega)
  exact ⟨_, _, n, hv, h1.trans hy⟩
/-- The parts of what a struct reads as, one a field. -/
theorem struct_parts {e : TypeId} {fs : Array Field} {fuel : Nat} {cs : List Value} {x : DataW H × List MemPlace} (he : P.underlying e = some (.struct fs)) (hone : oneCellFields P fs = true) (hC : P.cellsOf e = fs.size)
    (h : DataW.trod enc P w base sp held fuel e cs = some x) : ∃ parts, x.1 = .agg parts ∧ ∀ (j : Nat) (f : Field), fs[j]? = some f → ∃ (v : Value) (y : DataW H × List MemPlace) (n : Nat), cs[j]? = some v ∧ parts[j]? = some y.1 ∧ DataW.trod enc P w base sp held n f.type [v] = some y := by
  obtain ⟨ys, n, _, hx, hlen, hyl, hf⟩ := DataW.trod_struct he h
  have hlen' : cs.length = fs.size := hlen.trans hC
  refine ⟨ys.map (·.1), by rw [hx], fun j f hj => ?_⟩
  obtain ⟨ho, hk⟩ := hone_of hone j f hj
  have hjl : j < fs.size := (Array.getElem?_eq_some_iff.1 hj).1
  have h1 := hf j f hj
  rw [ho, hk] at h1
  have hv : cs[j]? = some (cs[j]'(by omega)) := List.getElem?_eq_getElem (by omega)
  have e1 : (cs.drop j).take 1 = [cs[j]'(by omega)] := by
    rw [List.drop_eq_getElem_cons (by omega)]
    rfl
  rw [e1] at h1
  have hy : ys[j]? = some (ys[j]'(by omega)) := List.getElem?_eq_getElem (by omega)
  exact ⟨_, _, n, hv, by rw [List.getElem?_map, hy]; rfl, h1.trans hy⟩
/-- A text in a struct that a law is called with is within reach. -/
theorem sized_part {ts : List TypeId} {ds : List (DataW H)} (h : (DataW.weightsEach P ts ds).all (· ≤ reachBytes) = true) {j i : Nat} {t : TypeId} {fs : Array Field} {f : Field} {parts : List (DataW H)} {bytes : List UInt8}
    (ht : ts[j]? = some t) (hd : ds[j]? = some (.agg parts)) (hu : P.underlying t = some (.struct fs)) (hf : fs[i]? = some f) (hp : parts[i]? = some (.lit (.string bytes))) : bytes.length ≤ reachBytes := by
  refine of_decide_eq_true (List.all_eq_true.1 h _ (DataW.weights_mem_each ht hd _ ?_))
  simp only [DataW.weights, hu]
  exact DataW.weights_mem_each (t := f.type) (by rw [List.getElem?_map, Array.getElem?_toList, hf]; rfl) hp _ (by simp [DataW.weights])
end

theorem act_read {H : Type} {enc : TypeId × Value → H} {w : World} {base : Nat} {sp : Nat → Bool} {held : Bool} {fuel : Nat} {cs : List Value} {x : DataW H × List MemPlace}
    (h : DataW.trod enc Tryz.prog w base sp held fuel 31 cs = some x) : ∃ y : ActV, cs = y.cells ∧ y.Wf := by
  obtain ⟨hl, hf⟩ := struct_cells Tryz.underlying31 (by kernel_rfl) (by kernel_rfl) h
  obtain ⟨v0, _, _, g0, r0⟩ := hf 0 _ rfl
  obtain ⟨v1, _, _, g1, r1⟩ := hf 1 _ rfl
  obtain ⟨v2, _, _, g2, r2⟩ := hf 2 _ rfl
  obtain ⟨n0, e0, _, w0⟩ := DataW.trod_int Tryz.underlying3 r0
  obtain ⟨s1, e1, _, w1⟩ := DataW.trod_string Tryz.underlying9 r1
  obtain ⟨s2, e2, _, w2⟩ := DataW.trod_string Tryz.underlying9 r2
  obtain rfl : v0 = _ := by simpa using e0
  obtain rfl : v1 = _ := by simpa using e1
  obtain rfl : v2 = _ := by simpa using e2
  refine ⟨⟨n0, s1, s2⟩, ?_, ⟨bounds_i64 w0, (by show (s1.size : Int) ≤ 9223372036854775807; unfold maxLen at w1; omega), (by show (s2.size : Int) ≤ 9223372036854775807; unfold maxLen at w2; omega)⟩⟩
  have hl3 : cs.length = 3 := hl
  apply List.ext_getElem?
  intro i
  match i with
  | 0 => exact g0
  | 1 => exact g1
  | 2 => exact g2
  | i + 3 => rw [List.getElem?_eq_none (by omega), List.getElem?_eq_none (by rw [ActV.cells_length]; omega)]

/-- The acts that a slice reads as, in world w. -/
def ActsIn (w : World) (v : Value) (l : List ActV) : Prop :=
  (l = [] ∧ ∃ ao cap, v = .slice ao 0 cap) ∨ ∃ b o cap, v = .slice (some ⟨b, o, none⟩) l.length cap ∧ b < w.heap.size ∧ 0 < l.length ∧ (l.length : Int) ≤ 9223372036854775807 ∧ ∀ i x, l[i]? = some x → x.Wf ∧ w.rangeAt b (o + i * 3) x.cells

theorem act_open {H : Type} {enc : TypeId × Value → H} {w : World} {base b0 : Nat} {sp : Nat → Bool} {held : Bool} {r : Reach} {v : Value} {d : DataW H} {p : List MemPlace}
    (hv : Value.okWide Tryz.prog w r b0 31 v) (h : DataW.Trod enc Tryz.prog w base sp held 31 v d p) : ∃ y : ActV, v = .agg y.cells.toArray ∧ y.Wf := by
  obtain ⟨cs, rfl, hsz⟩ := okWide_struct Tryz.underlying31 hv
  obtain ⟨fuel, hf⟩ := h
  obtain ⟨y, hy, hw⟩ := act_read hf
  refine ⟨y, ?_, hw⟩
  rw [← hy]
  simp [Value.cells]

theorem act_open_sized {H : Type} {enc : TypeId × Value → H} {w : World} {base b0 : Nat} {sp : Nat → Bool} {held : Bool} {r : Reach} {v : Value} {d : DataW H} {p : List MemPlace}
    (hv : Value.okWide Tryz.prog w r b0 31 v) (h : DataW.Trod enc Tryz.prog w base sp held 31 v d p) : ∃ (y : ActV) (parts : List (DataW H)), v = .agg y.cells.toArray ∧ y.Wf ∧ d = .agg parts ∧ parts[1]? = some (.lit (.string y.key.data.toList)) := by
  obtain ⟨cs, rfl, hsz⟩ := okWide_struct Tryz.underlying31 hv
  obtain ⟨fuel, hf⟩ := h
  obtain ⟨y, hy, hw⟩ := act_read hf
  obtain ⟨parts, hx, hp⟩ := struct_parts Tryz.underlying31 (by kernel_rfl) (by kernel_rfl) hf
  obtain ⟨v1, z1, _, g1, p1, r1⟩ := hp 1 _ rfl
  obtain ⟨s1, e1, rfl, w1⟩ := DataW.trod_string Tryz.underlying9 r1
  refine ⟨y, parts, ?_, hw, hx, ?_⟩
  · rw [← hy]
    simp [Value.cells]
  · rw [p1]
    rw [hy] at g1
    have g1 : some (Value.string y.key) = some v1 := g1
    cases g1
    cases e1
    rfl

theorem acts_open {H : Type} {enc : TypeId × Value → H} {w : World} {base b0 : Nat} {sp : Nat → Bool} {held : Bool} {r : Reach} {v : Value} {d : DataW H} {p : List MemPlace}
    (hv : Value.okWide Tryz.prog w r b0 22 v) (h : DataW.Trod enc Tryz.prog w base sp held 22 v d p) : ∃ l : List ActV, ActsIn w v l := by
  obtain ⟨ao, len0, cap0, rfl⟩ := okWide_slice Tryz.underlying22 hv
  obtain ⟨fuel, hf⟩ := h
  rcases open_slice Tryz.underlying22 hf with ⟨h0, _⟩ | ⟨a, len, cap, m, n, Dt, Pl, hcs, hb, hl, hm, hmm, _, hi⟩
  · refine ⟨[], .inl ⟨rfl, ao, cap0, ?_⟩⟩
    have : Value.slice ao len0 cap0 = .slice none 0 0 := by simpa [Value.cells] using h0
    cases this
    rfl
  · have e : Value.slice ao len0 cap0 = .slice (some a) len cap := by simpa [Value.cells] using hcs
    cases e
    have hC : Tryz.prog.cellsOf 31 = 3 := by kernel_rfl
    have hlm : len0 ≤ m := by rw [hmm]; split <;> omega
    by_cases h0 : len0 = 0
    · subst h0
      exact ⟨[], .inl ⟨rfl, _, _, rfl⟩⟩
    · have each : ∀ i, ∃ y : ActV, i < len0 → y.Wf ∧ ∀ j, j < 3 → w.cell? (a.add (i * 3 + j)) = y.cells[j]? := fun i => by
        by_cases c : i < len0
        · obtain ⟨cs', hc, ht⟩ := hi i (by omega)
          rw [hC] at hc
          obtain ⟨_, hcl, hat⟩ := World.cells?_some hc
          obtain ⟨y, hy, hw⟩ := act_read ht
          refine ⟨y, fun _ => ⟨hw, fun j hj => ?_⟩⟩
          rw [← Go.Deep.add_add, hat j hj, hy]
        · exact ⟨⟨0, ByteArray.empty, ByteArray.empty⟩, fun h => absurd h c⟩
      obtain ⟨f, hf'⟩ := Classical.axiomOfChoice each
      have h00 := (hf' 0 (by omega)).2 0 (by omega)
      obtain ⟨b, off, spot⟩ := a
      have hs0 : w.cell? ((⟨b, off, spot⟩ : Addr).add (0 * 3 + 0)) = some (.int .i64 (f 0).kind) := h00
      have hspot : spot = none := by simpa [Addr.add] using World.cell?_spot hs0
      subst hspot
      refine ⟨(List.range len0).map f, .inr ⟨b, off, cap0, by simp, ?_, by simp; omega, by simp; unfold maxLen at hm; omega, fun i x hx => ?_⟩⟩
      · exact World.block_lt_of_cell? w _ hs0
      · have hil : i < len0 := by have := (List.getElem?_eq_some_iff.1 hx).1; simpa using this
        have hxf : f i = x := by simpa [List.getElem?_map, List.getElem?_range hil] using hx
        subst hxf
        obtain ⟨hw, hc⟩ := hf' i hil
        refine ⟨hw, fun j u hu => ?_⟩
        have hj : j < 3 := by have := (List.getElem?_eq_some_iff.1 hu).1; simpa [ActV.cells_length] using this
        rw [← hu, ← hc j hj, Addr.add_mid, Nat.add_assoc]
theorem ActsIn.on {w w' : World} {v : Value} {l : List ActV} (h : ActsIn w v l) (hb : Below w.heap.size w w') : ActsIn w' v l := by
  rcases h with h | ⟨b, o, cap, hv, hlt, h0, hm, hr⟩
  · exact .inl h
  · exact .inr ⟨b, o, cap, hv, Nat.lt_of_lt_of_le hlt hb.size, h0, hm, fun i x hx => ⟨(hr i x hx).1, rangeAt_keep (hr i x hx).2 (hb.block b hlt)⟩⟩
end Go.Proofs.YtkdhlofcdcnjgaaGreat
namespace Go.Proofs.YtkdhlofcdcnjgaaGreat
set_option maxRecDepth 100000
open Go.ChangeShapes Go.WideShapes Go.ChangeAt Go.RowKit Go.PlainAid Go.Deep

theorem PageV.cells_length (x : PageV) : x.cells.length = 2 := rfl
section
variable {H : Type} {enc : TypeId × Value → H} {P : Program} {w : World} {base : Nat} {sp : Nat → Bool} {held : Bool}
/-- The cells of a struct that can be read, one a field. -/
theorem struct_cellsP {e : TypeId} {fs : Array Field} {fuel : Nat} {cs : List Value} {x : DataW H × List MemPlace} (he : P.underlying e = some (.struct fs)) (hone : oneCellFields P fs = true) (hC : P.cellsOf e = fs.size)
    (h : DataW.trod enc P w base sp held fuel e cs = some x) : cs.length = fs.size ∧ ∀ (j : Nat) (f : Field), fs[j]? = some f → ∃ (v : Value) (y : DataW H × List MemPlace) (n : Nat), cs[j]? = some v ∧ DataW.trod enc P w base sp held n f.type [v] = some y := by
  obtain ⟨ys, n, _, _, hlen, hyl, hf⟩ := DataW.trod_struct he h
  have hlen' : cs.length = fs.size := hlen.trans hC
  refine ⟨hlen', fun j f hj => ?_⟩
  obtain ⟨ho, hk⟩ := hone_of hone j f hj
  have hjl : j < fs.size := (Array.getElem?_eq_some_iff.1 hj).1
  have h1 := hf j f hj
  rw [ho, hk] at h1
  have e1 : (cs.drop j).take 1 = [cs[j]'(by omega)] := by
    rw [List.drop_eq_getElem_cons (by omega)]
    rfl
  rw [e1] at h1
  have hy : ys[j]? = some (ys[j]'(by omega)) := List.getElem?_eq_getElem (by omega)
  exact ⟨_, _, n, List.getElem?_eq_getElem (by omega), h1.trans hy⟩
end

theorem page_read {H : Type} {enc : TypeId × Value → H} {w : World} {base : Nat} {sp : Nat → Bool} {held : Bool} {fuel : Nat} {cs : List Value} {x : DataW H × List MemPlace}
    (h : DataW.trod enc Tryz.prog w base sp held fuel 36 cs = some x) : ∃ y : PageV, cs = y.cells ∧ y.Wf := by
  obtain ⟨hl, hf⟩ := struct_cellsP Tryz.underlying36 (by kernel_rfl) (by kernel_rfl) h
  obtain ⟨v0, _, _, g0, r0⟩ := hf 0 _ rfl
  obtain ⟨v1, _, _, g1, r1⟩ := hf 1 _ rfl
  obtain ⟨n0, e0, _, w0⟩ := DataW.trod_int Tryz.underlying3 r0
  obtain ⟨s1, e1, _, w1⟩ := DataW.trod_string Tryz.underlying9 r1
  obtain rfl : v0 = _ := by simpa using e0
  obtain rfl : v1 = _ := by simpa using e1
  refine ⟨⟨n0, s1⟩, ?_, ⟨bounds_i64 w0, w1⟩⟩
  have hl2 : cs.length = 2 := hl
  apply List.ext_getElem?
  intro i
  match i with
  | 0 => exact g0
  | 1 => exact g1
  | i + 2 => rw [List.getElem?_eq_none (by omega), List.getElem?_eq_none (by rw [PageV.cells_length]; omega)]

theorem pages_open {H : Type} {enc : TypeId × Value → H} {w : World} {base b0 : Nat} {sp : Nat → Bool} {held : Bool} {r : Reach} {v : Value} {d : DataW H} {p : List MemPlace}
    (hv : Value.okWide Tryz.prog w r b0 23 v) (h : DataW.Trod enc Tryz.prog w base sp held 23 v d p) : ∃ l : List PageV, PagesIn w v l ∧ (l = [] ∨ ∃ el rest, d = .slice el rest ∧ el.length = l.length) := by
  obtain ⟨ao, len0, cap0, rfl⟩ := okWide_slice Tryz.underlying23 hv
  obtain ⟨fuel, hf⟩ := h
  rcases open_slice Tryz.underlying23 hf with ⟨h0, _⟩ | ⟨a, len, cap, m, n, Dt, Pl, hcs, hb, hl, hm, hmm, hx, hi⟩
  · refine ⟨[], .inl ⟨rfl, ao, cap0, ?_⟩, .inl rfl⟩
    have : Value.slice ao len0 cap0 = .slice none 0 0 := by simpa [Value.cells] using h0
    cases this
    rfl
  · have e : Value.slice ao len0 cap0 = .slice (some a) len cap := by simpa [Value.cells] using hcs
    cases e
    have hC : Tryz.prog.cellsOf 36 = 2 := by kernel_rfl
    have hlm : len0 ≤ m := by rw [hmm]; split <;> omega
    by_cases h0 : len0 = 0
    · subst h0
      exact ⟨[], .inl ⟨rfl, _, _, rfl⟩, .inl rfl⟩
    · have each : ∀ i, ∃ y : PageV, i < len0 → y.Wf ∧ ∀ j, j < 2 → w.cell? (a.add (i * 2 + j)) = y.cells[j]? := fun i => by
        by_cases c : i < len0
        · obtain ⟨cs', hc, ht⟩ := hi i (by omega)
          rw [hC] at hc
          obtain ⟨_, hcl, hat⟩ := World.cells?_some hc
          obtain ⟨y, hy, hw⟩ := page_read ht
          refine ⟨y, fun _ => ⟨hw, fun j hj => ?_⟩⟩
          rw [← Go.Deep.add_add, hat j hj, hy]
        · exact ⟨⟨0, ByteArray.empty⟩, fun h => absurd h c⟩
      obtain ⟨f, hf'⟩ := Classical.axiomOfChoice each
      have h00 := (hf' 0 (by omega)).2 0 (by omega)
      obtain ⟨b, off, spot⟩ := a
      have hs0 : w.cell? ((⟨b, off, spot⟩ : Addr).add (0 * 2 + 0)) = some (.int .i64 (f 0).at_) := h00
      have hspot : spot = none := by simpa [Addr.add] using World.cell?_spot hs0
      subst hspot
      refine ⟨(List.range len0).map f, .inr ⟨b, off, cap0, by simp, ?_, by simp; omega, by simp; unfold maxLen at hm; omega, fun i x hx => ?_⟩, .inr ⟨_, _, congrArg Prod.fst hx, by simp⟩⟩
      · exact World.block_lt_of_cell? w _ hs0
      · have hil : i < len0 := by have := (List.getElem?_eq_some_iff.1 hx).1; simpa using this
        have hxf : f i = x := by simpa [List.getElem?_map, List.getElem?_range hil] using hx
        subst hxf
        obtain ⟨hw, hc⟩ := hf' i hil
        refine ⟨hw, fun j u hu => ?_⟩
        have hj : j < 2 := by have := (List.getElem?_eq_some_iff.1 hu).1; simpa [PageV.cells_length] using this
        rw [← hu, ← hc j hj, Addr.add_mid, Nat.add_assoc]
end Go.Proofs.YtkdhlofcdcnjgaaGreat
namespace Go.Proofs.YtkdhlofcdcnjgaaGreat
set_option maxRecDepth 100000
open Go.ChangeShapes Go.WideShapes Go.ChangeAt Go.RowKit Go.PlainAid Go.Shelf
open Go.Sort (grow)

theorem posP_empty (L : List Pr) : posP ⟨#[]⟩ L = 0 := posP_eq (Nat.zero_le _) (fun j p hj _ => by omega) (fun p _ => lessB_empty _)
theorem fromL_recs : ∀ l : List (NdD × Bool), (∀ y ∈ l, y.2 = false) → fromL ⟨#[]⟩ l = recsP l
  | [], _ => rfl
  | x :: l, h => by
    show (if x.2 = true then [] else givP ⟨#[]⟩ x.1 ++ fromL ⟨#[]⟩ l) = (if x.1.level = 1 then x.1.L else []) ++ recsP l
    rw [if_neg (by rw [h x List.mem_cons_self]; simp), fromL_recs l (fun y hy => h y (List.mem_cons_of_mem _ hy))]
    unfold givP
    rw [posP_empty, List.drop_zero]
/-- Records that rise, as they may be put, each of which is got. -/
structure RawL (V : Int → ByteArray) (n : Nat) (i : Int) (l : List Pr) : Prop where
  srt : Srt l
  ok : ∀ p ∈ l, p.key.size ≠ 0 ∧ p.key.size ≤ 32 ∧ p.val.size ≤ 80
  got : ∀ p ∈ l, ∃ y, wayA V n i p.key = some y ∧ y.L[posP p.key y.L]? = some p ∧ hitP p.key y.L = true
theorem RawL.take {V : Int → ByteArray} {n : Nat} {i : Int} {l : List Pr} (h : RawL V n i l) (k : Nat) : RawL V n i (l.take k) := by
  refine ⟨fun a b p q hab hp hq => ?_, fun p hp => h.ok p (List.mem_of_mem_take hp), fun p hp => h.got p (List.mem_of_mem_take hp)⟩
  rw [List.getElem?_take] at hp hq
  split at hp
  · split at hq
    · exact h.srt a b p q hab hp hq
    · cases hq
  · cases hp
theorem raw_of {V : Int → ByteArray} {n : Nat} {i : Int} (hs : soundB V n i = true) : RawL V n i (fromL ⟨#[]⟩ (visA V n i ⟨#[]⟩)) := by
  have hall : ∀ y ∈ visA V n i ⟨#[]⟩, y.2 = false := fun y hy => by
    have := List.all_eq_true.1 hs y hy
    simpa using this
  rw [fromL_recs _ hall]
  by_cases h0 : rootZ (V 1) i = 0
  · have e : visA V n i ⟨#[]⟩ = [] := by unfold visA; rw [if_pos h0]
    rw [e]
    exact ⟨srt_nil, fun p hp => (by cases hp), fun p hp => (by cases hp)⟩
  · have e : visA V n i ⟨#[]⟩ = visP V (outB n (V 0)) ⟨#[]⟩ 255 (rdN V (outB n (V 0)) (rootM (rootZ (V 1) i)).D) := by unfold visA; rw [if_neg h0]
    obtain ⟨⟨y, b⟩, hy⟩ : ∃ r, rdN V (outB n (V 0)) (rootM (rootZ (V 1) i)).D = r := ⟨_, rfl⟩
    rw [hy] at e
    rw [e] at hall ⊢
    cases b with
    | true =>
      have := hall (y, true) (by rw [visP_bad]; exact List.mem_cons_self)
      cases this
    | false =>
      obtain ⟨y1, y2, y3, y4, y5⟩ := rdN_of hy
      have hlv : y.level ≤ (255 : Nat) := by
        have h2 := hy
        unfold rdN at h2
        cases e2 : rdP V (outB n (V 0)) (rootM (rootZ (V 1) i)).D with
        | none => rw [e2] at h2; simp only [Prod.mk.injEq, Bool.true_eq_false, and_false] at h2
        | some r =>
          obtain ⟨l, L⟩ := r
          rw [e2] at h2
          simp only [Prod.mk.injEq, and_true] at h2
          obtain ⟨_, _, h3, _⟩ := rdP_some e2
          obtain ⟨a, h4, h5⟩ := bt_nat (V (rootM (rootZ (V 1) i)).D.at_) 0
          rw [← h2]
          show l ≤ _
          rw [h3, h4]
          omega
      have hF := fine_visP 255 y y5 hlv hall
      refine ⟨hF.srt, fun p hp => ?_, fun p hp => ?_⟩
      · have := hF.recs p hp
        exact ⟨this.key, this.small, this.val⟩
      · obtain ⟨z, hz, hz2, hz3⟩ := hF.way p hp
        obtain ⟨k, hk⟩ := List.mem_iff_getElem?.1 hz2
        obtain ⟨a, b⟩ := hitP_of hz3 hk rfl
        refine ⟨z, ?_, by rw [a]; exact hk, b⟩
        unfold wayA
        rw [if_neg h0, hy]
        exact hz
end Go.Proofs.YtkdhlofcdcnjgaaGreat
namespace Go.Proofs.YtkdhlofcdcnjgaaGreat
set_option maxRecDepth 100000
open Go.ChangeShapes Go.WideShapes Go.ChangeAt Go.RowKit Go.PlainAid Go.Shelf
open Go.Sort (grow)

/-- Are an act's texts too long, as the machine counts? -/
def longB (x : ActV) : Bool := decide (2000 < wrap64 ((x.key.size : Int) + (x.val.size : Int)))
theorem long_any (x : ActV) (w : World) :
    Calls Tryz.prog 7 #[.agg #[.int .i64 x.kind, .string x.key, .string x.val]] w fun e w' => e = .returned (.bool (longB x)) ∧ Below w.heap.size w w' := by
  have HL : Hid (longB x = decide (2000 < wrap64 ((x.key.size : Int) + (x.val.size : Int)))) := Lib.hid rfl
  go_enter Tryz.func7, Tryz.ntmps7
  go_wp2
  go_returns
  refine ⟨?_, by go_grown⟩
  rw [HL.out]
  rfl
end Go.Proofs.YtkdhlofcdcnjgaaGreat
