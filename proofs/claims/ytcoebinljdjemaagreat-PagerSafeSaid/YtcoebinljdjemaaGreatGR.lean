/- The acts that a law of package pager is called with, as plain data. The reference's pager: put. The reference's pager: set, Format, Given, Alloc, Free, Get, Set, Root, SetRoot. The reference's pager: Given, Free, Set, Get, Format. (Made by gen/mk_ref7.py.) -/
import Derived.Test.YtcoebinljdjemaaGreatRows
import Derived.Test.YtcoebinljdjemaaGreatGA
import Derived.Deep.Slices
import Derived.Deep.Fields
import Derived.ChangeSame
import Derived.Test.YtcoebinljdjemaaGreatGQ
import Derived.Test.YtcoebinljdjemaaGreatGH
import Derived.Test.YtcoebinljdjemaaGreatGD
import Derived.Test.YtcoebinljdjemaaGreatGM
import Derived.Test.YtcoebinljdjemaaGreatGC
namespace Go.Proofs.YtcoebinljdjemaaGreat
set_option maxRecDepth 100000
open Go.ChangeShapes Go.WideShapes Go.ChangeAt Go.RowKit Go.PlainAid Go.Deep

/-- A call that a law is told to make. -/
structure ActV where
  kind : Int
  at_ : Int
  to_ : Int
  data : ByteArray
def ActV.cells (x : ActV) : List Value := [.int .i64 x.kind, .int .i64 x.at_, .int .i64 x.to_, .string x.data]
theorem ActV.cells_length (x : ActV) : x.cells.length = 4 := rfl
structure ActV.Wf (x : ActV) : Prop where
  kind : -9223372036854775808 ≤ x.kind ∧ x.kind ≤ 9223372036854775807
  at_ : -9223372036854775808 ≤ x.at_ ∧ x.at_ ≤ 9223372036854775807
  to_ : -9223372036854775808 ≤ x.to_ ∧ x.to_ ≤ 9223372036854775807
  data : (x.data.size : Int) ≤ 9223372036854775807

section
variable {H : Type} {enc : TypeId × Value → H} {P : Program} {w : World} {base : Nat} {sp : Nat → Bool} {held : Bool}
/-- The cells of a struct that can be read, one a field. -/
theorem struct_cells {e : TypeId} {fs : Array Field} {fuel : Nat} {cs : List Value} {x : DataW H × List MemPlace} (he : P.underlying e = some (.struct fs)) (hone : oneCellFields P fs = true) (hC : P.cellsOf e = fs.size)
    (h : DataW.trod enc P w base sp held fuel e cs = some x) : cs.length = fs.size ∧ ∀ (j : Nat) (f : Field), fs[j]? = some f → ∃ (v : Value) (y : DataW H × List MemPlace) (n : Nat), cs[j]? = some v ∧ DataW.trod enc P w base sp held n f.type [v] = some y := by
  obtain ⟨ys, n, _, _, hlen, hyl, hf⟩ := DataW.trod_struct he h
  have hlen' : cs.length = fs.size := hlen.trans hC
  refine ⟨hlen', fun j f hj => ?_⟩
  obtain ⟨ho, hk⟩ := hone_of hone j f hj
  have hjl : j < fs.size := (Array.getElem?_eq_some_iff.1 hj).1
  have h1 := hf j f hj
  rw [ho, hk] at h1
  have hv : cs[j]? = some (cs[j]'(by omega)) := List.getElem?_eq_getElem (by omega)
  have e1 : (cs.drop j).take 1 = [cs[j]'(by omega)] := by
    rw [List.drop_eq_getElem_cons (by omega)]
    rfl
  rw [e1] at h1
  have hy : ys[j]? = some (ys[j]'(by omega)) := List.getElem?_eq_getElem (by omega)
  exact ⟨_, _, n, hv, h1.trans hy⟩
end

theorem act_read {H : Type} {enc : TypeId × Value → H} {w : World} {base : Nat} {sp : Nat → Bool} {held : Bool} {fuel : Nat} {cs : List Value} {x : DataW H × List MemPlace}
    (h : DataW.trod enc Tryz.prog w base sp held fuel 37 cs = some x) : ∃ y : ActV, cs = y.cells ∧ y.Wf := by
  obtain ⟨hl, hf⟩ := struct_cells Tryz.underlying37 (by kernel_rfl) (by kernel_rfl) h
  obtain ⟨v0, _, _, g0, r0⟩ := hf 0 _ rfl
  obtain ⟨v1, _, _, g1, r1⟩ := hf 1 _ rfl
  obtain ⟨v2, _, _, g2, r2⟩ := hf 2 _ rfl
  obtain ⟨v3, _, _, g3, r3⟩ := hf 3 _ rfl
  obtain ⟨n0, e0, _, w0⟩ := DataW.trod_int Tryz.underlying3 r0
  obtain ⟨n1, e1, _, w1⟩ := DataW.trod_int Tryz.underlying3 r1
  obtain ⟨n2, e2, _, w2⟩ := DataW.trod_int Tryz.underlying3 r2
  obtain ⟨s3, e3, _, w3⟩ := DataW.trod_string Tryz.underlying9 r3
  obtain rfl : v0 = _ := by simpa using e0
  obtain rfl : v1 = _ := by simpa using e1
  obtain rfl : v2 = _ := by simpa using e2
  obtain rfl : v3 = _ := by simpa using e3
  refine ⟨⟨n0, n1, n2, s3⟩, ?_, ⟨bounds_i64 w0, bounds_i64 w1, bounds_i64 w2, (by show (s3.size : Int) ≤ 9223372036854775807; unfold maxLen at w3; omega)⟩⟩
  have hl3 : cs.length = 4 := hl
  apply List.ext_getElem?
  intro i
  match i with
  | 0 => exact g0
  | 1 => exact g1
  | 2 => exact g2
  | 3 => exact g3
  | i + 4 => rw [List.getElem?_eq_none (by omega), List.getElem?_eq_none (by rw [ActV.cells_length]; omega)]

/-- The acts that a slice reads as, in world w. -/
def ActsIn (w : World) (v : Value) (l : List ActV) : Prop :=
  (l = [] ∧ ∃ ao cap, v = .slice ao 0 cap) ∨ ∃ b o cap, v = .slice (some ⟨b, o, none⟩) l.length cap ∧ b < w.heap.size ∧ 0 < l.length ∧ (l.length : Int) ≤ 9223372036854775807 ∧ ∀ i x, l[i]? = some x → x.Wf ∧ w.rangeAt b (o + i * 4) x.cells

theorem act_open {H : Type} {enc : TypeId × Value → H} {w : World} {base b0 : Nat} {sp : Nat → Bool} {held : Bool} {r : Reach} {v : Value} {d : DataW H} {p : List MemPlace}
    (hv : Value.okWide Tryz.prog w r b0 37 v) (h : DataW.Trod enc Tryz.prog w base sp held 37 v d p) : ∃ y : ActV, v = .agg y.cells.toArray ∧ y.Wf := by
  obtain ⟨cs, rfl, hsz⟩ := okWide_struct Tryz.underlying37 hv
  obtain ⟨fuel, hf⟩ := h
  obtain ⟨y, hy, hw⟩ := act_read hf
  refine ⟨y, ?_, hw⟩
  rw [← hy]
  simp [Value.cells]

theorem acts_open {H : Type} {enc : TypeId × Value → H} {w : World} {base b0 : Nat} {sp : Nat → Bool} {held : Bool} {r : Reach} {v : Value} {d : DataW H} {p : List MemPlace}
    (hv : Value.okWide Tryz.prog w r b0 22 v) (h : DataW.Trod enc Tryz.prog w base sp held 22 v d p) : ∃ l : List ActV, ActsIn w v l := by
  obtain ⟨ao, len0, cap0, rfl⟩ := okWide_slice Tryz.underlying22 hv
  obtain ⟨fuel, hf⟩ := h
  rcases open_slice Tryz.underlying22 hf with ⟨h0, _⟩ | ⟨a, len, cap, m, n, Dt, Pl, hcs, hb, hl, hm, hmm, _, hi⟩
  · refine ⟨[], .inl ⟨rfl, ao, cap0, ?_⟩⟩
    have : Value.slice ao len0 cap0 = .slice none 0 0 := by simpa [Value.cells] using h0
    cases this
    rfl
  · have e : Value.slice ao len0 cap0 = .slice (some a) len cap := by simpa [Value.cells] using hcs
    cases e
    have hC : Tryz.prog.cellsOf 37 = 4 := by kernel_rfl
    have hlm : len0 ≤ m := by rw [hmm]; split <;> omega
    by_cases h0 : len0 = 0
    · subst h0
      exact ⟨[], .inl ⟨rfl, _, _, rfl⟩⟩
    · have each : ∀ i, ∃ y : ActV, i < len0 → y.Wf ∧ ∀ j, j < 4 → w.cell? (a.add (i * 4 + j)) = y.cells[j]? := fun i => by
        by_cases c : i < len0
        · obtain ⟨cs', hc, ht⟩ := hi i (by omega)
          rw [hC] at hc
          obtain ⟨_, hcl, hat⟩ := World.cells?_some hc
          obtain ⟨y, hy, hw⟩ := act_read ht
          refine ⟨y, fun _ => ⟨hw, fun j hj => ?_⟩⟩
          rw [← Go.Deep.add_add, hat j hj, hy]
        · exact ⟨⟨0, 0, 0, ByteArray.empty⟩, fun h => absurd h c⟩
      obtain ⟨f, hf'⟩ := Classical.axiomOfChoice each
      have h00 := (hf' 0 (by omega)).2 0 (by omega)
      obtain ⟨b, off, spot⟩ := a
      have hs0 : w.cell? ((⟨b, off, spot⟩ : Addr).add (0 * 4 + 0)) = some (.int .i64 (f 0).kind) := h00
      have hspot : spot = none := by simpa [Addr.add] using World.cell?_spot hs0
      subst hspot
      refine ⟨(List.range len0).map f, .inr ⟨b, off, cap0, by simp, ?_, by simp; omega, by simp; unfold maxLen at hm; omega, fun i x hx => ?_⟩⟩
      · exact World.block_lt_of_cell? w _ hs0
      · have hil : i < len0 := by have := (List.getElem?_eq_some_iff.1 hx).1; simpa using this
        have hxf : f i = x := by simpa [List.getElem?_map, List.getElem?_range hil] using hx
        subst hxf
        obtain ⟨hw, hc⟩ := hf' i hil
        refine ⟨hw, fun j u hu => ?_⟩
        have hj : j < 4 := by have := (List.getElem?_eq_some_iff.1 hu).1; simpa [ActV.cells_length] using this
        rw [← hu, ← hc j hj, Addr.add_mid, Nat.add_assoc]
theorem ActsIn.on {w w' : World} {v : Value} {l : List ActV} (h : ActsIn w v l) (hb : Below w.heap.size w w') : ActsIn w' v l := by
  rcases h with h | ⟨b, o, cap, hv, hlt, h0, hm, hr⟩
  · exact .inl h
  · exact .inr ⟨b, o, cap, hv, Nat.lt_of_lt_of_le hlt hb.size, h0, hm, fun i x hx => ⟨(hr i x hx).1, rangeAt_keep (hr i x hx).2 (hb.block b hlt)⟩⟩
end Go.Proofs.YtcoebinljdjemaaGreat
namespace Go.Proofs.YtcoebinljdjemaaGreat
set_option maxRecDepth 100000
open Go.ChangeShapes Go.WideShapes Go.ChangeAt Go.RowKit Go.PlainAid
open Go.Sort (grow)
attribute [local go_sem ↓ high] app_text

/-- All of a slice of texts appended to an empty one. -/
theorem app_all {W : World} {bn B : Nat} {vn : Value} {x : Nat × Obj} {l : List ByteArray} (hW : W.heap[bn]? = some (.cells #[] 9 (0, 0))) (h0 : B ≤ bn) (hB : B ≤ W.heap.size) (ht : TextsR vn [x] l) (hx : W.heap[x.1]? = some x.2) (hl : l.length = 12) :
    ∃ g cap w2 cur, (appS #[.slice (some ⟨bn, 0, none⟩) 0 0, vn]).run Tryz.prog W = .ok (.slice (some ⟨g, 0, none⟩) 12 cap) w2 ∧ (g = bn ∨ g = W.heap.size) ∧ w2.heap[g]? = some (.cells cur 9 (0, 0)) ∧ 12 ≤ cap ∧ cur.size = cap ∧ cur.toList.take 12 = l.map Value.string ∧ W.grownBy w2 (some bn) := by
  obtain ⟨i0, hi, hz0, hz1, hz2⟩ := info_parts info_text
  obtain ⟨gx, cx, curx, rfl, hmem, htk⟩ := ht
  rw [List.mem_singleton] at hmem
  subst hmem
  rw [hl] at htk ⊢
  have hrow : W.ownsRow B 9 1 (.slice (some ⟨bn, 0, none⟩) 0 0) 0 [] := ⟨rfl, .inr ⟨bn, 0, #[], rfl, h0, hW, Nat.le_refl _, Nat.zero_le _, rfl, rfl⟩⟩
  obtain ⟨g, cap, w2, hr, h2, h3, h4, _⟩ := run_append_lies (P := Tryz.prog) (w := W) 30 30 B 9 i0 (.string ⟨#[]⟩) 1 16 Tryz.underlying30 hi hz0 hz1 hz2 rfl (by decide) (.slice (some ⟨bn, 0, none⟩) 0 0) 0 [] hrow ⟨gx, 0, none⟩ 12 cx (l.map Value.string) (by rw [List.length_map, hl])
    (fun j u hu => by
      have hj : j < 12 := by have := (List.getElem?_eq_some_iff.1 hu).1; rw [List.length_map, hl] at this; exact this
      have hadd : (⟨gx, 0, none⟩ : Addr).add j = ⟨gx, j, none⟩ := by unfold Addr.add; split <;> simp_all
      rw [hadd, cell_of_row _ _ _ _ _ _ hx]
      rw [← htk, List.getElem?_take_of_lt hj, Array.getElem?_toList] at hu
      exact hu)
    (fun u hu => by obtain ⟨s, _, rfl⟩ := List.mem_map.1 hu; rfl) (by decide) (by unfold maxLen; omega) (by omega) hB _ rfl
  obtain ⟨_, h22⟩ := h2
  rcases h22 with ⟨_, hz⟩ | ⟨g2, cap2, cur, hv, hlo, hgb, k1, k2, k3, k4⟩
  · omega
  · cases hv
    rw [Nat.mul_one] at k3 k4
    refine ⟨g, cap, w2, cur, hr, ?_, hgb, by omega, k3, by simpa using k4, h3⟩
    rcases h4 with h4 | h4
    · exact .inl (Option.some.inj (by simpa [Value.ownBlock] using h4)).symm
    · exact .inr h4
set_option maxHeartbeats 1000000 in
theorem rput_any (w : World) (vn : Value) (sa : Option Addr) (sn sc : Nat) (x : Nat × Obj) (l : List ByteArray) (ht : TextsR vn [x] l) (hx : w.heap[x.1]? = some x.2) (hl : l.length = 12) (k : Nat) (hk : k < 12) (s : ByteArray) (hs : s.size ≤ 256) :
    Calls Tryz.prog 33 #[.agg #[vn, (.slice sa sn sc)], .int .i64 k, .string s] w fun e w' => ∃ v' x', e = .returned (.agg #[v', (.slice sa sn sc)]) ∧ TextsR v' [x'] (l.set k (filled s)) ∧ w.heap.size ≤ x'.1 ∧ w'.heap[x'.1]? = some x'.2 ∧ Below w.heap.size w w' := by
  obtain ⟨gn, capn, curn, rfl, hmem, htk⟩ := ht
  have ht : TextsR (.slice (some ⟨gn, 0, none⟩) l.length capn) [x] l := ⟨gn, capn, curn, rfl, hmem, htk⟩
  clear hmem htk
  rw [hl] at ht ⊢
  have hb0 : Below w.heap.size w (((w.alloc (.cells #[.slice (some ⟨gn, 0, none⟩) 12 capn, (.slice sa sn sc)] 32)).alloc (.cells #[.slice none 0 0, .slice none 0 0] 32)).alloc (.cells #[] 9)) := by go_grown
  obtain ⟨q0, q1, q2⟩ := heap3 w (.cells #[.slice (some ⟨gn, 0, none⟩) 12 capn, (.slice sa sn sc)] 32) (.cells #[.slice none 0 0, .slice none 0 0] 32) (.cells #[] 9)
  rw [heap_drew] at q0 q1 q2
  have hz : (((w.alloc (.cells #[.slice (some ⟨gn, 0, none⟩) 12 capn, (.slice sa sn sc)] 32)).alloc (.cells #[.slice none 0 0, .slice none 0 0] 32)).alloc (.cells #[] 9)).heap.size = w.heap.size + 3 := by simp
  obtain ⟨g, cap, w2, cur, happ, hg, hgb, hcap, hcs, htk2, hgr⟩ := app_all q2 (B := w.heap.size) (by omega) (by omega) ht ((hb0.block _ (heap_lt hx)).trans hx) hl
  obtain ⟨W, hW⟩ : ∃ x, (((w.alloc (.cells #[.slice (some ⟨gn, 0, none⟩) 12 capn, (.slice sa sn sc)] 32)).alloc (.cells #[.slice none 0 0, .slice none 0 0] 32)).alloc (.cells #[] 9)) = x := ⟨_, rfl⟩
  rw [hW] at hb0 q0 q1 q2 hz hgr happ
  have aW : W.cell? ⟨w.heap.size, 0, none⟩ = some (.slice (some ⟨gn, 0, none⟩) 12 capn) := by rw [cell_of_row _ _ _ _ _ _ q0]; rfl
  have hb2 : Below w.heap.size w w2 := hb0.grown hgr (by omega) (fun k e => by cases e; omega)
  have k0 : w2.heap[w.heap.size]? = some (.cells #[.slice (some ⟨gn, 0, none⟩) 12 capn, (.slice sa sn sc)] 32 (0, 0)) := (hgr.block _ (by omega) (by intro e; injection e with e; omega)).trans q0
  have k1 : w2.heap[w.heap.size + 1]? = some (.cells #[.slice none 0 0, .slice none 0 0] 32 (0, 0)) := (hgr.block _ (by omega) (by intro e; injection e with e; omega)).trans q1
  have hsz2 : w.heap.size + 3 ≤ w2.heap.size := by have := hgr.size; omega
  rw [hW, hz] at hg
  have hg0 : g ≠ w.heap.size := by omega
  have hg1 : g ≠ w.heap.size + 1 := by omega
  have hglo : w.heap.size ≤ g := by omega
  have a0 : w2.cell? ⟨w.heap.size, 0, none⟩ = some (.slice (some ⟨gn, 0, none⟩) 12 capn) := by rw [cell_of_row _ _ _ _ _ _ k0]; rfl
  have f0 : w2.frozen? ⟨w.heap.size, 0, none⟩ = false := frozen_of_row _ _ _ _ _ k0
  -- the box behind the store
  have m0 : (w2.setCell ⟨w.heap.size, 0, none⟩ (.slice (some ⟨g, 0, none⟩) 12 cap)).heap[w.heap.size]? = some (.cells #[.slice (some ⟨g, 0, none⟩) 12 cap, (.slice sa sn sc)] 32 (0, 0)) := heap_setCell_same _ _ _ _ _ _ k0
  have m1 : (w2.setCell ⟨w.heap.size, 0, none⟩ (.slice (some ⟨g, 0, none⟩) 12 cap)).heap[w.heap.size + 1]? = some (.cells #[.slice none 0 0, .slice none 0 0] 32 (0, 0)) := (heap_setCell_other _ _ _ _ (by show w.heap.size + 1 ≠ w.heap.size; omega)).trans k1
  have m2 : (w2.setCell ⟨w.heap.size, 0, none⟩ (.slice (some ⟨g, 0, none⟩) 12 cap)).heap[g]? = some (.cells cur 9 (0, 0)) := (heap_setCell_other _ _ _ _ hg0).trans hgb
  have hb3 := hb2.setCell (p := ⟨w.heap.size, 0, none⟩) (Nat.le_refl _) (.slice (some ⟨g, 0, none⟩) 12 cap)
  have HF := Lib.hid fun (w' : World) => filled_any s w' hs
  obtain ⟨W3, hW3⟩ : ∃ x, w2.setCell ⟨w.heap.size, 0, none⟩ (.slice (some ⟨g, 0, none⟩) 12 cap) = x := ⟨_, rfl⟩
  rw [hW3] at m0 m1 m2 hb3
  have HM := Lib.hid (And.intro m0 (And.intro m1 (And.intro m2 hb3)))
  have b0 : W3.cell? ⟨w.heap.size, 0, none⟩ = some (.slice (some ⟨g, 0, none⟩) 12 cap) := by rw [cell_of_row _ _ _ _ _ _ m0]; rfl
  clear hb0 q0 q1 q2 hz hgb hgr hb2 k0 k1 hsz2 m0 m1 m2 hb3 ht hx hg
  go_enter Tryz.func33, Tryz.ntmps33
  go_wp2_with fail
  clear hW3 a0 f0 happ hW aW
  have b0d : W3.drew.cell? ⟨w.heap.size, 0, none⟩ = some (.slice (some ⟨g, 0, none⟩) 12 cap) := b0
  have hkc : decide ((k : Int) < 12) = true := by simp; omega
  have hk0 : (0 : Int) ≤ (k : Int) := by omega
  have hk1 : (k : Int) < 12 := by omega
  have hkn : ((k : Int)).toNat = k := by omega
  go_region_law (first
    | (go_simp; (with_reducible refine (HF.out _).mono ?_); rintro e w4 ⟨rfl, hb4⟩
       have hb4' : Below W3.heap.size W3 w4 := (show Below W3.heap.size W3 W3.drew by go_grown).on hb4
       have n0 := (hb4'.block _ (heap_lt HM.out.1)).trans HM.out.1
       have n2 := (hb4'.block _ (heap_lt HM.out.2.2.1)).trans HM.out.2.2.1
       have c0 : w4.cell? ⟨w.heap.size, 0, none⟩ = some (.slice (some ⟨g, 0, none⟩) 12 cap) := by rw [cell_of_row _ _ _ _ _ _ n0]; rfl
       have c2 : w4.cell? ⟨g, k, none⟩ = cur[k]? := cell_of_row _ _ _ _ _ _ n2
       rw [Array.getElem?_eq_getElem (by omega)] at c2
       have f2 : w4.frozen? ⟨g, k, none⟩ = false := frozen_of_row _ _ _ _ _ n2
       have HB4 := Lib.hid hb4'
       clear hb4 hb4' n0 n2)
    | fail)
  all_goals
    have n0 := (HB4.out.block _ (heap_lt HM.out.1)).trans HM.out.1
    have n1 := (HB4.out.block _ (heap_lt HM.out.2.1)).trans HM.out.2.1
    have n2 := (HB4.out.block _ (heap_lt HM.out.2.2.1)).trans HM.out.2.2.1
    have o0 : (w4.setCell ⟨g, k, none⟩ (.string (filled s))).heap[w.heap.size]? = some (.cells #[.slice (some ⟨g, 0, none⟩) 12 cap, (.slice sa sn sc)] 32 (0, 0)) := (heap_setCell_other _ _ _ _ (fun e => hg0 e.symm)).trans n0
    have o1 : (w4.setCell ⟨g, k, none⟩ (.string (filled s))).heap[w.heap.size + 1]? = some (.cells #[.slice none 0 0, .slice none 0 0] 32 (0, 0)) := (heap_setCell_other _ _ _ _ (fun e => hg1 e.symm)).trans n1
    have o2 : (w4.setCell ⟨g, k, none⟩ (.string (filled s))).heap[g]? = some (.cells (cur.setIfInBounds k (.string (filled s))) 9 (0, 0)) := heap_setCell_same _ _ _ _ _ _ n2
    have hb5 := ((HM.out.2.2.2.on HB4.out).setCell (p := ⟨g, k, none⟩) hglo (.string (filled s)))
    generalize w4.setCell ⟨g, k, none⟩ (.string (filled s)) = w5 at *
    have r0 : w5.cell? ⟨w.heap.size, 0, none⟩ = some (.slice (some ⟨g, 0, none⟩) 12 cap) := by rw [cell_of_row _ _ _ _ _ _ o0]; rfl
    have r1 : w5.cell? ⟨w.heap.size, 1, none⟩ = some (.slice sa sn sc) := by rw [cell_of_row _ _ _ _ _ _ o0]; rfl
    have z0 : w5.cell? ⟨w.heap.size + 1, 0, none⟩ = some (.slice none 0 0) := by rw [cell_of_row _ _ _ _ _ _ o1]; rfl
    have z1 : w5.cell? ⟨w.heap.size + 1, 1, none⟩ = some (.slice none 0 0) := by rw [cell_of_row _ _ _ _ _ _ o1]; rfl
    have y0 : w5.frozen? ⟨w.heap.size + 1, 0, none⟩ = false := frozen_of_row _ _ _ _ _ o1
    have y1 : w5.frozen? ⟨w.heap.size + 1, 1, none⟩ = false := frozen_of_row _ _ _ _ _ o1
    have HO := Lib.hid (And.intro o1 (And.intro o2 hb5))
    clear n0 n1 n2 o0 o1 o2 hb5 c0 c2 f2 b0 b0d HM HF
    go_wp2
    have p1 : ((w5.setCell ⟨w.heap.size + 1, 0, none⟩ (.slice (some ⟨g, 0, none⟩) 12 cap)).setCell ⟨w.heap.size + 1, 1, none⟩ (.slice sa sn sc)).heap[w.heap.size + 1]? = some (.cells #[.slice (some ⟨g, 0, none⟩) 12 cap, .slice sa sn sc] 32 (0, 0)) :=
      heap_setCell_same _ _ _ _ _ _ (heap_setCell_same _ _ _ _ _ _ HO.out.1)
    have p2 : ((w5.setCell ⟨w.heap.size + 1, 0, none⟩ (.slice (some ⟨g, 0, none⟩) 12 cap)).setCell ⟨w.heap.size + 1, 1, none⟩ (.slice sa sn sc)).heap[g]? = some (.cells (cur.setIfInBounds k (.string (filled s))) 9 (0, 0)) :=
      (heap_setCell_other _ _ _ _ hg1).trans ((heap_setCell_other _ _ _ _ hg1).trans HO.out.2.1)
    have p3 := (HO.out.2.2.setCell (p := ⟨w.heap.size + 1, 0, none⟩) (Nat.le_succ _) (.slice (some ⟨g, 0, none⟩) 12 cap)).setCell (p := ⟨w.heap.size + 1, 1, none⟩) (Nat.le_succ _) (.slice sa sn sc)
    generalize (w5.setCell ⟨w.heap.size + 1, 0, none⟩ (.slice (some ⟨g, 0, none⟩) 12 cap)).setCell ⟨w.heap.size + 1, 1, none⟩ (.slice sa sn sc) = w6 at *
    have e0 : w6.cell? ⟨w.heap.size + 1, 0, none⟩ = some (.slice (some ⟨g, 0, none⟩) 12 cap) := by rw [cell_of_row _ _ _ _ _ _ p1]; rfl
    have e1 : w6.cell? ⟨w.heap.size + 1, 1, none⟩ = some (.slice sa sn sc) := by rw [cell_of_row _ _ _ _ _ _ p1]; rfl
    refine bodyPost_ret (v := .agg #[.slice (some ⟨g, 0, none⟩) 12 cap, .slice sa sn sc]) (by simp [results, Tryz.results33, go_sem, e0, e1]) rfl ?_
    refine ⟨_, (g, .cells (cur.setIfInBounds k (.string (filled s))) 9 (0, 0)), rfl, ⟨g, cap, _, by rw [List.length_set, hl], List.mem_singleton.2 rfl, ?_⟩, hglo, p2, p3⟩
    rw [List.length_set, hl, Array.toList_setIfInBounds, List.take_set, htk2, List.map_set]
end Go.Proofs.YtcoebinljdjemaaGreat
namespace Go.Proofs.YtcoebinljdjemaaGreat
set_option maxRecDepth 100000
open Go.ChangeShapes Go.WideShapes Go.ChangeAt Go.RowKit Go.PlainAid
open Go.Sort (grow)

/-- The twelve pages. -/
def pgs (V : Int → ByteArray) : List ByteArray := (List.range 12).map fun i : Nat => V (i : Int)
theorem pgs_len (V : Int → ByteArray) : (pgs V).length = 12 := by simp [pgs]
theorem pgs_at (V : Int → ByteArray) {i : Nat} (h : i < 12) : (pgs V)[i]? = some (V (i : Int)) := by simp [pgs, h]
theorem pgs_set (V : Int → ByteArray) {k : Nat} (hk : k < 12) (s : ByteArray) : (pgs V).set k s = pgs (updV V (k : Int) s) := by
  apply List.ext_getElem?
  intro j
  rw [List.getElem?_set]
  by_cases h : j < 12
  · by_cases e : k = j
    · subst e
      rw [if_pos rfl, if_pos (by rw [pgs_len]; exact hk), pgs_at _ hk, updV_same]
    · rw [if_neg e, pgs_at _ h, pgs_at _ h, updV_other _ _ (by omega)]
  · rw [if_neg (by omega), List.getElem?_eq_none (by rw [pgs_len]; omega), List.getElem?_eq_none (by rw [pgs_len]; omega)]
/-- The reference's pages lie in memory. -/
def RP (vn : Value) (x : Nat × Obj) (V : Int → ByteArray) (w : World) : Prop := TextsR vn [x] (pgs V) ∧ w.heap[x.1]? = some x.2
theorem RP.on {vn : Value} {x : Nat × Obj} {V : Int → ByteArray} {w w' : World} (h : RP vn x V w) (b : Below w.heap.size w w') : RP vn x V w' := ⟨h.1, (b.block _ (heap_lt h.2)).trans h.2⟩
theorem RP.open {vn : Value} {x : Nat × Obj} {V : Int → ByteArray} {w : World} (h : RP vn x V w) : ∃ g cap, vn = .slice (some ⟨g, 0, none⟩) 12 cap ∧ ∀ i : Nat, i < 12 → w.cell? ⟨g, i, none⟩ = some (.string (V (i : Int))) := by
  obtain ⟨g, cap, hv, hc⟩ := h.1.open (w := w) (fun y hy => by rw [List.mem_singleton] at hy; subst hy; exact h.2)
  rw [pgs_len] at hv
  exact ⟨g, cap, hv, fun i hi => hc i _ (pgs_at V hi)⟩
/-- A call of the reference that makes new pages. -/
def NewP (w : World) (sa : Option Addr) (sn sc : Nat) (V : Int → ByteArray) (mk : Value → Value) (e : Ending) (w' : World) : Prop :=
  ∃ v' x', e = .returned (mk (.agg #[v', .slice sa sn sc])) ∧ RP v' x' V w' ∧ w.heap.size ≤ x'.1 ∧ Below w.heap.size w w'
section
variable {w : World} {vn : Value} {sa : Option Addr} {sn sc : Nat} {x : Nat × Obj} {V : Int → ByteArray}
theorem RP.put (h : RP vn x V w) (sa : Option Addr) (sn sc : Nat) (k : Nat) (hk : k < 12) (s : ByteArray) (hs : s.size ≤ 256) :
    Calls Tryz.prog 33 #[.agg #[vn, .slice sa sn sc], .int .i64 k, .string s] w (NewP w sa sn sc (updV V (k : Int) (filled s)) id) := by
  refine (rput_any w vn sa sn sc x (pgs V) h.1 h.2 (pgs_len V) k hk s hs).mono ?_
  rintro e w' ⟨v', x', rfl, h1, h2, h3, h4⟩
  rw [pgs_set V hk] at h1
  exact ⟨v', x', rfl, ⟨h1, h3⟩, h2, h4⟩
/-- A box of two cells. -/
structure Box2 (w : World) (b : Nat) (x y : Value) : Prop where
  obj : w.heap[b]? = some (.cells #[x, y] 32 (0, 0))
theorem Box2.c0 {w : World} {b : Nat} {x y : Value} (h : Box2 w b x y) : w.cell? ⟨b, 0, none⟩ = some x := by rw [cell_of_row _ _ _ _ _ _ h.obj]; rfl
theorem Box2.c1 {w : World} {b : Nat} {x y : Value} (h : Box2 w b x y) : w.cell? ⟨b, 1, none⟩ = some y := by rw [cell_of_row _ _ _ _ _ _ h.obj]; rfl
theorem Box2.f {w : World} {b : Nat} {x y : Value} (h : Box2 w b x y) (i : Nat) : w.frozen? ⟨b, i, none⟩ = false := frozen_of_row _ _ _ _ _ h.obj
theorem Box2.on {w w' : World} {b : Nat} {x y : Value} (h : Box2 w b x y) (hb : Below w.heap.size w w') : Box2 w' b x y := ⟨(hb.block _ (heap_lt h.obj)).trans h.obj⟩
theorem Box2.set {w : World} {b : Nat} {x y : Value} (h : Box2 w b x y) (x' y' : Value) : Box2 ((w.setCell ⟨b, 0, none⟩ x').setCell ⟨b, 1, none⟩ y') b x' y' := ⟨heap_setCell_same _ _ _ _ _ _ (heap_setCell_same _ _ _ _ _ _ h.obj)⟩
/-- What a method of the reference finds: its receiver in a box, and a box for its answer. -/
theorem boxes (w : World) (x y : Value) : ∃ W, (w.alloc (.cells #[x, y] 32)).alloc (.cells #[.slice none 0 0, .slice none 0 0] 32) = W ∧ Below w.heap.size w W ∧ Box2 W w.heap.size x y ∧ Box2 W (w.heap.size + 1) (.slice none 0 0) (.slice none 0 0) := by
  refine ⟨_, rfl, by go_grown, ⟨?_⟩, ⟨?_⟩⟩
  · exact (Below.heap_alloc _ _ _ (by simp)).trans (heap_alloc_new w _)
  · have := heap_alloc_new (w.alloc (.cells #[x, y] 32)) (.cells #[.slice none 0 0, .slice none 0 0] 32)
    rwa [show (w.alloc (.cells #[x, y] 32)).heap.size = w.heap.size + 1 by simp] at this
/-- Pages beside a box that is set. -/
theorem RP.setBox {w : World} {vn : Value} {x : Nat × Obj} {V : Int → ByteArray} {b : Nat} {u u' : Value} (h : RP vn x V w) (hb : x.1 ≠ b) : RP vn x V ((w.setCell ⟨b, 0, none⟩ u).setCell ⟨b, 1, none⟩ u') :=
  ⟨h.1, (heap_setCell_other _ _ _ _ hb).trans ((heap_setCell_other _ _ _ _ hb).trans h.2)⟩
set_option maxHeartbeats 1000000 in
theorem RP.set (h : RP vn x V w) (sa : Option Addr) (sn sc : Nat) (k : Int) (b : Bool) (hs : (V 0).size = 256) (b0 : -9223372036854775808 ≤ k) (b1 : k ≤ 9223372036854775807) :
    Calls Tryz.prog 69 #[.agg #[vn, .slice sa sn sc], .int .i64 k, .bool b] w (NewP w sa sn sc (updV V 0 (withS (V 0) k b)) id) := by
  obtain ⟨W, hW, hbW, B0, B1⟩ := boxes w vn (.slice sa sn sc)
  obtain ⟨g, cap, rfl, hc⟩ := (h.on hbW).open
  have c0 := hc 0 (by omega)
  rw [show ((0 : Nat) : Int) = 0 from rfl] at c0
  have b00 := B0.c0
  have b01 := B0.c1
  have HW := Lib.hid fun (w : World) => rwith_any (V 0) k b w (by omega) b0 b1
  have HB := Lib.hid (And.intro hbW (And.intro B0 (And.intro B1 (heap_lt B1.obj))))
  have HP := Lib.hid fun (w1 : World) (bb : Below W.heap.size W w1) => ((h.on hbW).on bb).put sa sn sc 0 (by omega) (withS (V 0) k b) (by rw [with_size]; omega)
  rw [with_full hs k b] at HP
  clear hc h hbW B0 B1
  go_enter Tryz.func69, Tryz.ntmps69
  go_wp2_with fail
  refine (HW.out _).mono ?_
  rintro e w1 ⟨rfl, hb1⟩
  have HB1 := Lib.hid hb1
  have b00 := (HB.out.2.1.on hb1).c0
  have b01 := (HB.out.2.1.on hb1).c1
  clear hb1 c0 hW HW
  go_wp2_with fail
  refine (HP.out _ HB1.out).mono ?_
  rintro e w2 ⟨v2, x2, rfl, hR, hlo, hb2⟩
  obtain ⟨g2, cap2, rfl, _⟩ := hR.open
  have hb12 := HB1.out.on hb2
  have D1 := (HB.out.2.2.1.on HB1.out).on hb2
  have z0 := D1.c0
  have z1 := D1.c1
  have y0 := D1.f 0
  have y1 := D1.f 1
  have hsz := HB1.out.size
  have hlt := HB.out.2.2.2
  have DS := D1.set (.slice (some ⟨g2, 0, none⟩) 12 cap2) (.slice sa sn sc)
  have hRS := hR.setBox (b := w.heap.size + 1) (u := .slice (some ⟨g2, 0, none⟩) 12 cap2) (u' := .slice sa sn sc) (by omega)
  have hBS := ((HB.out.1.on hb12).setCell (p := ⟨w.heap.size + 1, 0, none⟩) (Nat.le_succ _) (.slice (some ⟨g2, 0, none⟩) 12 cap2)).setCell (p := ⟨w.heap.size + 1, 1, none⟩) (Nat.le_succ _) (.slice sa sn sc)
  have HO := Lib.hid (And.intro DS (And.intro hRS (And.intro hBS (show w.heap.size ≤ x2.1 by omega))))
  clear DS hRS hBS D1 hR hlo hb2 hb12 HB HB1 HP b00 b01
  go_wp2
  generalize (w2.setCell ⟨w.heap.size + 1, 0, none⟩ (.slice (some ⟨g2, 0, none⟩) 12 cap2)).setCell ⟨w.heap.size + 1, 1, none⟩ (.slice sa sn sc) = w6 at *
  have e0 := HO.out.1.c0
  have e1 := HO.out.1.c1
  refine bodyPost_ret (v := .agg #[.slice (some ⟨g2, 0, none⟩) 12 cap2, .slice sa sn sc]) (by simp [results, Tryz.results69, go_sem, e0, e1]) rfl ?_
  exact ⟨_, x2, rfl, HO.out.2.1, HO.out.2.2.2, HO.out.2.2.1⟩
end
end Go.Proofs.YtcoebinljdjemaaGreat
namespace Go.Proofs.YtcoebinljdjemaaGreat
set_option maxRecDepth 100000
open Go.ChangeShapes Go.WideShapes Go.ChangeAt Go.RowKit Go.PlainAid
open Go.Sort (grow)

theorem boxes1 (w : World) (x y : Value) : ∃ W, w.alloc (.cells #[x, y] 32) = W ∧ Below w.heap.size w W ∧ Box2 W w.heap.size x y :=
  ⟨_, rfl, by go_grown, ⟨heap_alloc_new w _⟩⟩
section
variable {w : World} {vn : Value} {x : Nat × Obj} {V : Int → ByteArray}
set_option maxHeartbeats 1000000 in
theorem RP.given (h : RP vn x V w) (sa : Option Addr) (sn sc : Nat) (k : Int) (hs : (V 0).size = 256) (b0 : -9223372036854775808 ≤ k) (b1 : k ≤ 9223372036854775807) :
    Calls Tryz.prog 70 #[.agg #[vn, .slice sa sn sc], .int .i64 k] w fun e w' => e = .returned (.bool (outB 12 (V 0) k)) ∧ Below w.heap.size w w' := by
  obtain ⟨W, hW, hbW, B0⟩ := boxes1 w vn (.slice sa sn sc)
  obtain ⟨g, cap, rfl, hc⟩ := (h.on hbW).open
  have c0 := hc 0 (by omega)
  rw [show ((0 : Nat) : Int) = 0 from rfl] at c0
  have b00 := B0.c0
  have b01 := B0.c1
  have HB := Lib.hid hbW
  clear hc h hbW B0
  unfold outB
  by_cases k1 : k < 2
  · have d1 : decide (2 ≤ k) = false := by simp; omega
    rw [show decide (2 ≤ k) = false from d1, Bool.false_and, Bool.false_and]
    go_enter Tryz.func70, Tryz.ntmps70
    go_wp2
    go_returns
    exact ⟨rfl, HB.out⟩
  · have d1 : decide (2 ≤ k) = true := by simp; omega
    by_cases k2 : k < 12
    · have d2 : decide (k < 12) = true := by simpa using k2
      have HH := Lib.hid fun (w : World) => rhas_any (V 0) k w (by omega) b0 b1
      rw [d1, show decide (k < ((12 : Nat) : Int)) = true from d2, Bool.true_and, Bool.true_and]
      go_enter Tryz.func70, Tryz.ntmps70
      go_wp2_with fail
      refine (HH.out _).mono ?_
      rintro e _ ⟨rfl, rfl⟩
      go_wp2
      go_returns
      exact ⟨rfl, HB.out⟩
    · have d2 : decide (k < 12) = false := by simpa using k2
      rw [d1, show decide (k < ((12 : Nat) : Int)) = false from d2, Bool.true_and, Bool.false_and]
      go_enter Tryz.func70, Tryz.ntmps70
      go_wp2
      go_returns
      exact ⟨rfl, HB.out⟩
set_option maxHeartbeats 1000000 in
theorem RP.free_no (h : RP vn x V w) (sa : Option Addr) (sn sc : Nat) (k : Int) (hs : (V 0).size = 256) (b0 : -9223372036854775808 ≤ k) (b1 : k ≤ 9223372036854775807) (hk : outB 12 (V 0) k = false) :
    Calls Tryz.prog 35 #[.agg #[vn, .slice sa sn sc], .int .i64 k] w fun e w' => e = .returned (.tuple #[.agg #[vn, .slice sa sn sc], .int .i64 6]) ∧ Below w.heap.size w w' := by
  obtain ⟨W, hW, hbW, B0, B1⟩ := boxes w vn (.slice sa sn sc)
  obtain ⟨g, cap, rfl, hc⟩ := (h.on hbW).open
  have b00 := B0.c0
  have b01 := B0.c1
  have HB := Lib.hid (And.intro hbW (And.intro B0 (And.intro B1 (heap_lt B1.obj))))
  have HR := Lib.hid (h.on hbW)
  clear h hbW B0 B1
  have HG := Lib.hid (HR.out.given sa sn sc k hs b0 b1)
  rw [hk] at HG
  clear hc
  go_enter Tryz.func35, Tryz.ntmps35
  go_wp2_with fail
  refine HG.out.mono ?_
  rintro e w1 ⟨rfl, hb1⟩
  have b00 := (HB.out.2.1.on hb1).c0
  have b01 := (HB.out.2.1.on hb1).c1
  have HB1 := Lib.hid hb1
  clear hb1 hW HG
  have z0 := (HB.out.2.2.1.on HB1.out).c0
  have z1 := (HB.out.2.2.1.on HB1.out).c1
  have y0 := (HB.out.2.2.1.on HB1.out).f 0
  have y1 := (HB.out.2.2.1.on HB1.out).f 1
  have DS := (HB.out.2.2.1.on HB1.out).set (.slice (some ⟨g, 0, none⟩) 12 cap) (.slice sa sn sc)
  have hBS := ((HB.out.1.on HB1.out).setCell (p := ⟨w.heap.size + 1, 0, none⟩) (Nat.le_succ _) (.slice (some ⟨g, 0, none⟩) 12 cap)).setCell (p := ⟨w.heap.size + 1, 1, none⟩) (Nat.le_succ _) (.slice sa sn sc)
  have HO := Lib.hid (And.intro DS hBS)
  clear DS hBS
  go_wp2
  generalize (w1.setCell ⟨w.heap.size + 1, 0, none⟩ (.slice (some ⟨g, 0, none⟩) 12 cap)).setCell ⟨w.heap.size + 1, 1, none⟩ (.slice sa sn sc) = w6 at *
  have e0 := HO.out.1.c0
  have e1 := HO.out.1.c1
  refine bodyPost_ret (v := .tuple #[.agg #[.slice (some ⟨g, 0, none⟩) 12 cap, .slice sa sn sc], .int .i64 6]) (by simp [results, Tryz.results35, go_sem, e0, e1]) rfl ?_
  exact ⟨rfl, HO.out.2⟩
set_option maxHeartbeats 1000000 in
theorem RP.set_no (h : RP vn x V w) (sa : Option Addr) (sn sc : Nat) (k : Int) (s : ByteArray) (hs : (V 0).size = 256) (b0 : -9223372036854775808 ≤ k) (b1 : k ≤ 9223372036854775807) (hk : outB 12 (V 0) k = false) :
    Calls Tryz.prog 37 #[.agg #[vn, .slice sa sn sc], .int .i64 k, .string s] w fun e w' => e = .returned (.tuple #[.agg #[vn, .slice sa sn sc], .int .i64 6]) ∧ Below w.heap.size w w' := by
  obtain ⟨W, hW, hbW, B0, B1⟩ := boxes w vn (.slice sa sn sc)
  obtain ⟨g, cap, rfl, hc⟩ := (h.on hbW).open
  have b00 := B0.c0
  have b01 := B0.c1
  have HB := Lib.hid (And.intro hbW (And.intro B0 (And.intro B1 (heap_lt B1.obj))))
  have HR := Lib.hid (h.on hbW)
  clear h hbW B0 B1
  have HG := Lib.hid (HR.out.given sa sn sc k hs b0 b1)
  rw [hk] at HG
  clear hc
  go_enter Tryz.func37, Tryz.ntmps37
  go_wp2_with fail
  refine HG.out.mono ?_
  rintro e w1 ⟨rfl, hb1⟩
  have b00 := (HB.out.2.1.on hb1).c0
  have b01 := (HB.out.2.1.on hb1).c1
  have HB1 := Lib.hid hb1
  clear hb1 hW HG
  have z0 := (HB.out.2.2.1.on HB1.out).c0
  have z1 := (HB.out.2.2.1.on HB1.out).c1
  have y0 := (HB.out.2.2.1.on HB1.out).f 0
  have y1 := (HB.out.2.2.1.on HB1.out).f 1
  have DS := (HB.out.2.2.1.on HB1.out).set (.slice (some ⟨g, 0, none⟩) 12 cap) (.slice sa sn sc)
  have hBS := ((HB.out.1.on HB1.out).setCell (p := ⟨w.heap.size + 1, 0, none⟩) (Nat.le_succ _) (.slice (some ⟨g, 0, none⟩) 12 cap)).setCell (p := ⟨w.heap.size + 1, 1, none⟩) (Nat.le_succ _) (.slice sa sn sc)
  have HO := Lib.hid (And.intro DS hBS)
  clear DS hBS
  go_wp2
  generalize (w1.setCell ⟨w.heap.size + 1, 0, none⟩ (.slice (some ⟨g, 0, none⟩) 12 cap)).setCell ⟨w.heap.size + 1, 1, none⟩ (.slice sa sn sc) = w6 at *
  have e0 := HO.out.1.c0
  have e1 := HO.out.1.c1
  refine bodyPost_ret (v := .tuple #[.agg #[.slice (some ⟨g, 0, none⟩) 12 cap, .slice sa sn sc], .int .i64 6]) (by simp [results, Tryz.results37, go_sem, e0, e1]) rfl ?_
  exact ⟨rfl, HO.out.2⟩
set_option maxHeartbeats 1000000 in
theorem RP.free (h : RP vn x V w) (sa : Option Addr) (sn sc : Nat) (k : Int) (hs : (V 0).size = 256) (b0 : -9223372036854775808 ≤ k) (b1 : k ≤ 9223372036854775807) (hk : outB 12 (V 0) k = true) :
    Calls Tryz.prog 35 #[.agg #[vn, .slice sa sn sc], .int .i64 k] w (NewP w sa sn sc (updV V 0 (withS (V 0) k false)) fun v => .tuple #[v, .int .i64 0]) := by
  obtain ⟨W, hW, hbW, B0, B1⟩ := boxes w vn (.slice sa sn sc)
  obtain ⟨g, cap, rfl, hc⟩ := (h.on hbW).open
  have b00 := B0.c0
  have b01 := B0.c1
  have HB := Lib.hid (And.intro hbW (And.intro B0 (And.intro B1 (heap_lt B1.obj))))
  have HR := Lib.hid (h.on hbW)
  clear h hbW B0 B1
  have HG := Lib.hid (HR.out.given sa sn sc k hs b0 b1)
  rw [hk] at HG
  have HS := Lib.hid fun (w1 : World) (bb : Below W.heap.size W w1) => (HR.out.on bb).set sa sn sc k false hs b0 b1
  clear hc
  go_enter Tryz.func35, Tryz.ntmps35
  go_wp2_with fail
  refine HG.out.mono ?_
  rintro e w1 ⟨rfl, hb1⟩
  have b00 := (HB.out.2.1.on hb1).c0
  have b01 := (HB.out.2.1.on hb1).c1
  have HB1 := Lib.hid hb1
  clear hb1 hW HG
  go_wp2_with fail
  refine (HS.out _ HB1.out).mono ?_
  rintro e w2 ⟨v2, x2, rfl, hR, hlo, hb2⟩
  obtain ⟨g2, cap2, rfl, _⟩ := hR.open
  have hb12 := (HB1.out).on hb2
  have D1 := (HB.out.2.2.1.on (HB1.out)).on hb2
  have z0 := D1.c0
  have z1 := D1.c1
  have y0 := D1.f 0
  have y1 := D1.f 1
  have hsz := (HB1.out).size
  have hlt := HB.out.2.2.2
  have DS := D1.set (.slice (some ⟨g2, 0, none⟩) 12 cap2) (.slice sa sn sc)
  have hRS := hR.setBox (b := w.heap.size + 1) (u := .slice (some ⟨g2, 0, none⟩) 12 cap2) (u' := .slice sa sn sc) (by omega)
  have hBS := ((HB.out.1.on hb12).setCell (p := ⟨w.heap.size + 1, 0, none⟩) (Nat.le_succ _) (.slice (some ⟨g2, 0, none⟩) 12 cap2)).setCell (p := ⟨w.heap.size + 1, 1, none⟩) (Nat.le_succ _) (.slice sa sn sc)
  have HO := Lib.hid (And.intro DS (And.intro hRS (And.intro hBS (show w.heap.size ≤ x2.1 by omega))))
  clear DS hRS hBS D1 hR hlo hb2 hb12
  go_wp2
  generalize (w2.setCell ⟨w.heap.size + 1, 0, none⟩ (.slice (some ⟨g2, 0, none⟩) 12 cap2)).setCell ⟨w.heap.size + 1, 1, none⟩ (.slice sa sn sc) = w6 at *
  have e0 := HO.out.1.c0
  have e1 := HO.out.1.c1
  refine bodyPost_ret (v := .tuple #[.agg #[.slice (some ⟨g2, 0, none⟩) 12 cap2, .slice sa sn sc], .int .i64 0]) (by simp [results, Tryz.results35, go_sem, e0, e1]) rfl ?_
  exact ⟨_, x2, rfl, HO.out.2.1, HO.out.2.2.2, HO.out.2.2.1⟩
set_option maxHeartbeats 1000000 in
theorem RP.setP (h : RP vn x V w) (sa : Option Addr) (sn sc : Nat) (k : Int) (s : ByteArray) (hs : (V 0).size = 256) (b0 : -9223372036854775808 ≤ k) (b1 : k ≤ 9223372036854775807) (hk : outB 12 (V 0) k = true) (hz : s.size ≤ 256) :
    Calls Tryz.prog 37 #[.agg #[vn, .slice sa sn sc], .int .i64 k, .string s] w (NewP w sa sn sc (updV V k (filled s)) fun v => .tuple #[v, .int .i64 0]) := by
  have hk2 : 0 ≤ k ∧ k < 12 := by
    have := hk
    unfold outB at this
    simp only [Bool.and_eq_true, decide_eq_true_eq] at this
    omega
  obtain ⟨n, rfl⟩ := Int.eq_ofNat_of_zero_le hk2.1
  obtain ⟨W, hW, hbW, B0, B1⟩ := boxes w vn (.slice sa sn sc)
  obtain ⟨g, cap, rfl, hc⟩ := (h.on hbW).open
  have b00 := B0.c0
  have b01 := B0.c1
  have HB := Lib.hid (And.intro hbW (And.intro B0 (And.intro B1 (heap_lt B1.obj))))
  have HR := Lib.hid (h.on hbW)
  clear h hbW B0 B1
  have HG := Lib.hid (HR.out.given sa sn sc (n : Int) hs b0 b1)
  rw [hk] at HG
  have d1 : decide ((256 : Int) < (s.size : Int)) = false := by simp; omega
  have HS := Lib.hid fun (w1 : World) (bb : Below W.heap.size W w1) => (HR.out.on bb).put sa sn sc n (by omega) s hz
  clear hc
  go_enter Tryz.func37, Tryz.ntmps37
  go_wp2_with fail
  refine HG.out.mono ?_
  rintro e w1 ⟨rfl, hb1⟩
  have b00 := (HB.out.2.1.on hb1).c0
  have b01 := (HB.out.2.1.on hb1).c1
  have HB1 := Lib.hid hb1
  clear hb1 hW HG
  go_wp2_with fail
  refine (HS.out _ HB1.out).mono ?_
  rintro e w2 ⟨v2, x2, rfl, hR, hlo, hb2⟩
  obtain ⟨g2, cap2, rfl, _⟩ := hR.open
  have hb12 := (HB1.out).on hb2
  have D1 := (HB.out.2.2.1.on (HB1.out)).on hb2
  have z0 := D1.c0
  have z1 := D1.c1
  have y0 := D1.f 0
  have y1 := D1.f 1
  have hsz := (HB1.out).size
  have hlt := HB.out.2.2.2
  have DS := D1.set (.slice (some ⟨g2, 0, none⟩) 12 cap2) (.slice sa sn sc)
  have hRS := hR.setBox (b := w.heap.size + 1) (u := .slice (some ⟨g2, 0, none⟩) 12 cap2) (u' := .slice sa sn sc) (by omega)
  have hBS := ((HB.out.1.on hb12).setCell (p := ⟨w.heap.size + 1, 0, none⟩) (Nat.le_succ _) (.slice (some ⟨g2, 0, none⟩) 12 cap2)).setCell (p := ⟨w.heap.size + 1, 1, none⟩) (Nat.le_succ _) (.slice sa sn sc)
  have HO := Lib.hid (And.intro DS (And.intro hRS (And.intro hBS (show w.heap.size ≤ x2.1 by omega))))
  clear DS hRS hBS D1 hR hlo hb2 hb12
  go_wp2
  generalize (w2.setCell ⟨w.heap.size + 1, 0, none⟩ (.slice (some ⟨g2, 0, none⟩) 12 cap2)).setCell ⟨w.heap.size + 1, 1, none⟩ (.slice sa sn sc) = w6 at *
  have e0 := HO.out.1.c0
  have e1 := HO.out.1.c1
  refine bodyPost_ret (v := .tuple #[.agg #[.slice (some ⟨g2, 0, none⟩) 12 cap2, .slice sa sn sc], .int .i64 0]) (by simp [results, Tryz.results37, go_sem, e0, e1]) rfl ?_
  exact ⟨_, x2, rfl, HO.out.2.1, HO.out.2.2.2, HO.out.2.2.1⟩
set_option maxHeartbeats 1000000 in
theorem RP.setBig (h : RP vn x V w) (sa : Option Addr) (sn sc : Nat) (k : Int) (s : ByteArray) (hs : (V 0).size = 256) (b0 : -9223372036854775808 ≤ k) (b1 : k ≤ 9223372036854775807) (hk : outB 12 (V 0) k = true) (hz : 256 < s.size) :
    Calls Tryz.prog 37 #[.agg #[vn, .slice sa sn sc], .int .i64 k, .string s] w fun e w' => e = .returned (.tuple #[.agg #[vn, .slice sa sn sc], .int .i64 21]) ∧ Below w.heap.size w w' := by
  obtain ⟨W, hW, hbW, B0, B1⟩ := boxes w vn (.slice sa sn sc)
  obtain ⟨g, cap, rfl, hc⟩ := (h.on hbW).open
  have b00 := B0.c0
  have b01 := B0.c1
  have HB := Lib.hid (And.intro hbW (And.intro B0 (And.intro B1 (heap_lt B1.obj))))
  have HR := Lib.hid (h.on hbW)
  clear h hbW B0 B1
  have HG := Lib.hid (HR.out.given sa sn sc k hs b0 b1)
  rw [hk] at HG
  have d1 : decide ((256 : Int) < (s.size : Int)) = true := by simp; omega
  clear hc
  go_enter Tryz.func37, Tryz.ntmps37
  go_wp2_with fail
  refine HG.out.mono ?_
  rintro e w1 ⟨rfl, hb1⟩
  have b00 := (HB.out.2.1.on hb1).c0
  have b01 := (HB.out.2.1.on hb1).c1
  have HB1 := Lib.hid hb1
  clear hb1 hW HG
  have z0 := (HB.out.2.2.1.on HB1.out).c0
  have z1 := (HB.out.2.2.1.on HB1.out).c1
  have y0 := (HB.out.2.2.1.on HB1.out).f 0
  have y1 := (HB.out.2.2.1.on HB1.out).f 1
  have DS := (HB.out.2.2.1.on HB1.out).set (.slice (some ⟨g, 0, none⟩) 12 cap) (.slice sa sn sc)
  have hBS := ((HB.out.1.on HB1.out).setCell (p := ⟨w.heap.size + 1, 0, none⟩) (Nat.le_succ _) (.slice (some ⟨g, 0, none⟩) 12 cap)).setCell (p := ⟨w.heap.size + 1, 1, none⟩) (Nat.le_succ _) (.slice sa sn sc)
  have HO := Lib.hid (And.intro DS hBS)
  clear DS hBS
  go_wp2
  generalize (w1.setCell ⟨w.heap.size + 1, 0, none⟩ (.slice (some ⟨g, 0, none⟩) 12 cap)).setCell ⟨w.heap.size + 1, 1, none⟩ (.slice sa sn sc) = w6 at *
  have e0 := HO.out.1.c0
  have e1 := HO.out.1.c1
  refine bodyPost_ret (v := .tuple #[.agg #[.slice (some ⟨g, 0, none⟩) 12 cap, .slice sa sn sc], .int .i64 21]) (by simp [results, Tryz.results37, go_sem, e0, e1]) rfl ?_
  exact ⟨rfl, HO.out.2⟩
set_option maxHeartbeats 1000000 in
theorem RP.format (h : RP vn x V w) (sa : Option Addr) (sn sc : Nat) :
    Calls Tryz.prog 8 #[.agg #[vn, .slice sa sn sc]] w (NewP w sa sn sc (fmtV V) fun v => .tuple #[v, .int .i64 0]) := by
  obtain ⟨W, hW, hbW, B0, B1⟩ := boxes w vn (.slice sa sn sc)
  obtain ⟨g, cap, rfl, hc⟩ := (h.on hbW).open
  have b00 := B0.c0
  have b01 := B0.c1
  have HB := Lib.hid (And.intro hbW (And.intro B0 (And.intro B1 (heap_lt B1.obj))))
  have HR := Lib.hid (h.on hbW)
  clear h hbW B0 B1
  have HS := Lib.hid (HR.out.put sa sn sc 0 (by omega) ⟨#[3]⟩ (by decide))
  clear hc
  go_enter Tryz.func8, Tryz.ntmps8
  go_wp2_with fail
  refine HS.out.mono ?_
  rintro e w1 ⟨v1, x1, rfl, hR1, hlo1, hb1⟩
  have hlo1' := hlo1
  have HB1 := Lib.hid hb1
  have HS2 := Lib.hid (hR1.put sa sn sc 1 (by omega) ⟨#[]⟩ (by decide))
  clear hb1 hW HS hlo1 hR1
  go_wp2_with fail
  refine HS2.out.mono ?_
  rintro e w2 ⟨v2, x2, rfl, hR, hlo, hb2⟩
  rw [filled_empty] at hR
  obtain ⟨g2, cap2, rfl, _⟩ := hR.open
  have hb12 := (HB1.out).on hb2
  have D1 := (HB.out.2.2.1.on (HB1.out)).on hb2
  have z0 := D1.c0
  have z1 := D1.c1
  have y0 := D1.f 0
  have y1 := D1.f 1
  have hsz := (HB1.out).size
  have hlt := HB.out.2.2.2
  have DS := D1.set (.slice (some ⟨g2, 0, none⟩) 12 cap2) (.slice sa sn sc)
  have hRS := hR.setBox (b := w.heap.size + 1) (u := .slice (some ⟨g2, 0, none⟩) 12 cap2) (u' := .slice sa sn sc) (by omega)
  have hBS := ((HB.out.1.on hb12).setCell (p := ⟨w.heap.size + 1, 0, none⟩) (Nat.le_succ _) (.slice (some ⟨g2, 0, none⟩) 12 cap2)).setCell (p := ⟨w.heap.size + 1, 1, none⟩) (Nat.le_succ _) (.slice sa sn sc)
  have HO := Lib.hid (And.intro DS (And.intro hRS (And.intro hBS (show w.heap.size ≤ x2.1 by omega))))
  clear DS hRS hBS D1 hR hlo hb2 hb12
  go_wp2
  generalize (w2.setCell ⟨w.heap.size + 1, 0, none⟩ (.slice (some ⟨g2, 0, none⟩) 12 cap2)).setCell ⟨w.heap.size + 1, 1, none⟩ (.slice sa sn sc) = w6 at *
  have e0 := HO.out.1.c0
  have e1 := HO.out.1.c1
  refine bodyPost_ret (v := .tuple #[.agg #[.slice (some ⟨g2, 0, none⟩) 12 cap2, .slice sa sn sc], .int .i64 0]) (by simp [results, Tryz.results8, go_sem, e0, e1]) rfl ?_
  exact ⟨_, x2, rfl, HO.out.2.1, HO.out.2.2.2, HO.out.2.2.1⟩
set_option maxHeartbeats 1000000 in
theorem RP.get_no (h : RP vn x V w) (sa : Option Addr) (sn sc : Nat) (k : Int) (hs : (V 0).size = 256) (b0 : -9223372036854775808 ≤ k) (b1 : k ≤ 9223372036854775807) (hk : outB 12 (V 0) k = false) :
    Calls Tryz.prog 36 #[.agg #[vn, .slice sa sn sc], .int .i64 k] w fun e w' => e = .returned (.tuple #[.string ⟨#[]⟩, .int .i64 6]) ∧ Below w.heap.size w w' := by
  obtain ⟨W, hW, hbW, B0⟩ := boxes1 w vn (.slice sa sn sc)
  have b00 := B0.c0
  have b01 := B0.c1
  have HB := Lib.hid hbW
  have HG := Lib.hid ((h.on hbW).given sa sn sc k hs b0 b1)
  rw [hk] at HG
  clear h hbW B0
  go_enter Tryz.func36, Tryz.ntmps36
  go_wp2_with fail
  refine HG.out.mono ?_
  rintro e w1 ⟨rfl, hb1⟩
  have HB1 := Lib.hid (HB.out.on hb1)
  clear hb1 hW HG
  go_wp2
  go_returns
  exact ⟨rfl, HB1.out⟩
set_option maxHeartbeats 1000000 in
theorem RP.get (h : RP vn x V w) (sa : Option Addr) (sn sc : Nat) (k : Int) (hs : (V 0).size = 256) (b0 : -9223372036854775808 ≤ k) (b1 : k ≤ 9223372036854775807) (hk : outB 12 (V 0) k = true) :
    Calls Tryz.prog 36 #[.agg #[vn, .slice sa sn sc], .int .i64 k] w fun e w' => e = .returned (.tuple #[.string (V k), .int .i64 0]) ∧ Below w.heap.size w w' := by
  have hk2 : 0 ≤ k ∧ k < 12 := by
    have := hk
    unfold outB at this
    simp only [Bool.and_eq_true, decide_eq_true_eq] at this
    omega
  obtain ⟨n, rfl⟩ := Int.eq_ofNat_of_zero_le hk2.1
  obtain ⟨W, hW, hbW, B0⟩ := boxes1 w vn (.slice sa sn sc)
  have HR := Lib.hid (h.on hbW)
  have b00 := B0.c0
  have b01 := B0.c1
  have HB := Lib.hid (And.intro hbW B0)
  have HG := Lib.hid ((h.on hbW).given sa sn sc (n : Int) hs b0 b1)
  rw [hk] at HG
  obtain ⟨g, cap, hv, _⟩ := h.open
  subst hv
  have d1 : (0 : Int) ≤ (n : Int) := by omega
  have d2 : (n : Int) < 12 := hk2.2
  clear h hbW B0
  go_enter Tryz.func36, Tryz.ntmps36
  go_wp2_with fail
  refine HG.out.mono ?_
  rintro e w1 ⟨rfl, hb1⟩
  obtain ⟨g', cap', hv, hc⟩ := (HR.out.on hb1).open
  cases hv
  have c0 := hc n (by omega)
  have b00 := (HB.out.2.on hb1).c0
  have b01 := (HB.out.2.on hb1).c1
  have HB1 := Lib.hid (HB.out.1.on hb1)
  clear hb1 hW HG hc
  go_wp2
  go_returns
  exact ⟨rfl, HB1.out⟩
end
end Go.Proofs.YtcoebinljdjemaaGreat
