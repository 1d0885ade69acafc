/- The acts that a law of package pager is called with, as plain data. Package pager: no pager, and one that no New made. -/
import Derived.Test.YtcoebinljdjemaaGreatRows
import Derived.Test.YtcoebinljdjemaaGreatGA
import Derived.Deep.Slices
import Derived.Deep.Fields
import Derived.ChangeSame
import Derived.Test.YtcoebinljdjemaaGreatGQ
namespace Go.Proofs.YtcoebinljdjemaaGreat
set_option maxRecDepth 100000
open Go.ChangeShapes Go.WideShapes Go.ChangeAt Go.RowKit Go.PlainAid Go.Deep

/-- A call that a law is told to make. -/
structure ActV where
  kind : Int
  at_ : Int
  to_ : Int
  data : ByteArray
def ActV.cells (x : ActV) : List Value := [.int .i64 x.kind, .int .i64 x.at_, .int .i64 x.to_, .string x.data]
theorem ActV.cells_length (x : ActV) : x.cells.length = 4 := rfl
structure ActV.Wf (x : ActV) : Prop where
  kind : -9223372036854775808 ≤ x.kind ∧ x.kind ≤ 9223372036854775807
  at_ : -9223372036854775808 ≤ x.at_ ∧ x.at_ ≤ 9223372036854775807
  to_ : -9223372036854775808 ≤ x.to_ ∧ x.to_ ≤ 9223372036854775807
  data : (x.data.size : Int) ≤ 9223372036854775807

section
variable {H : Type} {enc : TypeId × Value → H} {P : Program} {w : World} {base : Nat} {sp : Nat → Bool} {held : Bool}
/-- The cells of a struct that can be read, one a field. -/
theorem struct_cells {e : TypeId} {fs : Array Field} {fuel : Nat} {cs : List Value} {x : DataW H × List MemPlace} (he : P.underlying e = some (.struct fs)) (hone : oneCellFields P fs = true) (hC : P.cellsOf e = fs.size)
    (h : DataW.trod enc P w base sp held fuel e cs = some x) : cs.length = fs.size ∧ ∀ (j : Nat) (f : Field), fs[j]? = some f → ∃ (v : Value) (y : DataW H × List MemPlace) (n : Nat), cs[j]? = some v ∧ DataW.trod enc P w base sp held n f.type [v] = some y := by
  obtain ⟨ys, n, _, _, hlen, hyl, hf⟩ := DataW.trod_struct he h
  have hlen' : cs.length = fs.size := hlen.trans hC
  refine ⟨hlen', fun j f hj => ?_⟩
  obtain ⟨ho, hk⟩ := hone_of hone j f hj
  have hjl : j < fs.size := (Array.getElem?_eq_some_iff.1 hj).1
  have h1 := hf j f hj
  rw [ho, hk] at h1
  have hv : cs[j]? = some (cs[j]'(by omega)) := List.getElem?_eq_getElem (by omega)
  have e1 : (cs.drop j).take 1 = [cs[j]'(by omega)] := by
    rw [List.drop_eq_getElem_cons (by omega)]
    rfl
  rw [e1] at h1
  have hy : ys[j]? = some (ys[j]'(by omega)) := List.getElem?_eq_getElem (by omega)
  exact ⟨_, _, n, hv, h1.trans hy⟩
end

theorem act_read {H : Type} {enc : TypeId × Value → H} {w : World} {base : Nat} {sp : Nat → Bool} {held : Bool} {fuel : Nat} {cs : List Value} {x : DataW H × List MemPlace}
    (h : DataW.trod enc Tryz.prog w base sp held fuel 37 cs = some x) : ∃ y : ActV, cs = y.cells ∧ y.Wf := by
  obtain ⟨hl, hf⟩ := struct_cells Tryz.underlying37 (by kernel_rfl) (by kernel_rfl) h
  obtain ⟨v0, _, _, g0, r0⟩ := hf 0 _ rfl
  obtain ⟨v1, _, _, g1, r1⟩ := hf 1 _ rfl
  obtain ⟨v2, _, _, g2, r2⟩ := hf 2 _ rfl
  obtain ⟨v3, _, _, g3, r3⟩ := hf 3 _ rfl
  obtain ⟨n0, e0, _, w0⟩ := DataW.trod_int Tryz.underlying3 r0
  obtain ⟨n1, e1, _, w1⟩ := DataW.trod_int Tryz.underlying3 r1
  obtain ⟨n2, e2, _, w2⟩ := DataW.trod_int Tryz.underlying3 r2
  obtain ⟨s3, e3, _, w3⟩ := DataW.trod_string Tryz.underlying9 r3
  obtain rfl : v0 = _ := by simpa using e0
  obtain rfl : v1 = _ := by simpa using e1
  obtain rfl : v2 = _ := by simpa using e2
  obtain rfl : v3 = _ := by simpa using e3
  refine ⟨⟨n0, n1, n2, s3⟩, ?_, ⟨bounds_i64 w0, bounds_i64 w1, bounds_i64 w2, (by show (s3.size : Int) ≤ 9223372036854775807; unfold maxLen at w3; omega)⟩⟩
  have hl3 : cs.length = 4 := hl
  apply List.ext_getElem?
  intro i
  match i with
  | 0 => exact g0
  | 1 => exact g1
  | 2 => exact g2
  | 3 => exact g3
  | i + 4 => rw [List.getElem?_eq_none (by omega), List.getElem?_eq_none (by rw [ActV.cells_length]; omega)]

/-- The acts that a slice reads as, in world w. -/
def ActsIn (w : World) (v : Value) (l : List ActV) : Prop :=
  (l = [] ∧ ∃ ao cap, v = .slice ao 0 cap) ∨ ∃ b o cap, v = .slice (some ⟨b, o, none⟩) l.length cap ∧ b < w.heap.size ∧ 0 < l.length ∧ (l.length : Int) ≤ 9223372036854775807 ∧ ∀ i x, l[i]? = some x → x.Wf ∧ w.rangeAt b (o + i * 4) x.cells

theorem act_open {H : Type} {enc : TypeId × Value → H} {w : World} {base b0 : Nat} {sp : Nat → Bool} {held : Bool} {r : Reach} {v : Value} {d : DataW H} {p : List MemPlace}
    (hv : Value.okWide Tryz.prog w r b0 37 v) (h : DataW.Trod enc Tryz.prog w base sp held 37 v d p) : ∃ y : ActV, v = .agg y.cells.toArray ∧ y.Wf := by
  obtain ⟨cs, rfl, hsz⟩ := okWide_struct Tryz.underlying37 hv
  obtain ⟨fuel, hf⟩ := h
  obtain ⟨y, hy, hw⟩ := act_read hf
  refine ⟨y, ?_, hw⟩
  rw [← hy]
  simp [Value.cells]

theorem acts_open {H : Type} {enc : TypeId × Value → H} {w : World} {base b0 : Nat} {sp : Nat → Bool} {held : Bool} {r : Reach} {v : Value} {d : DataW H} {p : List MemPlace}
    (hv : Value.okWide Tryz.prog w r b0 22 v) (h : DataW.Trod enc Tryz.prog w base sp held 22 v d p) : ∃ l : List ActV, ActsIn w v l := by
  obtain ⟨ao, len0, cap0, rfl⟩ := okWide_slice Tryz.underlying22 hv
  obtain ⟨fuel, hf⟩ := h
  rcases open_slice Tryz.underlying22 hf with ⟨h0, _⟩ | ⟨a, len, cap, m, n, Dt, Pl, hcs, hb, hl, hm, hmm, _, hi⟩
  · refine ⟨[], .inl ⟨rfl, ao, cap0, ?_⟩⟩
    have : Value.slice ao len0 cap0 = .slice none 0 0 := by simpa [Value.cells] using h0
    cases this
    rfl
  · have e : Value.slice ao len0 cap0 = .slice (some a) len cap := by simpa [Value.cells] using hcs
    cases e
    have hC : Tryz.prog.cellsOf 37 = 4 := by kernel_rfl
    have hlm : len0 ≤ m := by rw [hmm]; split <;> omega
    by_cases h0 : len0 = 0
    · subst h0
      exact ⟨[], .inl ⟨rfl, _, _, rfl⟩⟩
    · have each : ∀ i, ∃ y : ActV, i < len0 → y.Wf ∧ ∀ j, j < 4 → w.cell? (a.add (i * 4 + j)) = y.cells[j]? := fun i => by
        by_cases c : i < len0
        · obtain ⟨cs', hc, ht⟩ := hi i (by omega)
          rw [hC] at hc
          obtain ⟨_, hcl, hat⟩ := World.cells?_some hc
          obtain ⟨y, hy, hw⟩ := act_read ht
          refine ⟨y, fun _ => ⟨hw, fun j hj => ?_⟩⟩
          rw [← Go.Deep.add_add, hat j hj, hy]
        · exact ⟨⟨0, 0, 0, ByteArray.empty⟩, fun h => absurd h c⟩
      obtain ⟨f, hf'⟩ := Classical.axiomOfChoice each
      have h00 := (hf' 0 (by omega)).2 0 (by omega)
      obtain ⟨b, off, spot⟩ := a
      have hs0 : w.cell? ((⟨b, off, spot⟩ : Addr).add (0 * 4 + 0)) = some (.int .i64 (f 0).kind) := h00
      have hspot : spot = none := by simpa [Addr.add] using World.cell?_spot hs0
      subst hspot
      refine ⟨(List.range len0).map f, .inr ⟨b, off, cap0, by simp, ?_, by simp; omega, by simp; unfold maxLen at hm; omega, fun i x hx => ?_⟩⟩
      · exact World.block_lt_of_cell? w _ hs0
      · have hil : i < len0 := by have := (List.getElem?_eq_some_iff.1 hx).1; simpa using this
        have hxf : f i = x := by simpa [List.getElem?_map, List.getElem?_range hil] using hx
        subst hxf
        obtain ⟨hw, hc⟩ := hf' i hil
        refine ⟨hw, fun j u hu => ?_⟩
        have hj : j < 4 := by have := (List.getElem?_eq_some_iff.1 hu).1; simpa [ActV.cells_length] using this
        rw [← hu, ← hc j hj, Addr.add_mid, Nat.add_assoc]
theorem ActsIn.on {w w' : World} {v : Value} {l : List ActV} (h : ActsIn w v l) (hb : Below w.heap.size w w') : ActsIn w' v l := by
  rcases h with h | ⟨b, o, cap, hv, hlt, h0, hm, hr⟩
  · exact .inl h
  · exact .inr ⟨b, o, cap, hv, Nat.lt_of_lt_of_le hlt hb.size, h0, hm, fun i x hx => ⟨(hr i x hx).1, rangeAt_keep (hr i x hx).2 (hb.block b hlt)⟩⟩
end Go.Proofs.YtcoebinljdjemaaGreat
namespace Go.Proofs.YtcoebinljdjemaaGreat
set_option maxRecDepth 100000
open Go.ChangeShapes Go.WideShapes Go.ChangeAt Go.RowKit Go.PlainAid
open Go.Sort (grow)

def blankP : Obj := .cells #[.pointer none, .pointer none] 52 (0, 0)
/-- The value is no pager: nil, or a zero value. -/
def NoPager (w : World) (v : Value) : Prop := v = .pointer none ∨ ∃ q, v = .pointer (some ⟨q, 0, none⟩) ∧ w.heap[q]? = some blankP
theorem NoPager.on {w w' : World} {v : Value} (h : NoPager w v) (b : Below w.heap.size w w') : NoPager w' v := by
  rcases h with h | ⟨q, h1, h2⟩
  · exact .inl h
  · exact .inr ⟨q, h1, (b.block q (heap_lt h2)).trans h2⟩
theorem pmade_no (w : World) (v : Value) (h : NoPager w v) :
    Calls Tryz.prog 28 #[v] w fun e w' => e = .returned (.bool false) ∧ w = w' := by
  rcases h with rfl | ⟨q, rfl, hq⟩
  · go_enter Tryz.func28, Tryz.ntmps28
    go_wp2
    go_returns
    exact ⟨rfl, rfl⟩
  · have c0 : w.cell? ⟨q, 0, none⟩ = some (.pointer none) := by unfold blankP at hq; rw [cell_of_row _ _ _ _ _ _ hq]; rfl
    clear hq
    go_enter Tryz.func28, Tryz.ntmps28
    go_wp2
    go_returns
    exact ⟨rfl, rfl⟩
theorem pread_no (w : World) (v : Value) (k : Int) (h : NoPager w v) :
    Calls Tryz.prog 48 #[v, .int .i64 k] w fun e w' => e = .returned (.tuple #[.string ⟨#[]⟩, .int .i64 3]) ∧ w = w' := by
  go_enter Tryz.func48, Tryz.ntmps48
  go_wp2_with fail
  refine (pmade_no _ v h).mono ?_
  rintro e _ ⟨rfl, rfl⟩
  go_wp2
  go_returns
  exact ⟨rfl, rfl⟩
theorem pout_nil (w : World) (v : Value) (k : Int) (h : NoPager w v) :
    Calls Tryz.prog 51 #[v, .int .i64 k] w fun e w' => e = .returned (.tuple #[.string ⟨#[]⟩, .int .i64 3]) ∧ w = w' := by
  go_enter Tryz.func51, Tryz.ntmps51
  go_wp2_with fail
  refine (pread_no _ v 0 h).mono ?_
  rintro e _ ⟨rfl, rfl⟩
  go_wp2
  go_returns
  exact ⟨rfl, rfl⟩
theorem palloc_nil (w : World) (v : Value) (h : NoPager w v) :
    Calls Tryz.prog 17 #[v] w fun e w' => e = .returned (.tuple #[.int .i64 0, .int .i64 3]) ∧ w = w' := by
  go_enter Tryz.func17, Tryz.ntmps17
  go_wp2_with fail
  refine (pread_no _ v 0 h).mono ?_
  rintro e _ ⟨rfl, rfl⟩
  go_wp2
  go_returns
  exact ⟨rfl, rfl⟩
theorem pfree_nil (w : World) (v : Value) (k : Int) (h : NoPager w v) :
    Calls Tryz.prog 21 #[v, .int .i64 k] w fun e w' => e = .returned (.int .i64 3) ∧ w = w' := by
  go_enter Tryz.func21, Tryz.ntmps21
  go_wp2_with fail
  refine (pout_nil _ v k h).mono ?_
  rintro e _ ⟨rfl, rfl⟩
  go_wp2
  go_returns
  exact ⟨rfl, rfl⟩
theorem pget_nil (w : World) (v : Value) (k : Int) (h : NoPager w v) :
    Calls Tryz.prog 18 #[v, .int .i64 k] w fun e w' => e = .returned (.tuple #[.string ⟨#[]⟩, .int .i64 3]) ∧ w = w' := by
  go_enter Tryz.func18, Tryz.ntmps18
  go_wp2_with fail
  refine (pout_nil _ v k h).mono ?_
  rintro e _ ⟨rfl, rfl⟩
  go_wp2
  go_returns
  exact ⟨rfl, rfl⟩
theorem pset_nil (w : World) (v : Value) (k : Int) (s : ByteArray) (h : NoPager w v) :
    Calls Tryz.prog 22 #[v, .int .i64 k, .string s] w fun e w' => e = .returned (.int .i64 3) ∧ w = w' := by
  go_enter Tryz.func22, Tryz.ntmps22
  go_wp2_with fail
  refine (pout_nil _ v k h).mono ?_
  rintro e _ ⟨rfl, rfl⟩
  go_wp2
  go_returns
  exact ⟨rfl, rfl⟩
theorem ptree_nil (w : World) (v : Value) (k : Int) (h : NoPager w v) :
    Calls Tryz.prog 53 #[v, .int .i64 k] w fun e w' => e = .returned (.int .i64 3) ∧ w = w' := by
  go_enter Tryz.func53, Tryz.ntmps53
  go_wp2_with fail
  refine (pmade_no _ v h).mono ?_
  rintro e _ ⟨rfl, rfl⟩
  go_wp2
  go_returns
  exact ⟨rfl, rfl⟩
theorem proot_nil (w : World) (v : Value) (k : Int) (h : NoPager w v) :
    Calls Tryz.prog 19 #[v, .int .i64 k] w fun e w' => e = .returned (.tuple #[.int .i64 0, .int .i64 3]) ∧ w = w' := by
  go_enter Tryz.func19, Tryz.ntmps19
  go_wp2_with fail
  refine (ptree_nil _ v k h).mono ?_
  rintro e _ ⟨rfl, rfl⟩
  go_wp2
  go_returns
  exact ⟨rfl, rfl⟩
theorem psetroot_nil (w : World) (v : Value) (k j : Int) (h : NoPager w v) :
    Calls Tryz.prog 23 #[v, .int .i64 k, .int .i64 j] w fun e w' => e = .returned (.int .i64 3) ∧ w = w' := by
  go_enter Tryz.func23, Tryz.ntmps23
  go_wp2_with fail
  refine (ptree_nil _ v k h).mono ?_
  rintro e _ ⟨rfl, rfl⟩
  go_wp2
  go_returns
  exact ⟨rfl, rfl⟩
theorem proom_nil (w : World) (v : Value) (h : NoPager w v) :
    Calls Tryz.prog 24 #[v] w fun e w' => e = .returned (.int .i64 0) ∧ w = w' := by
  go_enter Tryz.func24, Tryz.ntmps24
  go_wp2_with fail
  refine (pread_no _ v 0 h).mono ?_
  rintro e _ ⟨rfl, rfl⟩
  go_wp2
  go_returns
  exact ⟨rfl, rfl⟩
theorem pcommit_nil (w : World) (v : Value) (h : NoPager w v) :
    Calls Tryz.prog 10 #[v] w fun e w' => e = .returned (.int .i64 3) ∧ w = w' := by
  go_enter Tryz.func10, Tryz.ntmps10
  go_wp2_with fail
  refine (pmade_no _ v h).mono ?_
  rintro e _ ⟨rfl, rfl⟩
  go_wp2
  go_returns
  exact ⟨rfl, rfl⟩
theorem pformat_nil (w : World) (v : Value) (h : NoPager w v) :
    Calls Tryz.prog 6 #[v] w fun e w' => e = .returned (.int .i64 3) ∧ w = w' := by
  go_enter Tryz.func6, Tryz.ntmps6
  go_wp2_with fail
  refine (pmade_no _ v h).mono ?_
  rintro e _ ⟨rfl, rfl⟩
  go_wp2
  go_returns
  exact ⟨rfl, rfl⟩
theorem pback_nil (w : World) (v : Value) (h : NoPager w v) :
    Calls Tryz.prog 20 #[v] w fun e w' => e = .returned (.tuple #[]) ∧ w = w' := by
  go_enter Tryz.func20, Tryz.ntmps20
  go_wp2_with fail
  refine (pmade_no _ v h).mono ?_
  rintro e _ ⟨rfl, rfl⟩
  go_wp2
  go_returns
  exact ⟨rfl, rfl⟩
theorem pnew_nil (w : World) :
    Calls Tryz.prog 25 #[.pointer none] w fun e w' => e = .returned (.tuple #[.pointer none, .int .i64 3]) ∧ w = w' := by
  have hn : NoStore w (.pointer none) := .inl rfl
  have HN := Lib.hid (sread_no w (.pointer none) 0 hn)
  clear hn
  go_enter Tryz.func25, Tryz.ntmps25
  go_wp2_with fail
  refine HN.out.mono ?_
  rintro e _ ⟨rfl, rfl⟩
  go_wp2
  go_returns
  exact ⟨rfl, rfl⟩
end Go.Proofs.YtcoebinljdjemaaGreat
