/- Package store: slices.Sort of nothing; Dirty. -/
import Derived.Test.YtfcicpcpdklceaaSH
import Derived.Test.YtfcicpcpdklceaaShSort
import Derived.Sort.OwnSortedInts
import Derived.Handy
import Derived.Laws.IdiomRangeMap
namespace Go.Proofs.Ytfcicpcpdklceaa
set_option maxRecDepth 100000
open Go.ChangeShapes Go.WideShapes Go.ChangeAt Go.RowKit Go.PlainAid Go.ChangeMaps Go.MapKept
open Go.Sort (grow putRow Holds)
open Go.Maps (Keyed)

theorem insSort_nil (cap : Nat) (w : World) :
    Calls Try.prog 66 #[.slice none 0 cap, .int .i64 0, .int .i64 0] w fun e w' => e = .returned (.tuple #[]) ∧ w' = w := by
  go_enter Try.func66, Try.ntmps66
  go_wp2
  refine wp_loop_rounds 1 ?_
  rw [rounds_succ]
  go_wp2
  go_end0
  exact ⟨rfl, rfl⟩
theorem pdq_nil (cap : Nat) (w : World) :
    Calls Try.prog 47 #[.slice none 0 cap, .int .i64 0, .int .i64 0, .int .i64 0] w fun e w' => e = .returned (.tuple #[]) ∧ w' = w := by
  go_enter Try.func47, Try.ntmps47
  go_wp2
  refine wp_loop_rounds 1 ?_
  rw [rounds_succ]
  go_wp2_with (first | (refine (insSort_nil cap _).mono ?_; rintro e w' ⟨rfl, rfl⟩))
  refine bodyPost_ret (results_none rfl _ _ _) rfl ?_
  exact ⟨rfl, rfl⟩
theorem len64_nil (w : World) : Calls Try.prog 76 #[.int .u64 0] w fun e w' => e = .returned (.int .i64 0) ∧ w' = w := by
  go_enter Try.func76, Try.ntmps76
  go_wp2
  go_returns
  exact ⟨ret_i (by kernel_rfl), rfl⟩
theorem len_nil (w : World) : Calls Try.prog 48 #[.int .u64 0] w fun e w' => e = .returned (.int .i64 0) ∧ w' = w := by
  go_enter Try.func48, Try.ntmps48
  go_wp2_with (go_at_call 76; refine (len64_nil _).mono ?_; rintro e w' ⟨rfl, rfl⟩)
  go_returns
  exact ⟨rfl, rfl⟩
theorem sort_nil (cap : Nat) (w : World) :
    Calls Try.prog 33 #[.slice none 0 cap] w fun e w' => e = .returned (.tuple #[]) ∧ w' = w := by
  go_enter Try.func33, Try.ntmps33
  go_wp2_with (first
    | (go_at_call 48; refine (len_nil _).mono ?_; rintro e w' ⟨rfl, rfl⟩)
    | (go_at_call 47; refine (pdq_nil cap _).mono ?_; rintro e w' ⟨rfl, rfl⟩))
  go_end0
  exact ⟨rfl, rfl⟩

/-- The pages of a transaction, rising. -/
def Keys (T : Int → Option ByteArray) (ks : List Int) : Prop := ks.Pairwise (· < ·) ∧ ∀ x, x ∈ ks ↔ (T x).isSome = true
theorem Keys.nodup {T : Int → Option ByteArray} {ks : List Int} (h : Keys T ks) : ks.Nodup := h.1.imp (fun h => Int.ne_of_lt h)
/-- Those met so far. -/
def Coll (T : Int → Option ByteArray) (left : Lit → Bool) (ss : List Int) : Prop := ss.Nodup ∧ ∀ x, x ∈ ss ↔ ((T x).isSome = true ∧ left (.int .i64 x) = false)
theorem Coll.start (T : Int → Option ByteArray) {left : Lit → Bool} (h : ∀ x, left (.int .i64 x) = (T x).isSome) : Coll T left [] := ⟨List.nodup_nil, fun x => by rw [h]; cases (T x).isSome <;> simp⟩
theorem Coll.step {T : Int → Option ByteArray} {left : Lit → Bool} {ss : List Int} (h : Coll T left ss) {x : Int} (hl : left (.int .i64 x) = true) (hT : (T x).isSome = true) : Coll T (fun z => left z && !z.sameKey (.int .i64 x)) (ss ++ [x]) := by
  have hx : x ∉ ss := fun c => by have := ((h.2 x).1 c).2; rw [hl] at this; cases this
  refine ⟨List.nodup_append.2 ⟨h.1, by simp, fun a ha b hb => by rintro rfl; rw [List.mem_singleton] at hb; subst hb; exact hx ha⟩, fun y => ?_⟩
  rw [List.mem_append, List.mem_singleton, h.2 y]
  by_cases e : y = x
  · subst e; simp [hT, Lit.sameKey]
  · have : (Lit.int .i64 y).sameKey (.int .i64 x) = false := by simp [Lit.sameKey, e]
    simp [this, e]
theorem Coll.keys {T : Int → Option ByteArray} {left : Lit → Bool} {ss : List Int} (h : Coll T left ss) (hl : ∀ z, left z = false) : Keys T (ss.mergeSort fun x y => decide (x ≤ y)) := by
  have hp := List.mergeSort_perm ss (fun x y => decide (x ≤ y))
  have hs := List.pairwise_mergeSort (le := fun x y : Int => decide (x ≤ y)) (fun a b c h1 h2 => by simp at *; omega) (fun a b => by simp; omega) ss
  refine ⟨?_, fun x => by rw [hp.mem_iff, h.2 x, hl]; simp⟩
  have hn : (ss.mergeSort fun x y => decide (x ≤ y)).Nodup := hp.nodup_iff.2 h.1
  exact (hs.and hn).imp (fun ⟨a, b⟩ => by simp at a; omega)
theorem info_int : (Try.prog.info? 3).map (fun i => (i.zero, i.size, i.bytes)) = some (some (.int .i64 0), 1, 8) := by kernel_rfl
def appI (vs : Array Value) : Sem Value := Builtin.append_ #[44, 44] 44 vs
theorem app_int (vs : Array Value) : Builtin.append_ #[44, 44] 44 vs = appI vs := rfl
/-- One number more in a row of the call's own. -/
theorem int_push {n₀ : Nat} {W : World} {ss : List Int} {v : Value} (hrow : W.ownsRow n₀ 3 1 v ss.length (ss.map (Value.int .i64))) (hn : n₀ ≤ W.heap.size) (hlen : ss.length ≤ 1048576) (x : Int) :
    ∃ g cap w2, (appI #[v, .slice (some ⟨W.heap.size, 0, none⟩) 1 1]).run Try.prog (W.alloc (.cells #[.int .i64 x] 3)) = .ok (.slice (some ⟨g, 0, none⟩) (ss.length + 1) cap) w2 ∧
      w2.ownsRow n₀ 3 1 (.slice (some ⟨g, 0, none⟩) (ss.length + 1) cap) (ss ++ [x]).length ((ss ++ [x]).map (Value.int .i64)) ∧ Below n₀ W w2 ∧ W.grownBy w2 v.ownBlock := by
  obtain ⟨i0, hi, hz0, hz1, hz2⟩ := info_parts info_int
  have hq := heap_alloc_new W (.cells #[.int .i64 x] 3)
  have hba : Below W.heap.size W (W.alloc (.cells #[.int .i64 x] 3)) := by go_grown
  obtain ⟨g, cap, w2, hr, h2, h3, _, _⟩ := run_append_lies (P := Try.prog) (w := W.alloc (.cells #[.int .i64 x] 3)) 44 44 n₀ 3 i0 (.int .i64 0) 1 8 Try.underlying44 hi hz0 hz1 hz2 rfl (by decide) v ss.length (ss.map (Value.int .i64)) (ownsRow_on hrow hba) ⟨W.heap.size, 0, none⟩ 1 1 [.int .i64 x] rfl
    (fun j u hu => by
      rcases j with _ | j
      · have : Value.int .i64 x = u := by simpa using hu
        rw [← this]
        show (W.alloc (.cells #[.int .i64 x] 3)).cell? ⟨W.heap.size, 0, none⟩ = _
        rw [cell_of_row _ _ _ _ _ _ hq]
        rfl
      · simp at hu) (fun u hu => by have : u = .int .i64 x := by simpa using hu
                                    rw [this]; rfl) (by decide) (by unfold maxLen; omega) (by omega) (by rw [World.size_alloc]; omega) _ rfl
  refine ⟨g, cap, w2, hr, by rw [List.length_append, List.map_append]; exact h2, (hba.mono hn).grown h3 (by rw [World.size_alloc]; omega) (fun k e => (hrow.lt k e).1), (World.grownBy_alloc W _ _).trans h3⟩
set_option maxHeartbeats 400000 in
theorem sdirty_no (w : World) (v : Value) (h : NoStore w v) :
    Calls Try.prog 17 #[v] w fun e w' => e = .returned (.slice none 0 0) ∧ Below w.heap.size w w' := by
  rcases h with rfl | ⟨q, rfl, hq⟩
  · go_enter Try.func17, Try.ntmps17
    go_wp2
    go_returns
    exact ⟨rfl, Below.refl _ _⟩
  · obtain ⟨c0, c1, c2, c3, c4, c5, c6⟩ := blank_cells hq
    clear hq
    have hrg := run_range_nilMap (P := Try.prog) w 56 3 83 Try.underlying56
    have hnx : ∀ ty, (Instr.next (.pointer (some ⟨w.heap.size, 0, none⟩)) false ty).run Try.prog (w.alloc (.mapIter none 0 #[] 0)) = _ := fun ty => run_next_nilMap w ty 0 0 #[]
    go_enter Try.func17, Try.ntmps17
    go_wp2
    refine wp_loop_rounds 1 ?_
    rw [rounds_succ]
    go_wp2_with fail
    ((with_reducible refine (sort_nil 0 _).mono ?_); rintro e w' ⟨rfl, rfl⟩)
    go_wp2
    go_returns
    exact ⟨rfl, by go_grown⟩
attribute [local go_sem ↓ high] app_int
set_option maxHeartbeats 1000000 in
theorem sdirty_any {w0 w : World} {p q bm c : Nat} {d : D} {h : Hd} {T : Int → Option ByteArray} {dead : Bool} {R : List (Nat × Obj)} (H : StT w0 p q bm c d h T dead R w) (hc : c ≤ 1000000) :
    Calls Try.prog 17 #[.pointer (some ⟨q, 0, none⟩)] w fun e w' => ∃ ks v, e = .returned v ∧ Keys T ks ∧ ks.length ≤ c ∧ w'.ownsRow (w.heap.size + 1) 3 1 v ks.length (ks.map (Value.int .i64)) ∧ Below w.heap.size w w' := by
  obtain ⟨c0, c1, c2, c3, c4, c5, c6⟩ := store_cells H.at
  obtain ⟨⟨es, clock, hX, hS⟩, _, _⟩ := H
  have hbm : w.heap[bm]? = some (.map es clock) := hS.mem (x := (bm, .map es clock)) List.mem_cons_self
  have hown : w.ownsMap Try.prog 3 pgR bm c (Dm es) := ⟨es, clock, hbm, hX.fit, hX.size, rfl⟩
  have hsz := hown.size_le
  have HBM := Lib.hid (heap_lt' hbm)
  clear hbm hS
  go_enter Try.func17, Try.ntmps17
  go_wp2_with (first | (at_range; refine wpList_range_own _ rfl _ 56 rfl 3 83 keyed Try.underlying56 pgR bm c (Dm es) rfl hown ?_; intro w1 hrg hg1 hs1) | go_in)
  go_frame
  have hb1 : Below w.heap.size w w1 := (Below.refl _ _).grown hg1 (Nat.le_refl _) (fun k e => by cases e)
  have HW := Lib.hid (show w1.ownsRow (w.heap.size + 1) 3 1 (.slice none 0 0) ([] : List Int).length (([] : List Int).map (Value.int .i64)) from World.ownsRow_nil _ _ _ _)
  have HC := Lib.hid (Coll.start T (left := Maps.has (Dm es)) hX.has)
  have HB := Lib.hid hb1
  have HG := Lib.hid hrg
  have HS := Lib.hid (show ([] : List Int).length + Maps.size (Dm es) ≤ c by simpa using hsz)
  have HS1 := Lib.hid hs1
  have HX := Lib.hid hX
  clear hb1 hrg hs1 hsz hg1 hown hX c0 c1 c2 c3 c4 c5 c6
  generalize hrr : w.heap.size = r at *
  have HRR := Lib.hid hrr
  clear hrr
  go_loopw [3] (fun v wr => ∃ (left : Lit → Bool) (cnt : Nat) (ss : List Int), wr.ranges Try.prog 3 pgR bm r c (Dm es) left cnt ∧ Coll T left ss ∧ wr.ownsRow (r + 1) 3 1 v ss.length (ss.map (Value.int .i64)) ∧ Below r w wr ∧ r < wr.heap.size ∧ ss.length + cnt ≤ c) (fun _ wr => wr.rangeLeft bm r)
  case atStart => exact ⟨_, _, [], HG.out, HC.out, HW.out, HB.out, by rw [HS1.out]; omega, HS.out⟩
  case round =>
    clear HG HC HW HB HS HS1
    obtain ⟨left, cnt, ss, hrg, hcl, hrow, hbw, hsz, hle⟩ := hrel
    have HG := Lib.hid hrg
    have HC := Lib.hid hcl
    have HW := Lib.hid hrow
    have HB := Lib.hid hbw
    clear hcl hrow hbw
    go_wp2_with (first | (at_next; refine wpList_next_ranges _ rfl _ rfl 3 keyed pgR (fun x : Int => Value.int .i64 x) (fun v : Value => v) (fun key kl hk => by obtain ⟨x, hx, _⟩ := Maps.keyOf_int_inv Try.underlying3 hk; exact ⟨x, hx⟩) (fun v y _ => ⟨v, rfl⟩) bm r c (Dm es) left cnt rfl hrg ?_ ?_) | go_in)
    · intro hc0 hl0
      clear hrg
      rcases HW.out.2 with ⟨rfl, hn⟩ | ⟨g, cap, cur, rfl, hg0, hgb, hn1, hn2, hn3, hn4⟩
      · obtain rfl : ss = [] := List.eq_nil_of_length_eq_zero hn
        clear hn hc0
        have HL := Lib.hid hl0
        clear hl0
        go_wp2_with fail
        ((with_reducible refine (sort_nil 0 _).mono ?_); rintro e w' ⟨rfl, rfl⟩)
        go_wp2
        go_returns
        exact ⟨[], .slice none 0 0, rfl, by have := HC.out.keys HL.out; simpa using this, by simp, by rw [HRR.out]; exact HW.out, by rw [HRR.out]; exact HB.out⟩
      · have hgs := heap_lt' hgb
        rw [Nat.mul_one] at hn4
        have HSo := Lib.hid (sh_slices_Sort_int g 0 cap ss wr (holds_of_blockI hgb hn4) hgs (by omega))
        have HGB := Lib.hid hgb
        have HN := Lib.hid (And.intro hn1 (And.intro hn2 hn3))
        have HL := Lib.hid hl0
        clear hgb hn1 hn2 hn3 hn4 hl0 hc0
        go_wp2_with fail
        ((with_reducible refine HSo.out.mono ?_); rintro e w' ⟨rfl, n, os, rfl⟩)
        have hrow2 := ownsRow_sortedI (n := n) (os := os) (base := r + 1) (ts := ss.mergeSort fun x y => decide (x ≤ y)) (List.length_mergeSort ss) hg0 HGB.out HN.out.1 HN.out.2.1 HN.out.2.2
        have hb2 : Below r w (grow (putRow (Value.int .i64) (Sort.ahead wr n) g 0 (ss.mergeSort fun x y => decide (x ≤ y)).toArray) os) := HB.out.grown (grownBy_sortedI _) (Nat.le_of_lt hsz) (fun k e => by cases e; omega)
        have HR2 := Lib.hid hrow2
        have HB2 := Lib.hid hb2
        clear hrow2 hb2
        go_wp2
        go_returns
        exact ⟨ss.mergeSort fun x y => decide (x ≤ y), _, rfl, HC.out.keys HL.out, by rw [List.length_mergeSort]; omega, by rw [List.length_mergeSort, HRR.out]; exact HR2.out, by rw [HRR.out]; exact HB2.out⟩
    · intro x cv kl y1 y2 w2 cnt2 hk hlk hv hat hrg2 hlt hg2 hs2 hen
      obtain ⟨x', hx', rfl, hwf⟩ := Maps.keyOf_int_inv Try.underlying3 hk
      obtain rfl : x = x' := by simpa using hx'
      have hT : (T x).isSome = true := by rw [← HX.out.has x]; exact Maps.has_true_of_atKey hat
      have hrow2 := HW.out.kept hg2 (.inr (by intro c; have := (HW.out.lt _ c).1; omega))
      obtain ⟨g, cap, w3, happ, hrow3, hb3, hgr3⟩ := int_push hrow2 (by omega) (by omega) x
      have hb2 : Below r w w2 := HB.out.grown hg2 (Nat.le_of_lt hsz) (fun k e => by cases e; exact Nat.le_refl _)
      have hrg3 := hrg2.kept hgr3 (by intro c; have := (hrow2.lt _ c.symm).1; have := HBM.out; omega) (by intro c; have := (hrow2.lt _ c.symm).1; omega)
      have HFin := Lib.hid (And.intro hrg3 (And.intro (HC.out.step hlk hT) (And.intro hrow3 (And.intro ((hb2.trans (hb3.mono (by omega)))) (And.intro (show r < w3.heap.size by have := hb3.size; omega) (show (ss ++ [x]).length + cnt2 ≤ c by rw [List.length_append]; simp; omega))))))
      have HM := Lib.hid (And.intro hrg.left_eq (And.intro hrg3.left_eq hlt))
      clear hk hlk hv hat hrg2 hlt hg2 hs2 hT hrow2 hrow3 hb3 hgr3 hb2 hrg3 hrg hx'
      go_wp2
      go_roundw
      case rel => exact ⟨_, _, _, HFin.out⟩
      case measure => rw [HM.out.1, HM.out.2.1]; exact HM.out.2.2
end Go.Proofs.Ytfcicpcpdklceaa
