/- slices.Sort of whole numbers: the contract of the shelf at this program Package store: slices.Sort of nothing; Dirty. Package store: transaction. Package store: Commit. -/
import Derived.Shelf.Sort.Plain
import Derived.Test.YtcoebinljdjemaaGreatRows
import Derived.Test.YtcoebinljdjemaaGreatGF
import Derived.Sort.OwnSortedInts
import Derived.Handy
import Derived.Laws.IdiomRangeMap
namespace Go.Proofs.YtcoebinljdjemaaGreat
set_option maxRecDepth 100000
open Go.Shelf
def sh_lays189_ren : Go.Shelf.Ren := ⟨fun | 189 => 123 | 125 => 134 | 257 => 133 | 128 => 146 | 129 => 147 | 294 => 137 | 295 => 138 | 296 => 139 | 297 => 140 | 298 => 141 | 299 => 142 | 216 => 143 | 300 => 144 | 301 => 145 | 328 => 148 | 329 => 149 | 330 => 150 | 331 => 151 | 332 => 152 | 215 => 153 | 343 => 154 | n => n, fun | 28 => 154 | 3 => 3 | 46 => 136 | 0 => 0 | 51 => 170 | 53 => 41 | 4 => 4 | 183 => 194 | 182 => 193 | 131 => 100 | 5 => 5 | 9 => 9 | 218 => 201 | 222 => 205 | 228 => 207 | 229 => 77 | n => n, fun | n => n⟩
theorem sh_lays189 : Go.Proofs.Lays.n189 Tryz.prog sh_lays189_ren := {
  mixed := by kernel_rfl
  f125 := Tryz.func134.trans (congrArg some (by kernel_rfl))
  f128 := Tryz.func146.trans (congrArg some (by kernel_rfl))
  f129 := Tryz.func147.trans (congrArg some (by kernel_rfl))
  f189 := Tryz.func123.trans (congrArg some (by kernel_rfl))
  f215 := Tryz.func153.trans (congrArg some (by kernel_rfl))
  f216 := Tryz.func143.trans (congrArg some (by kernel_rfl))
  f257 := Tryz.func133.trans (congrArg some (by kernel_rfl))
  f294 := Tryz.func137.trans (congrArg some (by kernel_rfl))
  f295 := Tryz.func138.trans (congrArg some (by kernel_rfl))
  f296 := Tryz.func139.trans (congrArg some (by kernel_rfl))
  f297 := Tryz.func140.trans (congrArg some (by kernel_rfl))
  f298 := Tryz.func141.trans (congrArg some (by kernel_rfl))
  f299 := Tryz.func142.trans (congrArg some (by kernel_rfl))
  f300 := Tryz.func144.trans (congrArg some (by kernel_rfl))
  f301 := Tryz.func145.trans (congrArg some (by kernel_rfl))
  f328 := Tryz.func148.trans (congrArg some (by kernel_rfl))
  f329 := Tryz.func149.trans (congrArg some (by kernel_rfl))
  f330 := Tryz.func150.trans (congrArg some (by kernel_rfl))
  f331 := Tryz.func151.trans (congrArg some (by kernel_rfl))
  f332 := Tryz.func152.trans (congrArg some (by kernel_rfl))
  f343 := Tryz.func154.trans (congrArg some (by kernel_rfl))
  t0 := Tryz.underlying0
  a0 := Tryz.isAgg0
  z0 := Tryz.sizeOf0
  v0 := Tryz.zeroValue0
  t3 := Tryz.underlying3
  a3 := Tryz.isAgg3
  z3 := Tryz.sizeOf3
  v3 := Tryz.zeroValue3
  t4 := Tryz.underlying4
  a4 := Tryz.isAgg4
  z4 := Tryz.sizeOf4
  v4 := Tryz.zeroValue4
  t5 := Tryz.underlying5
  a5 := Tryz.isAgg5
  z5 := Tryz.sizeOf5
  v5 := Tryz.zeroValue5
  t9 := Tryz.underlying9
  a9 := Tryz.isAgg9
  z9 := Tryz.sizeOf9
  v9 := Tryz.zeroValue9
  t28 := Tryz.underlying154
  a28 := Tryz.isAgg154
  z28 := Tryz.sizeOf154
  v28 := Tryz.zeroValue154
  t46 := Tryz.underlying136
  a46 := Tryz.isAgg136
  z46 := Tryz.sizeOf136
  v46 := Tryz.zeroValue136
  t51 := Tryz.underlying170
  a51 := Tryz.isAgg170
  z51 := Tryz.sizeOf170
  v51 := Tryz.zeroValue170
  t53 := Tryz.underlying41
  a53 := Tryz.isAgg41
  z53 := Tryz.sizeOf41
  v53 := Tryz.zeroValue41
  t131 := Tryz.underlying100
  a131 := Tryz.isAgg100
  z131 := Tryz.sizeOf100
  v131 := Tryz.zeroValue100
  t182 := Tryz.underlying193
  a182 := Tryz.isAgg193
  z182 := Tryz.sizeOf193
  v182 := Tryz.zeroValue193
  t183 := Tryz.underlying194
  a183 := Tryz.isAgg194
  z183 := Tryz.sizeOf194
  v183 := Tryz.zeroValue194
  t218 := Tryz.underlying201
  a218 := Tryz.isAgg201
  z218 := Tryz.sizeOf201
  v218 := Tryz.zeroValue201
  t222 := Tryz.underlying205
  a222 := Tryz.isAgg205
  z222 := Tryz.sizeOf205
  v222 := Tryz.zeroValue205
  t228 := Tryz.underlying207
  a228 := Tryz.isAgg207
  z228 := Tryz.sizeOf207
  v228 := Tryz.zeroValue207
  t229 := Tryz.underlying77
  a229 := Tryz.isAgg77
  z229 := Tryz.sizeOf77
  v229 := Tryz.zeroValue77 }
open Go.Sort Go.RowKit in
theorem sh_slices_Sort_int (blk off cap : Nat) (zs : List Int) (w : World) (hH : Holds (Value.int .i64) w blk off zs.toArray) (hblk : blk < w.heap.size) (hsz : zs.length < 4611686018427387904) :
    Calls Tryz.prog 123 #[.slice (some ⟨blk, off, none⟩) zs.length cap] w fun e w' =>
      e = .returned (.tuple #[]) ∧ ∃ n os, w' = grow (putRow (Value.int .i64) (Sort.ahead w n) blk off (zs.mergeSort fun x y => decide (x ≤ y)).toArray) os := Any.slices_Sort_int sh_lays189 blk off cap zs w hH hblk hsz
end Go.Proofs.YtcoebinljdjemaaGreat
namespace Go.Proofs.YtcoebinljdjemaaGreat
set_option maxRecDepth 100000
open Go.ChangeShapes Go.WideShapes Go.ChangeAt Go.RowKit Go.PlainAid Go.ChangeMaps Go.MapKept
open Go.Sort (grow putRow Holds)
open Go.Maps (Keyed)

theorem insSort_nil (cap : Nat) (w : World) :
    Calls Tryz.prog 137 #[.slice none 0 cap, .int .i64 0, .int .i64 0] w fun e w' => e = .returned (.tuple #[]) ∧ w' = w := by
  go_enter Tryz.func137, Tryz.ntmps137
  go_wp2
  refine wp_loop_rounds 1 ?_
  rw [rounds_succ]
  go_wp2
  go_end0
  exact ⟨rfl, rfl⟩
theorem pdq_nil (cap : Nat) (w : World) :
    Calls Tryz.prog 133 #[.slice none 0 cap, .int .i64 0, .int .i64 0, .int .i64 0] w fun e w' => e = .returned (.tuple #[]) ∧ w' = w := by
  go_enter Tryz.func133, Tryz.ntmps133
  go_wp2
  refine wp_loop_rounds 1 ?_
  rw [rounds_succ]
  go_wp2_with (first | (refine (insSort_nil cap _).mono ?_; rintro e w' ⟨rfl, rfl⟩))
  refine bodyPost_ret (results_none rfl _ _ _) rfl ?_
  exact ⟨rfl, rfl⟩
theorem len64_nil (w : World) : Calls Tryz.prog 147 #[.int .u64 0] w fun e w' => e = .returned (.int .i64 0) ∧ w' = w := by
  go_enter Tryz.func147, Tryz.ntmps147
  go_wp2
  go_returns
  exact ⟨ret_i (by kernel_rfl), rfl⟩
theorem len_nil (w : World) : Calls Tryz.prog 134 #[.int .u64 0] w fun e w' => e = .returned (.int .i64 0) ∧ w' = w := by
  go_enter Tryz.func134, Tryz.ntmps134
  go_wp2_with (go_at_call 147; refine (len64_nil _).mono ?_; rintro e w' ⟨rfl, rfl⟩)
  go_returns
  exact ⟨rfl, rfl⟩
theorem sort_nil (cap : Nat) (w : World) :
    Calls Tryz.prog 123 #[.slice none 0 cap] w fun e w' => e = .returned (.tuple #[]) ∧ w' = w := by
  go_enter Tryz.func123, Tryz.ntmps123
  go_wp2_with (first
    | (go_at_call 134; refine (len_nil _).mono ?_; rintro e w' ⟨rfl, rfl⟩)
    | (go_at_call 133; refine (pdq_nil cap _).mono ?_; rintro e w' ⟨rfl, rfl⟩))
  go_end0
  exact ⟨rfl, rfl⟩

/-- The pages of a transaction, rising. -/
def Keys (T : Int → Option ByteArray) (ks : List Int) : Prop := ks.Pairwise (· < ·) ∧ ∀ x, x ∈ ks ↔ (T x).isSome = true
theorem Keys.nodup {T : Int → Option ByteArray} {ks : List Int} (h : Keys T ks) : ks.Nodup := h.1.imp (fun h => Int.ne_of_lt h)
/-- Those met so far. -/
def Coll (T : Int → Option ByteArray) (left : Lit → Bool) (ss : List Int) : Prop := ss.Nodup ∧ ∀ x, x ∈ ss ↔ ((T x).isSome = true ∧ left (.int .i64 x) = false)
theorem Coll.start (T : Int → Option ByteArray) {left : Lit → Bool} (h : ∀ x, left (.int .i64 x) = (T x).isSome) : Coll T left [] := ⟨List.nodup_nil, fun x => by rw [h]; cases (T x).isSome <;> simp⟩
theorem Coll.step {T : Int → Option ByteArray} {left : Lit → Bool} {ss : List Int} (h : Coll T left ss) {x : Int} (hl : left (.int .i64 x) = true) (hT : (T x).isSome = true) : Coll T (fun z => left z && !z.sameKey (.int .i64 x)) (ss ++ [x]) := by
  have hx : x ∉ ss := fun c => by have := ((h.2 x).1 c).2; rw [hl] at this; cases this
  refine ⟨List.nodup_append.2 ⟨h.1, by simp, fun a ha b hb => by rintro rfl; rw [List.mem_singleton] at hb; subst hb; exact hx ha⟩, fun y => ?_⟩
  rw [List.mem_append, List.mem_singleton, h.2 y]
  by_cases e : y = x
  · subst e; simp [hT, Lit.sameKey]
  · have : (Lit.int .i64 y).sameKey (.int .i64 x) = false := by simp [Lit.sameKey, e]
    simp [this, e]
theorem Coll.keys {T : Int → Option ByteArray} {left : Lit → Bool} {ss : List Int} (h : Coll T left ss) (hl : ∀ z, left z = false) : Keys T (ss.mergeSort fun x y => decide (x ≤ y)) := by
  have hp := List.mergeSort_perm ss (fun x y => decide (x ≤ y))
  have hs := List.pairwise_mergeSort (le := fun x y : Int => decide (x ≤ y)) (fun a b c h1 h2 => by simp at *; omega) (fun a b => by simp; omega) ss
  refine ⟨?_, fun x => by rw [hp.mem_iff, h.2 x, hl]; simp⟩
  have hn : (ss.mergeSort fun x y => decide (x ≤ y)).Nodup := hp.nodup_iff.2 h.1
  exact (hs.and hn).imp (fun ⟨a, b⟩ => by simp at a; omega)
theorem info_int : (Tryz.prog.info? 3).map (fun i => (i.zero, i.size, i.bytes)) = some (some (.int .i64 0), 1, 8) := by kernel_rfl
def appI (vs : Array Value) : Sem Value := Builtin.append_ #[154, 154] 154 vs
theorem app_int (vs : Array Value) : Builtin.append_ #[154, 154] 154 vs = appI vs := rfl
/-- One number more in a row of the call's own. -/
theorem int_push {n₀ : Nat} {W : World} {ss : List Int} {v : Value} (hrow : W.ownsRow n₀ 3 1 v ss.length (ss.map (Value.int .i64))) (hn : n₀ ≤ W.heap.size) (hlen : ss.length ≤ 1048576) (x : Int) :
    ∃ g cap w2, (appI #[v, .slice (some ⟨W.heap.size, 0, none⟩) 1 1]).run Tryz.prog (W.alloc (.cells #[.int .i64 x] 3)) = .ok (.slice (some ⟨g, 0, none⟩) (ss.length + 1) cap) w2 ∧
      w2.ownsRow n₀ 3 1 (.slice (some ⟨g, 0, none⟩) (ss.length + 1) cap) (ss ++ [x]).length ((ss ++ [x]).map (Value.int .i64)) ∧ Below n₀ W w2 ∧ W.grownBy w2 v.ownBlock := by
  obtain ⟨i0, hi, hz0, hz1, hz2⟩ := info_parts info_int
  have hq := heap_alloc_new W (.cells #[.int .i64 x] 3)
  have hba : Below W.heap.size W (W.alloc (.cells #[.int .i64 x] 3)) := by go_grown
  obtain ⟨g, cap, w2, hr, h2, h3, _, _⟩ := run_append_lies (P := Tryz.prog) (w := W.alloc (.cells #[.int .i64 x] 3)) 154 154 n₀ 3 i0 (.int .i64 0) 1 8 Tryz.underlying154 hi hz0 hz1 hz2 rfl (by decide) v ss.length (ss.map (Value.int .i64)) (ownsRow_on hrow hba) ⟨W.heap.size, 0, none⟩ 1 1 [.int .i64 x] rfl
    (fun j u hu => by
      rcases j with _ | j
      · have : Value.int .i64 x = u := by simpa using hu
        rw [← this]
        show (W.alloc (.cells #[.int .i64 x] 3)).cell? ⟨W.heap.size, 0, none⟩ = _
        rw [cell_of_row _ _ _ _ _ _ hq]
        rfl
      · simp at hu) (fun u hu => by have : u = .int .i64 x := by simpa using hu
                                    rw [this]; rfl) (by decide) (by unfold maxLen; omega) (by omega) (by rw [World.size_alloc]; omega) _ rfl
  refine ⟨g, cap, w2, hr, by rw [List.length_append, List.map_append]; exact h2, (hba.mono hn).grown h3 (by rw [World.size_alloc]; omega) (fun k e => (hrow.lt k e).1), (World.grownBy_alloc W _ _).trans h3⟩
set_option maxHeartbeats 400000 in
theorem sdirty_no (w : World) (v : Value) (h : NoStore w v) :
    Calls Tryz.prog 103 #[v] w fun e w' => e = .returned (.slice none 0 0) ∧ Below w.heap.size w w' := by
  rcases h with rfl | ⟨q, rfl, hq⟩
  · go_enter Tryz.func103, Tryz.ntmps103
    go_wp2
    go_returns
    exact ⟨rfl, Below.refl _ _⟩
  · obtain ⟨c0, c1, c2, c3, c4, c5, c6⟩ := blank_cells hq
    clear hq
    have hrg := run_range_nilMap (P := Tryz.prog) w 94 3 97 Tryz.underlying94
    have hnx : ∀ ty, (Instr.next (.pointer (some ⟨w.heap.size, 0, none⟩)) false ty).run Tryz.prog (w.alloc (.mapIter none 0 #[] 0)) = _ := fun ty => run_next_nilMap w ty 0 0 #[]
    go_enter Tryz.func103, Tryz.ntmps103
    go_wp2
    refine wp_loop_rounds 1 ?_
    rw [rounds_succ]
    go_wp2_with fail
    ((with_reducible refine (sort_nil 0 _).mono ?_); rintro e w' ⟨rfl, rfl⟩)
    go_wp2
    go_returns
    exact ⟨rfl, by go_grown⟩
attribute [local go_sem ↓ high] app_int
set_option maxHeartbeats 1000000 in
theorem sdirty_any {w0 w : World} {p q bm c : Nat} {d : D} {h : Hd} {T : Int → Option ByteArray} {dead : Bool} {R : List (Nat × Obj)} (H : StT w0 p q bm c d h T dead R w) (hc : c ≤ 1000000) :
    Calls Tryz.prog 103 #[.pointer (some ⟨q, 0, none⟩)] w fun e w' => ∃ ks v, e = .returned v ∧ Keys T ks ∧ ks.length ≤ c ∧ w'.ownsRow (w.heap.size + 1) 3 1 v ks.length (ks.map (Value.int .i64)) ∧ Below w.heap.size w w' := by
  obtain ⟨c0, c1, c2, c3, c4, c5, c6⟩ := store_cells H.at
  obtain ⟨⟨es, clock, hX, hS⟩, _, _⟩ := H
  have hbm : w.heap[bm]? = some (.map es clock) := hS.mem (x := (bm, .map es clock)) List.mem_cons_self
  have hown : w.ownsMap Tryz.prog 3 pgR bm c (Dm es) := ⟨es, clock, hbm, hX.fit, hX.size, rfl⟩
  have hsz := hown.size_le
  have HBM := Lib.hid (heap_lt' hbm)
  clear hbm hS
  go_enter Tryz.func103, Tryz.ntmps103
  go_wp2_with (first | (at_range; refine wpList_range_own _ rfl _ 94 rfl 3 97 keyed Tryz.underlying94 pgR bm c (Dm es) rfl hown ?_; intro w1 hrg hg1 hs1) | go_in)
  go_frame
  have hb1 : Below w.heap.size w w1 := (Below.refl _ _).grown hg1 (Nat.le_refl _) (fun k e => by cases e)
  have HW := Lib.hid (show w1.ownsRow (w.heap.size + 1) 3 1 (.slice none 0 0) ([] : List Int).length (([] : List Int).map (Value.int .i64)) from World.ownsRow_nil _ _ _ _)
  have HC := Lib.hid (Coll.start T (left := Maps.has (Dm es)) hX.has)
  have HB := Lib.hid hb1
  have HG := Lib.hid hrg
  have HS := Lib.hid (show ([] : List Int).length + Maps.size (Dm es) ≤ c by simpa using hsz)
  have HS1 := Lib.hid hs1
  have HX := Lib.hid hX
  clear hb1 hrg hs1 hsz hg1 hown hX c0 c1 c2 c3 c4 c5 c6
  generalize hrr : w.heap.size = r at *
  have HRR := Lib.hid hrr
  clear hrr
  go_loopw [3] (fun v wr => ∃ (left : Lit → Bool) (cnt : Nat) (ss : List Int), wr.ranges Tryz.prog 3 pgR bm r c (Dm es) left cnt ∧ Coll T left ss ∧ wr.ownsRow (r + 1) 3 1 v ss.length (ss.map (Value.int .i64)) ∧ Below r w wr ∧ r < wr.heap.size ∧ ss.length + cnt ≤ c) (fun _ wr => wr.rangeLeft bm r)
  case atStart => exact ⟨_, _, [], HG.out, HC.out, HW.out, HB.out, by rw [HS1.out]; omega, HS.out⟩
  case round =>
    clear HG HC HW HB HS HS1
    obtain ⟨left, cnt, ss, hrg, hcl, hrow, hbw, hsz, hle⟩ := hrel
    have HG := Lib.hid hrg
    have HC := Lib.hid hcl
    have HW := Lib.hid hrow
    have HB := Lib.hid hbw
    clear hcl hrow hbw
    go_wp2_with (first | (at_next; refine wpList_next_ranges _ rfl _ rfl 3 keyed pgR (fun x : Int => Value.int .i64 x) (fun v : Value => v) (fun key kl hk => by obtain ⟨x, hx, _⟩ := Maps.keyOf_int_inv Tryz.underlying3 hk; exact ⟨x, hx⟩) (fun v y _ => ⟨v, rfl⟩) bm r c (Dm es) left cnt rfl hrg ?_ ?_) | go_in)
    · intro hc0 hl0
      clear hrg
      rcases HW.out.2 with ⟨rfl, hn⟩ | ⟨g, cap, cur, rfl, hg0, hgb, hn1, hn2, hn3, hn4⟩
      · obtain rfl : ss = [] := List.eq_nil_of_length_eq_zero hn
        clear hn hc0
        have HL := Lib.hid hl0
        clear hl0
        go_wp2_with fail
        ((with_reducible refine (sort_nil 0 _).mono ?_); rintro e w' ⟨rfl, rfl⟩)
        go_wp2
        go_returns
        exact ⟨[], .slice none 0 0, rfl, by have := HC.out.keys HL.out; simpa using this, by simp, by rw [HRR.out]; exact HW.out, by rw [HRR.out]; exact HB.out⟩
      · have hgs := heap_lt' hgb
        rw [Nat.mul_one] at hn4
        have HSo := Lib.hid (sh_slices_Sort_int g 0 cap ss wr (holds_of_blockI hgb hn4) hgs (by omega))
        have HGB := Lib.hid hgb
        have HN := Lib.hid (And.intro hn1 (And.intro hn2 hn3))
        have HL := Lib.hid hl0
        clear hgb hn1 hn2 hn3 hn4 hl0 hc0
        go_wp2_with fail
        ((with_reducible refine HSo.out.mono ?_); rintro e w' ⟨rfl, n, os, rfl⟩)
        have hrow2 := ownsRow_sortedI (n := n) (os := os) (base := r + 1) (ts := ss.mergeSort fun x y => decide (x ≤ y)) (List.length_mergeSort ss) hg0 HGB.out HN.out.1 HN.out.2.1 HN.out.2.2
        have hb2 : Below r w (grow (putRow (Value.int .i64) (Sort.ahead wr n) g 0 (ss.mergeSort fun x y => decide (x ≤ y)).toArray) os) := HB.out.grown (grownBy_sortedI _) (Nat.le_of_lt hsz) (fun k e => by cases e; omega)
        have HR2 := Lib.hid hrow2
        have HB2 := Lib.hid hb2
        clear hrow2 hb2
        go_wp2
        go_returns
        exact ⟨ss.mergeSort fun x y => decide (x ≤ y), _, rfl, HC.out.keys HL.out, by rw [List.length_mergeSort]; omega, by rw [List.length_mergeSort, HRR.out]; exact HR2.out, by rw [HRR.out]; exact HB2.out⟩
    · intro x cv kl y1 y2 w2 cnt2 hk hlk hv hat hrg2 hlt hg2 hs2 hen
      obtain ⟨x', hx', rfl, hwf⟩ := Maps.keyOf_int_inv Tryz.underlying3 hk
      obtain rfl : x = x' := by simpa using hx'
      have hT : (T x).isSome = true := by rw [← HX.out.has x]; exact Maps.has_true_of_atKey hat
      have hrow2 := HW.out.kept hg2 (.inr (by intro c; have := (HW.out.lt _ c).1; omega))
      obtain ⟨g, cap, w3, happ, hrow3, hb3, hgr3⟩ := int_push hrow2 (by omega) (by omega) x
      have hb2 : Below r w w2 := HB.out.grown hg2 (Nat.le_of_lt hsz) (fun k e => by cases e; exact Nat.le_refl _)
      have hrg3 := hrg2.kept hgr3 (by intro c; have := (hrow2.lt _ c.symm).1; have := HBM.out; omega) (by intro c; have := (hrow2.lt _ c.symm).1; omega)
      have HFin := Lib.hid (And.intro hrg3 (And.intro (HC.out.step hlk hT) (And.intro hrow3 (And.intro ((hb2.trans (hb3.mono (by omega)))) (And.intro (show r < w3.heap.size by have := hb3.size; omega) (show (ss ++ [x]).length + cnt2 ≤ c by rw [List.length_append]; simp; omega))))))
      have HM := Lib.hid (And.intro hrg.left_eq (And.intro hrg3.left_eq hlt))
      clear hk hlk hv hat hrg2 hlt hg2 hs2 hT hrow2 hrow3 hb3 hgr3 hb2 hrg3 hrg hx'
      go_wp2
      go_roundw
      case rel => exact ⟨_, _, _, HFin.out⟩
      case measure => rw [HM.out.1, HM.out.2.1]; exact HM.out.2.2
end Go.Proofs.YtcoebinljdjemaaGreat
namespace Go.Proofs.YtcoebinljdjemaaGreat
set_option maxRecDepth 100000
open Go.ChangeShapes Go.WideShapes Go.ChangeAt Go.RowKit Go.PlainAid Go.ChangeMaps Go.MapKept
attribute [local go_sem ↓ high] loadS_page storeS_page

/-- The pages of a transaction, as it is packed. -/
def txPages (T : Int → Option ByteArray) (ks : List Int) : List PageV := ks.map fun k => ⟨k, (T k).getD ByteArray.empty⟩
theorem txPages_length (T : Int → Option ByteArray) (ks : List Int) : (txPages T ks).length = ks.length := by simp [txPages]
theorem info_page : (Tryz.prog.info? 157).map (fun i => (i.zero, i.size, i.bytes)) = some (some (.agg #[.int .i64 0, .string ⟨#[]⟩]), 2, 24) := by kernel_rfl
def appP (vs : Array Value) : Sem Value := Builtin.append_ #[115, 115] 115 vs
theorem app_page (vs : Array Value) : Builtin.append_ #[115, 115] 115 vs = appP vs := rfl
/-- One page more in a row of the call's own. -/
theorem page_push {n₀ : Nat} {W : World} {l : List PageV} {v : Value} (hrow : W.ownsRow n₀ 157 2 v l.length (pageCells l)) (hn : n₀ ≤ W.heap.size) (hlen : l.length ≤ 1048576) (x : PageV) :
    ∃ g cap w2, (appP #[v, .slice (some ⟨W.heap.size, 0, none⟩) 1 1]).run Tryz.prog (W.alloc (.cells #[.int .i64 x.at_, .string x.data] 157)) = .ok (.slice (some ⟨g, 0, none⟩) (l.length + 1) cap) w2 ∧
      w2.ownsRow n₀ 157 2 (.slice (some ⟨g, 0, none⟩) (l.length + 1) cap) (l ++ [x]).length (pageCells (l ++ [x])) ∧ Below n₀ W w2 := by
  obtain ⟨i0, hi, hz0, hz1, hz2⟩ := info_parts info_page
  have hq := heap_alloc_new W (.cells #[.int .i64 x.at_, .string x.data] 157)
  have hba : Below W.heap.size W (W.alloc (.cells #[.int .i64 x.at_, .string x.data] 157)) := by go_grown
  have hpl := pageCells_length l
  obtain ⟨g, cap, w2, hr, h2, h3, _, _⟩ := run_append_lies (P := Tryz.prog) (w := W.alloc (.cells #[.int .i64 x.at_, .string x.data] 157)) 115 115 n₀ 157 i0 (.agg #[.int .i64 0, .string ⟨#[]⟩]) 2 24 Tryz.underlying115 hi hz0 hz1 hz2 rfl (by decide) v l.length (pageCells l) (ownsRow_on hrow hba) ⟨W.heap.size, 0, none⟩ 1 1 [.int .i64 x.at_, .string x.data] rfl
    (fun j u hu => by
      rcases j with _ | _ | j
      · have : Value.int .i64 x.at_ = u := by simpa using hu
        rw [← this]
        show (W.alloc (.cells #[.int .i64 x.at_, .string x.data] 157)).cell? ⟨W.heap.size, 0, none⟩ = _
        rw [cell_of_row _ _ _ _ _ _ hq]
        rfl
      · have : Value.string x.data = u := by simpa using hu
        rw [← this]
        show (W.alloc (.cells #[.int .i64 x.at_, .string x.data] 157)).cell? ⟨W.heap.size, 1, none⟩ = _
        rw [cell_of_row _ _ _ _ _ _ hq]
        rfl
      · simp at hu) (fun u hu => by
        have : u = .int .i64 x.at_ ∨ u = .string x.data := by simpa using hu
        rcases this with rfl | rfl <;> rfl) (by decide) (by unfold maxLen; omega) (by omega) (by rw [World.size_alloc]; omega) _ rfl
  refine ⟨g, cap, w2, hr, by rw [List.length_append, pageCells_snoc]; exact h2, (hba.mono hn).grown h3 (by rw [World.size_alloc]; omega) (fun k e => (hrow.lt k e).1)⟩
theorem row_int {w : World} {base n : Nat} {v : Value} {ss : List Int} (h : w.ownsRow base 3 1 v n (ss.map (Value.int .i64))) (hn : n = ss.length) {k : Nat} {x : Int} (hx : ss[k]? = some x) :
    ∃ g cap, v = .slice (some ⟨g, 0, none⟩) n cap ∧ g < w.heap.size ∧ w.cell? ⟨g, k, none⟩ = some (.int .i64 x) := by
  have hk := (List.getElem?_eq_some_iff.1 hx).1
  obtain ⟨g, cap, cur, hv, hb, hg, ht⟩ := row_open h (by omega)
  refine ⟨g, cap, hv, heap_lt' hg, ?_⟩
  have e : cur[k]? = some (.int .i64 x) := by
    rw [← Array.getElem?_toList, ← List.getElem?_take_of_lt (show k < n by omega), ht, List.getElem?_map, hx]; rfl
  rw [cell_of_row _ _ _ _ _ _ hg, e]
theorem row_lower {w : World} {b b' : Nat} {e : TypeId} {z : Nat} {v : Value} {n : Nat} {xs : List Value} (h : w.ownsRow b e z v n xs) (hb : b' ≤ b) : w.ownsRow b' e z v n xs := by
  refine ⟨h.1, ?_⟩
  rcases h.2 with hn | ⟨g, cap, cur, hv, hg, rest⟩
  · exact .inl hn
  · exact .inr ⟨g, cap, cur, hv, Nat.le_trans hb hg, rest⟩
attribute [local go_sem ↓ high] app_page
set_option maxHeartbeats 1000000 in
theorem transaction_any {w0 w : World} {p q bm c : Nat} {d : D} {h : Hd} {T : Int → Option ByteArray} {dead : Bool} {R : List (Nat × Obj)} (H : StT w0 p q bm c d h T dead R w) (hc : c ≤ 1000000) (hT : ∀ k, (T k).isSome = true → -9223372036854775808 ≤ k ∧ k ≤ 9223372036854775807) :
    Calls Tryz.prog 74 #[.pointer (some ⟨q, 0, none⟩)] w fun e w' => ∃ ks v, e = .returned v ∧ Keys T ks ∧ ks.length ≤ c ∧ w'.ownsRow w.heap.size 157 2 v ks.length (pageCells (txPages T ks)) ∧ Below w.heap.size w w' := by
  have HH := Lib.hid H
  have HD := Lib.hid (sdirty_any H hc)
  have HT := Lib.hid hT
  clear H hT
  go_enter Tryz.func74, Tryz.ntmps74
  go_wp2_with fail
  refine HD.out.mono ?_
  rintro e w1 ⟨ks, v, rfl, hK, hkl, hrow, hb1⟩
  have HK := Lib.hid hK
  have HR := Lib.hid hrow
  have HB := Lib.hid hb1
  have hln : ∃ a cp, v = .slice a ks.length cp := by
    rcases hrow.2 with ⟨rfl, hn⟩ | ⟨g, cap, cur, hv, _⟩
    · exact ⟨none, 0, by rw [hn]⟩
    · exact ⟨_, _, hv⟩
  obtain ⟨a, cp, rfl⟩ := hln
  have HH1 := Lib.hid (HH.out.on hb1)
  clear hK hrow hb1 HD HH
  go_wp2_with fail
  have HP0 : Hid (w1.ownsRow w1.heap.size 157 2 (.slice none 0 0) ((txPages T ks).take 0).length (pageCells ((txPages T ks).take 0))) := Lib.hid (World.ownsRow_nil _ _ _ _)
  go_loopw [3, 10] (fun v i wr => ∃ k : Nat, k ≤ ks.length ∧ i = .int .i64 k ∧ wr.ownsRow w1.heap.size 157 2 v ((txPages T ks).take k).length (pageCells ((txPages T ks).take k)) ∧ Below w1.heap.size w1 wr) (fun _ i _ => ks.length - (intOf i).toNat)
  case atStart => exact ⟨0, Nat.zero_le _, rfl, HP0.out, Below.refl _ _⟩
  case round =>
    clear HP0
    obtain ⟨k, hk, rfl, hrow, hbw⟩ := hrel
    have HRW := Lib.hid hrow
    have HBW := Lib.hid hbw
    clear hrow hbw
    by_cases hlt : k < ks.length
    · obtain ⟨x, hx⟩ : ∃ x, ks[k]? = some x := ⟨_, List.getElem?_eq_getElem hlt⟩
      obtain ⟨g, cap, hvv, hgl, e0⟩ := row_int HR.out rfl hx
      cases hvv
      have e1 := (HBW.out.cell (p := ⟨g, k, none⟩) hgl).trans e0
      have hsome : (T x).isSome = true := (HK.out.2 x).1 (List.mem_of_getElem? hx)
      obtain ⟨x0, x1⟩ := HT.out x hsome
      have HS := HH1.out.on HBW.out
      obtain ⟨c0, c1, c2, c3, c4, c5, c6⟩ := store_cells HS.at
      obtain ⟨⟨es, clock, hX, hS⟩, _, _⟩ := HS
      have hbm : wr.heap[bm]? = some (.map es clock) := hS.mem (x := (bm, .map es clock)) List.mem_cons_self
      rcases hX.look hbm x x0 x1 with ⟨hn, _⟩ | ⟨t, ht, hts, hl⟩
      · rw [hn] at hsome; cases hsome
      · have hl1 := hl false
        rw [if_neg (by decide)] at hl1
        have hst := storeS_new_page wr t
        have hcv := conv_page hts (heap_alloc_new wr (.cells (textCells 256 t).toArray 97))
        have hbl : Below wr.heap.size wr (wr.alloc (.cells (textCells 256 t).toArray 97)) := by go_grown
        have hx2 : (txPages T ks).take (k + 1) = (txPages T ks).take k ++ [⟨x, t⟩] := by
          have e : (txPages T ks)[k]? = some ⟨x, t⟩ := by unfold txPages; rw [List.getElem?_map, hx]; simp [ht]
          rw [List.take_add_one, e]; rfl
        have hlk : ((txPages T ks).take k).length = k := by rw [List.length_take, txPages_length]; omega
        obtain ⟨gg, cp2, w2, p1, p2, p3⟩ := page_push (ownsRow_on HRW.out hbl) (Nat.le_trans HBW.out.size hbl.size) (by omega) ⟨x, t⟩
        rw [← hx2] at p2
        rw [hlk] at p1 p2
        have HP2 := Lib.hid p2
        have HB3 := Lib.hid ((HBW.out.trans (hbl.mono HBW.out.size)).trans p3)
        have HLK := Lib.hid hlk
        have hwz : (wr.alloc (.cells (textCells 256 t).toArray 97)).heap.size = wr.heap.size + 1 := by simp
        rw [hwz] at p1
        unfold pgV at hl1
        generalize (textCells 256 t).toArray = cs at *
        generalize hz : zero256 = zs at *
        have zp := zero_page
        rw [hz] at zp
        clear hl ht hX hS hbm hbl hx hsome e0 hx2 p2 p3 hz hlk hts hwz
        go_wp2_with fail
        go_roundw
        case rel => exact ⟨k + 1, by omega, by go_num, HP2.out, HB3.out⟩
        case measure => simp [intOf]; omega
    · obtain rfl : k = ks.length := by omega
      have hrw := row_lower HRW.out HB.out.size
      rw [show (txPages T ks).take ks.length = txPages T ks by rw [← txPages_length T ks, List.take_length], txPages_length] at hrw
      have HRW2 := Lib.hid hrw
      have HB2 := Lib.hid (HB.out.on HBW.out)
      clear HRW hrw
      go_wp2
      go_returns
      exact ⟨ks, _, rfl, HK.out, hkl, HRW2.out, HB2.out⟩
end Go.Proofs.YtcoebinljdjemaaGreat
namespace Go.Proofs.YtcoebinljdjemaaGreat
set_option maxRecDepth 100000
open Go.ChangeShapes Go.WideShapes Go.ChangeAt Go.RowKit Go.PlainAid Go.ChangeMaps Go.MapKept
open Go.Sort (grow)

/-- What Commit answers, and what is behind it. -/
def CommitPost (w0 : World) (p q bm c : Nat) (d : D) (h : Hd) (T : Int → Option ByteArray) (R : List (Nat × Obj)) (e : Ending) (w' : World) : Prop :=
  ∃ ks, Keys T ks ∧ ks.length ≤ c ∧
    ((ks = [] ∧ e = .returned (.int .i64 0) ∧ StT w0 p q bm c d h noPages false R w') ∨
     (ks ≠ [] ∧ h.room < blocksN ks.length ∧ e = .returned (.int .i64 12) ∧ StT w0 p q bm c d h noPages false R w') ∨
     (ks ≠ [] ∧ blocksN ks.length ≤ h.room ∧ e = .returned (.int .i64 (opsE d (commitOps h (txPages T ks)))) ∧
      ∃ h', h'.room = h.room ∧ h'.pages = h.pages ∧ (opsE d (commitOps h (txPages T ks)) = 0 → h' = (h.next (packB (txPages T ks)).length).next 0) ∧
        StT w0 p q bm c (d.ops (commitOps h (txPages T ks))) h' noPages (opsE d (commitOps h (txPages T ks)) != 0) R w'))
theorem scommit_no (w : World) (v : Value) (h : NoStore w v) :
    Calls Tryz.prog 41 #[v] w fun e w' => e = .returned (.int .i64 3) ∧ w = w' := by
  go_enter Tryz.func41, Tryz.ntmps41
  go_wp2_with fail
  refine (sready_no _ v h).mono ?_
  rintro e _ ⟨rfl, rfl⟩
  go_wp2
  go_returns
  exact ⟨rfl, rfl⟩
theorem row_open2 {w : World} {base : Nat} {e : TypeId} {z : Nat} {v : Value} {n : Nat} {xs : List Value} (h : w.ownsRow base e z v n xs) (hn : 0 < n) : ∃ g cap cur, v = .slice (some ⟨g, 0, none⟩) n cap ∧ base ≤ g ∧ w.heap[g]? = some (.cells cur e (0, 0)) ∧ cur.toList.take (n * z) = xs := by
  obtain ⟨h1, h2⟩ := h
  rcases h2 with ⟨_, h2⟩ | ⟨g, cap, cur, hv, hb, hg, hn2, hc, hsz, ht⟩
  · omega
  · exact ⟨g, cap, cur, hv, hb, hg, ht⟩
theorem StT.toR {w0 w : World} {p q bm c : Nat} {d : D} {h : Hd} {T : Int → Option ByteArray} {dead : Bool} {R : List (Nat × Obj)} (H : StT w0 p q bm c d h T dead R w) : ∃ es clock, TxIs es clock c T ∧ StR w0 p q bm d h dead ((bm, .map es clock) :: R) w := H.ex
set_option maxHeartbeats 2000000 in
theorem scommit_any {w0 w : World} {p q bm c : Nat} {d : D} {h : Hd} {T : Int → Option ByteArray} {R : List (Nat × Obj)} (H : StT w0 p q bm c d h T false R w) (hc : c ≤ 1000) (hT : ∀ k s, T k = some s → 0 ≤ k ∧ k < h.pages ∧ s.size = 256)
    (hw : h.Wf) (hs : h.seq + 2 < 1000000) (hl : d.late.length < 100000) :
    Calls Tryz.prog 41 #[.pointer (some ⟨q, 0, none⟩)] w (CommitPost w0 p q bm c d h T R) := by
  have hpg := hw.pages
  have HRD := Lib.hid (sready_any w q p bm h false H.at)
  have HTR := Lib.hid (transaction_any H (by omega) (fun k hk => by
    obtain ⟨s, hs⟩ := Option.isSome_iff_exists.1 hk
    obtain ⟨a, b, _⟩ := hT k s hs
    omega))
  have HH := Lib.hid H
  have HT := Lib.hid hT
  have HW := Lib.hid hw
  clear H hT hw
  go_enter Tryz.func41, Tryz.ntmps41
  go_wp2_with fail
  refine HRD.out.mono ?_
  rintro e _ ⟨rfl, rfl⟩
  rw [show sreadyE false = 0 from rfl]
  go_wp2_with fail
  refine HTR.out.mono ?_
  rintro e w1 ⟨ks, v, rfl, hK, hkl, hrow, hb1⟩
  clear HRD HTR
  have hfit : Fit h (txPages T ks) := fun x hx => by
    obtain ⟨k, hk, rfl⟩ := List.mem_map.1 hx
    obtain ⟨s, hs⟩ := Option.isSome_iff_exists.1 ((hK.2 k).1 hk)
    obtain ⟨a, b, c⟩ := HT.out k s hs
    exact ⟨a, b, by show ((T k).getD _).size ≤ 256; rw [hs]; exact Nat.le_of_eq c⟩
  have HF := Lib.hid hfit
  have HK := Lib.hid hK
  have HB1 := Lib.hid hb1
  clear hfit hK HT
  rcases Nat.eq_zero_or_pos ks.length with hz | hz
  · obtain rfl := List.eq_nil_of_length_eq_zero hz
    have hv : v = .slice none 0 0 ∨ ∃ a cap, v = .slice a 0 cap := by
      rcases hrow.2 with ⟨rfl, _⟩ | ⟨g, cap, cur, hv, _⟩
      · exact .inl rfl
      · exact .inr ⟨_, _, hv⟩
    have hv2 : ∃ a cap, v = .slice a 0 cap := by rcases hv with rfl | hv; exact ⟨_, _, rfl⟩; exact hv
    obtain ⟨a, cap, rfl⟩ := hv2
    have HS1 := HH.out.on hb1
    obtain ⟨c0, c1, c2, c3, c4, c5, c6⟩ := store_cells HS1.at
    obtain ⟨⟨es, clock, hX, hS⟩, q1, q2⟩ := HS1
    have hbm : w1.heap[bm]? = some (.map es clock) := hS.mem (x := (bm, .map es clock)) List.mem_cons_self
    have hcl := fun ty => clear_map hbm ty
    have HN := Lib.hid (StT.newMap hS q1 q2 (tx_empty clock c))
    clear hX hS q1 q2 hbm hb1 hrow hz HB1 hv
    go_wp2
    go_returns
    exact ⟨[], HK.out, Nat.zero_le _, .inl ⟨rfl, rfl, HN.out⟩⟩
  · obtain ⟨g, cap, cur, rfl, hg, hgb, hcur⟩ := row_open2 hrow hz
    have HS1 := HH.out.add hb1 hg hgb
    obtain ⟨c0, c1, c2, c3, c4, c5, c6⟩ := store_cells HS1.at
    obtain ⟨⟨es, clock, hX, hS⟩, q1, q2⟩ := HS1
    have hbm : w1.heap[bm]? = some (.map es clock) := hS.mem (x := (bm, .map es clock)) List.mem_cons_self
    have hcl := fun ty => clear_map hbm ty
    have HN := Lib.hid (StT.newMap hS q1 q2 (tx_empty clock c))
    have hpr : PgR ((g, Obj.cells cur 157 (0, 0)) :: R) (.slice (some ⟨g, 0, none⟩) ks.length cap) (txPages T ks) := by
      refine .inr ⟨g, cap, cur, by rw [txPages_length], by simp, by rw [txPages_length]; exact hcur, by rw [txPages_length]; omega⟩
    have HP := Lib.hid hpr
    have hne : ((ks.length : Int) == 0) = false := by rw [beq_eq_false_iff_ne]; omega
    have hkne : ks ≠ [] := by rintro rfl; exact Nat.lt_irrefl _ hz
    have HKN := Lib.hid hkne
    clear hkne
    clear hX hS q1 q2 hbm hb1 hrow hg hgb hcur hpr HB1 HH
    generalize hW2 : setBlock w1 bm (.map #[] clock) = W2 at *
    go_wp2_with fail
    clear c0 c1 c2 c3 c4 c5 c6 hcl
    clear hW2
    have hsub : ∀ x ∈ R, x ∈ (g, Obj.cells cur 157 (0, 0)) :: R := fun x hx => List.mem_cons_of_mem _ hx
    have HSUB := Lib.hid hsub
    have HLK := Lib.hid (txPages_length T ks)
    clear hsub
    generalize (g, Obj.cells cur 157 (0, 0)) :: R = R2 at *
    obtain ⟨c0, c1, c2, c3, c4, c5, c6⟩ := store_cells HN.out.at
    have m3 : ∀ d os, (grow (redrawn W2 d) os).cell? ⟨q, 3, none⟩ = some (.int .i64 h.room) := fun d os => cell_regrown c3 d os
    have cL : ∀ d os, Calls Tryz.prog 75 #[.int .i64 (ks.length : Int)] (grow (redrawn W2 d) os) fun e w'' => e = .returned (.int .i64 (blocksN ks.length)) ∧ ∃ p : Regrown, w'' = grow (redrawn W2 p.d) p.os := fun d os => Calls.regrown_of ((blocks_any ks.length _ (by omega)).mono (by rintro e w' ⟨rfl, rfl⟩; exact ⟨rfl, Below.refl _ _⟩))
    have CL := Lib.hid cL
    clear cL c0 c1 c2 c3 c4 c5 c6
    generalize hbn : blocksN ks.length = bn at *
    have HBN := Lib.hid hbn
    clear hbn
    by_cases hroom : h.room < bn
    · have hr1 : decide ((h.room : Int) < (bn : Int)) = true := by simpa using hroom
      refine wp_region_quiet_below (by kernel_rfl) (by kernel_rfl) ?_
      repeat (go_big_quiet_step (with_reducible exact CL.out _ _))
      refine wpQuiet_nil ?_
      intro _ hw'
      obtain ⟨⟨dq, osq⟩, hw''⟩ := hw'
      subst hw''
      have HN2 := Lib.hid (HN.out.on (below_regrown W2 dq osq))
      generalize grow (redrawn W2 dq) osq = W3 at *
      clear CL m3
      go_wp2
      go_returns
      exact ⟨ks, HK.out, hkl, .inr (.inl ⟨HKN.out, by rw [HBN.out]; exact hroom, rfl, HN2.out.sub R HSUB.out⟩)⟩
    · have hr1 : decide ((h.room : Int) < (bn : Int)) = false := by simpa using hroom
      refine wp_region_quiet_below (by kernel_rfl) (by kernel_rfl) ?_
      repeat (go_big_quiet_step (with_reducible exact CL.out _ _))
      refine wpQuiet_nil ?_
      intro _ hw'
      obtain ⟨⟨dq, osq⟩, hw''⟩ := hw'
      subst hw''
      have HN2 := Lib.hid (HN.out.on (below_regrown W2 dq osq))
      generalize grow (redrawn W2 dq) osq = W3 at *
      clear CL m3
      obtain ⟨⟨es2, clock2, hX2, hS2⟩, q1, q2⟩ := HN2.out
      have HFN := Lib.hid (finish_any hS2 (HP.out.mono fun x hx => List.mem_cons_of_mem _ hx) HF.out HW.out hs (by rw [HLK.out]; omega) hl)
      have HX2 := Lib.hid hX2
      clear hX2 hS2
      go_wp2_with fail
      refine HFN.out.mono ?_
      rintro e w5 ⟨rfl, h', hh1, hh2, hh3, H5⟩
      have hst : StT w0 p q bm c (d.ops (commitOps h (txPages T ks))) h' noPages false R2 w5 := ⟨⟨es2, clock2, HX2.out, H5⟩, q1, q2⟩
      have t6 := store_thaw hst.at 6
      obtain ⟨c0, c1, c2, c3, c4, c5, c6⟩ := store_cells hst.at
      have HS5 := Lib.hid (hst.setDead (opsE d (commitOps h (txPages T ks)) != 0))
      have HH1 := Lib.hid hh1
      have HH2 := Lib.hid hh2
      have HH3 := Lib.hid hh3
      clear hst hh1 hh2 hh3 H5 HFN HN2
      go_wp2
      go_returns
      exact ⟨ks, HK.out, hkl, .inr (.inr ⟨HKN.out, by rw [HBN.out]; omega, rfl, h', HH1.out, HH2.out, HH3.out, HS5.out.sub R HSUB.out⟩)⟩
end Go.Proofs.YtcoebinljdjemaaGreat
