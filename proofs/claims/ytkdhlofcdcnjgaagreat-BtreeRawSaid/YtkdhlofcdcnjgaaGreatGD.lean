/- Contracts: heads, written and read. Contract: a block that has no head. Contracts of strings.Builder's methods in this dump. Contract of the reference's Filled. Contract of journal.fill. Contract of slices.Chunk and its closure, at chunks of 256 bytes. -/
import Derived.Test.YtkdhlofcdcnjgaaGreatGC
import Derived.BigQuiet
import Derived.Deep.QuietTactic
import Derived.Lib.QuietBelow
import Derived.Deep.RegionLaw
import Derived.Deep.AppendLies
import Derived.Test.YtkdhlofcdcnjgaaGreatRows
import Derived.Test.YtkdhlofcdcnjgaaGreatGA
import Derived.Shelf.Strings.BuilderK
import Derived.Test.YtkdhlofcdcnjgaaGreatGB
import Derived.RangeFuncNested
import Derived.RangeFuncBound
import Derived.RangeFuncCalls
import Derived.RangeFuncLeaves
import Derived.Shelf.Abstract
import Derived.Shelf.RegionOpen
import Derived.OwnWalkIn
import Derived.TacticsInMore
import Derived.LoopNIn
import Derived.LoopIn
import Derived.IntWalk
namespace Go.Proofs.YtkdhlofcdcnjgaaGreat
set_option maxRecDepth 100000
open Go.ChangeShapes Go.WideShapes Go.ChangeAt Go.RowKit Go.PlainAid
open Go.Sort (grow)

/-- A whole number, as one without a sign. -/
def uZ (n : Int) : Int := n % 18446744073709551616
theorem uZ_b (n : Int) : 0 ≤ uZ n ∧ uZ n ≤ 18446744073709551615 := by unfold uZ; omega
set_option maxHeartbeats 400000 in
theorem jfixed_any (n : Int) (w : World) :
    Calls Tryz.prog 126 #[.int .i64 n] w fun e w' => e = .returned (.string (fixS (uZ n) 4)) ∧ Below w.heap.size w w' := by
  obtain ⟨h0, h1⟩ := uZ_b n
  have hu : IntKind.wrap .u64 n = uZ n := by rw [IntKind.wrap_u64]; rfl
  go_enter Tryz.func126, Tryz.ntmps126
  go_wp2_with fail
  refine (fixed_any (uZ n) 4 _ h0 h1 (by decide) (by decide)).mono ?_
  rintro e w1 ⟨rfl, hb⟩
  have HB := Lib.hid hb
  clear hb
  go_wp2
  go_returns
  exact ⟨rfl, HB.out⟩
theorem bt_past (s : ByteArray) (a b k : Nat) (hb : b ≤ s.size) (h : b - a ≤ k) : bt (s.extract a b) k = 0 := bt_end _ (by rw [ByteArray.size_extract]; omega)
theorem unfixZ_short (s : ByteArray) (h4 : 4 ≤ s.size) : 0 ≤ unfixZ (s.extract 0 4) ∧ unfixZ (s.extract 0 4) ≤ 4294967295 := by
  unfold unfixZ n8
  have b0 := bt_b (s.extract 0 4) 0
  have b1 := bt_b (s.extract 0 4) 1
  have b2 := bt_b (s.extract 0 4) 2
  have b3 := bt_b (s.extract 0 4) 3
  rw [bt_past s 0 4 4 h4 (by omega), bt_past s 0 4 5 h4 (by omega), bt_past s 0 4 6 h4 (by omega), bt_past s 0 4 7 h4 (by omega)]
  omega
theorem fixS8_size (n : Int) : (fixS n 8).size = 8 := by unfold fixS; rw [strOfNums_size, show (min (max (8 : Int) 0) 8).toNat = 8 from rfl, l8_length n 8 (by omega)]
theorem fixS4_size (n : Int) : (fixS n 4).size = 4 := by unfold fixS; rw [strOfNums_size, show (min (max (4 : Int) 0) 8).toNat = 4 from rfl, l8_length n 4 (by omega)]
theorem notS_size (s : ByteArray) : (notS s).size = s.size := by unfold notS; rw [strOfNums_size, len_range]
/-- A head's numbers, as bytes. -/
def headB (s u r p : Int) : ByteArray := fixS s 8 ++ fixS (uZ u) 4 ++ fixS (uZ r) 4 ++ fixS (uZ p) 4
def writeB (s u r p : Int) : ByteArray := headB s u r p ++ notS (headB s u r p)
set_option maxHeartbeats 1000000 in
theorem whead_any (s u r p : Int) (w : World) (h0 : 0 ≤ s) (h1 : s ≤ 18446744073709551615) :
    Calls Tryz.prog 92 #[.agg #[.int .u64 s, .int .i64 u, .int .i64 r, .int .i64 p]] w fun e w' => e = .returned (.string (writeB s u r p)) ∧ Below w.heap.size w w' := by
  have q := heap_alloc_new w (.cells #[.int .u64 s, .int .i64 u, .int .i64 r, .int .i64 p] 103)
  have hb0 : Below w.heap.size w (w.alloc (.cells #[.int .u64 s, .int .i64 u, .int .i64 r, .int .i64 p] 103)) := by go_grown
  go_enter Tryz.func92, Tryz.ntmps92
  go_wp2_with fail
  generalize w.alloc (.cells #[.int .u64 s, .int .i64 u, .int .i64 r, .int .i64 p] 103) = W at *
  have g0 : ∀ d os, (grow (redrawn W d) os).cell? ⟨w.heap.size, 0, none⟩ = some (.int .u64 s) := fun d os => cell_regrown (by rw [cell_of_row _ _ _ _ _ _ q]; rfl) d os
  have g1 : ∀ d os, (grow (redrawn W d) os).cell? ⟨w.heap.size, 1, none⟩ = some (.int .i64 u) := fun d os => cell_regrown (by rw [cell_of_row _ _ _ _ _ _ q]; rfl) d os
  have g2 : ∀ d os, (grow (redrawn W d) os).cell? ⟨w.heap.size, 2, none⟩ = some (.int .i64 r) := fun d os => cell_regrown (by rw [cell_of_row _ _ _ _ _ _ q]; rfl) d os
  have g3 : ∀ d os, (grow (redrawn W d) os).cell? ⟨w.heap.size, 3, none⟩ = some (.int .i64 p) := fun d os => cell_regrown (by rw [cell_of_row _ _ _ _ _ _ q]; rfl) d os
  obtain ⟨A, hA⟩ : ∃ A, fixS s 8 = A := ⟨_, rfl⟩
  obtain ⟨B, hB⟩ : ∃ B, fixS (uZ u) 4 = B := ⟨_, rfl⟩
  obtain ⟨C, hC⟩ : ∃ C, fixS (uZ r) 4 = C := ⟨_, rfl⟩
  obtain ⟨D, hD⟩ : ∃ D, fixS (uZ p) 4 = D := ⟨_, rfl⟩
  have zA : A.size = 8 := by rw [← hA]; exact fixS8_size s
  have zB : B.size = 4 := by rw [← hB]; exact fixS4_size _
  have zC : C.size = 4 := by rw [← hC]; exact fixS4_size _
  have zD : D.size = 4 := by rw [← hD]; exact fixS4_size _
  have HH : Hid (headB s u r p = A ++ B ++ C ++ D) := by unfold headB Hid; rw [hA, hB, hC, hD]
  have cF : ∀ d os, Calls Tryz.prog 107 #[.int .u64 s, .int .i64 8] (grow (redrawn W d) os) fun e w'' => e = .returned (.string A) ∧ ∃ p : Regrown, w'' = grow (redrawn W p.d) p.os := fun d os => by rw [← hA]; exact Calls.regrown_of (fixed_any s 8 _ h0 h1 (by decide) (by decide))
  have cU : ∀ d os, Calls Tryz.prog 126 #[.int .i64 u] (grow (redrawn W d) os) fun e w'' => e = .returned (.string B) ∧ ∃ p : Regrown, w'' = grow (redrawn W p.d) p.os := fun d os => by rw [← hB]; exact Calls.regrown_of (jfixed_any u _)
  have cR : ∀ d os, Calls Tryz.prog 126 #[.int .i64 r] (grow (redrawn W d) os) fun e w'' => e = .returned (.string C) ∧ ∃ p : Regrown, w'' = grow (redrawn W p.d) p.os := fun d os => by rw [← hC]; exact Calls.regrown_of (jfixed_any r _)
  have cP : ∀ d os, Calls Tryz.prog 126 #[.int .i64 p] (grow (redrawn W d) os) fun e w'' => e = .returned (.string D) ∧ ∃ p : Regrown, w'' = grow (redrawn W p.d) p.os := fun d os => by rw [← hD]; exact Calls.regrown_of (jfixed_any p _)
  have s1 := fun w => run_string_add_sum (P := Tryz.prog) w A B (by omega)
  have s2 := fun w => run_string_add_sum (P := Tryz.prog) w (A ++ B) C (by rw [ByteArray.size_append]; omega)
  have s3 := fun w => run_string_add_sum (P := Tryz.prog) w (A ++ B ++ C) D (by rw [ByteArray.size_append, ByteArray.size_append]; omega)
  have zH : (A ++ B ++ C ++ D).size = 20 := by rw [ByteArray.size_append, ByteArray.size_append, ByteArray.size_append]; omega
  have HZ := Lib.hid zH
  have HB := Lib.hid hb0
  have CF := Lib.hid cF
  have CU := Lib.hid cU
  have CR := Lib.hid cR
  have CP := Lib.hid cP
  clear q hb0 cF cU cR cP hA hB hC hD zA zB zC zD zH
  refine wp_region_quiet_below (by kernel_rfl) (by kernel_rfl) ?_
  repeat (go_big_quiet_step (first | (with_reducible exact CF.out _ _) | (with_reducible exact CU.out _ _) | (with_reducible exact CR.out _ _) | (with_reducible exact CP.out _ _)))
  refine wpQuiet_nil ?_
  intro _ hw'
  obtain ⟨⟨dq, osq⟩, hw''⟩ := hw'
  subst hw''
  go_wp2_with fail
  clear s1 s2 s3 g0 g1 g2 g3
  generalize A ++ B ++ C ++ D = H at *
  refine (not_any H _ (by rw [HZ.out]; decide)).mono ?_
  rintro e w2 ⟨rfl, hb2⟩
  have HB2 := Lib.hid (((HB.out.on (below_regrown W dq osq))).on hb2)
  have s4 := fun w => run_string_add_sum (P := Tryz.prog) w H (notS H) (by rw [notS_size, HZ.out]; decide)
  clear hb2
  go_wp2
  go_returns
  exact ⟨by unfold writeB; rw [HH.out]; rfl, HB2.out⟩
set_option maxHeartbeats 1000000 in
theorem next_any (bk : Nat) (s : ByteArray) (w : World) (h4 : 4 ≤ s.size) (hc : w.cell? ⟨bk, 0, none⟩ = some (.string s)) (hf : w.frozen? ⟨bk, 0, none⟩ = false) :
    Calls Tryz.prog 153 #[.pointer (some ⟨bk, 0, none⟩)] w fun e w' => e = .returned (.int .i64 (unfixZ (s.extract 0 4))) ∧ Below bk w w' ∧ w'.cell? ⟨bk, 0, none⟩ = some (.string (s.extract 4 s.size)) ∧ w'.frozen? ⟨bk, 0, none⟩ = false := by
  have hz := unfixZ_short s h4
  go_enter Tryz.func153, Tryz.ntmps153
  go_wp2_with fail
  refine (unfixed_any (s.extract 0 4) _).mono ?_
  rintro e w1 ⟨rfl, hb⟩
  have hlt := World.block_lt_of_cell? w _ hc
  have hc1 := (hb.cell (p := ⟨bk, 0, none⟩) hlt).trans hc
  have hf1 : w1.frozen? ⟨bk, 0, none⟩ = false := ((bcell hb).2 bk 0 hlt).trans hf
  have HB := Lib.hid hb
  clear hb hc hf
  go_wp2
  go_returns
  exact ⟨ret_i (by first | rfl | (rw [wrap64_in _ ⟨by omega, by omega⟩])), (HB.out.mono (Nat.le_of_lt hlt)).setCell (p := ⟨bk, 0, none⟩) (Nat.le_refl _) _, World.cell?_setCell_same' _ _ _ (by rw [hc1]; rfl), by rw [World.frozen?_setCell]; exact hf1⟩
set_option maxHeartbeats 400000 in
theorem reader_any (s : ByteArray) (w : World) :
    Calls Tryz.prog 128 #[.string s] w fun e w' => e = .returned (.func (.func 153) #[] #[.pointer (some ⟨w.heap.size, 0, none⟩)]) ∧ w' = w.alloc (.cells #[.string s] 9) := by
  have hmf : ∀ (fn : Fn) (first cap : Array Value) (w : World), (Instr.makeFunc fn first cap).run Tryz.prog w = .ok (.func fn first cap) w := fun _ _ _ _ => rfl
  go_enter Tryz.func128, Tryz.ntmps128
  go_wp2
  go_returns
  exact ⟨rfl, rfl⟩
theorem slice_text (b : ByteArray) (i j : Nat) (h1 : i ≤ j) (h2 : j ≤ b.size) : ∀ w, (Instr.slice 9 (.string b) (some (.int .i64 (i : Int))) (some (.int .i64 (j : Int))) none).run Tryz.prog w = .ok (.string (b.extract i j)) w := fun w => by
  rw [run_slice_string w 9 b .i64 .i64 i j Tryz.underlying9 (by omega) (by omega) (by omega)]
  rfl
theorem ext_ext (b : ByteArray) (i j k l : Nat) (h : i + l ≤ j) : (b.extract i j).extract k l = b.extract (i + k) (i + l) := by
  apply ByteArray.ext
  simp only [ByteArray.data_extract, Array.extract_extract]
  rw [Nat.min_eq_left h]
theorem heap_lt' {w : World} {q : Nat} {o : Obj} (h : w.heap[q]? = some o) : q < w.heap.size := by
  rcases Nat.lt_or_ge q w.heap.size with c | c
  · exact c
  · rw [Array.getElem?_eq_none c] at h; cases h
theorem cells4' {W : World} {q : Nat} {t : TypeId} {v0 v1 v2 v3 : Value} (h : W.heap[q]? = some (.cells #[v0, v1, v2, v3] t (0, 0))) : W.cell? ⟨q, 0, none⟩ = some v0 ∧ W.cell? ⟨q, 1, none⟩ = some v1 ∧ W.cell? ⟨q, 2, none⟩ = some v2 ∧ W.cell? ⟨q, 3, none⟩ = some v3 ∧
    W.frozen? ⟨q, 0, none⟩ = false ∧ W.frozen? ⟨q, 1, none⟩ = false ∧ W.frozen? ⟨q, 2, none⟩ = false ∧ W.frozen? ⟨q, 3, none⟩ = false := by
  refine ⟨?_, ?_, ?_, ?_, frozen_of_row _ _ _ _ _ h, frozen_of_row _ _ _ _ _ h, frozen_of_row _ _ _ _ _ h, frozen_of_row _ _ _ _ _ h⟩ <;> rw [cell_of_row _ _ _ _ _ _ h] <;> rfl
theorem four_read {w1 : World} {q : Nat} {t : TypeId} {o0 o1 o2 o3 : Value} (h : w1.heap[q]? = some (.cells #[o0, o1, o2, o3] t (0, 0))) (v0 v1 v2 v3 : Value) :
    let W := ((((w1.setCell ⟨q, 0, none⟩ v0).setCell ⟨q, 1, none⟩ v1).setCell ⟨q, 2, none⟩ v2).setCell ⟨q, 3, none⟩ v3)
    W.cell? ⟨q, 0, none⟩ = some v0 ∧ W.cell? ⟨q, 1, none⟩ = some v1 ∧ W.cell? ⟨q, 2, none⟩ = some v2 ∧ W.cell? ⟨q, 3, none⟩ = some v3 := by
  have h0 := heap_setCell_same w1 q 0 _ _ v0 h
  have h1 := heap_setCell_same _ q 1 _ _ v1 h0
  have h2 := heap_setCell_same _ q 2 _ _ v2 h1
  have h3 := heap_setCell_same _ q 3 _ _ v3 h2
  obtain ⟨a, b, c, d, _⟩ := cells4' h3
  exact ⟨a, b, c, d⟩
/-- What a block tells of a head. -/
def headOk (b : ByteArray) : Prop := 40 ≤ b.size ∧ notS (b.extract 0 20) = b.extract 20 40
set_option maxHeartbeats 2000000 in
theorem rhead_yes (b : ByteArray) (w : World) (h : headOk b) (hm : b.size ≤ maxLen) :
    Calls Tryz.prog 94 #[.string b] w fun e w' => e = .returned (.tuple #[.agg #[.int .u64 (unfixZ (b.extract 0 8)), .int .i64 (unfixZ (b.extract 8 12)), .int .i64 (unfixZ (b.extract 12 16)), .int .i64 (unfixZ (b.extract 16 20))], .bool true]) ∧ Below w.heap.size w w' := by
  obtain ⟨h40, hn⟩ := h
  have hb1 : decide ((b.size : Int) < 40) = false := decide_eq_false (by omega)
  have HM := Lib.hid hm
  have HN := Lib.hid hn
  clear hm hn
  have hs1 : ∀ w, (Instr.slice 9 (.string b) (some (.int .i64 20)) (some (.int .i64 40)) none).run Tryz.prog w = .ok (.string (b.extract 20 40)) w := slice_text b 20 40 (by omega) (by omega)
  have q := heap_alloc_new w (.cells #[.int .u64 0, .int .i64 0, .int .i64 0, .int .i64 0] 103)
  have hb0 : Below w.heap.size w (w.alloc (.cells #[.int .u64 0, .int .i64 0, .int .i64 0, .int .i64 0] 103)) := by go_grown
  have hlt0 : w.heap.size < (w.alloc (.cells #[.int .u64 0, .int .i64 0, .int .i64 0, .int .i64 0] 103)).heap.size := by simp
  go_enter Tryz.func94, Tryz.ntmps94
  go_wp2_with fail
  generalize w.alloc (.cells #[.int .u64 0, .int .i64 0, .int .i64 0, .int .i64 0] 103) = W0 at *
  have HB0 := Lib.hid hb0
  have HQ0 := Lib.hid q
  clear hb0 q
  have cN : ∀ d os, Calls Tryz.prog 127 #[.string (b.extract 0 20)] (grow (redrawn W0 d) os) fun e w'' => e = .returned (.string (b.extract 20 40)) ∧ ∃ p : Regrown, w'' = grow (redrawn W0 p.d) p.os := fun d os => by
    rw [← HN.out]
    exact Calls.regrown_of (not_any _ _ (by have := HM.out; rw [ByteArray.size_extract]; unfold maxLen at *; omega))
  have CN := Lib.hid cN
  clear cN
  refine wp_region_quiet_below (by kernel_rfl) (by kernel_rfl) ?_
  repeat (go_big_quiet_step (with_reducible exact CN.out _ _))
  refine wpQuiet_nil ?_
  intro _ hw'
  obtain ⟨⟨dq, osq⟩, hw''⟩ := hw'
  subst hw''
  have hb1 := below_regrown W0 dq osq
  have HB := Lib.hid (HB0.out.on hb1)
  have HQ := Lib.hid ((hb1.block w.heap.size hlt0).trans HQ0.out)
  clear CN hb1 HB0 HQ0
  generalize grow (redrawn W0 dq) osq = W at *
  clear hlt0
  have hs2 : ∀ w, (Instr.slice 9 (.string b) (some (.int .i64 8)) (some (.int .i64 20)) none).run Tryz.prog w = .ok (.string (b.extract 8 20)) w := slice_text b 8 20 (by omega) (by omega)
  have h8 : (8 : Int) ≤ (b.size : Int) := by omega
  have HU := Lib.hid (fun w => unfixed_any (b.extract 0 8) w)
  have HRD := Lib.hid (fun w => reader_any (b.extract 8 20) w)
  go_wp2_with fail
  go_region_law (first
    | (go_simp; (with_reducible refine (HU.out _).mono ?_); rintro e w1 ⟨rfl, hb1⟩; have hb1' : Below W.heap.size W w1 := (show Below W.heap.size W W.drew by go_grown).on hb1; have HB1 := Lib.hid hb1'; clear hb1 hb1')
    | (go_simp; (with_reducible refine (HRD.out _).mono ?_); rintro e w2 ⟨rfl, rfl⟩)
    | fail)
  generalize hBk : w1.heap.size = bk at *
  have hW2 : Below W.heap.size W (w1.alloc (.cells #[.string (b.extract 8 20)] 9)) := HB1.out.alloc HB1.out.size _
  have e0 := heap_alloc_new w1 (.cells #[.string (b.extract 8 20)] 9)
  rw [hBk] at e0
  have hWs := heap_lt' HQ.out
  have hsz := HB1.out.size
  have hq2 := (hW2.block w.heap.size hWs).trans HQ.out
  have hb2 := HB.out.on hW2
  generalize w1.alloc (.cells #[.string (b.extract 8 20)] 9) = W2 at *
  have hne : w.heap.size < bk := by omega
  have c0 : W2.cell? ⟨bk, 0, none⟩ = some (.string (b.extract 8 20)) := by rw [cell_of_row _ _ _ _ _ _ e0]; rfl
  have f0 : W2.frozen? ⟨bk, 0, none⟩ = false := frozen_of_row _ _ _ _ _ e0
  have z0 : (b.extract 8 20).size = 12 := by rw [ByteArray.size_extract]; omega
  have HQ2 := Lib.hid hq2
  have HB2 := Lib.hid hb2
  have HC0 := Lib.hid c0
  have HF0 := Lib.hid f0
  have hx0 : (b.extract 8 20).extract 0 4 = b.extract 8 12 := ext_ext b 8 20 0 4 (by omega)
  have hx1 : ((b.extract 8 20).extract 4 (b.extract 8 20).size) = b.extract 12 20 := by rw [z0]; exact ext_ext b 8 20 4 12 (by omega)
  have hx2 : (b.extract 12 20).extract 0 4 = b.extract 12 16 := ext_ext b 12 20 0 4 (by omega)
  have z1 : (b.extract 12 20).size = 8 := by rw [ByteArray.size_extract]; omega
  have hx3 : ((b.extract 12 20).extract 4 (b.extract 12 20).size) = b.extract 16 20 := by rw [z1]; exact ext_ext b 12 20 4 8 (by omega)
  have hx4 : (b.extract 16 20).extract 0 4 = b.extract 16 20 := ext_ext b 16 20 0 4 (by omega)
  have z2 : (b.extract 16 20).size = 4 := by rw [ByteArray.size_extract]; omega
  have X0 := Lib.hid hx0
  have X1 := Lib.hid hx1
  have X2 := Lib.hid hx2
  have X3 := Lib.hid hx3
  have X4 := Lib.hid hx4
  have Z0 := Lib.hid z0
  have Z1 := Lib.hid z1
  have Z2 := Lib.hid z2
  clear hBk hW2 e0 hWs hsz hq2 hb2 HB1 HQ HB HU HRD hs1 hs2 c0 f0 hx0 hx1 hx2 hx3 hx4 z0 z1 z2 h8 hb1 HN HM
  go_wp2_with fail
  refine (next_any bk _ W2 (by rw [Z0.out]; decide) HC0.out HF0.out).mono ?_
  rintro e w3 ⟨rfl, hb3, hc3, hf3⟩
  rw [X0.out]
  rw [X1.out] at hc3
  have HB3 := Lib.hid hb3
  have HC3 := Lib.hid hc3
  have HF3 := Lib.hid hf3
  clear hb3 hc3 hf3
  go_wp2_with fail
  refine (next_any bk _ w3 (by rw [Z1.out]; decide) HC3.out HF3.out).mono ?_
  rintro e w4 ⟨rfl, hb4, hc4, hf4⟩
  rw [X2.out]
  rw [X3.out] at hc4
  have HB4 := Lib.hid (HB3.out.trans hb4)
  have HC4 := Lib.hid hc4
  have HF4 := Lib.hid hf4
  clear hb4 hc4 hf4
  go_wp2_with fail
  refine (next_any bk _ w4 (by rw [Z2.out]; decide) HC4.out HF4.out).mono ?_
  rintro e w5 ⟨rfl, hb5, _, _⟩
  rw [X4.out]
  have hb6 := HB4.out.trans hb5
  have hq5 := (hb6.block w.heap.size hne).trans HQ2.out
  have hbf : Below w.heap.size w w5 := HB2.out.trans (hb6.mono (Nat.le_of_lt hne))
  obtain ⟨y0, y1, y2, y3, y4, y5, y6, y7⟩ := cells4' hq5
  have HBF := Lib.hid hbf
  have HQ5 := Lib.hid hq5
  clear hb5 hb6 hq5 hbf
  go_wp2_with fail
  obtain ⟨x0, x1, x2, x3⟩ := four_read HQ5.out (.int .u64 (unfixZ (b.extract 0 8))) (.int .i64 (unfixZ (b.extract 8 12))) (.int .i64 (unfixZ (b.extract 12 16))) (.int .i64 (unfixZ (b.extract 16 20)))
  refine bodyPost_ret (v := .tuple #[.agg #[.int .u64 (unfixZ (b.extract 0 8)), .int .i64 (unfixZ (b.extract 8 12)), .int .i64 (unfixZ (b.extract 12 16)), .int .i64 (unfixZ (b.extract 16 20))], .bool true]) (by simp [results, Tryz.results94, go_sem, x0, x1, x2, x3]) rfl ?_
  exact ⟨rfl, (((HBF.out.setCell (p := ⟨w.heap.size, 0, none⟩) (Nat.le_refl _) _).setCell (p := ⟨w.heap.size, 1, none⟩) (Nat.le_refl _) _).setCell (p := ⟨w.heap.size, 2, none⟩) (Nat.le_refl _) _).setCell (p := ⟨w.heap.size, 3, none⟩) (Nat.le_refl _) _⟩
end Go.Proofs.YtkdhlofcdcnjgaaGreat
namespace Go.Proofs.YtkdhlofcdcnjgaaGreat
set_option maxRecDepth 100000
open Go.ChangeShapes Go.WideShapes Go.ChangeAt Go.RowKit Go.PlainAid
open Go.Sort (grow)

theorem text_ne {a b : ByteArray} (h : ¬ a = b) : (a.toList == b.toList) = false := beq_eq_false_iff_ne.2 fun e => h (by
  rw [ByteArray.toList_eq, ByteArray.toList_eq] at e
  exact ByteArray.ext (Array.ext' e))
def zeroHead : Value := .agg #[.int .u64 0, .int .i64 0, .int .i64 0, .int .i64 0]
set_option maxHeartbeats 2000000 in
theorem rhead_no (b : ByteArray) (w : World) (h : ¬ headOk b) (hm : b.size ≤ maxLen) :
    Calls Tryz.prog 94 #[.string b] w fun e w' => e = .returned (.tuple #[zeroHead, .bool false]) ∧ Below w.heap.size w w' := by
  have q := heap_alloc_new w (.cells #[.int .u64 0, .int .i64 0, .int .i64 0, .int .i64 0] 103)
  have hb0 : Below w.heap.size w (w.alloc (.cells #[.int .u64 0, .int .i64 0, .int .i64 0, .int .i64 0] 103)) := by go_grown
  have hlt0 : w.heap.size < (w.alloc (.cells #[.int .u64 0, .int .i64 0, .int .i64 0, .int .i64 0] 103)).heap.size := by simp
  have HM := Lib.hid hm
  clear hm
  by_cases h40 : 40 ≤ b.size
  · have hn : ¬ notS (b.extract 0 20) = b.extract 20 40 := fun c => h ⟨h40, c⟩
    clear h
    have hb1 : decide ((b.size : Int) < 40) = false := decide_eq_false (by omega)
    have hs1 : ∀ w, (Instr.slice 9 (.string b) (some (.int .i64 20)) (some (.int .i64 40)) none).run Tryz.prog w = .ok (.string (b.extract 20 40)) w := slice_text b 20 40 (by omega) (by omega)
    go_enter Tryz.func94, Tryz.ntmps94
    go_wp2_with fail
    generalize w.alloc (.cells #[.int .u64 0, .int .i64 0, .int .i64 0, .int .i64 0] 103) = W0 at *
    have HB0 := Lib.hid hb0
    have HQ0 := Lib.hid q
    clear hb0 q
    have cN : ∀ d os, Calls Tryz.prog 127 #[.string (b.extract 0 20)] (grow (redrawn W0 d) os) fun e w'' => e = .returned (.string (notS (b.extract 0 20))) ∧ ∃ p : Regrown, w'' = grow (redrawn W0 p.d) p.os := fun d os =>
      Calls.regrown_of (not_any _ _ (by have := HM.out; rw [ByteArray.size_extract]; unfold maxLen at *; omega))
    have CN := Lib.hid cN
    clear cN
    generalize notS (b.extract 0 20) = T at *
    generalize b.extract 20 40 = T2 at *
    have hq := text_ne hn
    refine wp_region_quiet_below (by kernel_rfl) (by kernel_rfl) ?_
    repeat (go_big_quiet_step (with_reducible exact CN.out _ _))
    refine wpQuiet_nil ?_
    intro _ hw'
    obtain ⟨⟨dq, osq⟩, hw''⟩ := hw'
    subst hw''
    have hb1 := below_regrown W0 dq osq
    have HB := Lib.hid (HB0.out.on hb1)
    have HQ := Lib.hid ((hb1.block w.heap.size hlt0).trans HQ0.out)
    clear CN hb1 HB0 HQ0
    generalize grow (redrawn W0 dq) osq = W at *
    clear hlt0
    obtain ⟨_, _, _, _, y4, y5, y6, y7⟩ := cells4' HQ.out
    go_wp2_with fail
    obtain ⟨x0, x1, x2, x3⟩ := four_read HQ.out (.int .u64 0) (.int .i64 0) (.int .i64 0) (.int .i64 0)
    refine bodyPost_ret (v := .tuple #[zeroHead, .bool false]) (by simp [results, Tryz.results94, go_sem, x0, x1, x2, x3, zeroHead]) rfl ?_
    exact ⟨rfl, (((HB.out.setCell (p := ⟨w.heap.size, 0, none⟩) (Nat.le_refl _) _).setCell (p := ⟨w.heap.size, 1, none⟩) (Nat.le_refl _) _).setCell (p := ⟨w.heap.size, 2, none⟩) (Nat.le_refl _) _).setCell (p := ⟨w.heap.size, 3, none⟩) (Nat.le_refl _) _⟩
  · clear h
    have hb1 : decide ((b.size : Int) < 40) = true := decide_eq_true (by omega)
    go_enter Tryz.func94, Tryz.ntmps94
    go_wp2_with fail
    generalize w.alloc (.cells #[.int .u64 0, .int .i64 0, .int .i64 0, .int .i64 0] 103) = W0 at *
    have HB0 := Lib.hid hb0
    have HQ0 := Lib.hid q
    clear hb0 q
    refine wp_region_quiet_below (by kernel_rfl) (by kernel_rfl) ?_
    repeat (go_big_quiet_step (fail))
    refine wpQuiet_nil ?_
    intro _ hw'
    obtain ⟨⟨dq, osq⟩, hw''⟩ := hw'
    subst hw''
    have hb1 := below_regrown W0 dq osq
    have HB := Lib.hid (HB0.out.on hb1)
    have HQ := Lib.hid ((hb1.block w.heap.size hlt0).trans HQ0.out)
    clear hb1 HB0 HQ0
    generalize grow (redrawn W0 dq) osq = W at *
    clear hlt0
    obtain ⟨_, _, _, _, y4, y5, y6, y7⟩ := cells4' HQ.out
    go_wp2_with fail
    obtain ⟨x0, x1, x2, x3⟩ := four_read HQ.out (.int .u64 0) (.int .i64 0) (.int .i64 0) (.int .i64 0)
    refine bodyPost_ret (v := .tuple #[zeroHead, .bool false]) (by simp [results, Tryz.results94, go_sem, x0, x1, x2, x3, zeroHead]) rfl ?_
    exact ⟨rfl, (((HB.out.setCell (p := ⟨w.heap.size, 0, none⟩) (Nat.le_refl _) _).setCell (p := ⟨w.heap.size, 1, none⟩) (Nat.le_refl _) _).setCell (p := ⟨w.heap.size, 2, none⟩) (Nat.le_refl _) _).setCell (p := ⟨w.heap.size, 3, none⟩) (Nat.le_refl _) _⟩
end Go.Proofs.YtkdhlofcdcnjgaaGreat
namespace Go.Proofs.YtkdhlofcdcnjgaaGreat
set_option maxRecDepth 100000
open Go.ChangeShapes Go.WideShapes Go.ChangeAt Go.RowKit Go.PlainAid Go.Shelf

def bldRen : Go.Shelf.Ren := ⟨fun | 169 => 140 | n => n, fun | 70 => 190 | 9 => 9 | 0 => 0 | 72 => 192 | 37 => 143 | 127 => 181 | 3 => 3 | 5 => 5 | n => n, fun | n => n⟩
theorem bldLays : Go.Proofs.Lays.n169 Tryz.prog bldRen := {
  mixed := by kernel_rfl
  f169 := Tryz.func140.trans (congrArg some (by kernel_rfl))
  t0 := Tryz.underlying0
  a0 := Tryz.isAgg0
  z0 := Tryz.sizeOf0
  v0 := Tryz.zeroValue0
  t3 := Tryz.underlying3
  a3 := Tryz.isAgg3
  z3 := Tryz.sizeOf3
  v3 := Tryz.zeroValue3
  t9 := Tryz.underlying9
  a9 := Tryz.isAgg9
  z9 := Tryz.sizeOf9
  v9 := Tryz.zeroValue9
  t37 := Tryz.underlying143
  a37 := Tryz.isAgg143
  z37 := Tryz.sizeOf143
  v37 := Tryz.zeroValue143
  t70 := Tryz.underlying190
  a70 := Tryz.isAgg190
  z70 := Tryz.sizeOf190
  v70 := Tryz.zeroValue190
  t72 := Tryz.underlying192
  a72 := Tryz.isAgg192
  z72 := Tryz.sizeOf192
  v72 := Tryz.zeroValue192
  t127 := Tryz.underlying181
  a127 := Tryz.isAgg181
  z127 := Tryz.sizeOf181
  v127 := Tryz.zeroValue181 }
theorem bldExtra : Builder.Extra Tryz.prog bldRen := {
  sizeBuilder := by kernel_rfl
  liesBuilder := by kernel_rfl
  t5 := Tryz.underlying5
  a5 := Tryz.isAgg5
  z5 := Tryz.sizeOf5
  v5 := Tryz.zeroValue5
  infoByte := by kernel_rfl
  cellsByte := by kernel_rfl
  sizeByte := by kernel_rfl
  neB5 := by decide }
/-- String, whatever the builder holds. -/
theorem bstr_any (B b : Nat) (l : List UInt8) (w : World) (h : Lib.IsBuilder 192 5 B b (Lib.byteCells l) w) (hBw : B ≤ w.heap.size) :
    Calls Tryz.prog 140 #[.pointer (some ⟨b, 0, none⟩)] w fun e w' => e = .returned (.string ⟨l.toArray⟩) ∧ Below B w w' ∧ Lib.OthersKept 5 (some b) w w' := (Any.Builder_String_any_k bldLays bldExtra B b l w (.of h) hBw).mono fun _ _ h => ⟨h.1, h.2.2⟩
theorem sizeBld : (Tryz.prog.info? 192).map (·.size) = some 2 := by kernel_rfl
theorem liesBld : liesAt Tryz.prog Tryz.prog.depth 192 (2 / Tryz.prog.cellsOf 192) 0 192 1 = true := by kernel_rfl
theorem infoByte : (Tryz.prog.info? 5).map (fun i => (i.zero, i.size, i.bytes)) = some (some (.int .u8 0), 1, 1) := by kernel_rfl
set_option maxHeartbeats 1000000 in
/-- copyCheck at a builder that has been used. -/
theorem bcheck_used (b : Nat) (w : World) (h0 : w.cell? ⟨b, 0, none⟩ = some (.pointer (some ⟨b, 0, none⟩))) :
    Calls Tryz.prog 158 #[.pointer (some ⟨b, 0, none⟩)] w fun e w' => e = .returned (.tuple #[]) ∧ w' = w := by
  obtain ⟨j, hj, _⟩ := Option.map_eq_some_iff.1 sizeBld
  go_enter Tryz.func158, Tryz.ntmps158
  go_wp2
  rw [Lib.run_neq_ptr_same w _ Tryz.underlying190 hj]
  go_wp2
  go_end0
  exact ⟨rfl, rfl⟩
set_option maxHeartbeats 1000000 in
/-- copyCheck at a fresh builder. -/
theorem bcheck_fresh (b : Nat) (w : World) (h0 : w.cell? ⟨b, 0, none⟩ = some (.pointer none)) (hsh : w.shape? b = some (192, 2)) (hfz : w.frozen? ⟨b, 0, none⟩ = false) :
    Calls Tryz.prog 158 #[.pointer (some ⟨b, 0, none⟩)] w fun e w' => e = .returned (.tuple #[]) ∧ w' = w.setCell ⟨b, 0, none⟩ (.pointer (some ⟨b, 0, none⟩)) := by
  obtain ⟨j, hj, hjs⟩ := Option.map_eq_some_iff.1 sizeBld
  go_enter Tryz.func158, Tryz.ntmps158
  go_wp2
  rw [Lib.run_to_unsafe w ⟨b, 0, none⟩ Tryz.underlying190 Tryz.underlying220 hj (by rw [hjs]; decide) hsh (Nat.zero_lt_succ 1)]
  simp only [Result.andThen]
  rw [Oper.upon_value]
  go_wp2
  rw [run_callFunc_extern Tryz.func165 (by kernel_rfl) (by kernel_rfl) (by kernel_rfl) (e := Extern.AbiNoEscape.same) (by kernel_rfl)]
  rw [Lib.run_noEscape]
  simp only [Result.andThen]
  rw [Oper.upon_value]
  go_wp2
  rw [Lib.run_from_unsafe w ⟨b, 0, none⟩ Tryz.underlying220 Tryz.underlying190 hj hsh liesBld]
  simp only [Result.andThen]
  rw [Oper.upon_value]
  go_wp2
  go_end0
  exact ⟨rfl, rfl⟩
theorem bcheck_any (B b : Nat) (bs : List Value) (w : World) (h : Lib.IsBuilder 192 5 B b bs w) :
    Calls Tryz.prog 158 #[.pointer (some ⟨b, 0, none⟩)] w fun e w' => e = .returned (.tuple #[]) ∧ Lib.BuilderAt 192 5 B b (.pointer (some ⟨b, 0, none⟩)) bs w' ∧ Below B w w' := by
  rcases h with h | h
  · refine (bcheck_fresh b w h.cell0 h.shape h.frozen0).mono ?_
    rintro e w' ⟨rfl, rfl⟩
    exact ⟨rfl, h.used _, (Below.refl B w).setCell (p := ⟨b, 0, none⟩) h.1 _⟩
  · refine (bcheck_used b w h.cell0).mono ?_
    rintro e w' ⟨rfl, rfl⟩
    exact ⟨rfl, h, Below.refl B _⟩
set_option maxHeartbeats 2000000 in
/-- WriteString. -/
theorem bwrite_any (B b : Nat) (bs : List Value) (s : ByteArray) (w : World) (h : Lib.IsBuilder 192 5 B b bs w) (hlen : bs.length + s.size ≤ 140737488355328) (hBw : B ≤ w.heap.size) :
    Calls Tryz.prog 138 #[.pointer (some ⟨b, 0, none⟩), .string s] w fun e w' => e = .returned (.tuple #[.int .i64 s.size, .nilIface]) ∧ Lib.BuilderAt 192 5 B b (.pointer (some ⟨b, 0, none⟩)) (bs ++ Lib.strCells s) w' ∧ Below B w w' := by
  obtain ⟨i0, hi, hz0, hz1, hz2⟩ := info_parts infoByte
  go_enter Tryz.func138, Tryz.ntmps138
  go_wp2_with (go_at_call 158; refine (bcheck_any B b bs _ h).mono ?_)
  rintro e w1 ⟨rfl, h1, hb1⟩
  obtain ⟨hB, v, hbk, hown, hne⟩ := h1
  have c0 : w1.cell? ⟨b, 0, none⟩ = some (.pointer (some ⟨b, 0, none⟩)) := by rw [Lib.cell_of_heap hbk]; rfl
  have c1 : w1.cell? ⟨b, 1, none⟩ = some v := by rw [Lib.cell_of_heap hbk]; rfl
  go_wp2_with (at_builtin; refine Lib.wpList_append_own_string _ rfl _ _ 143 9 rfl B 5 i0 Tryz.underlying143 Tryz.underlying9 hi hz0 hz1 hz2 _ _ _ rfl hown s rfl ?c3 ?c4 ?c5 ?_)
  case c3 => unfold maxLen; omega
  case c4 => omega
  case c5 => have := hb1.size; omega
  intro v' w2 hown' hgrow _
  have hb2 : w2.heap[b]? = some (.cells #[.pointer (some ⟨b, 0, none⟩), v] 192 (0, 0)) := by
    rw [hgrow.block b (heap_lt' hbk) (fun e => hne e.symm)]
    exact hbk
  have d0 : w2.cell? ⟨b, 0, none⟩ = some (.pointer (some ⟨b, 0, none⟩)) := by rw [Lib.cell_of_heap hb2]; rfl
  have d1 : w2.cell? ⟨b, 1, none⟩ = some v := by rw [Lib.cell_of_heap hb2]; rfl
  have f1 : w2.frozen? ⟨b, 1, none⟩ = false := Lib.frozen_of_heap hb2 1
  obtain ⟨ao, n', cap, rfl⟩ : ∃ ao n' cap, v' = .slice ao n' cap := by
    rcases hown'.2 with ⟨hv, _⟩ | ⟨g, cap, cur, hv, _⟩
    · exact ⟨_, _, _, hv⟩
    · exact ⟨_, _, _, hv⟩
  go_wp2
  go_ret2
  refine ⟨rfl, ?_, ?_⟩
  · exact Lib.BuilderAt.put (T := 192) (e := 5) hB hb2 (bs' := bs ++ Lib.strCells s) (by simpa [Lib.strCells_length] using hown') (by decide)
  · exact (hb1.grown hgrow (by have := hb1.size; omega) (fun k hk => (hown.lt k hk).1)).setCell (p := ⟨b, 1, none⟩) hB _
end Go.Proofs.YtkdhlofcdcnjgaaGreat
namespace Go.Proofs.YtkdhlofcdcnjgaaGreat
set_option maxRecDepth 100000
open Go.ChangeShapes Go.WideShapes Go.ChangeAt Go.RowKit Go.PlainAid

/-- n bytes 0. -/
def zeroes (n : Nat) : ByteArray := ofFn n fun _ => 0
theorem zeroes_size (n : Nat) : (zeroes n).size = n := ofFn_size _ _
theorem zeroes_bt (n k : Nat) : bt (zeroes n) k = 0 := by
  by_cases h : k < n
  · exact ofFn_bt n (fun _ => 0) h (Int.le_refl _) (by decide)
  · exact bt_end _ (by rw [zeroes_size]; omega)
theorem filled_cat {s : ByteArray} (h : s.size ≤ 256) : s ++ zeroes (256 - s.size) = filled s := by
  have e : (s ++ zeroes (256 - s.size)).size = 256 := by rw [ByteArray.size_append, zeroes_size]; omega
  refine text_ext (by rw [e, filled_size]) fun k hk => ?_
  rw [filled_bt s (by omega), bt_append]
  split
  · rfl
  · rw [zeroes_bt, bt_end s (by omega)]
end Go.Proofs.YtkdhlofcdcnjgaaGreat
namespace Go.Proofs.YtkdhlofcdcnjgaaGreat
set_option maxRecDepth 100000
open Go.ChangeShapes Go.WideShapes Go.ChangeAt Go.RowKit Go.PlainAid

def zero256 : Array Value := Array.replicate 256 (.int .u8 0)
/-- copy(b[:], s). -/
theorem copy_fill {P : Program} (w : World) (dT sT ty elem t : TypeId) (s : ByteArray) (hu : P.underlying dT = some (.slice elem)) (hs : (P.info? elem).map (·.size) = some 1) (hsz : s.size ≤ 256) :
    (Builtin.copy_ #[dT, sT] ty #[.slice (some ⟨w.heap.size, 0, none⟩) 256 256, .string s]).run P (w.alloc (.cells zero256 t)) = .ok (goInt s.size) (w.alloc (.cells (textCells 256 s).toArray t)) := by
  have hlen : (Lib.byteCells s.data.toList).length = s.size := by rw [Lib.byteCells_length, ← Lib.size_eq]
  have hcl : ((Lib.byteCells s.data.toList).take (min s.size 256)).length = s.size := by rw [List.length_take, hlen]; omega
  have e256 : zero256.size = 256 := by simp [zero256]
  have hst := run_storeCells_at P w.heap.size 0 t ((Lib.byteCells s.data.toList).take (min s.size 256)) 0 _ _ (heap_alloc_new w (.cells zero256 t)) (by rw [hcl, e256]; omega) (fun v hv => Lib.byteCells_one _ v (List.mem_of_mem_take hv))
  have hst' := hst
  simp only [Nat.add_zero, hcl, setRow_alloc] at hst'
  have hrow : ∀ l : List Value, l = zero256.toList → (l.take 0 ++ (Lib.byteCells s.data.toList).take (min s.size 256) ++ l.drop (0 + s.size)).toArray = (textCells 256 s).toArray := by
    intro l hl
    have hg : ∀ i, l[i]? = if i < 256 then some (.int .u8 0) else none := fun i => by rw [hl, Array.getElem?_toList, zero256, Array.getElem?_replicate]
    apply congrArg List.toArray
    apply List.ext_getElem?
    intro i
    rw [List.take_zero, List.nil_append, Nat.zero_add]
    by_cases c : i < s.size
    · rw [List.getElem?_append_left (by rw [hcl]; exact c), List.getElem?_take_of_lt (by omega), textCells_get 256 s (by omega), bt_list]
      have hlt : i < s.data.toList.length := by simpa using c
      simp [Lib.byteCells, List.getElem?_eq_getElem hlt, List.getD_eq_getElem?_getD]
    · rw [List.getElem?_append_right (by rw [hcl]; omega), hcl, List.getElem?_drop, show s.size + (i - s.size) = i by omega, hg]
      by_cases c2 : i < 256
      · rw [if_pos c2, textCells_get 256 s c2, bt_end s (by omega)]
      · rw [if_neg c2, List.getElem?_eq_none (by rw [length_textCells]; omega)]
  cases hq : P.info? elem with
  | none => simp [hq] at hs
  | some i =>
    have hi : i.size = 1 := by simpa [hq] using hs
    simp [Builtin.copy_, run_underlying hu, Builtin.lenOf, Builtin.firstCells, sizeOf, typeInfo, hq]
    rw [hrow _ rfl] at hst'
    have hmin : min s.size 256 = s.size := Nat.min_eq_left hsz
    have hmin2 : s.size.min 256 = s.size := hmin
    rw [hmin] at hst'
    rw [hmin2]
    show ((Sem.run P (storeCells ⟨w.heap.size, 0, none⟩ ((Lib.byteCells s.data.toList).take s.size)) _).andThen fun a w' => Result.ok (goInt (s.size : Int)) w') = _
    rw [hst']
    rfl
theorem zero_block (w : World) : (zeroValue 144).run Tryz.prog w = .ok (.agg zero256) w := (zero_of_info (P := Tryz.prog) (t := 144) (v := .agg zero256) (n := 256) (by kernel_rfl)).1 w
end Go.Proofs.YtkdhlofcdcnjgaaGreat
namespace Go.Proofs.YtkdhlofcdcnjgaaGreat
set_option maxRecDepth 100000
open Go.ChangeShapes Go.WideShapes Go.ChangeAt Go.RowKit Go.PlainAid Go.Shelf
attribute [local go_sem] Oper.semAt_some

/-- Chunk k of n bytes: how many it has. -/
def chunkN (n k : Nat) : Nat := min 256 (n - 256 * k)
/-- How many chunks n bytes have. -/
def chunks (n : Nat) : Nat := (n + 255) / 256
def chunkV (g n k : Nat) : Value := .slice (some ⟨g, 256 * k, none⟩) (chunkN n k) (chunkN n k)
/-- Two boxes hold what they held. -/
def KpB (a b : Nat) (W W' : World) : Prop := W'.heap[a]? = W.heap[a]? ∧ W'.heap[b]? = W.heap[b]?
theorem KpB.trans {a b : Nat} {A B C : World} (h : KpB a b A B) (k : KpB a b B C) : KpB a b A C := ⟨k.1.trans h.1, k.2.trans h.2⟩
theorem KpB.refl (a b : Nat) (A : World) : KpB a b A A := ⟨rfl, rfl⟩
theorem range_split {k n : Nat} (h : k ≤ n) : List.range k ++ (List.range n).drop k = List.range n := by
  conv => rhs; rw [← List.take_append_drop k (List.range n)]
  rw [List.take_range, Nat.min_eq_left h]
theorem elem_bytes : Tryz.prog.elem 143 = 5 := by kernel_rfl
theorem under_bytes : Tryz.prog.underlying 143 = some (.slice (Tryz.prog.elem 143)) := by kernel_rfl
theorem add_zero_off (g b : Nat) : (⟨g, 0, none⟩ : Addr).add b = ⟨g, b, none⟩ := by
  unfold Addr.add
  split
  · next h => rw [h]
  · rw [Nat.zero_add]
theorem slice_from (g n c b r : Nat) (hb : b < n) (hc : n ≤ c) (hr : n - b = r) : ∀ w, (Instr.slice 143 (.slice (some ⟨g, 0, none⟩) n c) (some (.int .i64 (b : Int))) none none).run Tryz.prog w = .ok (.slice (some ⟨g, b, none⟩) r (c - b)) w := fun w => by
  rw [run_slice_l (P := Tryz.prog) w 143 (some ⟨g, 0, none⟩) n c under_bytes .i64 b (by omega) (by omega), elem_bytes, Tryz.sizeOf5]
  show Result.ok (sliced _ _ _ _ _) w = _
  unfold sliced
  rw [if_neg (by omega), Nat.mul_one, Int.toNat_natCast, hr]
  simp only [Option.map_some, add_zero_off]
theorem slice_lhm (g n c b m : Nat) (hb : b + m ≤ n) (hc : n ≤ c) (hm : 0 < m) : ∀ w, (Instr.slice 143 (.slice (some ⟨g, 0, none⟩) n c) (some (.int .i64 (b : Int))) (some (.int .i64 ((b : Int) + (m : Int)))) (some (.int .i64 ((b : Int) + (m : Int))))).run Tryz.prog w = .ok (.slice (some ⟨g, b, none⟩) m m) w := fun w => by
  rw [run_slice_lhm (P := Tryz.prog) w 143 (some ⟨g, 0, none⟩) n c under_bytes .i64 .i64 .i64 b ((b : Int) + (m : Int)) ((b : Int) + (m : Int)) (by omega) (by omega) (by omega) (by omega), elem_bytes, Tryz.sizeOf5]
  show Result.ok (sliced _ _ _ _ _) w = _
  unfold sliced
  have e : ((b : Int) + (m : Int)).toNat = b + m := by omega
  rw [e, if_neg (by omega), Nat.mul_one, Int.toNat_natCast, Nat.add_sub_cancel_left]
  simp only [Option.map_some, add_zero_off]
end Go.Proofs.YtkdhlofcdcnjgaaGreat
