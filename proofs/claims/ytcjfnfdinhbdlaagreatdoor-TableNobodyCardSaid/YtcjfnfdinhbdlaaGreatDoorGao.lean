import Derived.Test.YtcjfnfdinhbdlaaGreatDoorGaa
import Derived.Test.YtcjfnfdinhbdlaaGreatDoorGal
import Derived.BigQuiet
import Derived.Deep.QuietTactic
import Derived.Lib.QuietBelow
import Derived.Deep.RegionLaw
import Derived.Deep.AppendLies
namespace Go.Proofs.YtcjfnfdinhbdlaaGreatDoor
set_option maxRecDepth 100000
open Go.ChangeShapes Go.WideShapes Go.ChangeAt Go.RowKit Go.PlainAid
open Go.Sort (grow)
def uZ (n : Int) : Int := n % 18446744073709551616
theorem uZ_b (n : Int) : 0 ≤ uZ n ∧ uZ n ≤ 18446744073709551615 := by unfold uZ; omega
set_option maxHeartbeats 400000 in
theorem jfixed_any (n : Int) (w : World) :
    Calls Tryz.prog 189 #[.int .i64 n] w fun e w' => e = .returned (.string (fixS (uZ n) 4)) ∧ Below w.heap.size w w' := by
  obtain ⟨h0, h1⟩ := uZ_b n
  have hu : IntKind.wrap .u64 n = uZ n := by rw [IntKind.wrap_u64]; rfl
  go_enter Tryz.func189, Tryz.ntmps189
  go_wp2_with fail
  refine (fixed_any (uZ n) 4 _ h0 h1 (by decide) (by decide)).mono ?_
  rintro e w1 ⟨rfl, hb⟩
  have HB := Lib.hid hb
  clear hb
  go_wp2
  go_returns
  exact ⟨rfl, HB.out⟩
theorem bt_past (s : ByteArray) (a b k : Nat) (hb : b ≤ s.size) (h : b - a ≤ k) : bt (s.extract a b) k = 0 := bt_end _ (by rw [ByteArray.size_extract]; omega)
theorem unfixZ_short (s : ByteArray) (h4 : 4 ≤ s.size) : 0 ≤ unfixZ (s.extract 0 4) ∧ unfixZ (s.extract 0 4) ≤ 4294967295 := by
  unfold unfixZ n8
  have b0 := bt_b (s.extract 0 4) 0
  have b1 := bt_b (s.extract 0 4) 1
  have b2 := bt_b (s.extract 0 4) 2
  have b3 := bt_b (s.extract 0 4) 3
  rw [bt_past s 0 4 4 h4 (by omega), bt_past s 0 4 5 h4 (by omega), bt_past s 0 4 6 h4 (by omega), bt_past s 0 4 7 h4 (by omega)]
  omega
theorem fixS8_size (n : Int) : (fixS n 8).size = 8 := by unfold fixS; rw [strOfNums_size, show (min (max (8 : Int) 0) 8).toNat = 8 from rfl, l8_length n 8 (by omega)]
theorem fixS4_size (n : Int) : (fixS n 4).size = 4 := by unfold fixS; rw [strOfNums_size, show (min (max (4 : Int) 0) 8).toNat = 4 from rfl, l8_length n 4 (by omega)]
theorem notS_size (s : ByteArray) : (notS s).size = s.size := by unfold notS; rw [strOfNums_size, len_range]
def headB (s u r p : Int) : ByteArray := fixS s 8 ++ fixS (uZ u) 4 ++ fixS (uZ r) 4 ++ fixS (uZ p) 4
def writeB (s u r p : Int) : ByteArray := headB s u r p ++ notS (headB s u r p)
set_option maxHeartbeats 1000000 in
theorem whead_any (s u r p : Int) (w : World) (h0 : 0 ≤ s) (h1 : s ≤ 18446744073709551615) :
    Calls Tryz.prog 136 #[.agg #[.int .u64 s, .int .i64 u, .int .i64 r, .int .i64 p]] w fun e w' => e = .returned (.string (writeB s u r p)) ∧ Below w.heap.size w w' := by
  have q := heap_alloc_new w (.cells #[.int .u64 s, .int .i64 u, .int .i64 r, .int .i64 p] 139)
  have hb0 : Below w.heap.size w (w.alloc (.cells #[.int .u64 s, .int .i64 u, .int .i64 r, .int .i64 p] 139)) := by go_grown
  go_enter Tryz.func136, Tryz.ntmps136
  go_wp2_with fail
  generalize w.alloc (.cells #[.int .u64 s, .int .i64 u, .int .i64 r, .int .i64 p] 139) = W at *
  have g0 : ∀ d os, (grow (redrawn W d) os).cell? ⟨w.heap.size, 0, none⟩ = some (.int .u64 s) := fun d os => cell_regrown (by rw [cell_of_row _ _ _ _ _ _ q]; rfl) d os
  have g1 : ∀ d os, (grow (redrawn W d) os).cell? ⟨w.heap.size, 1, none⟩ = some (.int .i64 u) := fun d os => cell_regrown (by rw [cell_of_row _ _ _ _ _ _ q]; rfl) d os
  have g2 : ∀ d os, (grow (redrawn W d) os).cell? ⟨w.heap.size, 2, none⟩ = some (.int .i64 r) := fun d os => cell_regrown (by rw [cell_of_row _ _ _ _ _ _ q]; rfl) d os
  have g3 : ∀ d os, (grow (redrawn W d) os).cell? ⟨w.heap.size, 3, none⟩ = some (.int .i64 p) := fun d os => cell_regrown (by rw [cell_of_row _ _ _ _ _ _ q]; rfl) d os
  obtain ⟨A, hA⟩ : ∃ A, fixS s 8 = A := ⟨_, rfl⟩
  obtain ⟨B, hB⟩ : ∃ B, fixS (uZ u) 4 = B := ⟨_, rfl⟩
  obtain ⟨C, hC⟩ : ∃ C, fixS (uZ r) 4 = C := ⟨_, rfl⟩
  obtain ⟨D, hD⟩ : ∃ D, fixS (uZ p) 4 = D := ⟨_, rfl⟩
  have zA : A.size = 8 := by rw [← hA]; exact fixS8_size s
  have zB : B.size = 4 := by rw [← hB]; exact fixS4_size _
  have zC : C.size = 4 := by rw [← hC]; exact fixS4_size _
  have zD : D.size = 4 := by rw [← hD]; exact fixS4_size _
  have HH : Hid (headB s u r p = A ++ B ++ C ++ D) := by unfold headB Hid; rw [hA, hB, hC, hD]
  have cF : ∀ d os, Calls Tryz.prog 176 #[.int .u64 s, .int .i64 8] (grow (redrawn W d) os) fun e w'' => e = .returned (.string A) ∧ ∃ p : Regrown, w'' = grow (redrawn W p.d) p.os := fun d os => by rw [← hA]; exact Calls.regrown_of (fixed_any s 8 _ h0 h1 (by decide) (by decide))
  have cU : ∀ d os, Calls Tryz.prog 189 #[.int .i64 u] (grow (redrawn W d) os) fun e w'' => e = .returned (.string B) ∧ ∃ p : Regrown, w'' = grow (redrawn W p.d) p.os := fun d os => by rw [← hB]; exact Calls.regrown_of (jfixed_any u _)
  have cR : ∀ d os, Calls Tryz.prog 189 #[.int .i64 r] (grow (redrawn W d) os) fun e w'' => e = .returned (.string C) ∧ ∃ p : Regrown, w'' = grow (redrawn W p.d) p.os := fun d os => by rw [← hC]; exact Calls.regrown_of (jfixed_any r _)
  have cP : ∀ d os, Calls Tryz.prog 189 #[.int .i64 p] (grow (redrawn W d) os) fun e w'' => e = .returned (.string D) ∧ ∃ p : Regrown, w'' = grow (redrawn W p.d) p.os := fun d os => by rw [← hD]; exact Calls.regrown_of (jfixed_any p _)
  have s1 := fun w => run_string_add_sum (P := Tryz.prog) w A B (by omega)
  have s2 := fun w => run_string_add_sum (P := Tryz.prog) w (A ++ B) C (by rw [ByteArray.size_append]; omega)
  have s3 := fun w => run_string_add_sum (P := Tryz.prog) w (A ++ B ++ C) D (by rw [ByteArray.size_append, ByteArray.size_append]; omega)
  have zH : (A ++ B ++ C ++ D).size = 20 := by rw [ByteArray.size_append, ByteArray.size_append, ByteArray.size_append]; omega
  have HZ := Lib.hid zH
  have HB := Lib.hid hb0
  have CF := Lib.hid cF
  have CU := Lib.hid cU
  have CR := Lib.hid cR
  have CP := Lib.hid cP
  clear q hb0 cF cU cR cP hA hB hC hD zA zB zC zD zH
  refine wp_region_quiet_below (by kernel_rfl) (by kernel_rfl) ?_
  repeat (go_big_quiet_step (first | (with_reducible exact CF.out _ _) | (with_reducible exact CU.out _ _) | (with_reducible exact CR.out _ _) | (with_reducible exact CP.out _ _)))
  refine wpQuiet_nil ?_
  intro _ hw'
  obtain ⟨⟨dq, osq⟩, hw''⟩ := hw'
  subst hw''
  go_wp2_with fail
  clear s1 s2 s3 g0 g1 g2 g3
  generalize A ++ B ++ C ++ D = H at *
  refine (not_any H _ (by rw [HZ.out]; decide)).mono ?_
  rintro e w2 ⟨rfl, hb2⟩
  have HB2 := Lib.hid (((HB.out.on (below_regrown W dq osq))).on hb2)
  have s4 := fun w => run_string_add_sum (P := Tryz.prog) w H (notS H) (by rw [notS_size, HZ.out]; decide)
  clear hb2
  go_wp2
  go_returns
  exact ⟨by unfold writeB; rw [HH.out]; rfl, HB2.out⟩
set_option maxHeartbeats 1000000 in
theorem next_any (bk : Nat) (s : ByteArray) (w : World) (h4 : 4 ≤ s.size) (hc : w.cell? ⟨bk, 0, none⟩ = some (.string s)) (hf : w.frozen? ⟨bk, 0, none⟩ = false) :
    Calls Tryz.prog 218 #[.pointer (some ⟨bk, 0, none⟩)] w fun e w' => e = .returned (.int .i64 (unfixZ (s.extract 0 4))) ∧ Below bk w w' ∧ w'.cell? ⟨bk, 0, none⟩ = some (.string (s.extract 4 s.size)) ∧ w'.frozen? ⟨bk, 0, none⟩ = false := by
  have hz := unfixZ_short s h4
  go_enter Tryz.func218, Tryz.ntmps218
  go_wp2_with fail
  refine (unfixed_any (s.extract 0 4) _).mono ?_
  rintro e w1 ⟨rfl, hb⟩
  have hlt := World.block_lt_of_cell? w _ hc
  have hc1 := (hb.cell (p := ⟨bk, 0, none⟩) hlt).trans hc
  have hf1 : w1.frozen? ⟨bk, 0, none⟩ = false := ((bcell hb).2 bk 0 hlt).trans hf
  have HB := Lib.hid hb
  clear hb hc hf
  go_wp2
  go_returns
  exact ⟨ret_i (by first | rfl | (rw [wrap64_in _ ⟨by omega, by omega⟩])), (HB.out.mono (Nat.le_of_lt hlt)).setCell (p := ⟨bk, 0, none⟩) (Nat.le_refl _) _, World.cell?_setCell_same' _ _ _ (by rw [hc1]; rfl), by rw [World.frozen?_setCell]; exact hf1⟩
set_option maxHeartbeats 400000 in
theorem reader_any (s : ByteArray) (w : World) :
    Calls Tryz.prog 191 #[.string s] w fun e w' => e = .returned (.func (.func 218) #[] #[.pointer (some ⟨w.heap.size, 0, none⟩)]) ∧ w' = w.alloc (.cells #[.string s] 9) := by
  have hmf : ∀ (fn : Fn) (first cap : Array Value) (w : World), (Instr.makeFunc fn first cap).run Tryz.prog w = .ok (.func fn first cap) w := fun _ _ _ _ => rfl
  go_enter Tryz.func191, Tryz.ntmps191
  go_wp2
  go_returns
  exact ⟨rfl, rfl⟩
theorem slice_text (b : ByteArray) (i j : Nat) (h1 : i ≤ j) (h2 : j ≤ b.size) : ∀ w, (Instr.slice 9 (.string b) (some (.int .i64 (i : Int))) (some (.int .i64 (j : Int))) none).run Tryz.prog w = .ok (.string (b.extract i j)) w := fun w => by
  rw [run_slice_string w 9 b .i64 .i64 i j Tryz.underlying9 (by omega) (by omega) (by omega)]
  rfl
theorem ext_ext (b : ByteArray) (i j k l : Nat) (h : i + l ≤ j) : (b.extract i j).extract k l = b.extract (i + k) (i + l) := by
  apply ByteArray.ext
  simp only [ByteArray.data_extract, Array.extract_extract]
  rw [Nat.min_eq_left h]
theorem heap_lt' {w : World} {q : Nat} {o : Obj} (h : w.heap[q]? = some o) : q < w.heap.size := by
  rcases Nat.lt_or_ge q w.heap.size with c | c
  · exact c
  · rw [Array.getElem?_eq_none c] at h; cases h
theorem cells4' {W : World} {q : Nat} {t : TypeId} {v0 v1 v2 v3 : Value} (h : W.heap[q]? = some (.cells #[v0, v1, v2, v3] t (0, 0))) : W.cell? ⟨q, 0, none⟩ = some v0 ∧ W.cell? ⟨q, 1, none⟩ = some v1 ∧ W.cell? ⟨q, 2, none⟩ = some v2 ∧ W.cell? ⟨q, 3, none⟩ = some v3 ∧
    W.frozen? ⟨q, 0, none⟩ = false ∧ W.frozen? ⟨q, 1, none⟩ = false ∧ W.frozen? ⟨q, 2, none⟩ = false ∧ W.frozen? ⟨q, 3, none⟩ = false := by
  refine ⟨?_, ?_, ?_, ?_, frozen_of_row _ _ _ _ _ h, frozen_of_row _ _ _ _ _ h, frozen_of_row _ _ _ _ _ h, frozen_of_row _ _ _ _ _ h⟩ <;> rw [cell_of_row _ _ _ _ _ _ h] <;> rfl
theorem four_read {w1 : World} {q : Nat} {t : TypeId} {o0 o1 o2 o3 : Value} (h : w1.heap[q]? = some (.cells #[o0, o1, o2, o3] t (0, 0))) (v0 v1 v2 v3 : Value) :
    let W := ((((w1.setCell ⟨q, 0, none⟩ v0).setCell ⟨q, 1, none⟩ v1).setCell ⟨q, 2, none⟩ v2).setCell ⟨q, 3, none⟩ v3)
    W.cell? ⟨q, 0, none⟩ = some v0 ∧ W.cell? ⟨q, 1, none⟩ = some v1 ∧ W.cell? ⟨q, 2, none⟩ = some v2 ∧ W.cell? ⟨q, 3, none⟩ = some v3 := by
  have h0 := heap_setCell_same w1 q 0 _ _ v0 h
  have h1 := heap_setCell_same _ q 1 _ _ v1 h0
  have h2 := heap_setCell_same _ q 2 _ _ v2 h1
  have h3 := heap_setCell_same _ q 3 _ _ v3 h2
  obtain ⟨a, b, c, d, _⟩ := cells4' h3
  exact ⟨a, b, c, d⟩
def headOk (b : ByteArray) : Prop := 40 ≤ b.size ∧ notS (b.extract 0 20) = b.extract 20 40
set_option maxHeartbeats 2000000 in
theorem rhead_yes (b : ByteArray) (w : World) (h : headOk b) (hm : b.size ≤ maxLen) :
    Calls Tryz.prog 138 #[.string b] w fun e w' => e = .returned (.tuple #[.agg #[.int .u64 (unfixZ (b.extract 0 8)), .int .i64 (unfixZ (b.extract 8 12)), .int .i64 (unfixZ (b.extract 12 16)), .int .i64 (unfixZ (b.extract 16 20))], .bool true]) ∧ Below w.heap.size w w' := by
  obtain ⟨h40, hn⟩ := h
  have hb1 : decide ((b.size : Int) < 40) = false := decide_eq_false (by omega)
  have HM := Lib.hid hm
  have HN := Lib.hid hn
  clear hm hn
  have hs1 : ∀ w, (Instr.slice 9 (.string b) (some (.int .i64 20)) (some (.int .i64 40)) none).run Tryz.prog w = .ok (.string (b.extract 20 40)) w := slice_text b 20 40 (by omega) (by omega)
  have q := heap_alloc_new w (.cells #[.int .u64 0, .int .i64 0, .int .i64 0, .int .i64 0] 139)
  have hb0 : Below w.heap.size w (w.alloc (.cells #[.int .u64 0, .int .i64 0, .int .i64 0, .int .i64 0] 139)) := by go_grown
  have hlt0 : w.heap.size < (w.alloc (.cells #[.int .u64 0, .int .i64 0, .int .i64 0, .int .i64 0] 139)).heap.size := by simp
  go_enter Tryz.func138, Tryz.ntmps138
  go_wp2_with fail
  generalize w.alloc (.cells #[.int .u64 0, .int .i64 0, .int .i64 0, .int .i64 0] 139) = W0 at *
  have HB0 := Lib.hid hb0
  have HQ0 := Lib.hid q
  clear hb0 q
  have cN : ∀ d os, Calls Tryz.prog 190 #[.string (b.extract 0 20)] (grow (redrawn W0 d) os) fun e w'' => e = .returned (.string (b.extract 20 40)) ∧ ∃ p : Regrown, w'' = grow (redrawn W0 p.d) p.os := fun d os => by
    rw [← HN.out]
    exact Calls.regrown_of (not_any _ _ (by have := HM.out; rw [ByteArray.size_extract]; unfold maxLen at *; omega))
  have CN := Lib.hid cN
  clear cN
  refine wp_region_quiet_below (by kernel_rfl) (by kernel_rfl) ?_
  repeat (go_big_quiet_step (with_reducible exact CN.out _ _))
  refine wpQuiet_nil ?_
  intro _ hw'
  obtain ⟨⟨dq, osq⟩, hw''⟩ := hw'
  subst hw''
  have hb1 := below_regrown W0 dq osq
  have HB := Lib.hid (HB0.out.on hb1)
  have HQ := Lib.hid ((hb1.block w.heap.size hlt0).trans HQ0.out)
  clear CN hb1 HB0 HQ0
  generalize grow (redrawn W0 dq) osq = W at *
  clear hlt0
  have hs2 : ∀ w, (Instr.slice 9 (.string b) (some (.int .i64 8)) (some (.int .i64 20)) none).run Tryz.prog w = .ok (.string (b.extract 8 20)) w := slice_text b 8 20 (by omega) (by omega)
  have h8 : (8 : Int) ≤ (b.size : Int) := by omega
  have HU := Lib.hid (fun w => unfixed_any (b.extract 0 8) w)
  have HRD := Lib.hid (fun w => reader_any (b.extract 8 20) w)
  go_wp2_with fail
  go_region_law (first
    | (go_simp; (with_reducible refine (HU.out _).mono ?_); rintro e w1 ⟨rfl, hb1⟩; have hb1' : Below W.heap.size W w1 := (show Below W.heap.size W W.drew by go_grown).on hb1; have HB1 := Lib.hid hb1'; clear hb1 hb1')
    | (go_simp; (with_reducible refine (HRD.out _).mono ?_); rintro e w2 ⟨rfl, rfl⟩)
    | fail)
  generalize hBk : w1.heap.size = bk at *
  have hW2 : Below W.heap.size W (w1.alloc (.cells #[.string (b.extract 8 20)] 9)) := HB1.out.alloc HB1.out.size _
  have e0 := heap_alloc_new w1 (.cells #[.string (b.extract 8 20)] 9)
  rw [hBk] at e0
  have hWs := heap_lt' HQ.out
  have hsz := HB1.out.size
  have hq2 := (hW2.block w.heap.size hWs).trans HQ.out
  have hb2 := HB.out.on hW2
  generalize w1.alloc (.cells #[.string (b.extract 8 20)] 9) = W2 at *
  have hne : w.heap.size < bk := by omega
  have c0 : W2.cell? ⟨bk, 0, none⟩ = some (.string (b.extract 8 20)) := by rw [cell_of_row _ _ _ _ _ _ e0]; rfl
  have f0 : W2.frozen? ⟨bk, 0, none⟩ = false := frozen_of_row _ _ _ _ _ e0
  have z0 : (b.extract 8 20).size = 12 := by rw [ByteArray.size_extract]; omega
  have HQ2 := Lib.hid hq2
  have HB2 := Lib.hid hb2
  have HC0 := Lib.hid c0
  have HF0 := Lib.hid f0
  have hx0 : (b.extract 8 20).extract 0 4 = b.extract 8 12 := ext_ext b 8 20 0 4 (by omega)
  have hx1 : ((b.extract 8 20).extract 4 (b.extract 8 20).size) = b.extract 12 20 := by rw [z0]; exact ext_ext b 8 20 4 12 (by omega)
  have hx2 : (b.extract 12 20).extract 0 4 = b.extract 12 16 := ext_ext b 12 20 0 4 (by omega)
  have z1 : (b.extract 12 20).size = 8 := by rw [ByteArray.size_extract]; omega
  have hx3 : ((b.extract 12 20).extract 4 (b.extract 12 20).size) = b.extract 16 20 := by rw [z1]; exact ext_ext b 12 20 4 8 (by omega)
  have hx4 : (b.extract 16 20).extract 0 4 = b.extract 16 20 := ext_ext b 16 20 0 4 (by omega)
  have z2 : (b.extract 16 20).size = 4 := by rw [ByteArray.size_extract]; omega
  have X0 := Lib.hid hx0
  have X1 := Lib.hid hx1
  have X2 := Lib.hid hx2
  have X3 := Lib.hid hx3
  have X4 := Lib.hid hx4
  have Z0 := Lib.hid z0
  have Z1 := Lib.hid z1
  have Z2 := Lib.hid z2
  clear hBk hW2 e0 hWs hsz hq2 hb2 HB1 HQ HB HU HRD hs1 hs2 c0 f0 hx0 hx1 hx2 hx3 hx4 z0 z1 z2 h8 hb1 HN HM
  go_wp2_with fail
  refine (next_any bk _ W2 (by rw [Z0.out]; decide) HC0.out HF0.out).mono ?_
  rintro e w3 ⟨rfl, hb3, hc3, hf3⟩
  rw [X0.out]
  rw [X1.out] at hc3
  have HB3 := Lib.hid hb3
  have HC3 := Lib.hid hc3
  have HF3 := Lib.hid hf3
  clear hb3 hc3 hf3
  go_wp2_with fail
  refine (next_any bk _ w3 (by rw [Z1.out]; decide) HC3.out HF3.out).mono ?_
  rintro e w4 ⟨rfl, hb4, hc4, hf4⟩
  rw [X2.out]
  rw [X3.out] at hc4
  have HB4 := Lib.hid (HB3.out.trans hb4)
  have HC4 := Lib.hid hc4
  have HF4 := Lib.hid hf4
  clear hb4 hc4 hf4
  go_wp2_with fail
  refine (next_any bk _ w4 (by rw [Z2.out]; decide) HC4.out HF4.out).mono ?_
  rintro e w5 ⟨rfl, hb5, _, _⟩
  rw [X4.out]
  have hb6 := HB4.out.trans hb5
  have hq5 := (hb6.block w.heap.size hne).trans HQ2.out
  have hbf : Below w.heap.size w w5 := HB2.out.trans (hb6.mono (Nat.le_of_lt hne))
  obtain ⟨y0, y1, y2, y3, y4, y5, y6, y7⟩ := cells4' hq5
  have HBF := Lib.hid hbf
  have HQ5 := Lib.hid hq5
  clear hb5 hb6 hq5 hbf
  go_wp2_with fail
  obtain ⟨x0, x1, x2, x3⟩ := four_read HQ5.out (.int .u64 (unfixZ (b.extract 0 8))) (.int .i64 (unfixZ (b.extract 8 12))) (.int .i64 (unfixZ (b.extract 12 16))) (.int .i64 (unfixZ (b.extract 16 20)))
  refine bodyPost_ret (v := .tuple #[.agg #[.int .u64 (unfixZ (b.extract 0 8)), .int .i64 (unfixZ (b.extract 8 12)), .int .i64 (unfixZ (b.extract 12 16)), .int .i64 (unfixZ (b.extract 16 20))], .bool true]) (by simp [results, Tryz.results138, go_sem, x0, x1, x2, x3]) rfl ?_
  exact ⟨rfl, (((HBF.out.setCell (p := ⟨w.heap.size, 0, none⟩) (Nat.le_refl _) _).setCell (p := ⟨w.heap.size, 1, none⟩) (Nat.le_refl _) _).setCell (p := ⟨w.heap.size, 2, none⟩) (Nat.le_refl _) _).setCell (p := ⟨w.heap.size, 3, none⟩) (Nat.le_refl _) _⟩
end Go.Proofs.YtcjfnfdinhbdlaaGreatDoor
namespace Go.Proofs.YtcjfnfdinhbdlaaGreatDoor
set_option maxRecDepth 100000
open Go.ChangeShapes Go.WideShapes Go.ChangeAt Go.RowKit Go.PlainAid
open Go.Sort (grow)
theorem text_ne {a b : ByteArray} (h : ¬ a = b) : (a.toList == b.toList) = false := beq_eq_false_iff_ne.2 fun e => h (by
  rw [ByteArray.toList_eq, ByteArray.toList_eq] at e
  exact ByteArray.ext (Array.ext' e))
def zeroHead : Value := .agg #[.int .u64 0, .int .i64 0, .int .i64 0, .int .i64 0]
set_option maxHeartbeats 2000000 in
theorem rhead_no (b : ByteArray) (w : World) (h : ¬ headOk b) (hm : b.size ≤ maxLen) :
    Calls Tryz.prog 138 #[.string b] w fun e w' => e = .returned (.tuple #[zeroHead, .bool false]) ∧ Below w.heap.size w w' := by
  have q := heap_alloc_new w (.cells #[.int .u64 0, .int .i64 0, .int .i64 0, .int .i64 0] 139)
  have hb0 : Below w.heap.size w (w.alloc (.cells #[.int .u64 0, .int .i64 0, .int .i64 0, .int .i64 0] 139)) := by go_grown
  have hlt0 : w.heap.size < (w.alloc (.cells #[.int .u64 0, .int .i64 0, .int .i64 0, .int .i64 0] 139)).heap.size := by simp
  have HM := Lib.hid hm
  clear hm
  by_cases h40 : 40 ≤ b.size
  · have hn : ¬ notS (b.extract 0 20) = b.extract 20 40 := fun c => h ⟨h40, c⟩
    clear h
    have hb1 : decide ((b.size : Int) < 40) = false := decide_eq_false (by omega)
    have hs1 : ∀ w, (Instr.slice 9 (.string b) (some (.int .i64 20)) (some (.int .i64 40)) none).run Tryz.prog w = .ok (.string (b.extract 20 40)) w := slice_text b 20 40 (by omega) (by omega)
    go_enter Tryz.func138, Tryz.ntmps138
    go_wp2_with fail
    generalize w.alloc (.cells #[.int .u64 0, .int .i64 0, .int .i64 0, .int .i64 0] 139) = W0 at *
    have HB0 := Lib.hid hb0
    have HQ0 := Lib.hid q
    clear hb0 q
    have cN : ∀ d os, Calls Tryz.prog 190 #[.string (b.extract 0 20)] (grow (redrawn W0 d) os) fun e w'' => e = .returned (.string (notS (b.extract 0 20))) ∧ ∃ p : Regrown, w'' = grow (redrawn W0 p.d) p.os := fun d os =>
      Calls.regrown_of (not_any _ _ (by have := HM.out; rw [ByteArray.size_extract]; unfold maxLen at *; omega))
    have CN := Lib.hid cN
    clear cN
    generalize notS (b.extract 0 20) = T at *
    generalize b.extract 20 40 = T2 at *
    have hq := text_ne hn
    refine wp_region_quiet_below (by kernel_rfl) (by kernel_rfl) ?_
    repeat (go_big_quiet_step (with_reducible exact CN.out _ _))
    refine wpQuiet_nil ?_
    intro _ hw'
    obtain ⟨⟨dq, osq⟩, hw''⟩ := hw'
    subst hw''
    have hb1 := below_regrown W0 dq osq
    have HB := Lib.hid (HB0.out.on hb1)
    have HQ := Lib.hid ((hb1.block w.heap.size hlt0).trans HQ0.out)
    clear CN hb1 HB0 HQ0
    generalize grow (redrawn W0 dq) osq = W at *
    clear hlt0
    obtain ⟨_, _, _, _, y4, y5, y6, y7⟩ := cells4' HQ.out
    go_wp2_with fail
    obtain ⟨x0, x1, x2, x3⟩ := four_read HQ.out (.int .u64 0) (.int .i64 0) (.int .i64 0) (.int .i64 0)
    refine bodyPost_ret (v := .tuple #[zeroHead, .bool false]) (by simp [results, Tryz.results138, go_sem, x0, x1, x2, x3, zeroHead]) rfl ?_
    exact ⟨rfl, (((HB.out.setCell (p := ⟨w.heap.size, 0, none⟩) (Nat.le_refl _) _).setCell (p := ⟨w.heap.size, 1, none⟩) (Nat.le_refl _) _).setCell (p := ⟨w.heap.size, 2, none⟩) (Nat.le_refl _) _).setCell (p := ⟨w.heap.size, 3, none⟩) (Nat.le_refl _) _⟩
  · clear h
    have hb1 : decide ((b.size : Int) < 40) = true := decide_eq_true (by omega)
    go_enter Tryz.func138, Tryz.ntmps138
    go_wp2_with fail
    generalize w.alloc (.cells #[.int .u64 0, .int .i64 0, .int .i64 0, .int .i64 0] 139) = W0 at *
    have HB0 := Lib.hid hb0
    have HQ0 := Lib.hid q
    clear hb0 q
    refine wp_region_quiet_below (by kernel_rfl) (by kernel_rfl) ?_
    repeat (go_big_quiet_step (fail))
    refine wpQuiet_nil ?_
    intro _ hw'
    obtain ⟨⟨dq, osq⟩, hw''⟩ := hw'
    subst hw''
    have hb1 := below_regrown W0 dq osq
    have HB := Lib.hid (HB0.out.on hb1)
    have HQ := Lib.hid ((hb1.block w.heap.size hlt0).trans HQ0.out)
    clear hb1 HB0 HQ0
    generalize grow (redrawn W0 dq) osq = W at *
    clear hlt0
    obtain ⟨_, _, _, _, y4, y5, y6, y7⟩ := cells4' HQ.out
    go_wp2_with fail
    obtain ⟨x0, x1, x2, x3⟩ := four_read HQ.out (.int .u64 0) (.int .i64 0) (.int .i64 0) (.int .i64 0)
    refine bodyPost_ret (v := .tuple #[zeroHead, .bool false]) (by simp [results, Tryz.results138, go_sem, x0, x1, x2, x3, zeroHead]) rfl ?_
    exact ⟨rfl, (((HB.out.setCell (p := ⟨w.heap.size, 0, none⟩) (Nat.le_refl _) _).setCell (p := ⟨w.heap.size, 1, none⟩) (Nat.le_refl _) _).setCell (p := ⟨w.heap.size, 2, none⟩) (Nat.le_refl _) _).setCell (p := ⟨w.heap.size, 3, none⟩) (Nat.le_refl _) _⟩
end Go.Proofs.YtcjfnfdinhbdlaaGreatDoor
