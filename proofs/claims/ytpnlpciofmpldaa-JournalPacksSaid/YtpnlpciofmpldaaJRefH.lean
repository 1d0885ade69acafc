/- Contracts of the reference: heads, written and read. -/
import Derived.Test.YtpnlpciofmpldaaJSpec
import Derived.Test.YtpnlpciofmpldaaJBitsF
import Derived.Deep.RegionLaw
namespace Go.Proofs.Ytpnlpciofmpldaa
open Go.ChangeShapes Go.WideShapes Go.ChangeAt Go.RowKit Go.PlainAid
open Go.Sort (grow)

set_option maxHeartbeats 1000000 in
theorem rwhead_any (s u r p : Int) (w : World) (h0 : 0 ≤ s) (h1 : s ≤ 18446744073709551615) :
    Calls Try.prog 11 #[.agg #[.int .u64 s, .int .i64 u, .int .i64 r, .int .i64 p]] w fun e w' => e = .returned (.string (writeB s u r p)) ∧ Below w.heap.size w w' := by
  have q := heap_alloc_new w (.cells #[.int .u64 s, .int .i64 u, .int .i64 r, .int .i64 p] 24)
  have hb0 : Below w.heap.size w (w.alloc (.cells #[.int .u64 s, .int .i64 u, .int .i64 r, .int .i64 p] 24)) := by go_grown
  go_enter Try.func11, Try.ntmps11
  go_wp2_with fail
  generalize w.alloc (.cells #[.int .u64 s, .int .i64 u, .int .i64 r, .int .i64 p] 24) = W at *
  have g0 : ∀ d os, (grow (redrawn W d) os).cell? ⟨w.heap.size, 0, none⟩ = some (.int .u64 s) := fun d os => cell_regrown (by rw [cell_of_row _ _ _ _ _ _ q]; rfl) d os
  have g1 : ∀ d os, (grow (redrawn W d) os).cell? ⟨w.heap.size, 1, none⟩ = some (.int .i64 u) := fun d os => cell_regrown (by rw [cell_of_row _ _ _ _ _ _ q]; rfl) d os
  have g2 : ∀ d os, (grow (redrawn W d) os).cell? ⟨w.heap.size, 2, none⟩ = some (.int .i64 r) := fun d os => cell_regrown (by rw [cell_of_row _ _ _ _ _ _ q]; rfl) d os
  have g3 : ∀ d os, (grow (redrawn W d) os).cell? ⟨w.heap.size, 3, none⟩ = some (.int .i64 p) := fun d os => cell_regrown (by rw [cell_of_row _ _ _ _ _ _ q]; rfl) d os
  have hu1 : IntKind.wrap .u64 u = uZ u := by rw [IntKind.wrap_u64]; rfl
  have hu2 : IntKind.wrap .u64 r = uZ r := by rw [IntKind.wrap_u64]; rfl
  have hu3 : IntKind.wrap .u64 p = uZ p := by rw [IntKind.wrap_u64]; rfl
  obtain ⟨A, hA⟩ : ∃ A, fixS s 8 = A := ⟨_, rfl⟩
  obtain ⟨B, hB⟩ : ∃ B, fixS (uZ u) 4 = B := ⟨_, rfl⟩
  obtain ⟨C, hC⟩ : ∃ C, fixS (uZ r) 4 = C := ⟨_, rfl⟩
  obtain ⟨D, hD⟩ : ∃ D, fixS (uZ p) 4 = D := ⟨_, rfl⟩
  have zA : A.size = 8 := by rw [← hA]; exact fixS8_size s
  have zB : B.size = 4 := by rw [← hB]; exact fixS4_size _
  have zC : C.size = 4 := by rw [← hC]; exact fixS4_size _
  have zD : D.size = 4 := by rw [← hD]; exact fixS4_size _
  have HH : Hid (headB s u r p = A ++ B ++ C ++ D) := by unfold headB Hid; rw [hA, hB, hC, hD]
  have cF : ∀ d os, Calls Try.prog 24 #[.int .u64 s, .int .i64 8] (grow (redrawn W d) os) fun e w'' => e = .returned (.string A) ∧ ∃ p : Regrown, w'' = grow (redrawn W p.d) p.os := fun d os => by rw [← hA]; exact Calls.regrown_of (rfixed_any s 8 _ h0 h1 (by decide) (by decide))
  have cU : ∀ d os, Calls Try.prog 24 #[.int .u64 (uZ u), .int .i64 4] (grow (redrawn W d) os) fun e w'' => e = .returned (.string B) ∧ ∃ p : Regrown, w'' = grow (redrawn W p.d) p.os := fun d os => by rw [← hB]; exact Calls.regrown_of (rfixed_any (uZ u) 4 _ (uZ_b u).1 (uZ_b u).2 (by decide) (by decide))
  have cR : ∀ d os, Calls Try.prog 24 #[.int .u64 (uZ r), .int .i64 4] (grow (redrawn W d) os) fun e w'' => e = .returned (.string C) ∧ ∃ p : Regrown, w'' = grow (redrawn W p.d) p.os := fun d os => by rw [← hC]; exact Calls.regrown_of (rfixed_any (uZ r) 4 _ (uZ_b r).1 (uZ_b r).2 (by decide) (by decide))
  have cP : ∀ d os, Calls Try.prog 24 #[.int .u64 (uZ p), .int .i64 4] (grow (redrawn W d) os) fun e w'' => e = .returned (.string D) ∧ ∃ p : Regrown, w'' = grow (redrawn W p.d) p.os := fun d os => by rw [← hD]; exact Calls.regrown_of (rfixed_any (uZ p) 4 _ (uZ_b p).1 (uZ_b p).2 (by decide) (by decide))
  have s1 := fun w => run_string_add_sum (P := Try.prog) w A B (by omega)
  have s2 := fun w => run_string_add_sum (P := Try.prog) w (A ++ B) C (by rw [ByteArray.size_append]; omega)
  have s3 := fun w => run_string_add_sum (P := Try.prog) w (A ++ B ++ C) D (by rw [ByteArray.size_append, ByteArray.size_append]; omega)
  have zH : (A ++ B ++ C ++ D).size = 20 := by rw [ByteArray.size_append, ByteArray.size_append, ByteArray.size_append]; omega
  have HZ := Lib.hid zH
  have HB := Lib.hid hb0
  have CF := Lib.hid cF
  have CU := Lib.hid cU
  have CR := Lib.hid cR
  have CP := Lib.hid cP
  clear q hb0 cF cU cR cP hA hB hC hD zA zB zC zD zH
  refine wp_region_quiet_below (by kernel_rfl) (by kernel_rfl) ?_
  repeat (go_big_quiet_step (first | (with_reducible exact CF.out _ _) | (with_reducible exact CU.out _ _) | (with_reducible exact CR.out _ _) | (with_reducible exact CP.out _ _)))
  refine wpQuiet_nil ?_
  intro _ hw'
  obtain ⟨⟨dq, osq⟩, hw''⟩ := hw'
  subst hw''
  go_wp2_with fail
  clear s1 s2 s3 g0 g1 g2 g3
  generalize A ++ B ++ C ++ D = H at *
  refine (rnot_any H _ (by rw [HZ.out]; decide)).mono ?_
  rintro e w2 ⟨rfl, hb2⟩
  have HB2 := Lib.hid (((HB.out.on (below_regrown W dq osq))).on hb2)
  have s4 := fun w => run_string_add_sum (P := Try.prog) w H (notS H) (by rw [notS_size, HZ.out]; decide)
  clear hb2
  go_wp2
  go_returns
  exact ⟨by unfold writeB; rw [HH.out]; rfl, HB2.out⟩
/-- The bytes of a head and of its other half, one by one. -/
def pairs (b : ByteArray) (k : Nat) : Prop := ∀ j, j < k → bt b j + bt b (20 + j) = 255
theorem notS_bt (s : ByteArray) (i : Nat) (h : i < s.size) : bt (notS s) i = 255 - bt s i := by
  have g := notS_get s i h
  have h1 := bt_nonneg s i
  have h2 := bt_le s i
  unfold notS
  rw [bt_strOfNums _ i (by rw [g]; omega) (by rw [g]; omega), g]
theorem head_pairs (b : ByteArray) (h40 : 40 ≤ b.size) : headOk b ↔ pairs b 20 := by
  have z1 : (b.extract 0 20).size = 20 := by rw [ByteArray.size_extract]; omega
  have z2 : (b.extract 20 40).size = 20 := by rw [ByteArray.size_extract]; omega
  constructor
  · rintro ⟨_, h⟩ j hj
    have e := congrArg (fun t => bt t j) h
    rw [notS_bt _ _ (by omega), bt_ext b 0 20 j (by omega) (by omega), bt_ext b 20 40 j (by omega) (by omega), Nat.zero_add] at e
    omega
  · intro h
    refine ⟨h40, text_ext (by rw [notS_size, z1, z2]) fun j hj => ?_⟩
    rw [notS_size, z1] at hj
    rw [notS_bt _ _ (by omega), bt_ext b 0 20 j (by omega) (by omega), bt_ext b 20 40 j (by omega) (by omega), Nat.zero_add]
    have := h j hj
    omega
theorem unfixZ_four (b : ByteArray) (i j : Nat) (h : j ≤ b.size) (e : j - i = 4) : 0 ≤ unfixZ (b.extract i j) ∧ unfixZ (b.extract i j) ≤ 4294967295 := by
  have z : (b.extract i j).size = 4 := by rw [ByteArray.size_extract]; omega
  have := unfixZ_short (b.extract i j) (by omega)
  rwa [ext_full _ z] at this
theorem wrap_four {x : Int} (h : 0 ≤ x ∧ x ≤ 4294967295) : IntKind.i64.wrap x = x := by
  simp [IntKind.wrap, IntKind.signed, IntKind.bits]
  omega
/-- The result's box, and what was there. -/
def RBox (w wr : World) : Prop := Below w.heap.size w wr ∧ wr.heap[w.heap.size]? = some (.cells #[.int .u64 0, .int .i64 0, .int .i64 0, .int .i64 0] 24 (0, 0))
theorem RBox.drewN {w wr : World} (h : RBox w wr) (n : Nat) : RBox w (wr.drewN n) := ⟨h.1.trans ⟨rfl, rfl, rfl, Nat.le_refl _, fun _ _ => rfl⟩, h.2⟩
set_option maxHeartbeats 2000000 in
theorem rrhead_yes (b : ByteArray) (w : World) (h : headOk b) (hm : b.size ≤ maxLen) :
    Calls Try.prog 8 #[.string b] w fun e w' => e = .returned (.tuple #[.agg #[.int .u64 (unfixZ (b.extract 0 8)), .int .i64 (unfixZ (b.extract 8 12)), .int .i64 (unfixZ (b.extract 12 16)), .int .i64 (unfixZ (b.extract 16 20))], .bool true]) ∧ Below w.heap.size w w' := by
  have h40 := h.1
  have HP := Lib.hid ((head_pairs b h40).1 h)
  have hb1 : decide ((b.size : Int) < 40) = false := decide_eq_false (by omega)
  have gb := get_bt b
  have hq0 : RBox w (w.alloc (.cells #[.int .u64 0, .int .i64 0, .int .i64 0, .int .i64 0] 24)) := ⟨by go_grown, heap_alloc_new w (.cells #[.int .u64 0, .int .i64 0, .int .i64 0, .int .i64 0] 24)⟩
  have HM := Lib.hid hm
  clear h hm
  go_enter Try.func8, Try.ntmps8
  go_wp2_with fail
  generalize w.alloc (.cells #[.int .u64 0, .int .i64 0, .int .i64 0, .int .i64 0] 24) = W0 at *
  go_loopw [4] (fun i wr => ∃ k : Nat, k ≤ 20 ∧ i = .int .i64 k ∧ RBox w wr) (fun i _ => 20 - (intOf i).toNat)
  case atStart => exact ⟨0, Nat.zero_le _, rfl, hq0⟩
  case round =>
    clear hq0
    obtain ⟨k, hk, rfl, hB⟩ := hrel
    have HB := Lib.hid hB
    clear hB
    by_cases hlt : k < 20
    · have hx := HP.out k hlt
      have h1 := bt_b b k
      have h2 := bt_b b (20 + k)
      have hi1 : (k : Int) < (b.size : Int) := by omega
      have hi2 : 20 + (k : Int) < (b.size : Int) := by omega
      have hi3 : (20 + (k : Int)).toNat = 20 + k := by omega
      go_wp2
      go_quiet (fail)
      have HB2 : Hid (RBox w (wr.drewN nq)) := HB.out.drewN nq
      clear HB
      go_wp2
      go_roundw
      case rel => exact ⟨k + 1, by omega, by go_num, HB2.out⟩
      case measure => simp [intOf]; omega
    · obtain rfl : k = 20 := by omega
      have hs1 : ∀ w, (Instr.slice 9 (.string b) (some (.int .i64 8)) (some (.int .i64 12)) none).run Try.prog w = .ok (.string (b.extract 8 12)) w := slice_text b 8 12 (by omega) (by omega)
      have hs2 : ∀ w, (Instr.slice 9 (.string b) (some (.int .i64 12)) (some (.int .i64 16)) none).run Try.prog w = .ok (.string (b.extract 12 16)) w := slice_text b 12 16 (by omega) (by omega)
      have hs3 : ∀ w, (Instr.slice 9 (.string b) (some (.int .i64 16)) (some (.int .i64 20)) none).run Try.prog w = .ok (.string (b.extract 16 20)) w := slice_text b 16 20 (by omega) (by omega)
      have hs0 : ∀ w, (Instr.slice 9 (.string b) none (some (.int .i64 8)) none).run Try.prog w = .ok (.string (b.extract 0 8)) w := slice_to b 8 (by omega)
      have n1 := unfixZ_four b 8 12 (by omega) rfl
      have n2 := unfixZ_four b 12 16 (by omega) rfl
      have n3 := unfixZ_four b 16 20 (by omega) rfl
      have m1 : IntKind.i64.wrap (unfixZ (b.extract 8 12)) = unfixZ (b.extract 8 12) := wrap_four n1
      have m2 : IntKind.i64.wrap (unfixZ (b.extract 12 16)) = unfixZ (b.extract 12 16) := wrap_four n2
      have m3 : IntKind.i64.wrap (unfixZ (b.extract 16 20)) = unfixZ (b.extract 16 20) := wrap_four n3
      have zz : ∀ i j, (b.extract i j).size ≤ maxLen := fun i j => by have := HM.out; rw [ByteArray.size_extract]; omega
      have HU := Lib.hid (fun i j w => runfixed_any (b.extract i j) w (zz i j))
      clear n1 n2 n3 zz
      go_wp2_with fail
      have hB2 : RBox w wr := HB.out
      obtain ⟨z0, z1, z2, z3, z4, z5, z6, z7⟩ := cells4' hB2.2
      have HB2 := Lib.hid hB2
      clear HB hB2
      go_region_law (first
        | (go_simp; (with_reducible refine (HU.out _ _ _).mono ?_); rintro e _ ⟨rfl, rfl⟩)
        | fail)
      all_goals
        go_wp2_with fail
        obtain ⟨x0, x1, x2, x3⟩ := four_read HB2.out.2 (.int .u64 (unfixZ (b.extract 0 8))) (.int .i64 (unfixZ (b.extract 8 12))) (.int .i64 (unfixZ (b.extract 12 16))) (.int .i64 (unfixZ (b.extract 16 20)))
        refine bodyPost_ret (v := .tuple #[.agg #[.int .u64 (unfixZ (b.extract 0 8)), .int .i64 (unfixZ (b.extract 8 12)), .int .i64 (unfixZ (b.extract 12 16)), .int .i64 (unfixZ (b.extract 16 20))], .bool true]) (by simp [results, Try.results8, go_sem, x0, x1, x2, x3]) rfl ?_
        exact ⟨rfl, ((((HB2.out.1.drew.setCell (p := ⟨w.heap.size, 0, none⟩) (Nat.le_refl _) _).setCell (p := ⟨w.heap.size, 1, none⟩) (Nat.le_refl _) _).setCell (p := ⟨w.heap.size, 2, none⟩) (Nat.le_refl _) _).setCell (p := ⟨w.heap.size, 3, none⟩) (Nat.le_refl _) _)⟩
end Go.Proofs.Ytpnlpciofmpldaa
