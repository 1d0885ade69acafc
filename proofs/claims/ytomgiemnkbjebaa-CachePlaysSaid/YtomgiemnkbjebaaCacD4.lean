/- The law's does, kind 4. -/
import Derived.Test.YtomgiemnkbjebaaCacDa
namespace Go.Proofs.Ytomgiemnkbjebaa
set_option maxRecDepth 100000
open Go.ChangeShapes Go.WideShapes Go.ChangeAt Go.RowKit Go.PlainAid

namespace KA
attribute [local go_sem ↓ high] store_i app_i build_i store_c
set_option maxHeartbeats 4000000 in
theorem does_4 {w0 : World} {p q : Nat} {most : Nat} {L : List E} {w : World} (h : Both w0 p q (most : Int) L w) (kk key : Int) (val : ByteArray) (h0 : ¬ kk = 0) (h1 : ¬ kk = 1) (h2 : ¬ kk = 2) (h3 : ¬ kk = 3) (hq0 : w0.heap.size ≤ q) (hm1 : 1 ≤ most) (hm2 : most ≤ 1024) (hO : Once L) (hl : L.length ≤ most) :
    Calls Try.prog 11 #[.pointer (some ⟨p, 0, none⟩), .pointer (some ⟨q, 0, none⟩), .agg #[.int .i64 kk, .int .i64 key, .string val]] w fun e w' => e = .returned (.bool true) ∧ Both w0 p q (most : Int) (stepL most ⟨kk, key, val⟩ L) w' := by
  obtain ⟨ao, nn, cap, hC, hI⟩ := h
  have hqb : BoxC w q (most : Int) (.slice ao nn cap) := hC.mem (x := (q, bC (most : Int) (.slice ao nn cap))) (List.mem_singleton.2 rfl)
  have hq : q < w.heap.size := heap_in hqb
  obtain ⟨W1, hW1, hA1⟩ : ∃ W1, w.alloc (.cells #[.int .i64 kk, .int .i64 key, .string val] 35) = W1 ∧ W1.heap[w.heap.size]? = some (.cells #[.int .i64 kk, .int .i64 key, .string val] 35 (0, 0)) := ⟨_, rfl, heap_alloc_new w _⟩
  have hb1 : Below w.heap.size w W1 := by rw [← hW1]; go_grown
  have z1 : W1.heap.size = w.heap.size + 1 := by rw [← hW1]; simp
  have hb2' : Below W1.heap.size W1 (W1.alloc (.cells #[.int .i64 0, .slice none 0 0] 29)) := by go_grown
  have hN0 : BoxC (W1.alloc (.cells #[.int .i64 0, .slice none 0 0] 29)) W1.heap.size 0 (.slice none 0 0) := heap_alloc_new W1 _
  obtain ⟨W2, hst0, hN, _, hbel, hz2⟩ := hN0.store (most : Int) (.slice ao nn cap) rfl
  have hb2 := hbel _ _ hb2' (Nat.le_refl _)
  have z2 : W2.heap.size = w.heap.size + 2 := by rw [hz2]; simp [z1]
  obtain ⟨q0, q1, _⟩ := (hqb.on hb1 hq).read
  have hA2 := (hb2.block w.heap.size (by omega)).trans hA1
  have a0 : W2.cell? ⟨w.heap.size, 0, none⟩ = some (.int .i64 kk) := by rw [cell_of_row _ _ _ _ _ _ hA2]; rfl
  have hC2 := (hC.add hb1 (Nat.le_refl _) hA1).add hb2 (Nat.le_refl _) hN
  have HC2 := Lib.hid hC2
  have hI2 : Items w0.heap.size W2 (.slice ao nn cap) L := ownsRow_on hI (hb1.on hb2)
  have HI2 := Lib.hid hI2
  have HO := Lib.hid hO
  have hb0 := hC.base
  have HZ := Lib.hid (And.intro z1 (And.intro z2 (And.intro hq (And.intro hq0 hC.below))))
  clear hC hI hqb hb1 z1 hb2' hN0 hN hbel hz2 hb2 z2 hA2 hA1 hC2 hI2 hO
  go_enter Try.func11, Try.ntmps11
  go_upto_block 0 with fail
  clear hW1 hst0 q0 q1
  generalize W1.heap.size = N at *
  go_cut [8] (fun s8 wx => s8 = .bool true ∧ NX w0 p q w.heap.size N (most : Int) (.cells #[.int .i64 kk, .int .i64 key, .string val] 35 (0, 0)) (stepL most ⟨kk, key, val⟩ L) (stepL most ⟨kk, key, val⟩ L) wx)
  case first =>
    have hN0 : w0.heap.size ≤ N := by have := HZ.out.2.2.2.2.size; have := HZ.out.1; omega
    have hAN : w.heap.size ≠ N := by have := HZ.out.1; omega
    have hqN : q ≠ N := by have := HZ.out.1; have := HZ.out.2.2.1; omega
    have c1 : W2.cell? ⟨w.heap.size, 1, none⟩ = some (.int .i64 key) := by rw [cell_of_row _ _ _ _ _ _ (HC2.out.mem (x := (w.heap.size, .cells #[.int .i64 kk, .int .i64 key, .string val] 35 (0, 0))) (List.mem_cons_of_mem _ List.mem_cons_self))]; rfl
    have c2 : W2.cell? ⟨w.heap.size, 2, none⟩ = some (.string val) := by rw [cell_of_row _ _ _ _ _ _ (HC2.out.mem (x := (w.heap.size, .cells #[.int .i64 kk, .int .i64 key, .string val] 35 (0, 0))) (List.mem_cons_of_mem _ List.mem_cons_self))]; rfl
    have hqW : BoxC W2 q (most : Int) (.slice ao nn cap) := HC2.out.mem (x := (q, bC (most : Int) (.slice ao nn cap))) (List.mem_cons_of_mem _ (List.mem_cons_of_mem _ List.mem_cons_self))
    obtain ⟨q0, q1, _⟩ := hqW.read
    have hn0 : w0.heap.size ≤ W2.heap.size := by have := HZ.out.2.2.2.2.size; have := HZ.out.2.1; omega
    have hba : Below W2.heap.size W2 (W2.alloc (.cells #[.int .i64 0, .slice none 0 0] 29)) := by go_grown
    have q0' := (hba.cell (p := ⟨q, 0, none⟩) (heap_in hqW)).trans q0
    have q1' := (hba.cell (p := ⟨q, 1, none⟩) (heap_in hqW)).trans q1
    have hAl : w.heap.size < W2.heap.size := by have := HZ.out.2.1; omega
    have c1' := (hba.cell (p := ⟨w.heap.size, 1, none⟩) hAl).trans c1
    have c2' := (hba.cell (p := ⟨w.heap.size, 2, none⟩) hAl).trans c2
    have hqS := heap_in hqW
    clear hqW hba
    obtain ⟨ok, hok⟩ : ∃ ok, decide (posK key L < L.length) = ok := ⟨_, rfl⟩
    obtain ⟨y, hy⟩ : ∃ y, findE key L = y := ⟨_, rfl⟩
    have hzi : Below W2.heap.size W2 (W2.alloc (.cells #[.int .i64 0, .string ⟨#[]⟩, .int .i64 0] 51)) := by go_grown
    have q0i := (hzi.cell (p := ⟨q, 0, none⟩) hqS).trans q0
    have q1i := (hzi.cell (p := ⟨q, 1, none⟩) hqS).trans q1
    have c1i := (hzi.cell (p := ⟨w.heap.size, 1, none⟩) hAl).trans c1
    have HA1 : Hid (Calls Try.prog 28 #[.agg #[.int .i64 (most : Int), .slice ao nn cap], .int .i64 key] W2.drew fun e w5 => ∃ W6, e = .returned (.tuple #[.agg #[.int .i64 y.key, .string y.val, .int .i64 (y.pins : Int)], .bool ok]) ∧
        (storeS 51 (.pointer (some ⟨w5.heap.size, 0, none⟩)) (.agg #[.int .i64 y.key, .string y.val, .int .i64 (y.pins : Int)])).run Try.prog (w5.alloc (.cells #[.int .i64 0, .string ⟨#[]⟩, .int .i64 0] 51)) = .ok () W6 ∧ Hid (Below W2.heap.size W2 W6)) := by
      refine Lib.hid ((rfind_any ((Reads.of_row HI2.out).on (drew_below4 W2)) (most : Int) key (by omega)).mono ?_)
      rintro e w5 ⟨rfl, hb⟩
      rw [hy, hok]
      exact ⟨_, rfl, store_newI w5 y #[.int .i64 0, .string ⟨#[]⟩, .int .i64 0] rfl, Lib.hid (((drew_below4 W2).trans hb).on (by go_grown))⟩
    have HA2 : Hid (Calls Try.prog 28 #[.agg #[.int .i64 (most : Int), .slice ao nn cap], .int .i64 key] (W2.alloc (.cells #[.int .i64 0, .string ⟨#[]⟩, .int .i64 0] 51)).drew fun e w5 => ∃ W6, e = .returned (.tuple #[.agg #[.int .i64 y.key, .string y.val, .int .i64 (y.pins : Int)], .bool ok]) ∧
        (storeS 51 (.pointer (some ⟨W2.heap.size, 0, none⟩)) (.agg #[.int .i64 y.key, .string y.val, .int .i64 (y.pins : Int)])).run Try.prog w5 = .ok () W6 ∧ Hid (Below W2.heap.size W2 W6)) := by
      refine Lib.hid ((rfind_any ((Reads.of_row HI2.out).on (hzi.on (drew_below4 _))) (most : Int) key (by omega)).mono ?_)
      rintro e w5 ⟨rfl, hb⟩
      rw [hy, hok]
      have hz : w5.heap[W2.heap.size]? = some (.cells #[.int .i64 0, .string ⟨#[]⟩, .int .i64 0] 51 (0, 0)) := (((drew_below4 _).trans hb).block W2.heap.size (by simp)).trans (heap_alloc_new W2 _)
      have hsz : (Try.prog.info? 51).map (·.size) = some 3 := by kernel_rfl
      have hs := run_storeVar_row (P := Try.prog) w5 W2.heap.size 51 51 #[.int .i64 0, .string ⟨#[]⟩, .int .i64 0] #[.int .i64 y.key, .string y.val, .int .i64 (y.pins : Int)] hz (by rw [hsz]; rfl) rfl (all_oneCell_toArray (three.one y))
      exact ⟨w5.setRow W2.heap.size #[.int .i64 y.key, .string y.val, .int .i64 (y.pins : Int)], rfl, by unfold storeS; simp only [Instr.storeAt, Instr.sureAddr, Sem.run_bind, Sem.run_pure, Result.andThen_ok, hs], Lib.hid (below_row (hzi.on ((drew_below4 _).trans hb)) (Nat.le_refl _) _)⟩
    have HST : Hid (stepL most ⟨kk, key, val⟩ L = noK key L) := Lib.hid (by unfold stepL; rw [if_neg h0, if_neg h1, if_neg h2, if_neg h3])
    have HOK := Lib.hid hok
    have b0 : (kk == 0) = false := by simp [h0]
    have b1 : (kk == 1) = false := by simp [h1]
    have b2 : (kk == 2) = false := by simp [h2]
    have b3 : (kk == 3) = false := by simp [h3]
    clear hok hzi
    go_upto_region 3 with fail
    go_cut [25, 26] (fun _ s26 wx => s26 = .bool ok ∧ Below W2.heap.size W2 wx)
    case first =>
      go_region_with (first
        | (go_at_call 28; (with_reducible refine HA1.out.mono ?_); rintro e w5 ⟨W6, rfl, hst, HS⟩)
        | (go_at_call 28; (with_reducible refine HA2.out.mono ?_); rintro e w5 ⟨W6, rfl, hst, HS⟩))
      all_goals go_wp2_with fail
      all_goals go_simp
      all_goals go_meet
      all_goals exact ⟨rfl, HS.out⟩
    case rest =>
      obtain ⟨rfl, hb⟩ := hcut
      have q0w := (hb.cell (p := ⟨q, 0, none⟩) hqS).trans q0
      have q1w := (hb.cell (p := ⟨q, 1, none⟩) hqS).trans q1
      have c1w := (hb.cell (p := ⟨w.heap.size, 1, none⟩) hAl).trans c1
      have HD : Hid (Calls Try.prog 29 #[.agg #[.int .i64 (most : Int), .slice ao nn cap], .int .i64 key] wc.drew fun e w5 => ∃ ao5 nn5 cap5 W6, e = .returned (.agg #[.int .i64 (most : Int), .slice ao5 nn5 cap5]) ∧ (storeS 29 (.pointer (some ⟨N, 0, none⟩)) (.agg #[.int .i64 (most : Int), .slice ao5 nn5 cap5])).run Try.prog w5 = .ok () W6 ∧
          Hid (NX w0 p q w.heap.size N (most : Int) (.cells #[.int .i64 kk, .int .i64 key, .string val] 35 (0, 0)) L (noK key L) W6)) := by
        refine Lib.hid ((rdrop_any ((Reads.of_row HI2.out).on (hb.on (drew_below4 wc))) (most : Int) key (by omega)).mono ?_)
        rintro e w5 ⟨u, rfl, hI5, hb5⟩
        obtain ⟨ao5, nn5, cap5, rfl⟩ := items_slice hI5
        have hI6 : Items w0.heap.size w5 (.slice ao5 nn5 cap5) (noK key L) := items_base hI5 (Nat.le_trans hn0 hb.size)
        obtain ⟨W6, hst, hX⟩ := nx_of (R := []) ((HC2.out.on hb).on ((drew_below4 wc).trans hb5)) hI6 hN0 hAN hqN
        exact ⟨ao5, nn5, cap5, W6, rfl, hst, Lib.hid hX⟩
      clear q0 q1 q0' q1' q0i q1i c1 c2 c1' c2' c1i a0 HA1 HA2 hb
      go_upto_region 4 with fail
      go_cut [26] (fun s26 wx => s26 = .bool ok ∧ NX w0 p q w.heap.size N (most : Int) (.cells #[.int .i64 kk, .int .i64 key, .string val] 35 (0, 0)) L (noK key L) wx)
      case first =>
        go_region_with (first
          | (go_at_call 29; (with_reducible refine HD.out.mono ?_); rintro e w5 ⟨ao5, nn5, cap5, W6, rfl, hst, HS⟩))
        all_goals go_wp2_with fail
        all_goals go_simp
        all_goals go_meet
        all_goals exact ⟨rfl, HS.out⟩
      case rest =>
        obtain ⟨rfl, hX⟩ := hcut
        have d1 := nx_act (x := ⟨kk, key, val⟩) hX
        have HG := Lib.hid (nx_drop (k := key) hX HO.out (Nat.le_trans hl (by omega)) ok HOK.out)
        clear hX HD q0w q1w c1w
        go_wp2_with fail
        refine HG.out.mono ?_
        rintro e w7 ⟨rfl, hX⟩
        have HX := Lib.hid hX
        clear hX d1 HG
        go_wp2_with fail
        go_meet
        rw [HST.out]
        exact ⟨by simp, HX.out⟩
  case rest =>
    obtain ⟨rfl, hX⟩ := hcut
    obtain ⟨ao', nn', cap', w9, n0, n1, hst9, hB⟩ := nx_fin hX HZ.out.2.2.2.1
    have HB := Lib.hid hB
    clear hX hB
    go_wp2_with fail
    go_returns
    exact ⟨rfl, HB.out⟩
end KA
end Go.Proofs.Ytomgiemnkbjebaa
