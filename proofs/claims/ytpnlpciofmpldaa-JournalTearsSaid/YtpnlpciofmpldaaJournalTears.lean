/- Of a head that is written over another one, of which just the first bytes arrive, one of both is read, or none; and the chapter's examples hold: for all heads and every number of bytes. Conditions: none. -/
import Derived.Test.YtpnlpciofmpldaaJSpec
import Derived.Test.YtpnlpciofmpldaaJAwake
import Derived.Test.YtpnlpciofmpldaaJHeadV
import Derived.Test.YtpnlpciofmpldaaLaw
import Derived.BigQuiet
import Derived.Deep.QuietTactic
import Derived.Lib.QuietBelow
import Derived.Deep.DeepCutAuto
import Derived.Deep.CutBlock
namespace Go.Proofs.Ytpnlpciofmpldaa.journalTears
open Go.ChangeShapes Go.WideShapes Go.ChangeAt Go.RowKit Go.PlainAid
open Go.ChangeMaps (open_string)
open Go.Sort (grow)

theorem own : ownKnob Try.prog.godebug = none := by kernel_rfl
theorem laidOut : laidOutB Try.prog = true := by kernel_rfl
theorem four_stored {w1 : World} {q : Nat} {t : TypeId} {o0 o1 o2 o3 : Value} (h : w1.heap[q]? = some (.cells #[o0, o1, o2, o3] t (0, 0))) (v0 v1 v2 v3 : Value) :
    ((((w1.setCell ⟨q, 0, none⟩ v0).setCell ⟨q, 1, none⟩ v1).setCell ⟨q, 2, none⟩ v2).setCell ⟨q, 3, none⟩ v3).heap[q]? = some (.cells #[v0, v1, v2, v3] t (0, 0)) := by
  have h0 := heap_setCell_same w1 q 0 _ _ v0 h
  have h1 := heap_setCell_same _ q 1 _ _ v1 h0
  have h2 := heap_setCell_same _ q 2 _ _ v2 h1
  exact heap_setCell_same _ q 3 _ _ v3 h2
set_option maxRecDepth 100000 in
set_option maxHeartbeats 4000000 in
theorem walk (w : World) (a0 : HeadV) (w0 : a0.Wf) (a1 : HeadV) (w1 : a1.Wf) (a2 : Int) (w2 : (Lit.int .u64 a2).wf = true) :
    Calls Try.prog 6 #[.agg a0.cells.toArray, .agg a1.cells.toArray, .int .u64 a2] w fun e w' => e = .returned (.bool true) ∧ Below w.heap.size w w' := by
  obtain ⟨⟨bs0, cs0⟩, ⟨bu0, cu0⟩, ⟨br0, cr0⟩, ⟨bp0, cp0⟩⟩ := w0
  obtain ⟨⟨bs1, cs1⟩, ⟨bu1, cu1⟩, ⟨br1, cr1⟩, ⟨bp1, cp1⟩⟩ := w1
  obtain ⟨b2, c2⟩ := bounds_u64 w2
  have bs0' := And.intro bs0 cs0
  have bs1' := And.intro bs1 cs1
  clear bs0 cs0 bs1 cs1 bu0 cu0 br0 cr0 bp0 cp0 bu1 cu1 br1 cr1 bp1 cp1
  obtain ⟨s, u, r, p⟩ := a0
  obtain ⟨s', u', r', p'⟩ := a1
  simp only at *
  have qa := heap_alloc2_old w (.cells #[.int .u64 s, .int .i64 u, .int .i64 r, .int .i64 p] 24) (.cells #[.int .u64 s', .int .i64 u', .int .i64 r', .int .i64 p'] 24)
  have qb := heap_alloc2_new w (.cells #[.int .u64 s, .int .i64 u, .int .i64 r, .int .i64 p] 24) (.cells #[.int .u64 s', .int .i64 u', .int .i64 r', .int .i64 p'] 24)
  have hb0 : Below w.heap.size w ((w.alloc (.cells #[.int .u64 s, .int .i64 u, .int .i64 r, .int .i64 p] 24)).alloc (.cells #[.int .u64 s', .int .i64 u', .int .i64 r', .int .i64 p'] 24)) := by go_grown
  change Calls Try.prog 6 #[.agg #[.int .u64 s, .int .i64 u, .int .i64 r, .int .i64 p], .agg #[.int .u64 s', .int .i64 u', .int .i64 r', .int .i64 p'], .int .u64 a2] w _
  go_enter Try.func6, Try.ntmps6
  go_wp2_with fail
  generalize (w.alloc (.cells #[.int .u64 s, .int .i64 u, .int .i64 r, .int .i64 p] 24)).alloc (.cells #[.int .u64 s', .int .i64 u', .int .i64 r', .int .i64 p'] 24) = W at *
  obtain ⟨x0, x1, x2, x3, _⟩ := cells4' qa
  obtain ⟨y0, y1, y2, y3, _⟩ := cells4' qb
  have g0 : ∀ d os, (grow (redrawn W d) os).cell? ⟨w.heap.size, 0, none⟩ = some (.int .u64 s) := fun d os => cell_regrown x0 d os
  have g1 : ∀ d os, (grow (redrawn W d) os).cell? ⟨w.heap.size, 1, none⟩ = some (.int .i64 u) := fun d os => cell_regrown x1 d os
  have g2 : ∀ d os, (grow (redrawn W d) os).cell? ⟨w.heap.size, 2, none⟩ = some (.int .i64 r) := fun d os => cell_regrown x2 d os
  have g3 : ∀ d os, (grow (redrawn W d) os).cell? ⟨w.heap.size, 3, none⟩ = some (.int .i64 p) := fun d os => cell_regrown x3 d os
  have g4 : ∀ d os, (grow (redrawn W d) os).cell? ⟨w.heap.size + 1, 0, none⟩ = some (.int .u64 s') := fun d os => cell_regrown y0 d os
  have g5 : ∀ d os, (grow (redrawn W d) os).cell? ⟨w.heap.size + 1, 1, none⟩ = some (.int .i64 u') := fun d os => cell_regrown y1 d os
  have g6 : ∀ d os, (grow (redrawn W d) os).cell? ⟨w.heap.size + 1, 2, none⟩ = some (.int .i64 r') := fun d os => cell_regrown y2 d os
  have g7 : ∀ d os, (grow (redrawn W d) os).cell? ⟨w.heap.size + 1, 3, none⟩ = some (.int .i64 p') := fun d os => cell_regrown y3 d os
  have zx := writeB_size s u r p
  have zy := writeB_size s' u' r' p'
  have HKK : Hid (∀ k, k ≤ 40 → headOk ((writeB s u r p).extract 0 k ++ (writeB s' u' r' p').extract k 40) → fieldsV ((writeB s u r p).extract 0 k ++ (writeB s' u' r' p').extract k 40) = fieldsV (writeB s u r p) ∨ fieldsV ((writeB s u r p).extract 0 k ++ (writeB s' u' r' p').extract k 40) = fieldsV (writeB s' u' r' p')) := fun k hk h => by
    rcases torn _ _ (headB_size s u r p) (headB_size s' u' r' p') k hk h with e | e
    · exact .inl ((fields_of _ _ e).trans (fields_of _ _ (written_ok0 _ (headB_size s u r p)).2).symm)
    · exact .inr ((fields_of _ _ e).trans (fields_of _ _ (written_ok0 _ (headB_size s' u' r' p')).2).symm)
  have HOX : Hid (headOk (writeB s u r p)) := (written_ok0 _ (headB_size s u r p)).1
  have HOY : Hid (headOk (writeB s' u' r' p')) := (written_ok0 _ (headB_size s' u' r' p')).1
  have cA : ∀ d os, Calls Try.prog 10 #[.agg #[.int .u64 s, .int .i64 u, .int .i64 r, .int .i64 p]] (grow (redrawn W d) os) fun e w'' => e = .returned (.agg #[.int .u64 s, .int .i64 u, .int .i64 r, .int .i64 p]) ∧ ∃ p : Regrown, w'' = grow (redrawn W p.d) p.os := fun d os => Calls.regrown_of (of_any s u r p _)
  have cB : ∀ d os, Calls Try.prog 10 #[.agg #[.int .u64 s', .int .i64 u', .int .i64 r', .int .i64 p']] (grow (redrawn W d) os) fun e w'' => e = .returned (.agg #[.int .u64 s', .int .i64 u', .int .i64 r', .int .i64 p']) ∧ ∃ p : Regrown, w'' = grow (redrawn W p.d) p.os := fun d os => Calls.regrown_of (of_any s' u' r' p' _)
  have cX : ∀ d os, Calls Try.prog 9 #[.agg #[.int .u64 s, .int .i64 u, .int .i64 r, .int .i64 p]] (grow (redrawn W d) os) fun e w'' => e = .returned (.string (writeB s u r p)) ∧ ∃ p : Regrown, w'' = grow (redrawn W p.d) p.os := fun d os => Calls.regrown_of (whead_any s u r p _ bs0'.1 bs0'.2)
  have cY : ∀ d os, Calls Try.prog 9 #[.agg #[.int .u64 s', .int .i64 u', .int .i64 r', .int .i64 p']] (grow (redrawn W d) os) fun e w'' => e = .returned (.string (writeB s' u' r' p')) ∧ ∃ p : Regrown, w'' = grow (redrawn W p.d) p.os := fun d os => Calls.regrown_of (whead_any s' u' r' p' _ bs1'.1 bs1'.2)
  have CA := Lib.hid cA
  have CB := Lib.hid cB
  have CX := Lib.hid cX
  have CY := Lib.hid cY
  have HB0 := Lib.hid hb0
  clear cA cB cX cY hb0 qa qb x0 x1 x2 x3 y0 y1 y2 y3
  generalize writeB s u r p = X at *
  generalize writeB s' u' r' p' = Y at *
  refine wp_region_quiet_below (by kernel_rfl) (by kernel_rfl) ?_
  repeat (go_big_quiet_step (first | (with_reducible exact CA.out _ _) | (with_reducible exact CB.out _ _) | (with_reducible exact CX.out _ _) | (with_reducible exact CY.out _ _)))
  refine wpQuiet_nil ?_
  intro _ hw'
  obtain ⟨⟨dq, osq⟩, hw''⟩ := hw'
  subst hw''
  have HB := Lib.hid (HB0.out.on (below_regrown W dq osq))
  generalize grow (redrawn W dq) osq = W1 at *
  clear g0 g1 g2 g3 g4 g5 g6 g7 CA CB CX CY HB0
  have zx' : ((X.size : Nat) : Int) = 40 := by omega
  have zy' : ((Y.size : Nat) : Int) = 40 := by omega
  obtain ⟨n, hn⟩ : ∃ n : Nat, a2 % 41 = (n : Int) := ⟨(a2 % 41).toNat, by omega⟩
  have hn40 : n ≤ 40 := by omega
  have zM : (X.extract 0 n ++ Y.extract n 40).size ≤ maxLen := by rw [ByteArray.size_append, ByteArray.size_extract, ByteArray.size_extract]; unfold maxLen; omega
  obtain ⟨q0, q1, q2, q3, okb, hrq, hq⟩ := rhead_three (X.extract 0 n ++ Y.extract n 40) zM
  have hq' := hq.imp_right fun h => (HKK.out n hn40 h.1).imp (fun e => h.2.symm.trans e) (fun e => h.2.symm.trans e)
  have hs1 := slice_to X n (by omega)
  have hs2 := slice_of Y n 40 (by omega) zy
  have hcat := fun w => run_string_add_sum (P := Try.prog) w (X.extract 0 n) (Y.extract n 40) (by rw [ByteArray.size_extract, ByteArray.size_extract]; omega)
  have HRX := Lib.hid (fun w => rhead_val X w HOX.out (by rw [zx]; unfold maxLen; omega))
  have HRY := Lib.hid (fun w => rhead_val Y w HOY.out (by rw [zy]; unfold maxLen; omega))
  unfold fieldsV at hq' HRX HRY
  generalize unfixZ (X.extract 0 8) = x0 at *
  generalize unfixZ (X.extract 8 12) = x1 at *
  generalize unfixZ (X.extract 12 16) = x2 at *
  generalize unfixZ (X.extract 16 20) = x3 at *
  generalize unfixZ (Y.extract 0 8) = y0 at *
  generalize unfixZ (Y.extract 8 12) = y1 at *
  generalize unfixZ (Y.extract 12 16) = y2 at *
  generalize unfixZ (Y.extract 16 20) = y3 at *
  generalize X.extract 0 n = X1 at *
  generalize Y.extract n 40 = Y1 at *
  generalize X1 ++ Y1 = M at *
  have HRQ := Lib.hid hrq
  have HQ := Lib.hid hq'
  clear hrq hq hq' HKK HOX HOY zM hn40
  go_wp2_with fail
  rw [hn]
  have hz0 := heap_alloc_new W1 (.cells #[.int .u64 0, .int .i64 0, .int .i64 0, .int .i64 0] 25)
  have hbz : Below W1.heap.size W1 (W1.alloc (.cells #[.int .u64 0, .int .i64 0, .int .i64 0, .int .i64 0] 25)) := by go_grown
  obtain ⟨z0, z1, z2, z3, z4, z5, z6, z7⟩ := cells4' hz0
  go_region_law (first
    | (go_simp; (with_reducible refine (HRQ.out _).mono ?_); rintro e w2 ⟨rfl, hb2⟩; try (have hq5 := (hb2.block W1.heap.size (heap_lt' hz0)).trans hz0; obtain ⟨z8, z9, z10, z11, z12, z13, z14, z15⟩ := cells4' hq5))
    | fail)
  all_goals
    first
      | (have hq6 := heap_alloc_new w2 (.cells #[.int .u64 q0, .int .i64 q1, .int .i64 q2, .int .i64 q3] 25)
         have hbW : Below W1.heap.size W1 (w2.alloc (.cells #[.int .u64 q0, .int .i64 q1, .int .i64 q2, .int .i64 q3] 25)) := ((show Below W1.heap.size W1 W1.drew by go_grown).on hb2).alloc ((show Below W1.heap.size W1 W1.drew by go_grown).on hb2).size _
         have hwW := HB.out.trans (hbW.mono HB.out.size)
         generalize w2.alloc (.cells #[.int .u64 q0, .int .i64 q1, .int .i64 q2, .int .i64 q3] 25) = W3 at *
         generalize w2.heap.size = bh at *)
      | (have hq6 := four_stored hq5 (.int .u64 q0) (.int .i64 q1) (.int .i64 q2) (.int .i64 q3)
         have hbW : Below W1.heap.size W1 ((((w2.setCell ⟨W1.heap.size, 0, none⟩ (.int .u64 q0)).setCell ⟨W1.heap.size, 1, none⟩ (.int .i64 q1)).setCell ⟨W1.heap.size, 2, none⟩ (.int .i64 q2)).setCell ⟨W1.heap.size, 3, none⟩ (.int .i64 q3)) :=
           (((((hbz.on (show Below _ _ _ by go_grown)).trans (hb2.mono (by simp))).setCell (p := ⟨W1.heap.size, 0, none⟩) (Nat.le_refl _) _).setCell (p := ⟨W1.heap.size, 1, none⟩) (Nat.le_refl _) _).setCell (p := ⟨W1.heap.size, 2, none⟩) (Nat.le_refl _) _).setCell (p := ⟨W1.heap.size, 3, none⟩) (Nat.le_refl _) _
         have hwW := HB.out.trans (hbW.mono HB.out.size)
         generalize ((((w2.setCell ⟨W1.heap.size, 0, none⟩ (.int .u64 q0)).setCell ⟨W1.heap.size, 1, none⟩ (.int .i64 q1)).setCell ⟨W1.heap.size, 2, none⟩ (.int .i64 q2)).setCell ⟨W1.heap.size, 3, none⟩ (.int .i64 q3)) = W3 at *
         clear z8 z9 z10 z11 z12 z13 z14 z15 hq5
         generalize W1.heap.size = bh at *)
    have HB3 := Lib.hid hwW
    have HQ3 := Lib.hid hq6
    clear hq6 hbW hwW z0 z1 z2 z3 z4 z5 z6 z7 hz0 hbz hb2
    go_wp2_with fail
    refine (HRX.out W3).mono ?_
    rintro e w4 ⟨rfl, hb4⟩
    have hq4 := (hb4.block bh (heap_lt' HQ3.out)).trans HQ3.out
    have HB4 := Lib.hid (HB3.out.on hb4)
    have HQ4 := Lib.hid hq4
    clear hb4 hq4
    go_wp2_with fail
    have hx5 := heap_alloc_new w4 (.cells #[.int .u64 x0, .int .i64 x1, .int .i64 x2, .int .i64 x3] 25)
    have hb5 : Below w4.heap.size w4 (w4.alloc (.cells #[.int .u64 x0, .int .i64 x1, .int .i64 x2, .int .i64 x3] 25)) := by go_grown
    have hq5 := (hb5.block bh (heap_lt' HQ4.out)).trans HQ4.out
    have HN4 := Lib.hid (heap_lt' HQ4.out)
    have HX5 := Lib.hid hx5
    have HQ5 := Lib.hid hq5
    have HB5 := Lib.hid (HB4.out.on hb5)
    generalize w4.alloc (.cells #[.int .u64 x0, .int .i64 x1, .int .i64 x2, .int .i64 x3] 25) = W5 at *
    generalize w4.heap.size = bu at *
    clear hx5 hb5 hq5
    refine (HRY.out W5).mono ?_
    rintro e w6 ⟨rfl, hb6⟩
    have HX6 := Lib.hid ((hb6.block bu (heap_lt' HX5.out)).trans HX5.out)
    have HQ6 := Lib.hid ((hb6.block bh (heap_lt' HQ5.out)).trans HQ5.out)
    have HB6 := Lib.hid (HB5.out.on hb6)
    clear hb6
    have hy7 := heap_alloc_new w6 (.cells #[.int .u64 y0, .int .i64 y1, .int .i64 y2, .int .i64 y3] 25)
    have hb7 : Below w6.heap.size w6 (w6.alloc (.cells #[.int .u64 y0, .int .i64 y1, .int .i64 y2, .int .i64 y3] 25)) := by go_grown
    have hx7 := (hb7.block bu (heap_lt' HX6.out)).trans HX6.out
    have hq7 := (hb7.block bh (heap_lt' HQ6.out)).trans HQ6.out
    have hn7 : w6.heap.size ≠ bu := Nat.ne_of_gt (heap_lt' HX6.out)
    have hn8 : w6.heap.size ≠ bh := Nat.ne_of_gt (heap_lt' HQ6.out)
    have HB7 := Lib.hid (HB6.out.on hb7)
    obtain ⟨r0, r1, r2, r3, _⟩ := cells4' hq7
    obtain ⟨s0, s1, s2, s3, _⟩ := cells4' hx7
    obtain ⟨t0, t1, t2, t3, _⟩ := cells4' hy7
    clear hy7 hb7 hx7 hq7 hcat hs1 hs2
    rcases HQ.out with e | e | e
    · subst e
      clear HQ
      go_wp2_with fail
      all_goals
        refine (awake_any _).mono ?_
        rintro e w8 ⟨rfl, hb8⟩
        have HB8 := Lib.hid (HB7.out.on hb8)
        clear hb8
        go_wp2
        go_returns
        exact ⟨rfl, HB8.out⟩
    · cases e
      clear HQ
      cases okb
      all_goals
        go_wp2_with fail
        refine (awake_any _).mono ?_
        rintro e w8 ⟨rfl, hb8⟩
        have HB8 := Lib.hid (HB7.out.on hb8)
        clear hb8
        go_wp2
        go_returns
        exact ⟨rfl, HB8.out⟩
    · cases e
      clear HQ
      cases okb
      · go_wp2_with fail
        refine (awake_any _).mono ?_
        rintro e w8 ⟨rfl, hb8⟩
        have HB8 := Lib.hid (HB7.out.on hb8)
        clear hb8
        go_wp2
        go_returns
        exact ⟨rfl, HB8.out⟩
      · by_cases e0 : q0 = x0
        · subst e0
          by_cases e1 : q1 = x1
          · subst e1
            by_cases e2 : q2 = x2
            · subst e2
              by_cases e3 : q3 = x3
              · subst e3
                go_wp2_with fail
                refine (awake_any _).mono ?_
                rintro e w8 ⟨rfl, hb8⟩
                have HB8 := Lib.hid (HB7.out.on hb8)
                clear hb8
                go_wp2
                go_returns
                exact ⟨rfl, HB8.out⟩
              · go_wp2_with fail
                refine (awake_any _).mono ?_
                rintro e w8 ⟨rfl, hb8⟩
                have HB8 := Lib.hid (HB7.out.on hb8)
                clear hb8
                go_wp2
                go_returns
                exact ⟨rfl, HB8.out⟩
            · go_wp2_with fail
              refine (awake_any _).mono ?_
              rintro e w8 ⟨rfl, hb8⟩
              have HB8 := Lib.hid (HB7.out.on hb8)
              clear hb8
              go_wp2
              go_returns
              exact ⟨rfl, HB8.out⟩
          · go_wp2_with fail
            refine (awake_any _).mono ?_
            rintro e w8 ⟨rfl, hb8⟩
            have HB8 := Lib.hid (HB7.out.on hb8)
            clear hb8
            go_wp2
            go_returns
            exact ⟨rfl, HB8.out⟩
        · go_wp2_with fail
          refine (awake_any _).mono ?_
          rintro e w8 ⟨rfl, hb8⟩
          have HB8 := Lib.hid (HB7.out.on hb8)
          clear hb8
          go_wp2
          go_returns
          exact ⟨rfl, HB8.out⟩

set_option maxRecDepth 100000 in
theorem lifted (os : Os) (started : os.Started) (H : Type) (enc : TypeId × Value → H) :
    ReturnsInHanded {} Try.checked os 6 .any (Rows.journalTearsSpec.pre6 enc Try.prog Try.f6 Rows.journalTearsRow.domain false) (Rows.journalTearsSpec.post enc Try.prog Try.f6 false true false false) := by
  refine law_lift (C := Try.checked) own started (by kernel_rfl) Try.func6 laidOut (by kernel_rfl) rfl Try.underlying4 rfl
    (fun ds h => match ds, h with | [_, _, _], _ => rfl)
    (ChangeSpec.witness6 (enc := enc) (C := Try.checked) false ⟨#[], #[.agg (HeadV.cells ⟨0, 0, 0, 0⟩).toArray, .agg (HeadV.cells ⟨0, 0, 0, 0⟩).toArray, .int .u64 0], []⟩ 8 (by kernel_rfl) (by kernel_rfl) (by kernel_rfl) (by kernel_rfl)) ?_
  intro W base args ds ps hval hA hsz
  rw [Try.params6] at hA hval hsz
  obtain ⟨v0, vs0, d0, ds0, p0, q0, hargs, rfl, rfl, h0, r0⟩ := trodAll_cons hA
  obtain ⟨v1, vs1, d1, ds1, p1, q1, rfl, rfl, rfl, h1, r1⟩ := trodAll_cons r0
  obtain ⟨v2, vs2, d2, ds2, p2, q2, rfl, rfl, rfl, h2, r2⟩ := trodAll_cons r1
  obtain ⟨rfl, rfl, rfl⟩ := trodAll_nil r2
  obtain rfl : args = #[v0, v1, v2] := by cases args; simp_all
  obtain ⟨a0, rfl, w0⟩ := head_open (hval 0 24 v0 rfl rfl) h0
  obtain ⟨a1, rfl, w1⟩ := head_open (hval 1 24 v1 rfl rfl) h1
  obtain ⟨a2, rfl, rfl, rfl, w2⟩ := open_int Try.underlying47 (hval 2 47 v2 rfl rfl) h2
  exact walk W a0 w0 a1 w1 a2 w2

theorem over : Rows.journalTearsRow.holds Try.pinned (OpenSpec.ofChange Rows.journalTearsSpec) :=
  OpenClaim.holds_of_wide 6 Try.f6 rfl rfl rfl rfl rfl rfl rfl ⟨rfl, rfl, rfl, rfl, rfl⟩ rfl rfl rfl rfl rfl (by kernel_rfl) Try.func6 (by kernel_rfl)
    (of_decide_eq_true (by kernel_rfl)) (by unfold Func.isWrapper; first | (rw [if_pos (by decide +kernel)]; kernel_rfl) | (rw [if_neg (by decide +kernel)]; exact ⟨rfl, rfl⟩))
    (fun os started H enc _ => lifted os started H enc)

theorem proved : Rows.JournalTearsSaid :=
  over
end Go.Proofs.Ytpnlpciofmpldaa.journalTears
