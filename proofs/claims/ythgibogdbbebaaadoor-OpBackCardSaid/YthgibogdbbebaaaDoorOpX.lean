/- Contract of the reference's Decode. -/
import Derived.Test.YthgibogdbbebaaaDoorOpV
import Derived.Test.YthgibogdbbebaaaDoorOpG
import Derived.Test.YthgibogdbbebaaaDoorBitsJ
namespace Go.Proofs.YthgibogdbbebaaaDoor
set_option maxRecDepth 100000
open Go.ChangeShapes Go.WideShapes Go.ChangeAt Go.RowKit Go.PlainAid

attribute [local go_sem ↓ high] store_o load_op app_u64U
set_option maxHeartbeats 8000000 in
theorem rdecode_any (s : ByteArray) (w : World) (hs : s.size ≤ 140737488351232) :
    Calls Tryd.prog 17 #[.string s] w fun e w' => e = .returned (decV (decZ s)) ∧ Below w.heap.size w w' := by
  have q0 := heap_alloc_new w (.cells #[Value.int .i64 0, Value.int .i64 0, Value.int .i64 0, Value.int .i64 0, Value.int .i64 0, Value.int .i64 0, Value.int .i64 0, Value.bool false, Value.int .i64 0, Value.int .i64 0, Value.int .i64 0] 29)
  have hb0 : Below w.heap.size w (w.alloc (.cells #[Value.int .i64 0, Value.int .i64 0, Value.int .i64 0, Value.int .i64 0, Value.int .i64 0, Value.int .i64 0, Value.int .i64 0, Value.bool false, Value.int .i64 0, Value.int .i64 0, Value.int .i64 0] 29)) := by go_grown
  obtain ⟨W0, hW0⟩ : ∃ W, w.alloc (.cells #[Value.int .i64 0, Value.int .i64 0, Value.int .i64 0, Value.int .i64 0, Value.int .i64 0, Value.int .i64 0, Value.int .i64 0, Value.bool false, Value.int .i64 0, Value.int .i64 0, Value.int .i64 0] 29) = W := ⟨_, rfl⟩
  rw [hW0] at q0 hb0
  have Q0 := Lib.hid q0
  have HB0 := Lib.hid hb0
  have HS := Lib.hid hs
  clear q0 hb0 hs
  go_enter Tryd.func17, Tryd.ntmps17
  go_wp2_with fail
  clear hW0
  go_loopw [4, 0] (fun v sv wr => ∃ (L : List Int) (t : ByteArray), sv = .string t ∧ L.length ≤ 11 ∧ t.size ≤ 140737488351232 ∧ Hid (UnsOwn W0.heap.size wr v L) ∧ Hid (refP 11 s = (refP (11 - L.length) t).map fun x => L ++ x) ∧ Hid (∀ n ∈ L, 0 ≤ n ∧ n ≤ 18446744073709551615) ∧ Below W0.heap.size W0 wr) (fun _ sv _ => strLen sv)
  case atStart => exact ⟨[], s, rfl, Nat.zero_le _, HS.out, own_nilU _ _, by unfold Hid; show _ = (refP 11 s).map _; cases refP 11 s <;> rfl, fun n hn => by simp at hn, Below.refl _ _⟩
  case round =>
    obtain ⟨L, t, rfl, hl, ht, HV, HP, HX, hb⟩ := hrel
    have HBL := Lib.hid hb
    have HB := Lib.hid (HB0.out.on hb)
    have Q := Lib.hid ((hb.block _ (heap_inO Q0.out)).trans Q0.out)
    clear hb
    obtain ⟨ao, cap, rfl, hc⟩ := HV.out.cells
    have HC := Lib.hid hc
    clear hc
    by_cases h0 : t.size = 0
    · have FIN := Lib.hid (show decZ s = ofList L by rw [ref_dec, HP.out, refP_end _ h0]; simp)
      have ht0 : ¬ (0 : Int) < t.size := by omega
      have ht1 : ¬ 0 < t.size := by omega
      clear h0 HP ht
      by_cases h8 : L.length = 8
      · obtain ⟨x0, x1, x2, x3, x4, x5, x6, x7, rfl⟩ := list8 h8
        clear h8
        obtain ⟨y0, hy0⟩ : ∃ y, IntKind.i64.wrap x0 = y := ⟨_, rfl⟩
        obtain ⟨y1, hy1⟩ : ∃ y, IntKind.i64.wrap x1 = y := ⟨_, rfl⟩
        obtain ⟨y2, hy2⟩ : ∃ y, IntKind.i64.wrap x2 = y := ⟨_, rfl⟩
        obtain ⟨y3, hy3⟩ : ∃ y, IntKind.i64.wrap x3 = y := ⟨_, rfl⟩
        obtain ⟨y4, hy4⟩ : ∃ y, IntKind.i64.wrap x4 = y := ⟨_, rfl⟩
        obtain ⟨y5, hy5⟩ : ∃ y, IntKind.i64.wrap x5 = y := ⟨_, rfl⟩
        obtain ⟨y6, hy6⟩ : ∃ y, IntKind.i64.wrap x6 = y := ⟨_, rfl⟩
        obtain ⟨y7, hy7⟩ : ∃ y, IntKind.i64.wrap x7 = y := ⟨_, rfl⟩
        have ho := Lib.hid (show opOf [x0, x1, x2, x3, x4, x5, x6, x7] = ⟨y0, y1, y2, y3, y4, y5, y6, false, 0, y7, 0⟩ by rw [← hy0, ← hy1, ← hy2, ← hy3, ← hy4, ← hy5, ← hy6, ← hy7]; rfl)
        obtain ⟨g, hg0, hg, hg2, c0⟩ := HC.out 0 _ rfl
        obtain rfl := hg0
        obtain ⟨_, e1, _, _, c1⟩ := HC.out 1 _ rfl
        cases e1
        obtain ⟨_, e1, _, _, c2⟩ := HC.out 2 _ rfl
        cases e1
        obtain ⟨_, e1, _, _, c3⟩ := HC.out 3 _ rfl
        cases e1
        obtain ⟨_, e1, _, _, c4⟩ := HC.out 4 _ rfl
        cases e1
        obtain ⟨_, e1, _, _, c5⟩ := HC.out 5 _ rfl
        cases e1
        obtain ⟨_, e1, _, _, c6⟩ := HC.out 6 _ rfl
        cases e1
        obtain ⟨_, e1, _, _, c7⟩ := HC.out 7 _ rfl
        cases e1
        have hst : (storeS 29 (.pointer (some ⟨wr.heap.size, 0, none⟩)) (Value.agg #[Value.int .i64 y0, Value.int .i64 y1, Value.int .i64 y2, Value.int .i64 y3, Value.int .i64 y4, Value.int .i64 y5, Value.int .i64 y6, Value.bool false, Value.int .i64 0, Value.int .i64 y7, Value.int .i64 0])).run Tryd.prog (wr.alloc (.cells #[Value.int .i64 0, Value.int .i64 0, Value.int .i64 0, Value.int .i64 0, Value.int .i64 0, Value.int .i64 0, Value.int .i64 0, Value.bool false, Value.int .i64 0, Value.int .i64 0, Value.int .i64 0] 29)).drew = .ok () (wr.drew.alloc (.cells #[Value.int .i64 y0, Value.int .i64 y1, Value.int .i64 y2, Value.int .i64 y3, Value.int .i64 y4, Value.int .i64 y5, Value.int .i64 y6, Value.bool false, Value.int .i64 0, Value.int .i64 y7, Value.int .i64 0] 29)) := store_op_new wr.drew #[Value.int .i64 0, Value.int .i64 0, Value.int .i64 0, Value.int .i64 0, Value.int .i64 0, Value.int .i64 0, Value.int .i64 0, Value.bool false, Value.int .i64 0, Value.int .i64 0, Value.int .i64 0] rfl ⟨y0, y1, y2, y3, y4, y5, y6, false, 0, y7, 0⟩
        have hst2 : (storeS 29 (.pointer (some ⟨wr.heap.size, 0, none⟩)) (Value.agg #[Value.int .i64 y0, Value.int .i64 y1, Value.int .i64 y2, Value.int .i64 y3, Value.int .i64 y4, Value.int .i64 y5, Value.int .i64 y6, Value.bool false, Value.int .i64 0, Value.int .i64 y7, Value.int .i64 0])).run Tryd.prog (wr.drew.alloc (.cells #[Value.int .i64 0, Value.int .i64 0, Value.int .i64 0, Value.int .i64 0, Value.int .i64 0, Value.int .i64 0, Value.int .i64 0, Value.bool false, Value.int .i64 0, Value.int .i64 0, Value.int .i64 0] 29)) = .ok () (wr.drew.alloc (.cells #[Value.int .i64 y0, Value.int .i64 y1, Value.int .i64 y2, Value.int .i64 y3, Value.int .i64 y4, Value.int .i64 y5, Value.int .i64 y6, Value.bool false, Value.int .i64 0, Value.int .i64 y7, Value.int .i64 0] 29)) := store_op_new wr.drew #[Value.int .i64 0, Value.int .i64 0, Value.int .i64 0, Value.int .i64 0, Value.int .i64 0, Value.int .i64 0, Value.int .i64 0, Value.bool false, Value.int .i64 0, Value.int .i64 0, Value.int .i64 0] rfl ⟨y0, y1, y2, y3, y4, y5, y6, false, 0, y7, 0⟩
        have hbw : Below wr.heap.size wr (wr.alloc (.cells #[Value.int .i64 y0, Value.int .i64 y1, Value.int .i64 y2, Value.int .i64 y3, Value.int .i64 y4, Value.int .i64 y5, Value.int .i64 y6, Value.bool false, Value.int .i64 0, Value.int .i64 y7, Value.int .i64 0] 29)).drew := ((Below.refl _ _).alloc (Nat.le_refl _) _).drew
        have oq : OpAt (wr.alloc (.cells #[Value.int .i64 y0, Value.int .i64 y1, Value.int .i64 y2, Value.int .i64 y3, Value.int .i64 y4, Value.int .i64 y5, Value.int .i64 y6, Value.bool false, Value.int .i64 0, Value.int .i64 y7, Value.int .i64 0] 29)).drew wr.heap.size ⟨y0, y1, y2, y3, y4, y5, y6, false, 0, y7, 0⟩ := heap_alloc_new _ _
        obtain ⟨W2, hW2⟩ : ∃ W2, (wr.alloc (.cells #[Value.int .i64 y0, Value.int .i64 y1, Value.int .i64 y2, Value.int .i64 y3, Value.int .i64 y4, Value.int .i64 y5, Value.int .i64 y6, Value.bool false, Value.int .i64 0, Value.int .i64 y7, Value.int .i64 0] 29)).drew = W2 := ⟨_, rfl⟩
        rw [hW2] at hbw oq
        have HB2 := Lib.hid (HB.out.on hbw)
        have Q2 := Lib.hid ((hbw.block _ (heap_inO Q.out)).trans Q.out)
        have OQ := Lib.hid oq
        have HW2 := Lib.hid hW2
        have HG := Lib.hid hg
        have HG2 := Lib.hid hg2
        have hne := Lib.hid (show w.heap.size ≠ wr.heap.size from fun e => by have := heap_inO Q.out; omega)
        clear hg2 hbw oq hW2
        go_wp2_with fail
        go_region_held3 (fun w' => w'.cell? ⟨g, 0, none⟩ = some (.int .u64 x0) ∧ w'.cell? ⟨g, 1, none⟩ = some (.int .u64 x1) ∧ w'.cell? ⟨g, 2, none⟩ = some (.int .u64 x2) ∧ w'.cell? ⟨g, 3, none⟩ = some (.int .u64 x3) ∧ w'.cell? ⟨g, 4, none⟩ = some (.int .u64 x4) ∧ w'.cell? ⟨g, 5, none⟩ = some (.int .u64 x5) ∧ w'.cell? ⟨g, 6, none⟩ = some (.int .u64 x6) ∧ w'.cell? ⟨g, 7, none⟩ = some (.int .u64 x7)) (go_keep) (fail)
        rw [HW2.out]
        rename_i hheld
        clear hheld hst hst2 c0 c1 c2 c3 c4 c5 c6 c7 hy0 hy1 hy2 hy3 hy4 hy5 hy6 hy7
        have l2 := OQ.out.load
        dsimp only at l2
        have OA4 := OQ
        have HB4 := HB2
        have Q4 := Q2
        go_wp2_with fail
        clear l2
        refine (rcheck_any ⟨y0, y1, y2, y3, y4, y5, y6, false, 0, y7, 0⟩ _).mono ?_
        rintro _ w4 ⟨rfl, hb4⟩
        have HB5 := Lib.hid (HB4.out.on hb4)
        have Q5 := Lib.hid ((hb4.block _ (heap_inO Q4.out)).trans Q4.out)
        have l5 := (OA4.out.on hb4).load
        dsimp only at l5
        clear hb4
        by_cases hz0 : checkZ ⟨y0, y1, y2, y3, y4, y5, y6, false, 0, y7, 0⟩ = 0
        · have HZ := Lib.hid hz0
          have FI := Lib.hid (of_yes ho.out (by first | exact .inl rfl | exact .inr rfl) hz0)
          rw [hz0]
          clear hz0
          obtain ⟨W5, hs5, q5, hb5⟩ := put_op Q5.out rfl HB5.out ⟨y0, y1, y2, y3, y4, y5, y6, false, 0, y7, 0⟩
          dsimp only at hs5 q5
          have HB6 := Lib.hid hb5
          have Q6 := Lib.hid q5
          clear hb5 q5
          go_wp2_with fail
          have q6 := Q6.out
          refine bodyPost_ret (v := .tuple #[Value.agg #[Value.int .i64 y0, Value.int .i64 y1, Value.int .i64 y2, Value.int .i64 y3, Value.int .i64 y4, Value.int .i64 y5, Value.int .i64 y6, Value.bool false, Value.int .i64 0, Value.int .i64 y7, Value.int .i64 0], .int .i64 0]) (by simp [results, Tryd.results17, go_sem, cell_of_row _ _ _ _ _ _ q6]) rfl ?_
          exact ⟨by rw [FIN.out, FI.out]; rfl, HB6.out⟩
        · obtain ⟨zz, hzz⟩ : ∃ q, checkZ ⟨y0, y1, y2, y3, y4, y5, y6, false, 0, y7, 0⟩ = q := ⟨_, rfl⟩
          have FI := Lib.hid (of_no ho.out hz0)
          rw [hzz] at hz0 ⊢
          have hz1 : (zz == 0) = false := beq_eq_false_iff_ne.2 hz0
          clear hz0 hzz l5
          obtain ⟨W5, hs5, q5, hb5⟩ := put_op Q5.out rfl HB5.out ⟨0, 0, 0, 0, 0, 0, 0, false, 0, 0, 0⟩
          dsimp only at hs5 q5
          have HB6 := Lib.hid hb5
          have Q6 := Lib.hid q5
          clear hb5 q5
          go_wp2_with fail
          have q6 := Q6.out
          refine bodyPost_ret (v := .tuple #[Value.agg #[Value.int .i64 0, Value.int .i64 0, Value.int .i64 0, Value.int .i64 0, Value.int .i64 0, Value.int .i64 0, Value.int .i64 0, Value.bool false, Value.int .i64 0, Value.int .i64 0, Value.int .i64 0], .int .i64 14]) (by simp [results, Tryd.results17, go_sem, cell_of_row _ _ _ _ _ _ q6]) rfl ?_
          exact ⟨by rw [FIN.out, FI.out]; rfl, HB6.out⟩
      · by_cases h10 : L.length = 10
        · obtain ⟨x0, x1, x2, x3, x4, x5, x6, x7, x8, x9, rfl⟩ := list10 h10
          clear h8 h10
          obtain ⟨y0, hy0⟩ : ∃ y, IntKind.i64.wrap x0 = y := ⟨_, rfl⟩
          obtain ⟨y1, hy1⟩ : ∃ y, IntKind.i64.wrap x1 = y := ⟨_, rfl⟩
          obtain ⟨y2, hy2⟩ : ∃ y, IntKind.i64.wrap x2 = y := ⟨_, rfl⟩
          obtain ⟨y3, hy3⟩ : ∃ y, IntKind.i64.wrap x3 = y := ⟨_, rfl⟩
          obtain ⟨y4, hy4⟩ : ∃ y, IntKind.i64.wrap x4 = y := ⟨_, rfl⟩
          obtain ⟨y5, hy5⟩ : ∃ y, IntKind.i64.wrap x5 = y := ⟨_, rfl⟩
          obtain ⟨y6, hy6⟩ : ∃ y, IntKind.i64.wrap x6 = y := ⟨_, rfl⟩
          obtain ⟨y7, hy7⟩ : ∃ y, IntKind.i64.wrap x7 = y := ⟨_, rfl⟩
          obtain ⟨y8, hy8⟩ : ∃ y, IntKind.i64.wrap x8 = y := ⟨_, rfl⟩
          obtain ⟨z, hz⟩ : ∃ y, IntKind.i64.wrap (y7 + y8) = y := ⟨_, rfl⟩
          obtain ⟨u, hu⟩ : ∃ y, unfoldZ x9 = y := ⟨_, rfl⟩
          have hx9 := HX.out x9 (by simp)
          have ho := Lib.hid (show opOf [x0, x1, x2, x3, x4, x5, x6, x7, x8, x9] = ⟨y0, y1, y2, y3, y4, y5, y6, true, u, y7, z⟩ by rw [← hz, ← hu, ← hy0, ← hy1, ← hy2, ← hy3, ← hy4, ← hy5, ← hy6, ← hy7, ← hy8]; rfl)
          have HU := Lib.hid hu
          clear hu
          obtain ⟨g, hg0, hg, hg2, c0⟩ := HC.out 0 _ rfl
          obtain rfl := hg0
          obtain ⟨_, e1, _, _, c1⟩ := HC.out 1 _ rfl
          cases e1
          obtain ⟨_, e1, _, _, c2⟩ := HC.out 2 _ rfl
          cases e1
          obtain ⟨_, e1, _, _, c3⟩ := HC.out 3 _ rfl
          cases e1
          obtain ⟨_, e1, _, _, c4⟩ := HC.out 4 _ rfl
          cases e1
          obtain ⟨_, e1, _, _, c5⟩ := HC.out 5 _ rfl
          cases e1
          obtain ⟨_, e1, _, _, c6⟩ := HC.out 6 _ rfl
          cases e1
          obtain ⟨_, e1, _, _, c7⟩ := HC.out 7 _ rfl
          cases e1
          obtain ⟨_, e1, _, _, c8⟩ := HC.out 8 _ rfl
          cases e1
          obtain ⟨_, e1, _, _, c9⟩ := HC.out 9 _ rfl
          cases e1
          have hst : (storeS 29 (.pointer (some ⟨wr.heap.size, 0, none⟩)) (Value.agg #[Value.int .i64 y0, Value.int .i64 y1, Value.int .i64 y2, Value.int .i64 y3, Value.int .i64 y4, Value.int .i64 y5, Value.int .i64 y6, Value.bool false, Value.int .i64 0, Value.int .i64 y7, Value.int .i64 0])).run Tryd.prog (wr.alloc (.cells #[Value.int .i64 0, Value.int .i64 0, Value.int .i64 0, Value.int .i64 0, Value.int .i64 0, Value.int .i64 0, Value.int .i64 0, Value.bool false, Value.int .i64 0, Value.int .i64 0, Value.int .i64 0] 29)).drew = .ok () (wr.drew.alloc (.cells #[Value.int .i64 y0, Value.int .i64 y1, Value.int .i64 y2, Value.int .i64 y3, Value.int .i64 y4, Value.int .i64 y5, Value.int .i64 y6, Value.bool false, Value.int .i64 0, Value.int .i64 y7, Value.int .i64 0] 29)) := store_op_new wr.drew #[Value.int .i64 0, Value.int .i64 0, Value.int .i64 0, Value.int .i64 0, Value.int .i64 0, Value.int .i64 0, Value.int .i64 0, Value.bool false, Value.int .i64 0, Value.int .i64 0, Value.int .i64 0] rfl ⟨y0, y1, y2, y3, y4, y5, y6, false, 0, y7, 0⟩
          have hst2 : (storeS 29 (.pointer (some ⟨wr.heap.size, 0, none⟩)) (Value.agg #[Value.int .i64 y0, Value.int .i64 y1, Value.int .i64 y2, Value.int .i64 y3, Value.int .i64 y4, Value.int .i64 y5, Value.int .i64 y6, Value.bool false, Value.int .i64 0, Value.int .i64 y7, Value.int .i64 0])).run Tryd.prog (wr.drew.alloc (.cells #[Value.int .i64 0, Value.int .i64 0, Value.int .i64 0, Value.int .i64 0, Value.int .i64 0, Value.int .i64 0, Value.int .i64 0, Value.bool false, Value.int .i64 0, Value.int .i64 0, Value.int .i64 0] 29)) = .ok () (wr.drew.alloc (.cells #[Value.int .i64 y0, Value.int .i64 y1, Value.int .i64 y2, Value.int .i64 y3, Value.int .i64 y4, Value.int .i64 y5, Value.int .i64 y6, Value.bool false, Value.int .i64 0, Value.int .i64 y7, Value.int .i64 0] 29)) := store_op_new wr.drew #[Value.int .i64 0, Value.int .i64 0, Value.int .i64 0, Value.int .i64 0, Value.int .i64 0, Value.int .i64 0, Value.int .i64 0, Value.bool false, Value.int .i64 0, Value.int .i64 0, Value.int .i64 0] rfl ⟨y0, y1, y2, y3, y4, y5, y6, false, 0, y7, 0⟩
          have hbw : Below wr.heap.size wr (wr.alloc (.cells #[Value.int .i64 y0, Value.int .i64 y1, Value.int .i64 y2, Value.int .i64 y3, Value.int .i64 y4, Value.int .i64 y5, Value.int .i64 y6, Value.bool false, Value.int .i64 0, Value.int .i64 y7, Value.int .i64 0] 29)).drew := ((Below.refl _ _).alloc (Nat.le_refl _) _).drew
          have oq : OpAt (wr.alloc (.cells #[Value.int .i64 y0, Value.int .i64 y1, Value.int .i64 y2, Value.int .i64 y3, Value.int .i64 y4, Value.int .i64 y5, Value.int .i64 y6, Value.bool false, Value.int .i64 0, Value.int .i64 y7, Value.int .i64 0] 29)).drew wr.heap.size ⟨y0, y1, y2, y3, y4, y5, y6, false, 0, y7, 0⟩ := heap_alloc_new _ _
          obtain ⟨W2, hW2⟩ : ∃ W2, (wr.alloc (.cells #[Value.int .i64 y0, Value.int .i64 y1, Value.int .i64 y2, Value.int .i64 y3, Value.int .i64 y4, Value.int .i64 y5, Value.int .i64 y6, Value.bool false, Value.int .i64 0, Value.int .i64 y7, Value.int .i64 0] 29)).drew = W2 := ⟨_, rfl⟩
          rw [hW2] at hbw oq
          have HB2 := Lib.hid (HB.out.on hbw)
          have Q2 := Lib.hid ((hbw.block _ (heap_inO Q.out)).trans Q.out)
          have d8 := Lib.hid ((hbw.cell (p := ⟨g, 8, none⟩) hg).trans c8)
          have d9 := Lib.hid ((hbw.cell (p := ⟨g, 9, none⟩) hg).trans c9)
          clear c8 c9
          have OQ := Lib.hid oq
          have HW2 := Lib.hid hW2
          have HG := Lib.hid hg
          have HG2 := Lib.hid hg2
          have hne := Lib.hid (show w.heap.size ≠ wr.heap.size from fun e => by have := heap_inO Q.out; omega)
          clear hg2 hbw oq hW2
          go_wp2_with fail
          go_region_held3 (fun w' => w'.cell? ⟨g, 0, none⟩ = some (.int .u64 x0) ∧ w'.cell? ⟨g, 1, none⟩ = some (.int .u64 x1) ∧ w'.cell? ⟨g, 2, none⟩ = some (.int .u64 x2) ∧ w'.cell? ⟨g, 3, none⟩ = some (.int .u64 x3) ∧ w'.cell? ⟨g, 4, none⟩ = some (.int .u64 x4) ∧ w'.cell? ⟨g, 5, none⟩ = some (.int .u64 x5) ∧ w'.cell? ⟨g, 6, none⟩ = some (.int .u64 x6) ∧ w'.cell? ⟨g, 7, none⟩ = some (.int .u64 x7)) (go_keep) (fail)
          rw [HW2.out]
          rename_i hheld
          clear hheld hst hst2 c0 c1 c2 c3 c4 c5 c6 c7 hy0 hy1 hy2 hy3 hy4 hy5 hy6 hy7
          obtain ⟨_, _, _, _, _, _, _, _, _, k9, _⟩ := OQ.out.cell
          have e8 := d8.out
          have e9 := d9.out
          have hwn : W2.heap.size ≠ 0 := fun e => by have := HB2.out.size; have := heap_inO Q2.out; omega
          clear hwn
          have UC := Lib.hid (fun W => runfold_any x9 W hx9.1 hx9.2)
          have f7 : W2.frozen? ⟨wr.heap.size, 7, none⟩ = false := by unfold World.frozen?; rw [show W2.heap[wr.heap.size]? = _ from OQ.out]; rfl
          have f8 : W2.frozen? ⟨wr.heap.size, 8, none⟩ = false := by unfold World.frozen?; rw [show W2.heap[wr.heap.size]? = _ from OQ.out]; rfl
          have f10 : W2.frozen? ⟨wr.heap.size, 10, none⟩ = false := by unfold World.frozen?; rw [show W2.heap[wr.heap.size]? = _ from OQ.out]; rfl
          obtain ⟨_, _, _, _, _, _, _, k7, k8, _, k10⟩ := OQ.out.cell
          have hng := Lib.hid (show g ≠ wr.heap.size from fun e => by have := HG.out; omega)
          have o3 : OpAt (((W2.setCell ⟨wr.heap.size, 7, none⟩ (.bool true)).setCell ⟨wr.heap.size, 10, none⟩ (.int .i64 z)).setCell ⟨wr.heap.size, 8, none⟩ (.int .i64 u)).drew wr.heap.size ⟨y0, y1, y2, y3, y4, y5, y6, true, u, y7, z⟩ := set3 OQ.out rfl
          have hb3 : Below w.heap.size w (((W2.setCell ⟨wr.heap.size, 7, none⟩ (.bool true)).setCell ⟨wr.heap.size, 10, none⟩ (.int .i64 z)).setCell ⟨wr.heap.size, 8, none⟩ (.int .i64 u)).drew := (keep3 HB2.out HB.out.size).drew
          have q3 : ((((W2.setCell ⟨wr.heap.size, 7, none⟩ (.bool true)).setCell ⟨wr.heap.size, 10, none⟩ (.int .i64 z)).setCell ⟨wr.heap.size, 8, none⟩ (.int .i64 u)).drew).heap[w.heap.size]? = _ := far3 Q2.out hne.out
          obtain ⟨W3, hW3⟩ : ∃ W3, (((W2.setCell ⟨wr.heap.size, 7, none⟩ (.bool true)).setCell ⟨wr.heap.size, 10, none⟩ (.int .i64 z)).setCell ⟨wr.heap.size, 8, none⟩ (.int .i64 u)).drew = W3 := ⟨_, rfl⟩
          rw [hW3] at o3 hb3 q3
          have OA4 := Lib.hid o3
          have HB4 := Lib.hid hb3
          have Q4 := Lib.hid q3
          have HW3 := Lib.hid hW3
          clear o3 hb3 q3 hW3
          have hng2 := hng.out
          have hng3 := Ne.symm hng2
          go_wp2_with fail
          go_region_held3 (fun w' => w'.cell? ⟨wr.heap.size, 9, none⟩ = some (.int .i64 y7) ∧ w'.cell? ⟨g, 8, none⟩ = some (.int .u64 x8) ∧ w'.cell? ⟨g, 9, none⟩ = some (.int .u64 x9)) (simp [*, World.cell?_setCell_far, cell_set_off]) (first | (go_at_call 35; refine (UC.out _).mono ?_; rintro _ _ ⟨rfl, rfl⟩))
          rw [HU.out, HW3.out]
          rename_i hheld
          clear hheld e8 e9 hng2 hng3 f7 f8 f10 k7 k8 k9 k10
          have l3 := OA4.out.load
          dsimp only at l3
          go_wp2_with fail
          clear l3
          refine (rcheck_any ⟨y0, y1, y2, y3, y4, y5, y6, true, u, y7, z⟩ _).mono ?_
          rintro _ w4 ⟨rfl, hb4⟩
          have HB5 := Lib.hid (HB4.out.on hb4)
          have Q5 := Lib.hid ((hb4.block _ (heap_inO Q4.out)).trans Q4.out)
          have l5 := (OA4.out.on hb4).load
          dsimp only at l5
          clear hb4
          by_cases hz0 : checkZ ⟨y0, y1, y2, y3, y4, y5, y6, true, u, y7, z⟩ = 0
          · have HZ := Lib.hid hz0
            have FI := Lib.hid (of_yes ho.out (by first | exact .inl rfl | exact .inr rfl) hz0)
            rw [hz0]
            clear hz0
            obtain ⟨W5, hs5, q5, hb5⟩ := put_op Q5.out rfl HB5.out ⟨y0, y1, y2, y3, y4, y5, y6, true, u, y7, z⟩
            dsimp only at hs5 q5
            have HB6 := Lib.hid hb5
            have Q6 := Lib.hid q5
            clear hb5 q5
            go_wp2_with fail
            have q6 := Q6.out
            refine bodyPost_ret (v := .tuple #[Value.agg #[Value.int .i64 y0, Value.int .i64 y1, Value.int .i64 y2, Value.int .i64 y3, Value.int .i64 y4, Value.int .i64 y5, Value.int .i64 y6, Value.bool true, Value.int .i64 u, Value.int .i64 y7, Value.int .i64 z], .int .i64 0]) (by simp [results, Tryd.results17, go_sem, cell_of_row _ _ _ _ _ _ q6]) rfl ?_
            exact ⟨by rw [FIN.out, FI.out]; rfl, HB6.out⟩
          · obtain ⟨zz, hzz⟩ : ∃ q, checkZ ⟨y0, y1, y2, y3, y4, y5, y6, true, u, y7, z⟩ = q := ⟨_, rfl⟩
            have FI := Lib.hid (of_no ho.out hz0)
            rw [hzz] at hz0 ⊢
            have hz1 : (zz == 0) = false := beq_eq_false_iff_ne.2 hz0
            clear hz0 hzz l5
            obtain ⟨W5, hs5, q5, hb5⟩ := put_op Q5.out rfl HB5.out ⟨0, 0, 0, 0, 0, 0, 0, false, 0, 0, 0⟩
            dsimp only at hs5 q5
            have HB6 := Lib.hid hb5
            have Q6 := Lib.hid q5
            clear hb5 q5
            go_wp2_with fail
            have q6 := Q6.out
            refine bodyPost_ret (v := .tuple #[Value.agg #[Value.int .i64 0, Value.int .i64 0, Value.int .i64 0, Value.int .i64 0, Value.int .i64 0, Value.int .i64 0, Value.int .i64 0, Value.bool false, Value.int .i64 0, Value.int .i64 0, Value.int .i64 0], .int .i64 14]) (by simp [results, Tryd.results17, go_sem, cell_of_row _ _ _ _ _ _ q6]) rfl ?_
            exact ⟨by rw [FIN.out, FI.out]; rfl, HB6.out⟩
        · have FI := Lib.hid (FIN.out.trans (other_no (l := L) (by omega)))
          have FIN := FI
          have h8' : ((L.length : Int) != 8) = true := bne_iff_ne.2 (by omega)
          have h10' : ((L.length : Int) != 10) = true := bne_iff_ne.2 (by omega)
          obtain ⟨W5, hs5, q5, hb5⟩ := put_op Q.out rfl HB.out ⟨0, 0, 0, 0, 0, 0, 0, false, 0, 0, 0⟩
          dsimp only at hs5 q5
          have HB6 := Lib.hid hb5
          have Q6 := Lib.hid q5
          clear hb5 q5
          go_wp2_with fail
          have q6 := Q6.out
          refine bodyPost_ret (v := .tuple #[Value.agg #[Value.int .i64 0, Value.int .i64 0, Value.int .i64 0, Value.int .i64 0, Value.int .i64 0, Value.int .i64 0, Value.int .i64 0, Value.bool false, Value.int .i64 0, Value.int .i64 0, Value.int .i64 0], .int .i64 14]) (by simp [results, Tryd.results17, go_sem, cell_of_row _ _ _ _ _ _ q6]) rfl ?_
          exact ⟨by rw [FIN.out]; rfl, HB6.out⟩
    · have ht0 : (0 : Int) < t.size := by omega
      have ht1 : 0 < t.size := by omega
      have HH := Lib.hid h0
      clear h0
      by_cases hten : L.length ≤ 10
      · obtain ⟨n, hn⟩ : ∃ n, (unvarP t).1 = n := ⟨_, rfl⟩
        obtain ⟨k, hk⟩ : ∃ k, (unvarP t).2 = k := ⟨_, rfl⟩
        have HU := Lib.hid (show unvarP t = (n, k) by rw [← hn, ← hk])
        obtain ⟨f, hf⟩ : ∃ f, 11 - L.length = f + 1 := ⟨11 - L.length - 1, by omega⟩
        have HFL := Lib.hid hf
        rw [hf] at HP
        have hten' : (L.length : Int) ≤ 10 := by omega
        have HNN := Lib.hid hn
        have HKK := Lib.hid hk
        clear hn hk hf
        have HUC := Lib.hid (runvar_any t (by unfold maxLen; omega))
        by_cases hk0 : k = 0
        · have FIN := Lib.hid (show decZ s = none by rw [ref_dec, HP.out, refP_bad f HH.out (by rw [HKK.out]; exact hk0)]; rfl)
          subst hk0
          go_wp2_with fail
          refine (HUC.out _).mono ?_
          rintro _ w1 ⟨rfl, hb1⟩
          rw [HU.out]
          have HB1 := Lib.hid (HB.out.on hb1)
          have Q1 := Lib.hid ((hb1.block _ (heap_inO Q.out)).trans Q.out)
          clear hb1
          obtain ⟨W5, hs5, q5, hb5⟩ := put_op Q1.out rfl HB1.out ⟨0, 0, 0, 0, 0, 0, 0, false, 0, 0, 0⟩
          dsimp only at hs5 q5
          have HB6 := Lib.hid hb5
          have Q6 := Lib.hid q5
          clear hb5 q5
          go_wp2_with fail
          have q6 := Q6.out
          refine bodyPost_ret (v := .tuple #[Value.agg #[Value.int .i64 0, Value.int .i64 0, Value.int .i64 0, Value.int .i64 0, Value.int .i64 0, Value.int .i64 0, Value.int .i64 0, Value.bool false, Value.int .i64 0, Value.int .i64 0, Value.int .i64 0], .int .i64 14]) (by simp [results, Tryd.results17, go_sem, cell_of_row _ _ _ _ _ _ q6]) rfl ?_
          exact ⟨by rw [FIN.out]; rfl, HB6.out⟩
        · obtain ⟨⟨n0, n1⟩, ⟨k0, k1, k2⟩, _, _⟩ := unvar_forth HU.out hk0
          have hk0' : (k == 0) = false := beq_eq_false_iff_ne.2 hk0
          by_cases hbig : 1099511627776 < n
          · have FIN := Lib.hid (show decZ s = none by rw [ref_dec, HP.out, refP_big f HH.out (by rw [HNN.out]; exact hbig)]; rfl)
            clear hk0
            go_wp2_with fail
            refine (HUC.out _).mono ?_
            rintro _ w1 ⟨rfl, hb1⟩
            rw [HU.out]
            have HB1 := Lib.hid (HB.out.on hb1)
            have Q1 := Lib.hid ((hb1.block _ (heap_inO Q.out)).trans Q.out)
            clear hb1
            obtain ⟨W5, hs5, q5, hb5⟩ := put_op Q1.out rfl HB1.out ⟨0, 0, 0, 0, 0, 0, 0, false, 0, 0, 0⟩
            dsimp only at hs5 q5
            have HB6 := Lib.hid hb5
            have Q6 := Lib.hid q5
            clear hb5 q5
            go_wp2_with fail
            have q6 := Q6.out
            refine bodyPost_ret (v := .tuple #[Value.agg #[Value.int .i64 0, Value.int .i64 0, Value.int .i64 0, Value.int .i64 0, Value.int .i64 0, Value.int .i64 0, Value.int .i64 0, Value.bool false, Value.int .i64 0, Value.int .i64 0, Value.int .i64 0], .int .i64 14]) (by simp [results, Tryd.results17, go_sem, cell_of_row _ _ _ _ _ _ q6]) rfl ?_
            exact ⟨by rw [FIN.out]; rfl, HB6.out⟩
          · have HN := Lib.hid (show refP 11 s = (refP f (t.extract k.toNat t.size)).map fun x => (L ++ [n]) ++ x by
              rw [HP.out, refP_go f HH.out (by rw [HKK.out]; exact hk0) (by rw [HNN.out]; exact hbig), HNN.out, HKK.out, Option.map_map]
              congr 1
              funext x
              simp)
            have HSM := Lib.hid (show (t.extract k.toNat t.size).size < t.size by rw [ByteArray.size_extract]; have := HH.out; omega)
            clear hk0
            go_wp2_with fail
            refine (HUC.out _).mono ?_
            rintro _ w1 ⟨rfl, hb1⟩
            rw [HU.out]
            obtain ⟨g, cap2, w2, p1, p2, _, p3⟩ := row_pushU (ownsRow_onU HV.out hb1) (Nat.le_trans HBL.out.size hb1.size) (by omega) n L.length rfl
            have P2 := Lib.hid p2
            have P3 := Lib.hid ((HBL.out.on hb1).trans p3)
            clear p2 p3 hb1
            go_wp2
            go_roundw
            case rel => exact ⟨L ++ [n], _, rfl, by simp; omega, by have := HSM.out; omega, P2.out, by rw [List.length_append, List.length_singleton, show 11 - (L.length + 1) = f by have := HFL.out; omega]; exact HN.out, fun m hm => by
              rcases List.mem_append.1 hm with hm | hm
              · exact HX.out m hm
              · rw [List.mem_singleton.1 hm]; exact ⟨n0, n1⟩, P3.out⟩
            case measure => exact HSM.out
      · have FIN := Lib.hid (show decZ s = none by rw [ref_dec, HP.out, show 11 - L.length = 0 by omega]; simpa [refP] using other_no (l := L) (by omega))
        have hten' : ¬ (L.length : Int) ≤ 10 := by omega
        have h8' : ((L.length : Int) != 8) = true := bne_iff_ne.2 (by omega)
        have h10' : ((L.length : Int) != 10) = true := bne_iff_ne.2 (by omega)
        obtain ⟨W5, hs5, q5, hb5⟩ := put_op Q.out rfl HB.out ⟨0, 0, 0, 0, 0, 0, 0, false, 0, 0, 0⟩
        dsimp only at hs5 q5
        have HB6 := Lib.hid hb5
        have Q6 := Lib.hid q5
        clear hb5 q5
        go_wp2_with fail
        have q6 := Q6.out
        refine bodyPost_ret (v := .tuple #[Value.agg #[Value.int .i64 0, Value.int .i64 0, Value.int .i64 0, Value.int .i64 0, Value.int .i64 0, Value.int .i64 0, Value.int .i64 0, Value.bool false, Value.int .i64 0, Value.int .i64 0, Value.int .i64 0], .int .i64 14]) (by simp [results, Tryd.results17, go_sem, cell_of_row _ _ _ _ _ _ q6]) rfl ?_
        exact ⟨by rw [FIN.out]; rfl, HB6.out⟩
end Go.Proofs.YthgibogdbbebaaaDoor
