/- Package order: the law's example. -/
import Derived.Test.YtppjmmdiglnkfaaQbn
import Derived.Test.YtppjmmdiglnkfaaQam
namespace Go.Proofs.Ytppjmmdiglnkfaa
set_option maxRecDepth 100000
open Go.ChangeShapes Go.WideShapes Go.ChangeAt Go.RowKit Go.PlainAid Go.Deep
namespace Od
open Ln Cu
def eP : OpV := ⟨5, 0, 0, 1, 2, 1, 0, true, 0, 0, 9⟩
def eQ : OpV := ⟨9, 0, 0, 1, 1, 0, 0, true, 0, 1, 8⟩
def eL : List OpV := [eP, eQ]
theorem e_bef (i k : Nat) : befP eL i k = false := by
  unfold befP eL
  match i, k with
  | 0, 0 => simp [befB, eP]
  | 0, 1 => simp [befB, eP, eQ]
  | 1, 0 => simp [befB, eP, eQ]
  | 1, 1 => simp [befB, eP, eQ]
  | 0, k + 2 => simp
  | 1, k + 2 => simp
  | i + 2, 0 => simp
  | i + 2, 1 => simp
  | i + 2, k + 2 => simp
theorem e_may (m i : Nat) : mayB eL m i = (decide (i < 2) && !m.testBit i) := by
  cases h : mayB eL m i with
  | true =>
    obtain ⟨h1, h2, _⟩ := may_iff.1 h
    have : i < 2 := h1
    simp [this, h2]
  | false =>
    by_cases c : i < 2
    · cases c2 : m.testBit i with
      | true => simp
      | false =>
        have := may_iff.2 (show i < eL.length ∧ m.testBit i = false ∧ ∀ k, befP eL i k = true → m.testBit k = true from ⟨c, c2, fun k hk => by rw [e_bef] at hk; cases hk⟩)
        rw [h] at this
        cases this
    · simp [c]
theorem e_exit (m : Nat) : exitB eL m = (m.testBit 0 && m.testBit 1) := by
  cases h : exitB eL m with
  | true =>
    have := exit_iff.1 h
    simp [this 0 rfl, this 1 rfl]
  | false =>
    cases c : (m.testBit 0 && m.testBit 1) with
    | false => rfl
    | true =>
      have c := (Bool.and_eq_true _ _).mp c
      have := exit_iff.2 (show ∀ k, doneP eL k = true → m.testBit k = true from fun k hk => by
        match k, hk with
        | 0, _ => exact c.1
        | 1, _ => exact c.2
        | k + 2, hk => simp [doneP, eL] at hk)
      rw [h] at this; cases this
theorem e_stP (x : Int) : stepC eP [x] = ([1], true) := by simp [stepC, doC, regC, eP]
theorem e_stQ (x : Int) : (stepC eQ [x]).2 = decide (x = 0) ∧ (x = 0 → (stepC eQ [x]).1 = [x]) := by
  by_cases c : x = 0
  · simp [stepC, doC, regC, eQ, c]
  · simp [stepC, doC, regC, eQ, c]
theorem e_step0 (m : Nat) (x : Int) : stepP eL (0, m, [x]) 0 = if m.testBit 0 = false then some (0, m ||| 2 ^ 0, [1]) else none := by
  unfold stepP nx1
  rw [e_may]
  cases m.testBit 0 <;> simp [eL, stO, e_stP]
theorem e_step1 (m : Nat) (x : Int) : stepP eL (0, m, [x]) 1 = if m.testBit 1 = false ∧ x = 0 then some (0, m ||| 2 ^ 1, [x]) else none := by
  unfold stepP nx1
  rw [e_may]
  have h := e_stQ x
  by_cases d : x = 0
  · have h1 := h.1
    have h2 := h.2 d
    simp only [d, decide_true] at h1 h2
    cases m.testBit 1 <;> simp [eL, stO, d, h1, h2]
  · have h1 := h.1
    simp only [d, decide_false] at h1
    cases m.testBit 1 <;> simp [eL, stO, d, h1]
theorem e_run : (runO 99 [eL] 1).1.seen.length = 4 ∧ (runO 99 [eL] 1).1.back = [5, 9] ∧ (runO 99 [eL] 1).2 = true := by
  have hf : firstC 1 = [0] := by simp [firstC]
  have hp : pieceAt [eL] 0 = eL := rfl
  have hr : List.range' 0 eL.length = [0, 1] := rfl
  have hm : muR [eL] + 1 = 4 := rfl
  unfold runO
  rw [hf, hm]
  have a1 : endsF 99 [eL] 2 ⟨[], [(0, 1, [1]), (0, 0, [0])], []⟩ (0, 1, [1]) = endsF 99 [eL] 2 ⟨[], [(0, 1, [1]), (0, 0, [0])], []⟩ (0, 1, [1]) := rfl
  have b1 : endsF 99 [eL] 3 ⟨[], [(0, 0, [0])], []⟩ (0, 1, [1]) = (⟨[(0, 1, [1])], [(0, 1, [1]), (0, 0, [0])], []⟩, false) := by
    rw [ends_go (by decide) (by simp) (by rw [hp, e_exit]; rfl), hp, hr]
    rw [goL_skip (by simp [Stt.meet]) (by rw [e_step0]; rfl), goL_skip (by simp [Stt.meet]) (by rw [e_step1]; simp)]
    rfl
  have b2 : endsF 99 [eL] 3 ⟨[(0, 1, [1])], [(0, 1, [1]), (0, 0, [0])], []⟩ (0, 2, [0]) = (⟨[(0, 1, [1])], [(0, 3, [1]), (0, 2, [0]), (0, 1, [1]), (0, 0, [0])], [5]⟩, true) := by
    have c1 : endsF 99 [eL] 2 ⟨[(0, 1, [1])], [(0, 2, [0]), (0, 1, [1]), (0, 0, [0])], []⟩ (0, 3, [1]) = (⟨[(0, 1, [1])], [(0, 3, [1]), (0, 2, [0]), (0, 1, [1]), (0, 0, [0])], []⟩, true) := by
      rw [ends_up (by decide) (by simp) (by rw [hp, e_exit]; rfl), ends_end rfl]
      rfl
    rw [ends_go (by decide) (by simp) (by rw [hp, e_exit]; rfl), hp, hr]
    rw [goL_yes (y := (0, 3, [1])) (by simp [Stt.meet]) (by rw [e_step0]; rfl) (by show (endsF 99 [eL] 2 ⟨[(0, 1, [1])], [(0, 2, [0]), (0, 1, [1]), (0, 0, [0])], []⟩ (0, 3, [1])).2 = true; rw [c1])]
    show tellP _ ({(endsF 99 [eL] 2 ⟨[(0, 1, [1])], [(0, 2, [0]), (0, 1, [1]), (0, 0, [0])], []⟩ (0, 3, [1])).1 with back := (endsF 99 [eL] 2 ⟨[(0, 1, [1])], [(0, 2, [0]), (0, 1, [1]), (0, 0, [0])], []⟩ (0, 3, [1])).1.back ++ [idAt eL 0]}, true) = _
    rw [c1]
    rfl
  have b3 : endsF 99 [eL] 4 ⟨[], [], []⟩ (0, 0, [0]) = (⟨[(0, 1, [1])], [(0, 3, [1]), (0, 2, [0]), (0, 1, [1]), (0, 0, [0])], [5, 9]⟩, true) := by
    rw [ends_go (by decide) (by simp) (by rw [hp, e_exit]; rfl), hp, hr]
    rw [goL_no (y := (0, 1, [1])) (by simp [Stt.meet]) (by rw [e_step0]; rfl) (by show (endsF 99 [eL] 3 ⟨[], [(0, 0, [0])], []⟩ (0, 1, [1])).2 = false; rw [b1])]
    show tellP _ (goL 99 (endsF 99 [eL] 3) eL (0, 0, [0]) [1] (endsF 99 [eL] 3 ⟨[], [(0, 0, [0])], []⟩ (0, 1, [1])).1) = _
    rw [b1]
    rw [goL_yes (y := (0, 2, [0])) (by simp) (by rw [e_step1]; rfl) (by rw [b2]), b2]
    rfl
  rw [b3]
  exact ⟨rfl, rfl, rfl⟩
theorem e_alike : ∀ x ∈ eL, ∀ y ∈ eL, x.id = y.id → x = y := by
  intro x hx y hy hxy
  simp only [eL, List.mem_cons, List.not_mem_nil, or_false] at hx hy
  rcases hx with rfl | rfl <;> rcases hy with rfl | rfl <;> first | rfl | (simp [eP, eQ] at hxy)
theorem e_sorted {S : List OpV} (h : Sorted cfInv eL S) : S = eL :=
  sorted_same (l := eL) e_alike h ⟨List.Perm.refl _, by simp [eL, eP, eQ, ltO, cfInv, cmpZ]⟩
theorem id_same {x y : OpV} (h1 : ltO cfId x y = false) (h2 : ltO cfId y x = false) : x.id = y.id := by
  rw [lt_no, id_lt] at h1 h2
  omega
theorem e_piece {l : List OpV} (h : l.Perm eL) (hs : l.Pairwise fun x y => ltO cfId y x = false) : l = eL :=
  sorted_one h hs (by simp [eL, eP, eQ, ltO, cfId, cmpZ]) fun x y hx hy h1 h2 => e_alike x hx y hy (id_same h1 h2)
theorem e_cut : cutL eL = [eL] := by simp [cutL, cutStep, befB, eL, eP, eQ]
theorem e_least {ids : List Int} {ok : Bool} {z : Int} (h : LeastR ⟨0, 1, eL⟩ 99 ids ok z) : ids = [9, 5] ∧ ok = true ∧ z = 0 := by
  obtain ⟨S, hs, h⟩ := h
  obtain rfl := e_sorted hs
  rw [e_cut] at h
  rcases h with ⟨⟨c, hc, h16⟩, _⟩ | ⟨_, P, ⟨hl, he⟩, h⟩
  · rw [List.mem_singleton.1 hc] at h16
    exact absurd h16 (by decide)
  · obtain rfl : P = [eL] := by
      obtain ⟨l, rfl⟩ := List.length_eq_one_iff.1 hl
      obtain ⟨c, hc, hp, hst⟩ := he 0 l rfl
      obtain rfl : eL = c := by simpa using hc
      rw [e_piece hp hst]
    obtain ⟨r1, r2, r3⟩ := e_run
    have hk : (⟨0, 1, eL⟩ : SegV).kind = 1 := rfl
    rw [hk] at h
    rcases h with ⟨h, _⟩ | ⟨_, h1, h2, h3⟩
    · rw [r1] at h
      exact absurd h (by decide)
    · rw [r2] at h2
      rw [r3] at h3
      exact ⟨h2, h3, h1⟩
theorem e_wf : ∀ o ∈ eL, o.Wf := by
  intro x hx
  simp only [eL, List.mem_cons, List.not_mem_nil, or_false] at hx
  rcases hx with rfl | rfl <;> constructor <;> simp [eP, eQ]
theorem e_runs1 : (runsC [eQ, eP] (firstC 1)).2 = true := by
  have h := e_stQ 0
  have hf : firstC 1 = [0] := by simp [firstC]
  rw [hf, runsC, if_pos (by rw [h.1]; rfl), h.2 rfl, runsC, if_pos (by rw [e_stP]), runsC]
theorem e_runs2 : (runsC [eP, eQ] (firstC 1)).2 = false := by
  have h := e_stQ 1
  have hf : firstC 1 = [0] := by simp [firstC]
  rw [hf, runsC, if_pos (by rw [e_stP]), e_stP, runsC, if_neg (by rw [h.1]; decide)]
theorem ints_two (W : World) (x y : Int) (hx : -9223372036854775808 ≤ x ∧ x ≤ 9223372036854775807) (hy : -9223372036854775808 ≤ y ∧ y ≤ 9223372036854775807) : IntsOf (W.alloc (.cells #[.int .i64 x, .int .i64 y] 3)) (.slice (some ⟨W.heap.size, 0, none⟩) 2 2) [x, y] :=
  (OwnI.new (n₀ := 0) W (Nat.zero_le _) [x, y] (by simp) (fun z hz => by
    simp only [List.mem_cons, List.not_mem_nil, or_false] at hz
    rcases hz with rfl | rfl
    · exact hx
    · exact hy)).reads
set_option maxHeartbeats 4000000 in
theorem awake_any (w : World) : Calls Try.prog 9 #[] w fun e w' => e = .returned (.bool true) ∧ Below w.heap.size w w' := by
  have ho0 : OpsOf (w.alloc (.cells (flatO eL).toArray 43)) (.slice (some ⟨w.heap.size, 0, none⟩) 2 2) eL := RowO.reads (heap_alloc_new w _) (by rfl) e_wf
  have hbA : Below w.heap.size w ((w.alloc (.cells (flatO eL).toArray 43)).alloc (.cells #[.int .i64 0, .int .i64 1, .slice (some ⟨w.heap.size, 0, none⟩) 2 2] 24)) := by go_grown
  have hbB : Below (w.alloc (.cells (flatO eL).toArray 43)).heap.size (w.alloc (.cells (flatO eL).toArray 43)) ((w.alloc (.cells (flatO eL).toArray 43)).alloc (.cells #[.int .i64 0, .int .i64 1, .slice (some ⟨w.heap.size, 0, none⟩) 2 2] 24)) := by go_grown
  have hx := heap_alloc_new (w.alloc (.cells (flatO eL).toArray 43)) (.cells #[.int .i64 0, .int .i64 1, .slice (some ⟨w.heap.size, 0, none⟩) 2 2] 24)
  rw [World.size_alloc] at hx
  have ho1 := ho0.on hbB
  obtain ⟨W1, hW1⟩ : ∃ W, (w.alloc (.cells (flatO eL).toArray 43)).alloc (.cells #[.int .i64 0, .int .i64 1, .slice (some ⟨w.heap.size, 0, none⟩) 2 2] 24) = W := ⟨_, rfl⟩
  rw [hW1] at hbA hx ho1
  have HL := Lib.hid (least_any (s := ⟨0, 1, eL⟩) ho1 (by decide) 99 (by omega) 99 (by decide))
  have HO := Lib.hid ho1
  have HX := Lib.hid hx
  have HB := Lib.hid hbA
  have HW := Lib.hid hW1
  clear ho0 hbA hbB hx ho1 hW1
  go_enter Try.func9, Try.ntmps9
  go_wp2_with fail
  have he : (w.alloc (.cells #[.int .i64 5, .int .i64 0, .int .i64 0, .int .i64 1, .int .i64 2, .int .i64 1, .int .i64 0, .bool true, .int .i64 0, .int .i64 0, .int .i64 9, .int .i64 9, .int .i64 0, .int .i64 0, .int .i64 1, .int .i64 1, .int .i64 0, .int .i64 0, .bool true, .int .i64 0, .int .i64 1, .int .i64 8] 43)).alloc (.cells #[.int .i64 0, .int .i64 1, .slice (some ⟨w.heap.size, 0, none⟩) 2 2] 24) = W1 := HW.out
  rw [he]
  refine HL.out.mono ?_
  rintro _ w2 ⟨vi, ok, z, rfl, ids, hr, hoi, hb2⟩
  obtain ⟨rfl, rfl, rfl⟩ := e_least hr
  have hx2 := (hb2.block _ (heap_inO HX.out)).trans HX.out
  have HO2 := Lib.hid (HO.out.on hb2)
  have HB2 := Lib.hid (HB.out.on hb2)
  have HI := Lib.hid hoi.reads
  obtain ⟨a2, c2, rfl⟩ := hoi.len
  have hbC : Below w2.heap.size w2 (w2.alloc (.cells #[.int .i64 9, .int .i64 5] 3)) := by go_grown
  have HIN := Lib.hid (rints_any _ _ [9, 5] [9, 5] _ (hoi.reads.on hbC) (ints_two w2 9 5 (by omega) (by omega)))
  obtain ⟨W3, hW3⟩ : ∃ W, w2.alloc (.cells #[.int .i64 9, .int .i64 5] 3) = W := ⟨_, rfl⟩
  rw [hW3] at HIN hbC
  have HBC := Lib.hid hbC
  have HX2 := Lib.hid hx2
  clear hr hoi hb2 hx2 HL he HW hbC
  simp only [List.length_cons, List.length_nil, Nat.zero_add, Nat.reduceAdd] at HIN HI ⊢
  go_wp2_with fail
  (first | rw [hW3] | skip)
  clear hW3
  refine HIN.out.mono ?_
  rintro _ w4 ⟨rfl, hb4⟩
  have hb24 := HBC.out.on hb4
  have hx4 := (hb24.block _ (heap_inO HX2.out)).trans HX2.out
  have c0 : w4.cell? ⟨w.heap.size + 1, 0, none⟩ = some (.int .i64 0) := by rw [cell_of_row _ _ _ _ _ _ hx4]; rfl
  have c1 : w4.cell? ⟨w.heap.size + 1, 1, none⟩ = some (.int .i64 1) := by rw [cell_of_row _ _ _ _ _ _ hx4]; rfl
  have c3 : w4.cell? ⟨w.heap.size + 1, 2, none⟩ = some (.slice (some ⟨w.heap.size, 0, none⟩) 2 2) := by rw [cell_of_row _ _ _ _ _ _ hx4]; rfl
  have HV := Lib.hid (valid_two (s := ⟨0, 1, eL⟩) (p := eP) (q := eQ) (a := eQ) (b := eP) rfl (HO2.out.on hb24) (by decide) (.inr ⟨rfl, rfl⟩) (HI.out.on hb24) (fun _ => by simp [befB, eP, eQ]))
  have HB4 := Lib.hid (HB2.out.on hb24)
  have HO4 := Lib.hid (HO2.out.on hb24)
  have HX4 := Lib.hid hx4
  rw [show (⟨0, 1, eL⟩ : SegV).kind = 1 from rfl, e_runs1] at HV
  clear hb4 hb24 hx4 HIN HBC HX2
  go_wp2_with fail
  refine HV.out.mono ?_
  rintro _ w5 ⟨rfl, hb5⟩
  have hx5 := (hb5.block _ (heap_inO HX4.out)).trans HX4.out
  have d0 : w5.cell? ⟨w.heap.size + 1, 0, none⟩ = some (.int .i64 0) := by rw [cell_of_row _ _ _ _ _ _ hx5]; rfl
  have d1 : w5.cell? ⟨w.heap.size + 1, 1, none⟩ = some (.int .i64 1) := by rw [cell_of_row _ _ _ _ _ _ hx5]; rfl
  have d3 : w5.cell? ⟨w.heap.size + 1, 2, none⟩ = some (.slice (some ⟨w.heap.size, 0, none⟩) 2 2) := by rw [cell_of_row _ _ _ _ _ _ hx5]; rfl
  have hbD : Below w5.heap.size w5 (w5.alloc (.cells #[.int .i64 5, .int .i64 9] 3)) := by go_grown
  have HV2 := Lib.hid (valid_two (s := ⟨0, 1, eL⟩) (p := eP) (q := eQ) (a := eP) (b := eQ) rfl ((HO4.out.on hb5).on hbD) (by decide) (.inl ⟨rfl, rfl⟩) (ints_two w5 5 9 (by omega) (by omega)) (fun _ => by simp [befB, eP, eQ]))
  rw [show (⟨0, 1, eL⟩ : SegV).kind = 1 from rfl, e_runs2] at HV2
  have HB5 := Lib.hid ((HB4.out.on hb5).on hbD)
  clear hb5 hx5 hbD c0 c1 c3 HV
  go_wp2_with fail
  refine HV2.out.mono ?_
  rintro _ w6 ⟨rfl, hb6⟩
  have HE := Lib.hid (HB5.out.on hb6)
  clear hb6 HV2 d0 d1 d3
  go_wp2_with fail
  go_returns
  exact ⟨rfl, HE.out⟩
end Od
end Go.Proofs.Ytppjmmdiglnkfaa
