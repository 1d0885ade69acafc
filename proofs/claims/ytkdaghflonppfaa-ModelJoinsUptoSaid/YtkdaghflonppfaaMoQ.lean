/- The chapter's examples hold; a call that only makes memory, in a drawn region. -/
import Derived.Test.YtkdaghflonppfaaMoI
import Derived.Test.YtkdaghflonppfaaMoG
import Derived.Lib.QuietBelow
namespace Go.Proofs.Ytkdaghflonppfaa
set_option maxRecDepth 100000
open Go.ChangeShapes Go.WideShapes Go.ChangeAt Go.RowKit Go.PlainAid Go.Deep

theorem OwnI.two {n₀ : Nat} (W : World) (hn : n₀ ≤ W.heap.size) (x y : Int) (hx : -9223372036854775808 ≤ x ∧ x ≤ 9223372036854775807) (hy : -9223372036854775808 ≤ y ∧ y ≤ 9223372036854775807) : OwnI n₀ (W.alloc (.cells #[.int .i64 x, .int .i64 y] 3)) (.slice (some ⟨W.heap.size, 0, none⟩) 2 2) [x, y] :=
  OwnI.new W hn [x, y] (by simp) (fun z hz => by
    rcases List.mem_cons.1 hz with e | e
    · rw [e]; exact hx
    · rw [List.mem_singleton.1 e]; exact hy)
theorem wf_lit {p a s : Int} {i j k m r v t : Int} {d : Bool} (hp : -9223372036854775808 ≤ p ∧ p ≤ 9223372036854775807) (ha : -9223372036854775808 ≤ a ∧ a ≤ 9223372036854775807) (hs : -9223372036854775808 ≤ s ∧ s ≤ 9223372036854775807) : OpV.Wf ⟨i, p, j, k, m, a, s, d, r, v, t⟩ := ⟨hp, ha, hs⟩
set_option maxHeartbeats 4000000 in
theorem awake_any (w : World) : Calls Try.prog 10 #[] w fun e w' => e = .returned (.bool true) ∧ Below w.heap.size w w' := by
  have h1 : Hid (doC ⟨0, 0, 0, 3, 7, 0, 0, false, 0, 0, 0⟩ [1, 2] = ([2], 1, true)) := by show _ = _; simp [doC, queC]
  have h2 : Hid (stepC ⟨0, 3, 0, 6, 13, 0, 0, false, 0, 0, 0⟩ [3] = ([], false)) := by show _ = _; simp [stepC, doC, mtxC, noA]
  have h3 : Hid (stepC ⟨0, 4, 0, 6, 14, 0, 0, false, 0, 0, 0⟩ [3] = ([], false)) := by show _ = _; simp [stepC, doC, mtxC, noA]
  have b0 : Hid (Below w.heap.size w (w.alloc (.cells #[.int .i64 1, .int .i64 2] 3))) := Lib.hid (by go_grown)
  go_enter Try.func10, Try.ntmps10
  go_wp2_with fail
  refine (mdo_any ⟨0, 0, 0, 3, 7, 0, 0, false, 0, 0, 0⟩ (wf_lit (by omega) (by omega) (by omega)) (OwnI.two (n₀ := 0) w (Nat.zero_le _) 1 2 (by omega) (by omega)).reads (by simp)).mono ?_
  rintro _ w1 ⟨v1, rfl, ho1, hb1⟩
  rw [h1.out] at ho1 ⊢
  have HO1 := Lib.hid ho1
  have HB1 := Lib.hid (b0.out.on hb1)
  clear ho1 hb1
  go_wp2_with fail
  refine (mstep_any ⟨0, 3, 0, 6, 13, 0, 0, false, 0, 0, 0⟩ (wf_lit (by omega) (by omega) (by omega)) (OwnI.fresh (n₀ := 0) w1 (Nat.zero_le _) 3 (by omega)).reads (by simp)).mono ?_
  rintro _ w2 ⟨v2, rfl, _, hb2⟩
  rw [h2.out]
  have hba : Below w1.heap.size w1 (w1.alloc (.cells #[.int .i64 3] 3)) := by go_grown
  have HO2 := Lib.hid (HO1.out.on (hba.on hb2))
  have HB2 := Lib.hid (HB1.out.on (hba.on hb2))
  clear hb2 hba
  go_wp2_with fail
  refine (mstep_any ⟨0, 4, 0, 6, 14, 0, 0, false, 0, 0, 0⟩ (wf_lit (by omega) (by omega) (by omega)) (OwnI.fresh (n₀ := 0) w2 (Nat.zero_le _) 3 (by omega)).reads (by simp)).mono ?_
  rintro _ w3 ⟨v3, rfl, _, hb3⟩
  rw [h3.out]
  have hba : Below w2.heap.size w2 (w2.alloc (.cells #[.int .i64 3] 3)) := by go_grown
  have HO3 := Lib.hid (HO2.out.on (hba.on hb3))
  have HB3 := Lib.hid (HB2.out.on (hba.on hb3))
  clear hb3 hba
  have hba : Below w3.heap.size w3 (w3.alloc (.cells #[.int .i64 2] 3)) := by go_grown
  have HBA := Lib.hid hba
  clear hba
  go_wp2_with fail
  refine (rints_any v1 _ [2] [2] _ (HO3.out.on HBA.out).reads (OwnI.fresh (n₀ := 0) w3 (Nat.zero_le _) 2 (by omega)).reads).mono ?_
  rintro _ w4 ⟨rfl, hb4⟩
  rw [beq_self_eq_true]
  have HB4 := Lib.hid (HB3.out.on (HBA.out.on hb4))
  clear hb4
  go_wp2_with fail
  go_returns
  exact ⟨rfl, HB4.out⟩
end Go.Proofs.Ytkdaghflonppfaa
