/- The chapter's examples hold. -/
import Derived.Test.YtppjmmdiglnkfaaQax
namespace Go.Proofs.Ytppjmmdiglnkfaa
set_option maxRecDepth 100000
open Go.ChangeShapes Go.WideShapes Go.ChangeAt Go.RowKit Go.PlainAid Go.Deep
namespace Ln
theorem oA_wf : oA.Wf := by constructor <;> simp [oA]
theorem oB_wf {r : Int} (h : -9223372036854775808 ≤ r ∧ r ≤ 9223372036854775807) : (oB r).Wf := by constructor <;> simp [oB] <;> omega
set_option maxHeartbeats 4000000 in
theorem pair_any (r : Int) (hr : -9223372036854775808 ≤ r ∧ r ≤ 9223372036854775807) (w : World) : Calls Try.prog 44 #[.int .i64 r] w fun e w' => ∃ v, e = .returned (.agg #[.int .i64 0, .int .i64 1, v]) ∧ OpsOf w' v (lP r) ∧ Below w.heap.size w w' := by
  go_enter Try.func44, Try.ntmps44
  go_wp2_with fail
  generalize hW : (w.alloc (.cells #[.int .i64 0, .int .i64 1, .slice (some ⟨w.heap.size + 1, 0, none⟩) 2 2] 24)) = W1
  have hb1 : Below w.heap.size w W1 := by rw [← hW]; go_grown
  have hsz : W1.heap.size = w.heap.size + 1 := by rw [← hW, World.size_alloc]
  have hx1 : W1.heap[w.heap.size]? = some (.cells #[.int .i64 0, .int .i64 1, .slice (some ⟨w.heap.size + 1, 0, none⟩) 2 2] 24 (0, 0)) := by rw [← hW]; exact heap_alloc_new _ _
  have hnew := heap_alloc_new W1 (.cells (flatO (lP r)).toArray 43)
  have hb2 : Below W1.heap.size W1 (W1.alloc (.cells (flatO (lP r)).toArray 43)) := by go_grown
  have ho : OpsOf (W1.alloc (.cells (flatO (lP r)).toArray 43)) (.slice (some ⟨w.heap.size + 1, 0, none⟩) 2 2) (lP r) := by
    rw [hsz] at hnew
    refine OpsOwn.reads (n₀ := 0) ⟨by rw [flatO_len], .inr ⟨w.heap.size + 1, 2, _, rfl, Nat.zero_le _, hnew, Nat.le_refl _, by unfold maxLen; omega, by simp [flatO_len, lP], by simp [lP]; exact List.take_of_length_le (by simp [flatO_len])⟩⟩ (fun o ho => ?_)
    rcases List.mem_cons.1 ho with rfl | ho
    · exact oA_wf
    · rw [List.mem_singleton.1 ho]; exact oB_wf hr
  have hx2 := (hb2.block _ (heap_inO hx1)).trans hx1
  have he : (W1.alloc (.cells #[.int .i64 1, .int .i64 0, .int .i64 0, .int .i64 1, .int .i64 2, .int .i64 1, .int .i64 0, .bool true, .int .i64 0, .int .i64 0, .int .i64 9, .int .i64 2, .int .i64 0, .int .i64 0, .int .i64 1, .int .i64 1, .int .i64 0, .int .i64 0, .bool true, .int .i64 r, .int .i64 1, .int .i64 8] 43)) = W1.alloc (.cells (flatO (lP r)).toArray 43) := rfl
  rw [he]
  generalize W1.alloc (.cells (flatO (lP r)).toArray 43) = W2 at hb2 ho hx2 ⊢
  have z0 : W2.cell? ⟨w.heap.size, 0, none⟩ = some (.int .i64 0) := by rw [cell_of_row _ _ _ _ _ _ hx2]; rfl
  have z1 : W2.cell? ⟨w.heap.size, 1, none⟩ = some (.int .i64 1) := by rw [cell_of_row _ _ _ _ _ _ hx2]; rfl
  have z2 : W2.cell? ⟨w.heap.size, 2, none⟩ = some (.slice (some ⟨w.heap.size + 1, 0, none⟩) 2 2) := by rw [cell_of_row _ _ _ _ _ _ hx2]; rfl
  refine bodyPost_ret (v := .agg #[.int .i64 0, .int .i64 1, .slice (some ⟨w.heap.size + 1, 0, none⟩) 2 2]) (by simp [results, Try.results44, go_sem, z0, z1, z2]) rfl ?_
  exact ⟨_, rfl, ho, hb1.on hb2⟩
/-- A list of one state of one number. -/
theorem sts_one (W : World) (x : Int) (hx : -9223372036854775808 ≤ x ∧ x ≤ 9223372036854775807) : Sts ((W.alloc (.cells #[.int .i64 x] 3)).alloc (.cells #[.slice (some ⟨W.heap.size, 0, none⟩) 1 1] 27)) (.slice (some ⟨W.heap.size + 1, 0, none⟩) 1 1) [[x]] ∧ Below W.heap.size W ((W.alloc (.cells #[.int .i64 x] 3)).alloc (.cells #[.slice (some ⟨W.heap.size, 0, none⟩) 1 1] 27)) := by
  have hq := heap_alloc_new (W.alloc (.cells #[.int .i64 x] 3)) (.cells #[.slice (some ⟨W.heap.size, 0, none⟩) 1 1] 27)
  rw [World.size_alloc] at hq
  have hb : Below (W.alloc (.cells #[.int .i64 x] 3)).heap.size (W.alloc (.cells #[.int .i64 x] 3)) ((W.alloc (.cells #[.int .i64 x] 3)).alloc (.cells #[.slice (some ⟨W.heap.size, 0, none⟩) 1 1] 27)) := by go_grown
  refine ⟨⟨[.slice (some ⟨W.heap.size, 0, none⟩) 1 1], ⟨rfl, .inr ⟨_, 0, 1, rfl, by rw [World.size_alloc, World.size_alloc]; omega, by simp, fun j u hj => ?_⟩⟩, fun i u s hu hs => ?_⟩, by go_grown⟩
  · rw [cell_of_row _ _ _ _ _ _ hq, Nat.zero_add]
    simpa using hj
  · cases i with
    | zero =>
      simp at hu hs
      subst hu hs
      exact ((OwnI.new (n₀ := 0) W (Nat.zero_le _) [x] (by simp) (fun y hy => by rw [List.mem_singleton.1 hy]; exact hx)).on hb).reads
    | succ i => simp at hu
set_option maxHeartbeats 4000000 in
theorem awake_any (w : World) : Calls Try.prog 18 #[] w fun e w' => e = .returned (.bool true) ∧ Below w.heap.size w w' := by
  go_enter Try.func18, Try.ntmps18
  go_wp2_with fail
  refine (pair_any 0 (by omega) _).mono ?_
  rintro _ w1 ⟨v1, rfl, ho1, hb1⟩
  obtain ⟨a1, c1, rfl⟩ := ho1.len
  obtain ⟨hs1, hb1'⟩ := sts_one w1 0 (by omega)
  have HQ1 := Lib.hid (search_any (obj := 0) (kind := 1) (ho1.on hb1') hs1 (fun s hs => by rw [List.mem_singleton.1 hs]; decide) (by decide) 9 (by omega) 9 (by decide))
  have HB1 := Lib.hid (hb1.on hb1')
  clear ho1 hb1 hs1 hb1'
  go_wp2_with fail
  refine HQ1.out.mono ?_
  rintro _ w2 ⟨ve, vx, n, z, rfl, P, Q, ha, hp, hq, hb2⟩
  obtain ⟨rfl, rfl, rfl⟩ := ans_zero ha
  obtain ⟨ae, ce, rfl⟩ := hp.len
  obtain ⟨ax, cx, rfl⟩ := hq.len
  have hq : Sts w2 (.slice ax 1 cx) [[1]] := hq
  have hbx : Below w2.heap.size w2 (w2.alloc (.cells #[.slice ae P.length ce, .slice ax 1 cx, .int .i64 4] 33)) := by go_grown
  have hnx := heap_alloc_new w2 (.cells #[.slice ae P.length ce, .slice ax 1 cx, .int .i64 4] 33)
  obtain ⟨W2, hW2⟩ : ∃ W, w2.alloc (.cells #[.slice ae P.length ce, .slice ax 1 cx, .int .i64 4] 33) = W := ⟨_, rfl⟩
  rw [hW2] at hbx hnx
  have HQ2 := Lib.hid (hq.on hbx)
  have HB2 := Lib.hid ((HB1.out.on hb2).on hbx)
  have HX2 := Lib.hid hnx
  clear ha hp hq hb2 hbx hnx HQ1
  go_wp2_with fail
  refine (pair_any 2 (by omega) _).mono ?_
  rintro _ w3 ⟨v3, rfl, ho3, hb3⟩
  obtain ⟨a3, c3, rfl⟩ := ho3.len
  obtain ⟨hs3, hb3'⟩ := sts_one w3 0 (by omega)
  have HQ3 := Lib.hid (search_any (obj := 0) (kind := 1) (ho3.on hb3') hs3 (fun s hs => by rw [List.mem_singleton.1 hs]; decide) (by decide) 9 (by omega) 9 (by decide))
  have HB3 := Lib.hid (hb3.on hb3')
  clear ho3 hb3 hs3 hb3'
  go_wp2_with fail
  refine HQ3.out.mono ?_
  rintro _ w4 ⟨ve, vx, n, z, rfl, P2, Q2, ha, hp, hq, hb4⟩
  obtain ⟨rfl, rfl, rfl⟩ := ans_two ha
  obtain ⟨ae2, ce2, rfl⟩ := hp.len
  obtain ⟨ax2, cx2, rfl⟩ := hq.len
  have hq : Sts w4 (.slice ax2 0 cx2) [] := hq
  have hbx : Below w4.heap.size w4 (w4.alloc (.cells #[.slice ae2 P2.length ce2, .slice ax2 0 cx2, .int .i64 2] 33)) := by go_grown
  have hnx := heap_alloc_new w4 (.cells #[.slice ae2 P2.length ce2, .slice ax2 0 cx2, .int .i64 2] 33)
  obtain ⟨W4, hW4⟩ : ∃ W, w4.alloc (.cells #[.slice ae2 P2.length ce2, .slice ax2 0 cx2, .int .i64 2] 33) = W := ⟨_, rfl⟩
  rw [hW4] at hbx hnx
  have hb24 := (HB3.out.on hb4).on hbx
  have hx2 := (hb24.block _ (heap_inO HX2.out)).trans HX2.out
  have g1 : W4.cell? ⟨w2.heap.size, 1, none⟩ = some (.slice ax 1 cx) := by rw [cell_of_row _ _ _ _ _ _ hx2]; rfl
  have g2 : W4.cell? ⟨w2.heap.size, 2, none⟩ = some (.int .i64 4) := by rw [cell_of_row _ _ _ _ _ _ hx2]; rfl
  have hq2 := HQ2.out.on hb24
  obtain ⟨hs5, hb5⟩ := sts_one W4 1 (by omega)
  obtain ⟨W5, hW5⟩ : ∃ W, (W4.alloc (.cells #[.int .i64 1] 3)).alloc (.cells #[.slice (some ⟨W4.heap.size, 0, none⟩) 1 1] 27) = W := ⟨_, rfl⟩
  rw [hW5] at hs5 hb5
  have HST := Lib.hid (states_any (hq2.on hb5) hs5 (by decide))
  have HX4 := Lib.hid ((hb5.block _ (heap_inO hnx)).trans hnx)
  have HB5 := Lib.hid ((HB2.out.on hb24).on hb5)
  clear ha hp hq hb4 hbx hnx HQ3 hb24 hx2 hq2 hs5 hb5
  go_wp2_with fail
  refine HST.out.mono ?_
  rintro _ w6 ⟨rfl, hb6⟩
  have hx6 := (hb6.block _ (heap_inO HX4.out)).trans HX4.out
  have g3 : w6.cell? ⟨w4.heap.size, 1, none⟩ = some (.slice ax2 0 cx2) := by rw [cell_of_row _ _ _ _ _ _ hx6]; rfl
  have g4 : w6.cell? ⟨w4.heap.size, 2, none⟩ = some (.int .i64 2) := by rw [cell_of_row _ _ _ _ _ _ hx6]; rfl
  simp only [decide_true]
  have HB6 := Lib.hid (HB5.out.on hb6)
  clear hb6 hx6
  go_wp2_with fail
  go_returns
  exact ⟨rfl, HB6.out⟩
end Ln
end Go.Proofs.Ytppjmmdiglnkfaa
