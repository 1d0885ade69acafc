/- Contracts of the reference: ahead. -/
import Derived.Test.YtomgiemnkbjebaaCacU
namespace Go.Proofs.Ytomgiemnkbjebaa
set_option maxRecDepth 100000
open Go.ChangeShapes Go.WideShapes Go.ChangeAt Go.RowKit Go.PlainAid

namespace KA
theorem app_none (b : Nat) (w : World) : (appI #[.slice (some ⟨b, 0, none⟩) 1 1, .slice none 0 0]).run Try.prog w = .ok (.slice (some ⟨b, 0, none⟩) 1 1) w := by kernel_rfl
/-- One item ahead of others. -/
theorem item_cons {n₀ : Nat} {W : World} {A : List E} {v : Value} (hrow : Items n₀ W v A) (hn : n₀ ≤ W.heap.size) (hlen : A.length ≤ 1048576) (x : E) (b : Nat) (hb : b = W.heap.size) :
    ∃ u w2, (appI #[.slice (some ⟨b, 0, none⟩) 1 1, v]).run Try.prog (W.alloc (.cells #[.int .i64 x.key, .string x.val, .int .i64 (x.pins : Int)] 51)) = .ok u w2 ∧ Items n₀ w2 u (x :: A) ∧ Below W.heap.size W w2 := by
  subst hb
  have hq := heap_alloc_new W (.cells #[.int .i64 x.key, .string x.val, .int .i64 (x.pins : Int)] 51)
  have hba : Below W.heap.size W (W.alloc (.cells #[.int .i64 x.key, .string x.val, .int .i64 (x.pins : Int)] 51)) := by go_grown
  have hone : Items W.heap.size (W.alloc (.cells #[.int .i64 x.key, .string x.val, .int .i64 (x.pins : Int)] 51)) (.slice (some ⟨W.heap.size, 0, none⟩) 1 1) [x] := ⟨rfl, .inr ⟨W.heap.size, 1, #[.int .i64 x.key, .string x.val, .int .i64 (x.pins : Int)], rfl, Nat.le_refl _, hq, Nat.le_refl 1, (by unfold maxLen; omega), rfl, rfl⟩⟩
  rcases hrow.2 with ⟨rfl, h0⟩ | ⟨g, cap, cur, rfl, hg0, hg, hlc, hcm, hcs, ht⟩
  · obtain rfl : A = [] := List.length_eq_zero_iff.1 h0
    exact ⟨_, _, app_none _ _, items_base hone hn, hba⟩
  · have hg2 := (hba.block g (heap_in hg)).trans hg
    have hnews : ∀ j u, (flat cE A)[j]? = some u → (W.alloc (.cells #[.int .i64 x.key, .string x.val, .int .i64 (x.pins : Int)] 51)).cell? ((⟨g, 0, none⟩ : Addr).add j) = some u := fun j u hu => by
      have hj : j < A.length * 3 := by rw [← flat_len three A]; exact (List.getElem?_eq_some_iff.1 hu).1
      rw [add_off, cell_of_row _ _ _ _ _ _ hg2, ← hu, ← ht, List.getElem?_take_of_lt hj, Array.getElem?_toList]
    obtain ⟨i0, hi, hz0, hz1, hz2⟩ := info_parts info_i
    obtain ⟨v', w', hr, h2, h3, _⟩ := run_append_own_at (P := Try.prog) (w := W.alloc (.cells #[.int .i64 x.key, .string x.val, .int .i64 (x.pins : Int)] 51)) W.heap.size 27 27 51 i0 _ 3 32 Try.underlying27 hi hz0 hz1 hz2 (by simp [Value.cells]) (by decide) (.slice (some ⟨W.heap.size, 0, none⟩) 1 1) 1 (flat cE [x])
      hone ⟨g, 0, none⟩ A.length cap (flat cE A) (flat_len three A) hnews (flat_one three A) (by unfold maxLen; omega) (by omega) (by simp)
    refine ⟨v', w', hr, ?_, hba.grown h3 (by simp) (by intro k hk; simp [Value.ownBlock] at hk; omega)⟩
    rw [Nat.add_comm 1, ← flat_app] at h2
    exact items_base h2 hn
attribute [local go_sem ↓ high] store_i app_i build_i store_c
set_option maxHeartbeats 2000000 in
theorem rahead_any {w : World} {v : Value} {L : List E} (h : Reads w v L) (most : Int) (x : E) (hl : L.length ≤ 4096) :
    Calls Try.prog 39 #[.agg #[.int .i64 most, v], .agg #[.int .i64 x.key, .string x.val, .int .i64 (x.pins : Int)]] w fun e w' => ∃ u, e = .returned (.agg #[.int .i64 most, u]) ∧ Items w.heap.size w' u (x :: noK x.key L) ∧ Below w.heap.size w w' := by
  have HR := Lib.hid h
  obtain ⟨ao, cap, rfl, _⟩ := h
  go_enter Try.func39, Try.ntmps39
  go_wp2_with fail
  have z1 : (w.alloc (.cells #[.int .i64 most, .slice ao L.length cap] 29)).heap.size = w.heap.size + 1 := by simp
  have q1 : BoxC (w.alloc (.cells #[.int .i64 most, .slice ao L.length cap] 29)) w.heap.size most (.slice ao L.length cap) := heap_alloc_new w _
  have hb1 : Below w.heap.size w (w.alloc (.cells #[.int .i64 most, .slice ao L.length cap] 29)) := by go_grown
  generalize w.alloc (.cells #[.int .i64 most, .slice ao L.length cap] 29) = W1 at *
  have z2 : (W1.alloc (.cells #[.int .i64 x.key, .string x.val, .int .i64 (x.pins : Int)] 51)).heap.size = w.heap.size + 2 := by simp [z1]
  have q2 := heap_alloc_new W1 (.cells #[.int .i64 x.key, .string x.val, .int .i64 (x.pins : Int)] 51)
  rw [z1] at q2
  have hb2 : Below W1.heap.size W1 (W1.alloc (.cells #[.int .i64 x.key, .string x.val, .int .i64 (x.pins : Int)] 51)) := by go_grown
  generalize W1.alloc (.cells #[.int .i64 x.key, .string x.val, .int .i64 (x.pins : Int)] 51) = W2 at *
  have z3 : (W2.alloc (.cells #[.int .i64 0, .slice none 0 0] 29)).heap.size = w.heap.size + 3 := by simp [z2]
  have q3 : BoxC (W2.alloc (.cells #[.int .i64 0, .slice none 0 0] 29)) (w.heap.size + 2) 0 (.slice none 0 0) := by
    rw [← z2]
    exact heap_alloc_new W2 _
  have hb3 : Below W2.heap.size W2 (W2.alloc (.cells #[.int .i64 0, .slice none 0 0] 29)) := by go_grown
  generalize W2.alloc (.cells #[.int .i64 0, .slice none 0 0] 29) = W3 at *
  have HB3 := Lib.hid ((hb1.on hb2).on hb3)
  have HQ1 := Lib.hid ((q1.on hb2 (by omega)).on hb3 (by omega))
  have HQ2 : Hid (W3.heap[w.heap.size + 1]? = _) := Lib.hid ((hb3.block (w.heap.size + 1) (by omega)).trans q2)
  have HQ3 := Lib.hid q3
  have HR3 := Lib.hid (HR.out.on ((hb1.on hb2).on hb3))
  clear q1 q2 q3 hb1 hb2 hb3 z1 z2
  refine (rdrop_any HR3.out most x.key hl).mono ?_
  rintro e w4 ⟨u1, rfl, hI, hB⟩
  obtain ⟨bo, nn, cc, rfl⟩ := items_slice hI
  rw [z3] at hI hB
  have hq1 := HQ1.out.on hB (by omega)
  have hq2 := (hB.block (w.heap.size + 1) (by omega)).trans HQ2.out
  have hq3 := HQ3.out.on hB (by omega)
  obtain ⟨w5, hst, hbx, hoth, hbel, z5⟩ := hq1.store most (.slice bo nn cc) rfl
  have hz4 : w.heap.size + 3 ≤ w5.heap.size := by
    have := hB.size
    omega
  have hb5 := hbel w.heap.size w (HB3.out.trans (hB.mono (by omega))) (Nat.le_refl _)
  have hq2' := (hoth (w.heap.size + 1) (by omega)).trans hq2
  have hq3' : BoxC w5 (w.heap.size + 2) 0 (.slice none 0 0) := (hoth (w.heap.size + 2) (by omega)).trans hq3
  have hI5 : Items (w.heap.size + 3) w5 (.slice bo nn cc) (noK x.key L) := items_on hI fun k hk _ => hoth k (by omega)
  have c0 : w5.cell? ⟨w.heap.size + 1, 0, none⟩ = some (.int .i64 x.key) := by rw [cell_of_row _ _ _ _ _ _ hq2']; rfl
  have c1 : w5.cell? ⟨w.heap.size + 1, 1, none⟩ = some (.string x.val) := by rw [cell_of_row _ _ _ _ _ _ hq2']; rfl
  have c2 : w5.cell? ⟨w.heap.size + 1, 2, none⟩ = some (.int .i64 (x.pins : Int)) := by rw [cell_of_row _ _ _ _ _ _ hq2']; rfl
  have hba : Below w5.heap.size w5 (w5.alloc (.cells #[.int .i64 x.key, .string x.val, .int .i64 (x.pins : Int)] 51)) := by go_grown
  have e1 := (hbx.on hba (by omega)).read.2.1
  have hbi := build_item x w5
  obtain ⟨u2, w6, ha, hI6, hb6⟩ := item_cons hI5 hz4 (Nat.le_trans (noK_len _ _) (by omega)) x _ rfl
  obtain ⟨bo2, nn2, cc2, rfl⟩ := items_slice hI6
  have hbx6 := hbx.on hb6 (by omega)
  have hq36 := hq3'.on hb6 (by omega)
  obtain ⟨_, g1, gf⟩ := hbx6.read
  obtain ⟨f0, f1, _⟩ := (hbx6.set (.slice bo2 nn2 cc2)).read
  have hq37 : BoxC (w6.setCell ⟨w.heap.size, 1, none⟩ (.slice bo2 nn2 cc2)) (w.heap.size + 2) 0 (.slice none 0 0) := (heap_setCell_other _ _ _ _ (show w.heap.size + 2 ≠ w.heap.size by omega)).trans hq36
  obtain ⟨w8, hst8, hbx8, hoth8, hbel8, _⟩ := hq37.store most (.slice bo2 nn2 cc2) rfl
  obtain ⟨r0, r1, _⟩ := hbx8.read
  have HBF := Lib.hid (hbel8 _ _ (below_set (hb5.on hb6) (Nat.le_refl w.heap.size) (o := 1) (.slice bo2 nn2 cc2)) (by omega))
  have HIF := Lib.hid (items_base (items_on (items_set (o := 1) (u := .slice bo2 nn2 cc2) hI6 (show w.heap.size < w.heap.size + 3 by omega)) fun k hk _ => hoth8 k (by omega)) (show w.heap.size ≤ w.heap.size + 3 by omega))
  rw [show w.heap.size + 2 = w.heap.size + 1 + 1 from rfl] at hst8 r0 r1
  clear hba hq1 hq2 hq3 hoth hbel hb5 hq2' hq3' hI5 hb6 hbx hbx6 hq36 hq37 hoth8 hbel8 hI6 hbx8 hz4 z5 hB hI z3
  go_wp2_with fail
  refine bodyPost_ret (v := .agg #[.int .i64 most, .slice bo2 nn2 cc2]) (by simp [results, Try.results39, go_sem, r0, r1]) rfl ?_
  exact ⟨_, rfl, HIF.out, HBF.out⟩
end KA
end Go.Proofs.Ytomgiemnkbjebaa
