/- Two rows of states, one behind the other; an answer stored. -/
import Derived.Test.YtpooekmogfkkjaaSLnY
import Derived.Test.YtpooekmogfkkjaaSLoE
namespace Go.Proofs.Ytpooekmogfkkjaa
set_option maxRecDepth 100000
open Go.ChangeShapes Go.WideShapes Go.ChangeAt Go.RowKit Go.PlainAid Go.Deep
namespace Ln
theorem store_sum (p v : Value) : Instr.storeAt 27 p v = storeS 27 p v := rfl
theorem sum_new (w : World) (x y z : Value) (hx : x.oneCell' = true := by rfl) (hy : y.oneCell' = true := by rfl) (hz : z.oneCell' = true := by rfl) :
    (storeS 27 (.pointer (some ⟨w.heap.size, 0, none⟩)) (.agg #[x, y, z])).run Try.prog (w.alloc (.cells #[.slice none 0 0, .slice none 0 0, .int .i64 0] 27)) = .ok () (w.alloc (.cells #[x, y, z] 27)) := by
  have hsz : (Try.prog.info? 27).map (·.size) = some 3 := by kernel_rfl
  have h := run_storeVar_row (P := Try.prog) (w.alloc (.cells #[.slice none 0 0, .slice none 0 0, .int .i64 0] 27)) w.heap.size 27 27 _ #[x, y, z] (heap_alloc_new w _) (by rw [hsz]; rfl) rfl (by simp [hx, hy, hz])
  rw [setRow_alloc] at h
  unfold storeS
  simp only [Instr.storeAt, Instr.sureAddr, Sem.run_bind, Sem.run_pure, Result.andThen_ok]
  exact h
/-- An empty row, and behind it two rows. -/
theorem two_rows {W : World} {a1 a2 : Option Addr} {c1 c2 : Nat} {l1 l2 : List (List Int)} (h1 : Sts W (.slice a1 l1.length c1) l1) (h2 : Sts W (.slice a2 l2.length c2) l2) (hl : l1.length + l2.length ≤ 1000000) :
    Below W.heap.size W (W.alloc (.cells #[] 36)) ∧ ∃ a6 c6 W6 a7 c7 W7, (appSt #[.slice (some ⟨W.heap.size, 0, none⟩) 0 0, .slice a1 l1.length c1]).run Try.prog (W.alloc (.cells #[] 36)) = .ok (.slice a6 l1.length c6) W6 ∧
      (appSt #[.slice a6 l1.length c6, .slice a2 l2.length c2]).run Try.prog W6 = .ok (.slice a7 (l1.length + l2.length) c7) W7 ∧ Below W.heap.size W W6 ∧ Below W.heap.size W W7 ∧ Sts W7 (.slice a7 (l1.length + l2.length) c7) (l1 ++ l2) := by
  obtain ⟨x1, r1, e1⟩ := h1
  obtain ⟨x2, r2, e2⟩ := h2
  have hba : Below W.heap.size W (W.alloc (.cells #[] 36)) := by go_grown
  have hm0 : (W.alloc (.cells #[] 36)).ownsRow W.heap.size 36 1 (.slice (some ⟨W.heap.size, 0, none⟩) 0 0) 0 [] := World.ownsRow_made W #[] 0 (Nat.le_refl _) (Nat.zero_le _) rfl
  obtain ⟨v6, W6, hr6, ho6, hg6⟩ := row_app rtSt_good hm0 (r1.on hba) (Sts.one r1 e1) hba.size (by omega)
  rw [Nat.zero_add, List.nil_append] at ho6
  obtain ⟨a6, c6, rfl, _⟩ := own_len ho6
  have hb6 : Below W.heap.size W W6 := hba.grown hg6 hba.size (fun k e => by simp [Value.ownBlock] at e; omega)
  obtain ⟨v7, W7, hr7, ho7, hg7⟩ := row_app rtSt_good ho6 (r2.on hb6) (Sts.one r2 e2) hb6.size (by omega)
  obtain ⟨a7, c7, rfl, _⟩ := own_len ho7
  have hb7 : Below W.heap.size W W7 := hb6.grown hg7 hb6.size (fun k e => (row_block ho6 e).1)
  refine ⟨hba, a6, c6, W6, a7, c7, W7, hr6, hr7, hb6, hb7, x1 ++ x2, by rw [List.length_append]; exact own_rd ho7, fun i u s hu hs => ?_⟩
  have hx1 : x1.length = l1.length := by rw [r1.1, Nat.mul_one]
  by_cases c : i < l1.length
  · rw [List.getElem?_append_left (by omega)] at hu
    rw [List.getElem?_append_left c] at hs
    exact (e1 i u s hu hs).on hb7
  · rw [List.getElem?_append_right (by omega)] at hu hs
    rw [hx1] at hu
    exact (e2 _ u s hu hs).on hb7
end Ln
end Go.Proofs.Ytpooekmogfkkjaa
