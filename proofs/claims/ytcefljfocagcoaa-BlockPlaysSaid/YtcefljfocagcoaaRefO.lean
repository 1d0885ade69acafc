/- Contract of the reference's New, where there is no disk. -/
import Derived.Test.YtcefljfocagcoaaRefN
namespace Go.Proofs.Ytcefljfocagcoaa
open Go.ChangeShapes Go.WideShapes Go.ChangeAt Go.RowKit Go.PlainAid

set_option maxHeartbeats 1000000 in
theorem rnew_nil (n : Int) (w : World) (h : n < 1 ∨ 2048 < n) :
    Calls Try.prog 6 #[.int .i64 n] w fun e w' => e = .returned (.tuple #[.agg #[.slice none 0 0, .slice none 0 0, .int .i64 0, .bool false], .int .i64 1]) ∧ Below w.heap.size w w' := by
  rcases Int.lt_or_le n 1 with a | a
  · have hb1 : decide (n < 1) = true := by simpa using a
    clear h
    go_enter Try.func6, Try.ntmps6
    go_wp2_with fail
    obtain ⟨y0, y1, y2, y3, _, _, _, _⟩ := cells4 (heap_alloc_new w (.cells #[.slice none 0 0, .slice none 0 0, .int .i64 0, .bool false] 31))
    refine bodyPost_ret (v := .tuple #[.agg #[.slice none 0 0, .slice none 0 0, .int .i64 0, .bool false], .int .i64 1]) (by simp [results, Try.results6, go_sem, y0, y1, y2, y3]) rfl ?_
    exact ⟨rfl, by go_grown⟩
  · have hb1 : decide (n < 1) = false := by simpa using a
    have hb2 : decide (2048 < n) = true := by simp; omega
    clear h
    go_enter Try.func6, Try.ntmps6
    go_wp2_with fail
    obtain ⟨y0, y1, y2, y3, _, _, _, _⟩ := cells4 (heap_alloc_new w (.cells #[.slice none 0 0, .slice none 0 0, .int .i64 0, .bool false] 31))
    refine bodyPost_ret (v := .tuple #[.agg #[.slice none 0 0, .slice none 0 0, .int .i64 0, .bool false], .int .i64 1]) (by simp [results, Try.results6, go_sem, y0, y1, y2, y3]) rfl ?_
    exact ⟨rfl, by go_grown⟩
end Go.Proofs.Ytcefljfocagcoaa
