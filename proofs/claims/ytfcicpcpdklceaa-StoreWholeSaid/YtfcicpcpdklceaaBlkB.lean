/- Contracts of package block: New, Read. -/
import Derived.Test.YtfcicpcpdklceaaBlkA
import Derived.RegionTactic
namespace Go.Proofs.Ytfcicpcpdklceaa
open Go.ChangeShapes Go.WideShapes Go.ChangeAt Go.RowKit Go.PlainAid

theorem info_block : (Try.prog.info? 75).map (fun i => (i.zero, i.size, i.bytes)) = some (some (.agg (Array.replicate 256 (.int .u8 0))), 256, 256) := by kernel_rfl
theorem make_blocks (n : Nat) (hn : n ≤ 4096) (w : World) : (Instr.makeSlice 70 (.int .i64 n) (.int .i64 n)).run Try.prog w = .ok (.slice (some ⟨w.heap.size, 0, none⟩) n n) (w.alloc (.cells (zeroBlocks n) 75)) := by
  obtain ⟨i, h1, h2, h3, h4⟩ := info_parts info_block
  have h := run_make (P := Try.prog) w 70 75 i _ Try.underlying70 h1 h2 .i64 .i64 n n (by omega) (by omega) (by rw [h4]; omega) (by omega)
  rw [h, h3]
  rfl
theorem heap3 (w : World) (X Y Z : Obj) : (((w.alloc X).alloc Y).alloc Z).drew.heap[w.heap.size]? = some X ∧ (((w.alloc X).alloc Y).alloc Z).drew.heap[w.heap.size + 1]? = some Y ∧ (((w.alloc X).alloc Y).alloc Z).drew.heap[w.heap.size + 1 + 1]? = some Z := by
  have e1 : (w.alloc X).heap.size = w.heap.size + 1 := World.size_alloc ..
  have e2 : ((w.alloc X).alloc Y).heap.size = w.heap.size + 1 + 1 := by rw [World.size_alloc, e1]
  refine ⟨?_, ?_, ?_⟩
  · show (((w.alloc X).alloc Y).alloc Z).heap[w.heap.size]? = _
    rw [Below.heap_alloc _ _ _ (by rw [e2]; omega), Below.heap_alloc _ _ _ (by rw [e1]; omega)]
    exact heap_alloc_new w X
  · show (((w.alloc X).alloc Y).alloc Z).heap[w.heap.size + 1]? = _
    rw [Below.heap_alloc _ _ _ (by rw [e2]; omega), ← e1]
    exact heap_alloc_new _ Y
  · show (((w.alloc X).alloc Y).alloc Z).heap[w.heap.size + 1 + 1]? = _
    rw [← e2]
    exact heap_alloc_new _ Z
theorem new_dk {W : World} {n p S L B : Nat} (h0 : 1 ≤ n) (h1 : n ≤ 2048) (hS : W.heap[S]? = some (.cells (zeroBlocks n) 75 (0, 0))) (hL : W.heap[L]? = some (.cells (zeroBlocks n) 75 (0, 0)))
    (hp : W.heap[p]? = some (.cells #[.slice (some ⟨S, 0, none⟩) n n, .slice (some ⟨L, 0, none⟩) n n, .slice none 0 0, .int .i64 (-1), .bool false] 73 (0, 0)))
    (pB : p < B) (SB : S < B) (LB : L < B) (pS : p ≠ S) (pL : p ≠ L) (SL : S ≠ L) (hB : B ≤ W.heap.size) : Dk W ⟨p, S, L, B, .slice none 0 0⟩ (newD n) where
  head := hp
  safe := zeroBlocks_rows hS
  last := zeroBlocks_rows hL
  late := World.ownsRow_nil _ _ _ _
  pB := pB
  SB := SB
  LB := LB
  pS := pS
  pL := pL
  SL := SL
  base := hB
  wf := newD_wf h0 h1
/-- New's answer. -/
def NewPost (n : Nat) (w : World) (e : Ending) (w' : World) : Prop :=
  ∃ F, e = .returned (.tuple #[.pointer (some ⟨F.p, 0, none⟩), .int .i64 0]) ∧ Dk w' F (newD n) ∧ Below w.heap.size w w' ∧ ∀ k, F.own k → w.heap.size ≤ k
set_option maxHeartbeats 400000 in
theorem new_any (n : Int) (w : World) (h0 : 1 ≤ n) (h1 : n ≤ 2048) :
    Calls Try.prog 24 #[.int .i64 n] w (NewPost n.toNat w) := by
  obtain ⟨m, rfl⟩ := Int.eq_ofNat_of_zero_le (show 0 ≤ n by omega)
  rw [Int.toNat_natCast]
  have hm := make_blocks m (by omega)
  have hb1 : decide ((m : Int) < 1) = false := by simpa using h0
  have hb2 : decide (2048 < (m : Int)) = false := by simpa using h1
  go_enter Try.func24, Try.ntmps24
  go_wp2
  go_region
  all_goals
    go_wp2
    go_returns
    obtain ⟨a1, a2, a3⟩ := heap3 w _ _ _
    first
      | exact ⟨⟨w.heap.size + 1 + 1, w.heap.size, w.heap.size + 1, w.heap.size + 1 + 1 + 1, .slice none 0 0⟩, rfl, new_dk (by omega) (by omega) a1 a2 a3 (by omega) (by omega) (by omega) (by omega) (by omega) (by omega) (by simp), by go_grown, by
          rintro k (rfl | rfl | rfl | hk)
          · exact Nat.le_add_right _ 2
          · exact Nat.le_refl _
          · exact Nat.le_succ _
          · cases hk⟩
      | exact ⟨⟨w.heap.size + 1 + 1, w.heap.size + 1, w.heap.size, w.heap.size + 1 + 1 + 1, .slice none 0 0⟩, rfl, new_dk (by omega) (by omega) a2 a1 a3 (by omega) (by omega) (by omega) (by omega) (by omega) (by omega) (by simp), by go_grown, by
          rintro k (rfl | rfl | rfl | hk)
          · exact Nat.le_add_right _ 2
          · exact Nat.le_succ _
          · exact Nat.le_refl _
          · cases hk⟩
set_option maxHeartbeats 400000 in
theorem new_no (n : Int) (w : World) (h : n < 1 ∨ 2048 < n) :
    Calls Try.prog 24 #[.int .i64 n] w fun e w' => e = .returned (.tuple #[.pointer none, .int .i64 1]) ∧ w = w' := by
  rcases Int.lt_or_le n 1 with a | a
  · have hb1 : decide (n < 1) = true := by simpa using a
    clear h
    go_enter Try.func24, Try.ntmps24
    go_wp2
    go_returns
    exact ⟨rfl, rfl⟩
  · have hb1 : decide (n < 1) = false := by simpa using a
    have hb2 : decide (2048 < n) = true := by simp; omega
    clear h
    go_enter Try.func24, Try.ntmps24
    go_wp2
    go_returns
    exact ⟨rfl, rfl⟩

theorem reachE_cases (d : D) (k : Int) : reachE d k = 0 ∧ 0 ≤ k ∧ k < d.n ∧ d.dark = false ∨ reachE d k = 10 ∧ d.dark = false ∨ reachE d k = 11 ∧ d.dark = true := by
  unfold reachE
  cases d.dark
  · by_cases c : k < 0 ∨ d.n ≤ k
    · simp [c]
    · simp [c]; omega
  · simp
/-- What Read tells. -/
def readS (d : D) (k : Int) : ByteArray := if reachE d k = 0 then d.last k.toNat else ByteArray.empty
set_option maxHeartbeats 400000 in
theorem read_any (w : World) (F : Foot) (d : D) (k : Int) (h : Dk w F d) (h0 : -9223372036854775808 ≤ k) (h1 : k ≤ 9223372036854775807) :
    Calls Try.prog 35 #[.pointer (some ⟨F.p, 0, none⟩), .int .i64 k] w fun e w' => e = .returned (.tuple #[.string (readS d k), .int .i64 (reachE d k)]) ∧ w = w' := by
  obtain ⟨c0, c1, c2, c3, c4⟩ := DiskAt.cells h
  have hS : readS d k = if reachE d k = 0 then d.last k.toNat else ByteArray.empty := rfl
  have HS := Lib.hid hS
  clear hS
  rcases reachE_cases d k with ⟨a, hk, hn, _⟩ | ⟨a, _⟩ | ⟨a, _⟩
  · have hr := Lib.hid a
    clear a
    obtain ⟨i, rfl⟩ := Int.eq_ofNat_of_zero_le hk
    rw [Int.toNat_natCast] at HS
    have hi : i < d.n := by omega
    have hconv := conv_text (P := Try.prog) 78 5 9 Try.underlying78 Try.underlying5 Try.underlying9 w F.L (i * 256) 256 256 (d.last i) (h.wf.last i hi) (h.last.range hi)
    go_enter Try.func35, Try.ntmps35
    go_wp2_with fail
    refine (reach_any _ F d _ h h0 h1).mono ?_
    rintro e _ ⟨rfl, rfl⟩
    rw [hr.out]
    go_wp2
    go_returns
    refine ⟨?_, rfl⟩
    rw [HS.out, hr.out, if_pos rfl]
    rfl
  all_goals
    have hr := Lib.hid a
    clear a
    go_enter Try.func35, Try.ntmps35
    go_wp2_with fail
    refine (reach_any _ F d _ h h0 h1).mono ?_
    rintro e _ ⟨rfl, rfl⟩
    rw [hr.out]
    go_wp2
    go_returns
    refine ⟨?_, rfl⟩
    rw [HS.out, hr.out, if_neg (by decide)]
    rfl
set_option maxHeartbeats 400000 in
theorem read_no (w : World) (v : Value) (k : Int) (h : NoDisk w v) :
    Calls Try.prog 35 #[v, .int .i64 k] w fun e w' => e = .returned (.tuple #[.string ByteArray.empty, .int .i64 3]) ∧ w = w' := by
  go_enter Try.func35, Try.ntmps35
  go_wp2_with fail
  refine (reach_no _ v k h).mono ?_
  rintro e _ ⟨rfl, rfl⟩
  go_wp2
  go_returns
  exact ⟨rfl, rfl⟩
end Go.Proofs.Ytfcicpcpdklceaa
