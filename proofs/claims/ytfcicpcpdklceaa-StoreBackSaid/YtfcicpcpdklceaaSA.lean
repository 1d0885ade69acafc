/- Package store: a store in memory; Len, place, ready, reach, over a store, and over none. -/
import Derived.Test.YtfcicpcpdklceaaSBlkH
import Derived.Test.YtfcicpcpdklceaaSJSpec
import Derived.BigQuiet
import Derived.Deep.QuietTactic
namespace Go.Proofs.Ytfcicpcpdklceaa
set_option maxRecDepth 100000
open Go.ChangeShapes Go.WideShapes Go.ChangeAt Go.RowKit Go.PlainAid

/-- A head. -/
structure Hd where
  seq : Nat
  used : Nat
  room : Nat
  pages : Nat
structure Hd.Wf (h : Hd) : Prop where
  seq : h.seq ≤ 1000000
  used : h.used ≤ 2048
  room : h.room ≤ 2048
  pages : h.pages ≤ 1024
/-- What the block of a store holds. -/
def storeO (p bm : Nat) (h : Hd) (dead : Bool) : Obj :=
  .cells #[.pointer (some ⟨p, 0, none⟩), .int .u64 h.seq, .int .i64 h.used, .int .i64 h.room, .int .i64 h.pages, .map (some bm), .bool dead] 58 (0, 0)
def blankO : Obj := .cells #[.pointer none, .int .u64 0, .int .i64 0, .int .i64 0, .int .i64 0, .map none, .bool false] 58 (0, 0)
/-- The value is no store: nil, or a zero value. -/
def NoStore (w : World) (v : Value) : Prop := v = .pointer none ∨ ∃ q, v = .pointer (some ⟨q, 0, none⟩) ∧ w.heap[q]? = some blankO

theorem store_cells {w : World} {q p bm : Nat} {h : Hd} {dead : Bool} (hq : w.heap[q]? = some (storeO p bm h dead)) :
    w.cell? ⟨q, 0, none⟩ = some (.pointer (some ⟨p, 0, none⟩)) ∧ w.cell? ⟨q, 1, none⟩ = some (.int .u64 h.seq) ∧ w.cell? ⟨q, 2, none⟩ = some (.int .i64 h.used) ∧ w.cell? ⟨q, 3, none⟩ = some (.int .i64 h.room) ∧
    w.cell? ⟨q, 4, none⟩ = some (.int .i64 h.pages) ∧ w.cell? ⟨q, 5, none⟩ = some (.map (some bm)) ∧ w.cell? ⟨q, 6, none⟩ = some (.bool dead) := by
  refine ⟨?_, ?_, ?_, ?_, ?_, ?_, ?_⟩ <;> rw [cell_of_row _ _ _ _ _ _ hq] <;> rfl
theorem store_thaw {w : World} {q p bm : Nat} {h : Hd} {dead : Bool} (hq : w.heap[q]? = some (storeO p bm h dead)) (i : Nat) : w.frozen? ⟨q, i, none⟩ = false := frozen_of_row _ _ _ _ _ hq
theorem blank_cells {w : World} {q : Nat} (hq : w.heap[q]? = some blankO) :
    w.cell? ⟨q, 0, none⟩ = some (.pointer none) ∧ w.cell? ⟨q, 1, none⟩ = some (.int .u64 0) ∧ w.cell? ⟨q, 2, none⟩ = some (.int .i64 0) ∧ w.cell? ⟨q, 3, none⟩ = some (.int .i64 0) ∧
    w.cell? ⟨q, 4, none⟩ = some (.int .i64 0) ∧ w.cell? ⟨q, 5, none⟩ = some (.map none) ∧ w.cell? ⟨q, 6, none⟩ = some (.bool false) := by
  refine ⟨?_, ?_, ?_, ?_, ?_, ?_, ?_⟩ <;> rw [cell_of_row _ _ _ _ _ _ hq] <;> rfl

theorem slen_any (w : World) (q p bm : Nat) (h : Hd) (dead : Bool) (hq : w.heap[q]? = some (storeO p bm h dead)) :
    Calls Try.prog 23 #[.pointer (some ⟨q, 0, none⟩)] w fun e w' => e = .returned (.int .i64 h.pages) ∧ w = w' := by
  obtain ⟨c0, c1, c2, c3, c4, c5, c6⟩ := store_cells hq
  clear hq
  go_enter Try.func23, Try.ntmps23
  go_wp2
  go_returns
  exact ⟨rfl, rfl⟩
theorem slen_no (w : World) (v : Value) (h : NoStore w v) :
    Calls Try.prog 23 #[v] w fun e w' => e = .returned (.int .i64 0) ∧ w = w' := by
  rcases h with rfl | ⟨q, rfl, hq⟩
  · go_enter Try.func23, Try.ntmps23
    go_wp2
    go_returns
    exact ⟨rfl, rfl⟩
  · obtain ⟨c0, c1, c2, c3, c4, c5, c6⟩ := blank_cells hq
    clear hq
    go_enter Try.func23, Try.ntmps23
    go_wp2
    go_returns
    exact ⟨rfl, rfl⟩
theorem place_any (w : World) (q p bm : Nat) (h : Hd) (dead : Bool) (k : Int) (hq : w.heap[q]? = some (storeO p bm h dead)) (hr : h.room ≤ 2048) (hk0 : 0 ≤ k) (hk : k ≤ 2048) :
    Calls Try.prog 36 #[.pointer (some ⟨q, 0, none⟩), .int .i64 k] w fun e w' => e = .returned (.int .i64 ((2 + h.room : Nat) + k : Int)) ∧ w = w' := by
  obtain ⟨c0, c1, c2, c3, c4, c5, c6⟩ := store_cells hq
  clear hq
  go_enter Try.func36, Try.ntmps36
  go_wp2
  go_returns
  exact ⟨ret_i (by omega), rfl⟩
/-- What keeps a store from all that it does. -/
def sreadyE (dead : Bool) : Int := if dead = true then 11 else 0
theorem sready_any (w : World) (q p bm : Nat) (h : Hd) (dead : Bool) (hq : w.heap[q]? = some (storeO p bm h dead)) :
    Calls Try.prog 26 #[.pointer (some ⟨q, 0, none⟩)] w fun e w' => e = .returned (.int .i64 (sreadyE dead)) ∧ w = w' := by
  obtain ⟨c0, c1, c2, c3, c4, c5, c6⟩ := store_cells hq
  clear hq
  unfold sreadyE
  cases dead
  all_goals
    go_enter Try.func26, Try.ntmps26
    go_wp2
    go_returns
    exact ⟨rfl, rfl⟩
theorem sready_no (w : World) (v : Value) (h : NoStore w v) :
    Calls Try.prog 26 #[v] w fun e w' => e = .returned (.int .i64 3) ∧ w = w' := by
  rcases h with rfl | ⟨q, rfl, hq⟩
  · go_enter Try.func26, Try.ntmps26
    go_wp2
    go_returns
    exact ⟨rfl, rfl⟩
  · obtain ⟨c0, c1, c2, c3, c4, c5, c6⟩ := blank_cells hq
    clear hq
    go_enter Try.func26, Try.ntmps26
    go_wp2
    go_returns
    exact ⟨rfl, rfl⟩
/-- What keeps a page from being read or written. -/
def sreachE (h : Hd) (dead : Bool) (k : Int) : Int := if dead = true then 11 else if k < 0 ∨ h.pages ≤ k then 10 else 0
theorem sreach_any (w : World) (q p bm : Nat) (h : Hd) (dead : Bool) (k : Int) (hq : w.heap[q]? = some (storeO p bm h dead)) (h0 : -9223372036854775808 ≤ k) (h1 : k ≤ 9223372036854775807) :
    Calls Try.prog 34 #[.pointer (some ⟨q, 0, none⟩), .int .i64 k] w fun e w' => e = .returned (.int .i64 (sreachE h dead k)) ∧ w = w' := by
  have HQ := Lib.hid hq
  clear hq
  unfold sreachE
  cases dead
  · rw [if_neg (by decide)]
    rcases Int.lt_or_le k 0 with a | a
    · have hb : decide (k < 0) = true := by simpa using a
      rw [if_pos (.inl a)]
      go_enter Try.func34, Try.ntmps34
      go_wp2_with fail
      refine (sready_any _ q p bm h false HQ.out).mono ?_
      rintro e _ ⟨rfl, rfl⟩
      rw [show sreadyE false = 0 from rfl]
      go_wp2
      go_returns
      exact ⟨rfl, rfl⟩
    · have hb : decide (k < 0) = false := by simpa using a
      rcases Int.lt_or_le k h.pages with b | b
      · have hb2 : decide ((h.pages : Int) ≤ k) = false := by simpa using b
        rw [if_neg (by omega)]
        go_enter Try.func34, Try.ntmps34
        go_wp2_with fail
        refine (sready_any _ q p bm h false HQ.out).mono ?_
        rintro e _ ⟨rfl, rfl⟩
        rw [show sreadyE false = 0 from rfl]
        go_wp2_with fail
        refine (slen_any _ q p bm h false HQ.out).mono ?_
        rintro e _ ⟨rfl, rfl⟩
        go_wp2
        go_returns
        exact ⟨rfl, rfl⟩
      · have hb2 : decide ((h.pages : Int) ≤ k) = true := by simpa using b
        rw [if_pos (.inr b)]
        go_enter Try.func34, Try.ntmps34
        go_wp2_with fail
        refine (sready_any _ q p bm h false HQ.out).mono ?_
        rintro e _ ⟨rfl, rfl⟩
        rw [show sreadyE false = 0 from rfl]
        go_wp2_with fail
        refine (slen_any _ q p bm h false HQ.out).mono ?_
        rintro e _ ⟨rfl, rfl⟩
        go_wp2
        go_returns
        exact ⟨rfl, rfl⟩
  · rw [if_pos rfl]
    go_enter Try.func34, Try.ntmps34
    go_wp2_with fail
    refine (sready_any _ q p bm h true HQ.out).mono ?_
    rintro e _ ⟨rfl, rfl⟩
    rw [show sreadyE true = 11 from rfl]
    go_wp2
    go_returns
    exact ⟨rfl, rfl⟩
theorem sreach_no (w : World) (v : Value) (k : Int) (h : NoStore w v) :
    Calls Try.prog 34 #[v, .int .i64 k] w fun e w' => e = .returned (.int .i64 3) ∧ w = w' := by
  go_enter Try.func34, Try.ntmps34
  go_wp2_with fail
  refine (sready_no _ v h).mono ?_
  rintro e _ ⟨rfl, rfl⟩
  go_wp2
  go_returns
  exact ⟨rfl, rfl⟩
end Go.Proofs.Ytfcicpcpdklceaa
