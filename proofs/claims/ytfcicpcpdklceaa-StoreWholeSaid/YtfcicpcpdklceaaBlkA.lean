/- Contracts of package block: Len, made, ready, reach, spend, over a disk, and over none. -/
import Derived.Test.YtfcicpcpdklceaaRows
import Derived.Test.YtfcicpcpdklceaaDisk
namespace Go.Proofs.Ytfcicpcpdklceaa
open Go.ChangeShapes Go.WideShapes Go.ChangeAt Go.RowKit Go.PlainAid

/-- A disk, in this translation. -/
def Dk (w : World) (F : Foot) (d : D) : Prop := DiskAt 73 75 77 w F d
/-- A disk that no call made. -/
def Blank (w : World) (p : Nat) : Prop := w.heap[p]? = some (.cells #[.slice none 0 0, .slice none 0 0, .slice none 0 0, .int .i64 0, .bool false] 73 (0, 0))
/-- The value is no disk: nil, or a zero value. -/
def NoDisk (w : World) (v : Value) : Prop := v = .pointer none ∨ ∃ p, v = .pointer (some ⟨p, 0, none⟩) ∧ Blank w p

set_option maxHeartbeats 400000 in
theorem len_any (w : World) (F : Foot) (d : D) (h : Dk w F d) :
    Calls Try.prog 37 #[.pointer (some ⟨F.p, 0, none⟩)] w fun e w' => e = .returned (.int .i64 d.n) ∧ w = w' := by
  obtain ⟨c0, c1, c2, c3, c4⟩ := DiskAt.cells h
  go_enter Try.func37, Try.ntmps37
  go_wp2
  go_returns
  exact ⟨rfl, rfl⟩
set_option maxHeartbeats 400000 in
theorem len_no (w : World) (v : Value) (h : NoDisk w v) :
    Calls Try.prog 37 #[v] w fun e w' => e = .returned (.int .i64 0) ∧ w = w' := by
  rcases h with rfl | ⟨p, rfl, h⟩
  · go_enter Try.func37, Try.ntmps37
    go_wp2
    go_returns
    exact ⟨rfl, rfl⟩
  · have c0 : w.cell? ⟨p, 0, none⟩ = some (.slice none 0 0) := by rw [cell_of_row _ _ _ _ _ _ h]; rfl
    clear h
    go_enter Try.func37, Try.ntmps37
    go_wp2
    go_returns
    exact ⟨rfl, rfl⟩
set_option maxHeartbeats 400000 in
theorem made_any (w : World) (F : Foot) (d : D) (h : Dk w F d) :
    Calls Try.prog 30 #[.pointer (some ⟨F.p, 0, none⟩)] w fun e w' => e = .returned (.bool true) ∧ w = w' := by
  have hn := h.wf.lo
  have hb : decide (0 < d.n) = true := by simp; omega
  go_enter Try.func30, Try.ntmps30
  go_wp2_with fail
  refine (len_any _ F d h).mono ?_
  rintro e _ ⟨rfl, rfl⟩
  go_wp2
  go_returns
  exact ⟨rfl, rfl⟩
set_option maxHeartbeats 400000 in
theorem made_no (w : World) (v : Value) (h : NoDisk w v) :
    Calls Try.prog 30 #[v] w fun e w' => e = .returned (.bool false) ∧ w = w' := by
  go_enter Try.func30, Try.ntmps30
  go_wp2_with fail
  refine (len_no _ v h).mono ?_
  rintro e _ ⟨rfl, rfl⟩
  go_wp2
  go_returns
  exact ⟨rfl, rfl⟩
/-- What keeps a disk from all that it does. -/
def readyE (d : D) : Int := if d.dark = true then 11 else 0
set_option maxHeartbeats 400000 in
theorem ready_any (w : World) (F : Foot) (d : D) (h : Dk w F d) :
    Calls Try.prog 58 #[.pointer (some ⟨F.p, 0, none⟩)] w fun e w' => e = .returned (.int .i64 (readyE d)) ∧ w = w' := by
  obtain ⟨c0, c1, c2, c3, c4⟩ := DiskAt.cells h
  unfold readyE
  cases hd : d.dark
  all_goals
    rw [hd] at c4
    clear hd
    go_enter Try.func58, Try.ntmps58
    go_wp2_with fail
    refine (made_any _ F d h).mono ?_
    rintro e _ ⟨rfl, rfl⟩
    go_wp2
    go_returns
    exact ⟨rfl, rfl⟩
set_option maxHeartbeats 400000 in
theorem ready_no (w : World) (v : Value) (h : NoDisk w v) :
    Calls Try.prog 58 #[v] w fun e w' => e = .returned (.int .i64 3) ∧ w = w' := by
  go_enter Try.func58, Try.ntmps58
  go_wp2_with fail
  refine (made_no _ v h).mono ?_
  rintro e _ ⟨rfl, rfl⟩
  go_wp2
  go_returns
  exact ⟨rfl, rfl⟩
/-- What keeps a block from being read or written. -/
def reachE (d : D) (k : Int) : Int := if d.dark = true then 11 else if k < 0 ∨ d.n ≤ k then 10 else 0
theorem reachE_ready {d : D} {k : Int} (h : readyE d = 11) : reachE d k = 11 := by
  unfold readyE at h
  unfold reachE
  cases hd : d.dark
  · rw [hd] at h; simp at h
  · rfl
set_option maxHeartbeats 400000 in
theorem reach_any (w : World) (F : Foot) (d : D) (k : Int) (h : Dk w F d) (h0 : -9223372036854775808 ≤ k) (h1 : k ≤ 9223372036854775807) :
    Calls Try.prog 49 #[.pointer (some ⟨F.p, 0, none⟩), .int .i64 k] w fun e w' => e = .returned (.int .i64 (reachE d k)) ∧ w = w' := by
  obtain ⟨c0, c1, c2, c3, c4⟩ := DiskAt.cells h
  have hr : reachE d k = if readyE d = 11 then 11 else if k < 0 ∨ d.n ≤ k then 10 else 0 := by
    unfold reachE readyE
    cases d.dark <;> rfl
  have H := Lib.hid hr
  clear hr
  have hcases : readyE d = 11 ∨ readyE d = 0 := by unfold readyE; cases d.dark <;> simp
  rcases hcases with hc | hc
  · have hd := Lib.hid hc
    clear hc
    go_enter Try.func49, Try.ntmps49
    go_wp2_with fail
    refine (ready_any _ F d h).mono ?_
    rintro e _ ⟨rfl, rfl⟩
    rw [hd.out]
    go_wp2
    go_returns
    exact ⟨ret_i (by rw [H.out, hd.out]; rfl), rfl⟩
  · have hd := Lib.hid hc
    clear hc
    rcases Int.lt_or_le k 0 with a | a
    · have hb : decide (k < 0) = true := by simpa using a
      go_enter Try.func49, Try.ntmps49
      go_wp2_with fail
      refine (ready_any _ F d h).mono ?_
      rintro e _ ⟨rfl, rfl⟩
      rw [hd.out]
      go_wp2
      go_returns
      exact ⟨ret_i (by rw [H.out, hd.out, if_neg (by decide), if_pos (.inl a)]), rfl⟩
    · have hb : decide (k < 0) = false := by simpa using a
      rcases Int.lt_or_le k d.n with b | b
      · have hb2 : decide ((d.n : Int) ≤ k) = false := by simpa using b
        go_enter Try.func49, Try.ntmps49
        go_wp2_with fail
        refine (ready_any _ F d h).mono ?_
        rintro e _ ⟨rfl, rfl⟩
        rw [hd.out]
        go_wp2
        go_returns
        exact ⟨ret_i (by rw [H.out, hd.out, if_neg (by decide), if_neg (by omega)]), rfl⟩
      · have hb2 : decide ((d.n : Int) ≤ k) = true := by simpa using b
        go_enter Try.func49, Try.ntmps49
        go_wp2_with fail
        refine (ready_any _ F d h).mono ?_
        rintro e _ ⟨rfl, rfl⟩
        rw [hd.out]
        go_wp2
        go_returns
        exact ⟨ret_i (by rw [H.out, hd.out, if_neg (by decide), if_pos (.inr b)]), rfl⟩
set_option maxHeartbeats 400000 in
theorem reach_no (w : World) (v : Value) (k : Int) (h : NoDisk w v) :
    Calls Try.prog 49 #[v, .int .i64 k] w fun e w' => e = .returned (.int .i64 3) ∧ w = w' := by
  go_enter Try.func49, Try.ntmps49
  go_wp2_with fail
  refine (ready_no _ v h).mono ?_
  rintro e _ ⟨rfl, rfl⟩
  go_wp2
  go_returns
  exact ⟨rfl, rfl⟩
/-- A disk whose head has another limit, or power. -/
theorem Dk.newHead {w : World} {F : Foot} {d : D} (h : Dk w F d) (w' : World) (lim : Int) (dark : Bool) (hs : w.heap.size ≤ w'.heap.size) (l0 : -1 ≤ lim) (l1 : lim ≤ 9223372036854775807)
    (hp : w'.heap[F.p]? = some (.cells #[.slice (some ⟨F.S, 0, none⟩) d.n d.n, .slice (some ⟨F.L, 0, none⟩) d.n d.n, F.lv, .int .i64 lim, .bool dark] 73 (0, 0)))
    (ho : ∀ k, F.own k → k ≠ F.p → w'.heap[k]? = w.heap[k]?) : Dk w' F { d with limit := lim, dark := dark } where
  head := hp
  safe := h.safe.keep (ho _ (.inr (.inl rfl)) h.pS.symm)
  last := h.last.keep (ho _ (.inr (.inr (.inl rfl))) h.pL.symm)
  late := by
    obtain ⟨h1, h2⟩ := h.late
    refine ⟨h1, ?_⟩
    rcases h2 with h2 | ⟨g, cap, cur, hv, hb, hg, h3⟩
    · exact .inl h2
    · have hown : F.lv.ownBlock = some g := by rw [hv]; rfl
      exact .inr ⟨g, cap, cur, hv, hb, (ho g (.inr (.inr (.inr hown))) (h.own_ne hown).1).trans hg, h3⟩
  pB := h.pB
  SB := h.SB
  LB := h.LB
  pS := h.pS
  pL := h.pL
  SL := h.SL
  base := Nat.le_trans h.base hs
  wf := ⟨h.wf.lo, h.wf.hi, h.wf.safe, h.wf.late, l0, l1⟩
/-- A write, or a flush, is taken off the limit. -/
def D.spent (d : D) : D := if d.limit = 0 then { d with dark := true } else if 0 < d.limit then { d with limit := d.limit - 1 } else d
def spendE (d : D) : Int := if d.limit = 0 then 11 else 0
set_option maxHeartbeats 400000 in
theorem spend_any (w : World) (F : Foot) (d : D) (h : Dk w F d) :
    Calls Try.prog 50 #[.pointer (some ⟨F.p, 0, none⟩)] w fun e w' => e = .returned (.int .i64 (spendE d)) ∧ Dk w' F d.spent ∧ Keeps (fun k => k = F.p) w w' := by
  obtain ⟨c0, c1, c2, c3, c4⟩ := DiskAt.cells h
  have t3 := DiskAt.thaw h 3
  have t4 := DiskAt.thaw h 4
  have hl := h.wf.llo
  have hh := h.wf.lhi
  have hhd := Lib.hid h.head
  unfold spendE D.spent
  by_cases z : d.limit = 0
  · have hb : (d.limit == 0) = true := by simpa using z
    rw [if_pos z, if_pos z]
    have hz := Lib.hid z
    clear z
    go_enter Try.func50, Try.ntmps50
    go_wp2
    go_returns
    refine ⟨rfl, ?_, Keeps.setCell (own := fun k => k = F.p) (Keeps.refl _ _) (.inl rfl) _⟩
    have := h.newHead (w.setCell ⟨F.p, 4, none⟩ (.bool true)) d.limit true (by simp) hl hh (heap_setCell_same _ _ _ _ _ _ hhd.out) (fun k _ hk => heap_setCell_other _ _ _ _ hk)
    exact this
  · have hb : (d.limit == 0) = false := by simpa using z
    rw [if_neg z, if_neg z]
    by_cases g : 0 < d.limit
    · have hg : decide (0 < d.limit) = true := by simpa using g
      rw [if_pos g]
      clear z
      go_enter Try.func50, Try.ntmps50
      go_wp2
      go_returns
      refine ⟨rfl, ?_, Keeps.setCell (own := fun k => k = F.p) (Keeps.refl _ _) (.inl rfl) _⟩
      exact h.newHead (w.setCell ⟨F.p, 3, none⟩ (.int .i64 (d.limit - 1))) (d.limit - 1) d.dark (by simp) (by omega) (by omega) (heap_setCell_same _ _ _ _ _ _ hhd.out) (fun k _ hk => heap_setCell_other _ _ _ _ hk)
    · have hg : decide (0 < d.limit) = false := by simpa using g
      rw [if_neg g]
      clear z
      go_enter Try.func50, Try.ntmps50
      go_wp2
      go_returns
      exact ⟨rfl, h, Keeps.refl _ _⟩
end Go.Proofs.Ytfcicpcpdklceaa
