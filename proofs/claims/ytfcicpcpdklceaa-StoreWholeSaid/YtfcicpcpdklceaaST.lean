/- The reference's Texts, of slices that are known. -/
import Derived.Test.YtfcicpcpdklceaaSS
namespace Go.Proofs.Ytfcicpcpdklceaa
set_option maxRecDepth 100000
open Go.ChangeShapes Go.WideShapes Go.ChangeAt Go.RowKit Go.PlainAid Go.ChangeMaps Go.MapKept
open Go.Sort (grow)

theorem TextsR.mono {v : Value} {R R' : List (Nat × Obj)} {l : List ByteArray} (h : TextsR v R l) (hs : ∀ x ∈ R, x ∈ R') : TextsR v R' l := by
  obtain ⟨g, cap, cur, hv, hm, hc⟩ := h
  exact ⟨g, cap, cur, hv, hs _ hm, hc⟩
theorem TextsR.open {v : Value} {R : List (Nat × Obj)} {l : List ByteArray} (h : TextsR v R l) {w : World} (hw : ∀ y ∈ R, w.heap[y.1]? = some y.2) : ∃ g cap, v = .slice (some ⟨g, 0, none⟩) l.length cap ∧ ∀ k s, l[k]? = some s → w.cell? ⟨g, k, none⟩ = some (.string s) := by
  obtain ⟨g, cap, cur, hv, hm, hc⟩ := h
  exact ⟨g, cap, hv, fun k s hk => row_cell (hw _ hm) hc (List.getElem?_eq_some_iff.1 hk).1 hk⟩
set_option maxHeartbeats 1000000 in
theorem textsB_any {R : List (Nat × Obj)} {va vb : Value} {la lb : List ByteArray} (ha : TextsR va R la) (hb : TextsR vb R lb) (hl : la.length = lb.length) (hn : la.length ≤ 1000000) (w : World) (hw : ∀ y ∈ R, w.heap[y.1]? = some y.2) :
    Calls Try.prog 16 #[va, vb] w fun e w' => e = .returned (.bool (decide (la = lb))) ∧ Below w.heap.size w w' := by
  obtain ⟨ga, ca, rfl, hca⟩ := ha.open hw
  obtain ⟨gb, cb, rfl, hcb⟩ := hb.open hw
  rw [← hl]
  have HL := Lib.hid hl
  have HCA := Lib.hid hca
  have HCB := Lib.hid hcb
  clear ha hb hl hca hcb hw
  go_enter Try.func16, Try.ntmps16
  go_wp2_with fail
  go_loopw [5] (fun i wr => ∃ k : Nat, k ≤ la.length ∧ i = .int .i64 k ∧ Below w.heap.size w wr ∧ la.take k = lb.take k) (fun i _ => la.length - (intOf i).toNat)
  case atStart => exact ⟨0, Nat.zero_le _, rfl, Below.refl _ _, rfl⟩
  case round =>
    obtain ⟨k, hk, rfl, hB, hE⟩ := hrel
    have HB := Lib.hid hB
    have HE := Lib.hid hE
    clear hB hE
    by_cases hlt : k < la.length
    · obtain ⟨x, hx⟩ : ∃ x, la[k]? = some x := ⟨_, List.getElem?_eq_getElem hlt⟩
      obtain ⟨y, hy⟩ : ∃ y, lb[k]? = some y := ⟨_, List.getElem?_eq_getElem (by have := HL.out; omega)⟩
      have h1 := HCA.out k x hx
      have h2 := HCB.out k y hy
      have c1 := (HB.out.cell (p := ⟨ga, k, none⟩) (World.block_lt_of_cell? w _ h1)).trans h1
      have c2 := (HB.out.cell (p := ⟨gb, k, none⟩) (World.block_lt_of_cell? w _ h2)).trans h2
      clear h1 h2
      by_cases hxy : x = y
      · subst hxy
        have hE2 : la.take (k + 1) = lb.take (k + 1) := by rw [List.take_add_one, List.take_add_one, HE.out, hx, hy]
        have HE2 := Lib.hid hE2
        clear hx hy hE2
        go_wp2_with fail
        go_quiet (fail)
        have HB2 : Hid (Below w.heap.size w (wr.drewN nq)) := HB.out.trans ⟨rfl, rfl, rfl, Nat.le_refl _, fun _ _ => rfl⟩
        clear HB c1 c2
        go_wp2
        go_roundw
        case rel => exact ⟨k + 1, by omega, by go_num, HB2.out, HE2.out⟩
        case measure => simp [intOf]; omega
      · have hne : la ≠ lb := by rintro rfl; rw [hx] at hy; exact hxy (by simpa using hy)
        have hdf : decide (la = lb) = false := by simpa using hne
        have HD := Lib.hid hdf
        have hb2 := text_ne hxy
        clear hx hy hne hdf hxy
        go_wp2_with fail
        go_quiet (fail)
        have HB2 : Hid (Below w.heap.size w (wr.drewN nq)) := HB.out.trans ⟨rfl, rfl, rfl, Nat.le_refl _, fun _ _ => rfl⟩
        clear HB c1 c2
        go_wp2
        go_returns
        exact ⟨by rw [HD.out]; rfl, HB2.out⟩
    · obtain rfl : k = la.length := by omega
      have hdt : decide (la = lb) = true := by
        have e := HE.out
        rw [List.take_length, HL.out, List.take_length] at e
        simpa using e
      have HD := Lib.hid hdt
      clear hdt
      go_wp2
      go_returns
      exact ⟨by rw [HD.out]; rfl, HB.out⟩
end Go.Proofs.Ytfcicpcpdklceaa
