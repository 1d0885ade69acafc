/- Both disks beside each other: a call of Write. -/
import Derived.Test.YtcefljfocagcoaaDoesF
namespace Go.Proofs.Ytcefljfocagcoaa
open Go.ChangeShapes Go.WideShapes Go.ChangeAt Go.RowKit Go.PlainAid

set_option maxHeartbeats 16000000 in
theorem does_write (w0 w : World) (p q : Nat) (d : D) (a : ActV) (hB : Both w0 p q d w) (ha : a.Wf) (hwf : d.Wf) (hk : a.kind = 0) (hlen : d.late.length < 4294967296) :
    Calls Try.prog 8 #[.pointer (some ⟨p, 0, none⟩), .pointer (some ⟨q, 0, none⟩), .agg #[.int .i64 a.kind, .int .i64 a.at_, .string a.data, .int .u64 a.mask, .int .i64 a.torn, .int .i64 a.cut]] w fun e w' => e = .returned (.bool true) ∧ Both w0 p q (d.does a) w' := by
  obtain ⟨F, c0, c1, c2, c3, rfl, hd, hb, ho, hq, hq0, hx, hv⟩ := hB
  obtain ⟨kind, at_, data, mask, torn, cut⟩ := a
  obtain rfl : kind = 0 := hk
  have HV := Lib.hid hv
  obtain ⟨sa, la, sn, sc, ln, lc, lim, hv, hrest⟩ := hv
  cases hv
  have hqs := heap_lt hx
  have hx1 := (Below.heap_alloc w (.cells #[.int .i64 0, .int .i64 at_, .string data, .int .u64 mask, .int .i64 torn, .int .i64 cut] 39) q hqs).trans hx
  have ha1 := heap_alloc_new w (.cells #[.int .i64 0, .int .i64 at_, .string data, .int .u64 mask, .int .i64 torn, .int .i64 cut] 39)
  obtain ⟨x0, x1, x2, x3, x4, x5, x6, x7⟩ := cells4 hx1
  have hna : w.heap.size ≠ q := by omega
  go_enter Try.func8, Try.ntmps8
  go_wp2_with fail
  have hn2 := heap_alloc2_new w (.cells #[.int .i64 0, .int .i64 at_, .string data, .int .u64 mask, .int .i64 torn, .int .i64 cut] 39) (.cells #[.slice sa sn sc, .slice la ln lc, .int .i64 lim, .bool d.dark] 31)
  have ha2 := heap_alloc2_old w (.cells #[.int .i64 0, .int .i64 at_, .string data, .int .u64 mask, .int .i64 torn, .int .i64 cut] 39) (.cells #[.slice sa sn sc, .slice la ln lc, .int .i64 lim, .bool d.dark] 31)
  have hb2 : Below w.heap.size w ((w.alloc (.cells #[.int .i64 0, .int .i64 at_, .string data, .int .u64 mask, .int .i64 torn, .int .i64 cut] 39)).alloc (.cells #[.slice sa sn sc, .slice la ln lc, .int .i64 lim, .bool d.dark] 31)) := by go_grown
  have hz2 : w.heap.size + 1 < ((w.alloc (.cells #[.int .i64 0, .int .i64 at_, .string data, .int .u64 mask, .int .i64 torn, .int .i64 cut] 39)).alloc (.cells #[.slice sa sn sc, .slice la ln lc, .int .i64 lim, .bool d.dark] 31)).heap.size := by simp
  generalize (w.alloc (.cells #[.int .i64 0, .int .i64 at_, .string data, .int .u64 mask, .int .i64 torn, .int .i64 cut] 39)).alloc (.cells #[.slice sa sn sc, .slice la ln lc, .int .i64 lim, .bool d.dark] 31) = w2 at *
  have hq2 := (hb2.block q hqs).trans hx
  clear x0 x1 x2 x3 x4 x5 x6 x7 hx1 ha1
  obtain ⟨x0, x1, x2, x3, x4, x5, x6, x7⟩ := cells4 hq2
  have a2 : w2.cell? ⟨w.heap.size, 2, none⟩ = some (.string data) := by rw [cell_of_row _ _ _ _ _ _ ha2]; rfl
  have a1 : w2.cell? ⟨w.heap.size, 1, none⟩ = some (.int .i64 at_) := by rw [cell_of_row _ _ _ _ _ _ ha2]; rfl
  obtain ⟨d', hd'⟩ : ∃ d', d.write at_ data = d' := ⟨_, rfl⟩
  obtain ⟨m', hm'⟩ : ∃ m', writeE d at_ data = m' := ⟨_, rfl⟩
  have HR : Hid (∀ (w3 : World), Below w.heap.size w w3 → Calls Try.prog 16 #[.agg #[.slice sa sn sc, .slice la ln lc, .int .i64 lim, .bool d.dark], .int .i64 at_, .string data] w3 fun e w' => ∃ v, e = .returned (.tuple #[v, .int .i64 m']) ∧ RefV (fun b => (¬ F.own b ∧ b ≠ q ∧ b < w.heap.size) ∨ w3.heap.size ≤ b) w' v d' ∧ Below w3.heap.size w3 w') := by
    rw [← hd', ← hm']
    exact Lib.hid (fun w3 b => rwrite_any (fun b => ¬ F.own b ∧ b ≠ q ∧ b < w.heap.size) w3 _ d at_ data (HV.out.on b) hwf hlen ha.at_.1 ha.at_.2)
  have HD : Hid (∀ (w3 : World), Dk w3 F d → Calls Try.prog 12 #[.pointer (some ⟨F.p, 0, none⟩), .int .i64 at_, .string data] w3 fun e w' => e = .returned (.int .i64 m') ∧ Moves F d' w3 w') := by
    rw [← hd', ← hm']
    exact Lib.hid (fun w3 b => write_any w3 F d at_ data b ha.at_.1 ha.at_.2 hlen)
  have HM := Lib.hid hd'
  clear hd' hm'
  have HB2 := Lib.hid hb2
  clear hrest hb2
  go_wp2_with fail
  go_region_law (first
    | (go_simp; (with_reducible refine (HR.out _ (HB2.out.on (by go_grown))).mono ?_); rintro e w3 ⟨v', rfl, hv3, hb3⟩; obtain ⟨sa', la', sn', sc', ln', lc', lim', rfl, hrest'⟩ := id hv3; clear hrest'; have hb3' : Below w2.heap.size w2 w3 := (show Below w2.heap.size w2 w2.drew by go_grown).on hb3; have hn3 := (hb3'.block _ hz2).trans hn2; obtain ⟨y0, y1, y2, y3, y4, y5, y6, y7⟩ := cells4 hn3; have HB3 := Lib.hid hb3'; have HV3 := Lib.hid hv3; have HN3 := Lib.hid hn3; clear hb3 hb3' hv3 hn3)
    | fail)
  all_goals
    obtain ⟨hb4, hn4, hv4⟩ := next_stored hd hqs HB2.out HB3.out (show w.heap.size ≤ w.heap.size + 1 by omega) hz2 HN3.out HV3.out
    have HD4 := Lib.hid (show Dk _ F d from DiskAt.below hd hb4)
    have hq4 := (hb4.block q hqs).trans hx
    have ha4 := ((four_other (w1 := w3) (q := w.heap.size + 1) (k := w.heap.size) (by omega) (.slice sa' sn' sc') (.slice la' ln' lc') (.int .i64 lim') (.bool d'.dark)).trans (HB3.out.block w.heap.size (Nat.lt_of_succ_lt hz2))).trans ha2
    generalize ((((w3.setCell ⟨w.heap.size + 1, 0, none⟩ (.slice sa' sn' sc')).setCell ⟨w.heap.size + 1, 1, none⟩ (.slice la' ln' lc')).setCell ⟨w.heap.size + 1, 2, none⟩ (.int .i64 lim')).setCell ⟨w.heap.size + 1, 3, none⟩ (.bool d'.dark)) = w4 at *
    clear y0 y1 y2 y3 y4 y5 y6 y7 x0 x1 x2 x3 x4 x5 x6 x7
    have HV4 := Lib.hid hv4
    clear hv4
    have m1 : w4.cell? ⟨w.heap.size, 1, none⟩ = some (.int .i64 at_) := by rw [cell_of_row _ _ _ _ _ _ ha4]; rfl
    have m2 : w4.cell? ⟨w.heap.size, 2, none⟩ = some (.string data) := by rw [cell_of_row _ _ _ _ _ _ ha4]; rfl
    go_wp2_with fail
    ((with_reducible refine (HD.out w4 HD4.out).mono ?_); rintro e w5 ⟨rfl, hm⟩)
    obtain ⟨F', hd', hp', hn', hk'⟩ := id hm
    have hown : ¬ F.own (w.heap.size + 1) := fun c => by
      have := DiskAt.own_lt hd c
      omega
    have hn5 := (hk'.block _ (heap_lt hn4) hown).trans hn4
    have hq5 := (hk'.block _ (heap_lt hq4) hq).trans hq4
    obtain ⟨y0, y1, y2, y3, y4, y5, y6, y7⟩ := cells4 hn5
    obtain ⟨x0, x1, x2, x3, x4, x5, x6, x7⟩ := cells4 hq5
    have hfin := both_fin hm (hb.on hb4) ho hq hq0 hq4 HV4.out
    have hD : D.does d ⟨0, at_, data, mask, torn, cut⟩ = d' := by
      rw [← HM.out]
      unfold D.does
      rw [if_pos rfl]
    have HDD := Lib.hid hD
    have HF := Lib.hid hfin
    clear hfin hm hd' hp' hn' hk' hD
    go_wp2_with fail
    go_returns
    exact ⟨by simp, by rw [HDD.out]; exact HF.out⟩
end Go.Proofs.Ytcefljfocagcoaa
