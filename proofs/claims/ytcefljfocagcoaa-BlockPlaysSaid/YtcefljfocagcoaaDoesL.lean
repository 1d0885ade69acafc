/- Both disks beside each other: a call of Limit. -/
import Derived.Test.YtcefljfocagcoaaDoesF
namespace Go.Proofs.Ytcefljfocagcoaa
open Go.ChangeShapes Go.WideShapes Go.ChangeAt Go.RowKit Go.PlainAid

set_option maxHeartbeats 1000000 in
theorem does_limit (w0 w : World) (p q : Nat) (d : D) (a : ActV) (hB : Both w0 p q d w) (ha : a.Wf) (hk : a.kind = 3) :
    Calls Try.prog 8 #[.pointer (some ⟨p, 0, none⟩), .pointer (some ⟨q, 0, none⟩), .agg #[.int .i64 a.kind, .int .i64 a.at_, .string a.data, .int .u64 a.mask, .int .i64 a.torn, .int .i64 a.cut]] w fun e w' => e = .returned (.bool true) ∧ Both w0 p q (d.does a) w' := by
  obtain ⟨F, c0, c1, c2, c3, rfl, hd, hb, ho, hq, hq0, hx, hv⟩ := hB
  obtain ⟨kind, at_, data, mask, torn, cut⟩ := a
  obtain rfl : kind = 3 := hk
  have HV := Lib.hid hv
  obtain ⟨sa, la, sn, sc, ln, lc, lim, hv, hrest⟩ := hv
  cases hv
  have hqs := heap_lt hx
  have hx1 := (Below.heap_alloc w (.cells #[.int .i64 3, .int .i64 at_, .string data, .int .u64 mask, .int .i64 torn, .int .i64 cut] 39) q hqs).trans hx
  have ha1 := heap_alloc_new w (.cells #[.int .i64 3, .int .i64 at_, .string data, .int .u64 mask, .int .i64 torn, .int .i64 cut] 39)
  obtain ⟨x0, x1, x2, x3, x4, x5, x6, x7⟩ := cells4 hx1
  have hna : w.heap.size ≠ q := by omega
  go_enter Try.func8, Try.ntmps8
  go_wp2_with fail
  have hn2 := heap_alloc2_new w (.cells #[.int .i64 3, .int .i64 at_, .string data, .int .u64 mask, .int .i64 torn, .int .i64 cut] 39) (.cells #[.slice sa sn sc, .slice la ln lc, .int .i64 at_, .bool d.dark] 31)
  have hb2 : Below w.heap.size w ((w.alloc (.cells #[.int .i64 3, .int .i64 at_, .string data, .int .u64 mask, .int .i64 torn, .int .i64 cut] 39)).alloc (.cells #[.slice sa sn sc, .slice la ln lc, .int .i64 at_, .bool d.dark] 31)) := by go_grown
  have hz2 : w.heap.size + 1 < ((w.alloc (.cells #[.int .i64 3, .int .i64 at_, .string data, .int .u64 mask, .int .i64 torn, .int .i64 cut] 39)).alloc (.cells #[.slice sa sn sc, .slice la ln lc, .int .i64 at_, .bool d.dark] 31)).heap.size := by simp
  generalize (w.alloc (.cells #[.int .i64 3, .int .i64 at_, .string data, .int .u64 mask, .int .i64 torn, .int .i64 cut] 39)).alloc (.cells #[.slice sa sn sc, .slice la ln lc, .int .i64 at_, .bool d.dark] 31) = w2 at *
  have hq2 := (hb2.block q hqs).trans hx
  clear x0 x1 x2 x3 x4 x5 x6 x7 hx1 ha1
  have hd2 : Dk w2 F d := DiskAt.below hd hb2
  obtain ⟨k0, k1⟩ := ha.at_
  obtain ⟨hs, hl, hr, l0, l1, lz, lp, lq⟩ := hrest
  have hv2 : RefV (fun b => ¬ F.own b ∧ b ≠ q ∧ b < w2.heap.size) w2 (.agg #[.slice sa sn sc, .slice la ln lc, .int .i64 at_, .bool d.dark]) (d.limited at_) :=
    RefV.mono (P := fun b => ¬ F.own b ∧ b ≠ q ∧ b < w.heap.size) ⟨sa, la, sn, sc, ln, lc, at_, rfl, hs.on hb2, hl.on hb2, (show LimR at_ (max at_ (-1)) from by unfold LimR; omega), k0, k1, lz, lp, lq⟩ fun b h => ⟨h.1, h.2.1, Nat.lt_of_lt_of_le h.2.2 hb2.size⟩
  have HV2 := Lib.hid hv2
  clear hv2 hs hl hr lz lp lq
  ((with_reducible refine (limit_any w2 F d at_ hd2 k0 k1).mono ?_); rintro e w5 ⟨rfl, hm⟩)
  obtain ⟨F', hd', hp', hn', hk'⟩ := id hm
  have hown : ¬ F.own (w.heap.size + 1) := fun c => by
    have := DiskAt.own_lt hd c
    omega
  have hn5 := (hk'.block _ (heap_lt hn2) hown).trans hn2
  have hq5 := (hk'.block _ (heap_lt hq2) hq).trans hq2
  obtain ⟨y0, y1, y2, y3, y4, y5, y6, y7⟩ := cells4 hn5
  obtain ⟨x0, x1, x2, x3, x4, x5, x6, x7⟩ := cells4 hq5
  have hfin := both_fin hm (hb.on hb2) ho hq hq0 hq2 HV2.out
  have hD : D.does d ⟨3, at_, data, mask, torn, cut⟩ = d.limited at_ := by
    unfold D.does
    rw [if_neg (show ¬ (3 : Int) = 0 by decide), if_neg (show ¬ (3 : Int) = 1 by decide), if_neg (show ¬ (3 : Int) = 2 by decide), if_pos rfl]
  rw [← hD] at hfin
  have HF := Lib.hid hfin
  clear hfin hm hd' hp' hn' hk' hD
  go_wp2_with fail
  go_returns
  exact ⟨by simp, HF.out⟩
end Go.Proofs.Ytcefljfocagcoaa
