/- Both disks beside each other: a call of Flush. -/
import Derived.Test.YtcefljfocagcoaaDoes
namespace Go.Proofs.Ytcefljfocagcoaa
open Go.ChangeShapes Go.WideShapes Go.ChangeAt Go.RowKit Go.PlainAid

theorem RefV.lt {P : Nat → Prop} {w : World} {v : Value} {d : D} (h : RefV P w v d) : RefV (fun b => P b ∧ b < w.heap.size) w v d := by
  obtain ⟨sa, la, sn, sc, ln, lc, lim, hv, h1, h2, h3, h4, h5, h6, h7, h8⟩ := h
  refine ⟨sa, la, sn, sc, ln, lc, lim, hv, h1, h2, h3, h4, h5, h6, fun a e => ⟨h7 a e, ?_⟩, fun a e => ⟨h8 a e, ?_⟩⟩
  · obtain ⟨b, cap, hv, hb, hc⟩ := h1
    subst e
    cases hv
    exact hb
  · rcases h2 with ⟨hv, _⟩ | ⟨b, cap, hv, hb, hc⟩
    · cases hv
      cases e
    · subst e
      cases hv
      exact hb
/-- The reference's new value, stored in a box of the call's own. -/
theorem next_stored {w w2 w3 : World} {F : Foot} {q nb : Nat} {t : TypeId} {d d' : D} {o0 o1 o2 o3 c0 c1 c2 c3 : Value} (hd : Dk w F d) (hqs : q < w.heap.size) (hb2 : Below w.heap.size w w2) (hb3 : Below w2.heap.size w2 w3)
    (hn : w.heap.size ≤ nb) (hn2 : nb < w2.heap.size) (hx : w3.heap[nb]? = some (.cells #[o0, o1, o2, o3] t (0, 0)))
    (hv : RefV (fun b => (¬ F.own b ∧ b ≠ q ∧ b < w.heap.size) ∨ w2.heap.size ≤ b) w3 (.agg #[c0, c1, c2, c3]) d') :
    let w4 := ((((w3.setCell ⟨nb, 0, none⟩ c0).setCell ⟨nb, 1, none⟩ c1).setCell ⟨nb, 2, none⟩ c2).setCell ⟨nb, 3, none⟩ c3)
    Below w.heap.size w w4 ∧ w4.heap[nb]? = some (.cells #[c0, c1, c2, c3] t (0, 0)) ∧ RefV (fun b => ¬ F.own b ∧ b ≠ q ∧ b < w4.heap.size) w4 (.agg #[c0, c1, c2, c3]) d' := by
  intro w4
  have e1 : Keeps (fun k => k = nb) w3 (w3.setCell ⟨nb, 0, none⟩ c0) := (Keeps.refl (fun k => k = nb) w3).setCell (.inl rfl) c0
  have e2 : Keeps (fun k => k = nb) w3 ((w3.setCell ⟨nb, 0, none⟩ c0).setCell ⟨nb, 1, none⟩ c1) := e1.setCell (.inl rfl) c1
  have e3 : Keeps (fun k => k = nb) w3 (((w3.setCell ⟨nb, 0, none⟩ c0).setCell ⟨nb, 1, none⟩ c1).setCell ⟨nb, 2, none⟩ c2) := e2.setCell (.inl rfl) c2
  have hk4 : Keeps (fun k => k = nb) w3 w4 := e3.setCell (.inl rfl) c3
  refine ⟨four_below (hb2.on hb3) hn _ _ _ _, four_stored hx c0 c1 c2 c3, ?_⟩
  have hs2 := hb2.size
  refine (hv.lt.keeps hk4 (fun b h => ?_)).mono fun b h => ⟨fun c => ?_, fun c => ?_, Nat.lt_of_lt_of_le h.2 hk4.size⟩
  · rintro rfl
    rcases h.1 with c | c
    · exact absurd c.2.2 (by omega)
    · omega
  · rcases h.1 with e | e
    · exact e.1 c
    · have := DiskAt.own_lt hd c
      omega
  · rcases h.1 with e | e
    · exact e.2.1 c
    · omega
set_option maxHeartbeats 1000000 in
theorem does_flush (w0 w : World) (p q : Nat) (d : D) (a : ActV) (hB : Both w0 p q d w) (ha : a.Wf) (hwf : d.Wf) (hk : a.kind = 1) (hlen : d.late.length < 4294967296) :
    Calls Try.prog 8 #[.pointer (some ⟨p, 0, none⟩), .pointer (some ⟨q, 0, none⟩), .agg #[.int .i64 a.kind, .int .i64 a.at_, .string a.data, .int .u64 a.mask, .int .i64 a.torn, .int .i64 a.cut]] w fun e w' => e = .returned (.bool true) ∧ Both w0 p q (d.does a) w' := by
  obtain ⟨F, c0, c1, c2, c3, rfl, hd, hb, ho, hq, hq0, hx, hv⟩ := hB
  obtain ⟨kind, at_, data, mask, torn, cut⟩ := a
  obtain rfl : kind = 1 := hk
  have HV := Lib.hid hv
  obtain ⟨sa, la, sn, sc, ln, lc, lim, hv, hrest⟩ := hv
  cases hv
  have hqs := heap_lt hx
  have hx1 := (Below.heap_alloc w (.cells #[.int .i64 1, .int .i64 at_, .string data, .int .u64 mask, .int .i64 torn, .int .i64 cut] 39) q hqs).trans hx
  have ha1 := heap_alloc_new w (.cells #[.int .i64 1, .int .i64 at_, .string data, .int .u64 mask, .int .i64 torn, .int .i64 cut] 39)
  obtain ⟨x0, x1, x2, x3, x4, x5, x6, x7⟩ := cells4 hx1
  have hna : w.heap.size ≠ q := by omega
  go_enter Try.func8, Try.ntmps8
  go_wp2_with fail
  have hn2 := heap_alloc2_new w (.cells #[.int .i64 1, .int .i64 at_, .string data, .int .u64 mask, .int .i64 torn, .int .i64 cut] 39) (.cells #[.slice sa sn sc, .slice la ln lc, .int .i64 lim, .bool d.dark] 31)
  have ha2 := heap_alloc2_old w (.cells #[.int .i64 1, .int .i64 at_, .string data, .int .u64 mask, .int .i64 torn, .int .i64 cut] 39) (.cells #[.slice sa sn sc, .slice la ln lc, .int .i64 lim, .bool d.dark] 31)
  have hb2 : Below w.heap.size w ((w.alloc (.cells #[.int .i64 1, .int .i64 at_, .string data, .int .u64 mask, .int .i64 torn, .int .i64 cut] 39)).alloc (.cells #[.slice sa sn sc, .slice la ln lc, .int .i64 lim, .bool d.dark] 31)) := by go_grown
  have hz2 : w.heap.size + 1 < ((w.alloc (.cells #[.int .i64 1, .int .i64 at_, .string data, .int .u64 mask, .int .i64 torn, .int .i64 cut] 39)).alloc (.cells #[.slice sa sn sc, .slice la ln lc, .int .i64 lim, .bool d.dark] 31)).heap.size := by simp
  generalize (w.alloc (.cells #[.int .i64 1, .int .i64 at_, .string data, .int .u64 mask, .int .i64 torn, .int .i64 cut] 39)).alloc (.cells #[.slice sa sn sc, .slice la ln lc, .int .i64 lim, .bool d.dark] 31) = w2 at *
  have hq2 := (hb2.block q hqs).trans hx
  clear x0 x1 x2 x3 x4 x5 x6 x7 hx1 ha1
  obtain ⟨x0, x1, x2, x3, x4, x5, x6, x7⟩ := cells4 hq2
  have a1 : w2.cell? ⟨w.heap.size, 1, none⟩ = some (.int .i64 at_) := by rw [cell_of_row _ _ _ _ _ _ ha2]; rfl
  have HR := Lib.hid (fun (w3 : World) (b : Below w.heap.size w w3) => rflush_any (fun b => ¬ F.own b ∧ b ≠ q ∧ b < w.heap.size) w3 _ d (HV.out.on b) hwf hlen)
  have HD := Lib.hid (fun (w3 : World) (b : Dk w3 F d) => flush_any w3 F d b hlen)
  have HB2 := Lib.hid hb2
  clear hrest hb2
  go_wp2_with fail
  refine (HR.out _ HB2.out).mono ?_
  rintro e w3 ⟨v', rfl, hv3, hb3⟩
  obtain ⟨sa', la', sn', sc', ln', lc', lim', rfl, hrest'⟩ := id hv3
  have hn3 := (hb3.block _ hz2).trans hn2
  obtain ⟨hb4, hn4, hv4⟩ := next_stored hd hqs HB2.out hb3 (Nat.le_succ _) hz2 hn3 hv3
  have HD4 := Lib.hid (show Dk _ F d from DiskAt.below hd hb4)
  have hq4 := (hb4.block q hqs).trans hx
  clear hrest' hv3
  obtain ⟨y0, y1, y2, y3, y4, y5, y6, y7⟩ := cells4 hn3
  go_wp2_with fail
  generalize ((((w3.setCell ⟨w.heap.size + 1, 0, none⟩ (.slice sa' sn' sc')).setCell ⟨w.heap.size + 1, 1, none⟩ (.slice la' ln' lc')).setCell ⟨w.heap.size + 1, 2, none⟩ (.int .i64 lim')).setCell ⟨w.heap.size + 1, 3, none⟩ (.bool d.flush.dark)) = w4 at *
  clear y0 y1 y2 y3 y4 y5 y6 y7 x0 x1 x2 x3 x4 x5 x6 x7
  ((with_reducible refine (HD.out w4 HD4.out).mono ?_); rintro e w5 ⟨rfl, hm⟩)
  obtain ⟨F', hd', hp', hn', hk'⟩ := id hm
  have hown : ¬ F.own (w.heap.size + 1) := fun c => by
    have := DiskAt.own_lt hd c
    omega
  have hn5 := (hk'.block _ (heap_lt hn4) hown).trans hn4
  have hq5 := (hk'.block _ (heap_lt hq4) hq).trans hq4
  obtain ⟨y0, y1, y2, y3, y4, y5, y6, y7⟩ := cells4 hn5
  obtain ⟨x0, x1, x2, x3, x4, x5, x6, x7⟩ := cells4 hq5
  have hfin := both_fin hm (hb.on hb4) ho hq hq0 hq4 hv4
  have hD : D.does d ⟨1, at_, data, mask, torn, cut⟩ = d.flush := by
    unfold D.does
    rw [if_neg (show ¬ (1 : Int) = 0 by decide), if_pos rfl]
  rw [← hD] at hfin
  have HF := Lib.hid hfin
  clear hfin hm hd' hp' hn' hk' hD
  go_wp2_with fail
  go_returns
  exact ⟨by simp, HF.out⟩
end Go.Proofs.Ytcefljfocagcoaa
