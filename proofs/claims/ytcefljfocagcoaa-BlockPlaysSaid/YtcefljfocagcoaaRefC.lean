/- Contracts of the reference's disk: Crash, Flush. -/
import Derived.Test.YtcefljfocagcoaaRefB
import Derived.Test.YtcefljfocagcoaaRefV
import Derived.Test.YtcefljfocagcoaaBlkD
namespace Go.Proofs.Ytcefljfocagcoaa
open Go.ChangeShapes Go.WideShapes Go.ChangeAt Go.RowKit Go.PlainAid

theorem bit_all (k : Nat) : bitB 18446744073709551615 k = true := by
  have h : ∀ j, j < 64 → ((18446744073709551615 : Int) / 2 ^ j % 2 == 1) = true := by decide +kernel
  exact h (k % 64) (Nat.mod_lt _ (by decide))
theorem torn_none (k : Nat) : tornTo (-1) 0 k = 256 := by
  unfold tornTo
  rw [if_neg (by omega)]
theorem mixed_whole {a b : ByteArray} (h1 : a.size = 256) (h2 : b.size = 256) : mixed a b 256 = a := by
  rw [← cut_cat a b 256 (Nat.le_refl _) h1 h2]
  have e1 : a.extract 0 256 = a := by rw [← h1]; exact ByteArray.extract_zero_size
  have e2 : b.extract 256 256 = ByteArray.empty := by
    apply ByteArray.ext
    simp
  rw [e1, e2]
  exact ByteArray.append_empty
theorem crash_all {d : D} (hw : d.Wf) : ∀ k, k ≤ d.late.length → ∀ j, j < d.n → d.crashTo 18446744073709551615 (-1) 0 k j = done d.safe (d.late.take k) j
  | 0, _, j, _ => rfl
  | k + 1, hk, j, hj => by
    have hx : d.late[k]? = some d.late[k] := List.getElem?_eq_getElem hk
    have hm := hw.late _ (List.getElem_mem (show k < d.late.length from hk))
    have ih := crash_all hw k (by omega)
    rw [D.crashTo_kept hx (bit_all k), torn_none, done_take _ _ _ _ hx]
    have hs : (d.crashTo 18446744073709551615 (-1) 0 k d.late[k].1).size = 256 := by
      rw [ih _ hm.1]
      exact done_size _ _ hw.safe (fun x hx => hw.late x (List.mem_of_mem_take hx)) _ hm.1
    rw [mixed_whole hm.2 hs]
    unfold upd
    split
    · rfl
    · exact ih j hj
theorem crash_last {d : D} (hw : d.Wf) : ∀ j, j < d.n → d.last j = d.crashTo 18446744073709551615 (-1) 0 d.late.length j := fun j hj => by
  rw [crash_all hw _ (Nat.le_refl _) j hj, List.take_length]
  rfl
theorem two_kept {w w1 : World} {o1 o2 : Obj} (hb : Below ((w.alloc o1).alloc o2).heap.size ((w.alloc o1).alloc o2) w1) : w1.heap[w.heap.size]? = some o1 ∧ w1.heap[w.heap.size + 1]? = some o2 ∧ Below w.heap.size w w1 ∧ w.heap.size + 1 < w1.heap.size := by
  refine ⟨(hb.block w.heap.size (by simp; omega)).trans (heap_alloc2_old w o1 o2), (hb.block (w.heap.size + 1) (by simp)).trans (heap_alloc2_new w o1 o2), ?_, ?_⟩
  · exact (show Below w.heap.size w ((w.alloc o1).alloc o2) by go_grown).on hb
  · have := hb.size
    simp at this
    omega
theorem SafeIn.setCell {w : World} {g n cap : Nat} {f : Nat → ByteArray} (h : SafeIn w (.slice (some ⟨g, 0, none⟩) n cap) n f) (a : Addr) (v : Value) (hne : g ≠ a.block) : SafeIn (w.setCell a v) (.slice (some ⟨g, 0, none⟩) n cap) n f := by
  obtain ⟨q, cap', hv, hb, hc⟩ := h
  cases hv
  refine ⟨_, _, rfl, by rw [World.size_setCell]; exact hb, fun k hk => (World.cell?_setCell_other _ _ _ _ ?_).trans (hc k hk)⟩
  intro e
  first
    | exact hne (by rw [← e])
    | exact hne (by rw [e])
theorem SafeIn.apart {w : World} {g n cap : Nat} {f : Nat → ByteArray} (h : SafeIn w (.slice (some ⟨g, 0, none⟩) n cap) n f) (hn : 1 ≤ n) {k : Nat} {a : Option Addr} {x y : Nat} (hk : w.cell? ⟨k, 0, none⟩ = some (.slice a x y)) : g ≠ k := by
  obtain ⟨q, cap', hv, hb, hc⟩ := h
  cases hv
  rintro rfl
  have := (hc 0 (by omega)).symm.trans hk
  cases this
def CrashPost (P : Nat → Prop) (d : D) (m t c : Int) (w : World) (e : Ending) (w' : World) : Prop := ∃ v, e = .returned v ∧ RefV (fun b => P b ∨ w.heap.size ≤ b) w' v (d.crash m t c) ∧ Below w.heap.size w w'
set_option maxHeartbeats 1000000 in
theorem rcrash_any (P : Nat → Prop) (w : World) (v : Value) (d : D) (m t c : Int) (h : RefV P w v d) (hw : d.Wf) (hlen : d.late.length < 4294967296)
    (m0 : 0 ≤ m) (m1 : m ≤ 18446744073709551615) (t0 : -9223372036854775808 ≤ t) (t1 : t ≤ 9223372036854775807) (k0 : -9223372036854775808 ≤ c) (k1 : c ≤ 9223372036854775807) :
    Calls Try.prog 19 #[v, .int .u64 m, .int .i64 t, .int .i64 c] w (CrashPost P d m t c w) := by
  obtain ⟨sa, la, sn, sc, ln, lc, lim, rfl, hs, hl, hr, l0, l1, lz, lp, lq⟩ := h
  have hK := fun (w1 : World) (b : Below w.heap.size w w1) => rkept_any w1 _ _ lim d m t c (hs.on b) (hl.on b) hw hlen m0 m1 t0 t1 k0 k1 d.dark
  have HK := Lib.hid hK
  clear hK hs hl hr l0 l1 lz m0 m1 t0 t1 k0 k1
  go_enter Try.func19, Try.ntmps19
  go_wp2_with fail
  ((with_reducible refine (HK.out _ (by go_grown)).mono ?_); rintro e w1 ⟨g, cap, rfl, hsafe, hb, hgb⟩)
  have hgw : w.heap.size ≤ g := by simp at hgb; omega
  have HS := Lib.hid hsafe
  obtain ⟨_, hy, hw1, hlt⟩ := two_kept hb
  have HY := Lib.hid hy
  have HW1 := Lib.hid hw1
  clear hb hsafe hy hw1
  obtain ⟨y0, y1, y2, y3, y4, y5, y6, y7⟩ := cells4 HY.out
  have hne := HS.out.apart hw.lo y0
  go_wp2
  have hfin := four_stored HY.out (.slice (some ⟨g, 0, none⟩) d.n cap) (.slice none 0 0) (.int .i64 (-1)) (.bool false)
  have hbl := four_below HW1.out (Nat.le_succ _) (.slice (some ⟨g, 0, none⟩) d.n cap) (.slice none 0 0) (.int .i64 (-1)) (.bool false)
  have hs2 := (((HS.out.setCell ⟨w.heap.size + 1, 0, none⟩ (.slice (some ⟨g, 0, none⟩) d.n cap) hne).setCell ⟨w.heap.size + 1, 1, none⟩ (.slice none 0 0) hne).setCell ⟨w.heap.size + 1, 2, none⟩ (.int .i64 (-1)) hne).setCell ⟨w.heap.size + 1, 3, none⟩ (.bool false) hne
  generalize (((w1.setCell ⟨w.heap.size + 1, 0, none⟩ (.slice (some ⟨g, 0, none⟩) d.n cap)).setCell ⟨w.heap.size + 1, 1, none⟩ (.slice none 0 0)).setCell ⟨w.heap.size + 1, 2, none⟩ (.int .i64 (-1))).setCell ⟨w.heap.size + 1, 3, none⟩ (.bool false) = w2 at *
  clear y0 y1 y2 y3 y4 y5 y6 y7
  obtain ⟨y0, y1, y2, y3, _, _, _, _⟩ := cells4 hfin
  refine bodyPost_ret (v := .agg #[.slice (some ⟨g, 0, none⟩) d.n cap, .slice none 0 0, .int .i64 (-1), .bool false]) (by simp [results, Try.results19, go_sem, y0, y1, y2, y3]) rfl ?_
  exact ⟨_, rfl, ⟨_, _, _, _, _, _, -1, rfl, hs2, .inl ⟨rfl, rfl⟩, .inl rfl, by decide, by decide, fun _ => rfl, fun a e => .inr (by cases e; exact hgw), fun a e => (by cases e)⟩, hbl⟩
set_option maxHeartbeats 2000000 in
theorem rflush_any (P : Nat → Prop) (w : World) (v : Value) (d : D) (h : RefV P w v d) (hw : d.Wf) (hlen : d.late.length < 4294967296) :
    Calls Try.prog 17 #[v] w fun e w' => ∃ v', e = .returned (.tuple #[v', .int .i64 (flushE d)]) ∧ RefV (fun b => P b ∨ w.heap.size ≤ b) w' v' d.flush ∧ Below w.heap.size w w' := by
  obtain ⟨sa, la, sn, sc, ln, lc, lim, rfl, hs, hl, hr, l0, l1, lz, lp, lq⟩ := h
  cases hg : d.dark
  · have hsp := fun w1 => rspent_any w1 sa la sn sc ln lc lim false l0 l1
    have HSP := Lib.hid hsp
    have HG := Lib.hid hg
    clear hsp hg
    go_enter Try.func17, Try.ntmps17
    go_wp2_with fail
    by_cases z : lim = 0
    · have hsp := HSP.out
      rw [if_neg (by omega), if_pos z, if_pos z] at hsp
      obtain ⟨hse, hsd⟩ := (LimR.spend hr hw.llo).1 z
      clear z
      have HSP2 := Lib.hid hsp
      clear hsp
      ((with_reducible refine (HSP2.out _).mono ?_); rintro e w1 ⟨rfl, hb1⟩)
      obtain ⟨hx1, hy1, hw1, hlt⟩ := two_kept hb1
      have HX1 := Lib.hid hx1
      have HY1 := Lib.hid hy1
      have HW1 := Lib.hid hw1
      clear hb1 hx1 hy1 hw1
      obtain ⟨x0, x1, x2, x3, x4, x5, x6, x7⟩ := cells4 HX1.out
      obtain ⟨y0, y1, y2, y3, y4, y5, y6, y7⟩ := cells4 HY1.out
      go_wp2_with fail
      have hy2 := (four_other (w1 := w1) (q := w.heap.size) (k := w.heap.size + 1) (by omega) (.slice sa sn sc) (.slice la ln lc) (.int .i64 lim) (.bool true)).trans HY1.out
      have hb2 := four_below HW1.out (Nat.le_refl _) (.slice sa sn sc) (.slice la ln lc) (.int .i64 lim) (.bool true)
      generalize (((w1.setCell ⟨w.heap.size, 0, none⟩ (.slice sa sn sc)).setCell ⟨w.heap.size, 1, none⟩ (.slice la ln lc)).setCell ⟨w.heap.size, 2, none⟩ (.int .i64 lim)).setCell ⟨w.heap.size, 3, none⟩ (.bool true) = w3 at *
      have hfin := four_stored hy2 (.slice sa sn sc) (.slice la ln lc) (.int .i64 lim) (.bool true)
      have hbl := four_below hb2 (Nat.le_succ _) (.slice sa sn sc) (.slice la ln lc) (.int .i64 lim) (.bool true)
      generalize (((w3.setCell ⟨w.heap.size + 1, 0, none⟩ (.slice sa sn sc)).setCell ⟨w.heap.size + 1, 1, none⟩ (.slice la ln lc)).setCell ⟨w.heap.size + 1, 2, none⟩ (.int .i64 lim)).setCell ⟨w.heap.size + 1, 3, none⟩ (.bool true) = w4 at *
      clear x0 x1 x2 x3 x4 x5 x6 x7 y0 y1 y2 y3 y4 y5 y6 y7
      obtain ⟨y0, y1, y2, y3, _, _, _, _⟩ := cells4 hfin
      have hry : readyE d = 0 := by unfold readyE; rw [HG.out]; rfl
      refine bodyPost_ret (v := .tuple #[.agg #[.slice sa sn sc, .slice la ln lc, .int .i64 lim, .bool true], .int .i64 11]) (by simp [results, Try.results17, go_sem, y0, y1, y2, y3]) rfl ?_
      refine ⟨_, by unfold flushE; rw [hry, if_pos rfl, hse], ?_, hbl⟩
      have hd : d.flush = d.spent := by unfold D.flush; rw [hry, if_pos rfl, if_neg (by rw [hse]; decide)]
      rw [hd, hsd]
      exact ⟨sa, la, sn, sc, ln, lc, lim, rfl, hs.on hbl, hl.on hbl, hr, l0, l1, lz, fun a e => .inl (lp a e), fun a e => .inl (lq a e)⟩
    · have hsp := HSP.out
      rw [if_neg z, if_neg z] at hsp
      obtain ⟨hse, hsd, hsl⟩ := (LimR.spend hr hw.llo).2 z
      have hp0 : -9223372036854775808 ≤ (if 0 < lim then lim - 1 else lim) := by split <;> omega
      have hp1 : (if 0 < lim then lim - 1 else lim) ≤ 9223372036854775807 := by split <;> omega
      generalize (if 0 < lim then lim - 1 else lim) = lm at *
      have HZ := Lib.hid z
      have HSP2 := Lib.hid hsp
      clear hsp z
      ((with_reducible refine (HSP2.out _).mono ?_); rintro e w1 ⟨rfl, hb1⟩)
      obtain ⟨hx1, hy1, hw1, hlt⟩ := two_kept hb1
      have HX1 := Lib.hid hx1
      have HY1 := Lib.hid hy1
      have HW1 := Lib.hid hw1
      clear hb1 hx1 hy1 hw1
      obtain ⟨x0, x1, x2, x3, x4, x5, x6, x7⟩ := cells4 HX1.out
      obtain ⟨y0, y1, y2, y3, y4, y5, y6, y7⟩ := cells4 HY1.out
      go_wp2_with fail
      have hx3 := four_stored HX1.out (.slice sa sn sc) (.slice la ln lc) (.int .i64 lm) (.bool false)
      have hy3 := (four_other (w1 := w1) (q := w.heap.size) (k := w.heap.size + 1) (by omega) (.slice sa sn sc) (.slice la ln lc) (.int .i64 lm) (.bool false)).trans HY1.out
      have hb3 := four_below HW1.out (Nat.le_refl _) (.slice sa sn sc) (.slice la ln lc) (.int .i64 lm) (.bool false)
      have hlt3 : w.heap.size + 1 < ((((w1.setCell ⟨w.heap.size, 0, none⟩ (.slice sa sn sc)).setCell ⟨w.heap.size, 1, none⟩ (.slice la ln lc)).setCell ⟨w.heap.size, 2, none⟩ (.int .i64 lm)).setCell ⟨w.heap.size, 3, none⟩ (.bool false)).heap.size := by simpa using hlt
      generalize (((w1.setCell ⟨w.heap.size, 0, none⟩ (.slice sa sn sc)).setCell ⟨w.heap.size, 1, none⟩ (.slice la ln lc)).setCell ⟨w.heap.size, 2, none⟩ (.int .i64 lm)).setCell ⟨w.heap.size, 3, none⟩ (.bool false) = w3 at *
      clear x0 x1 x2 x3 x4 x5 x6 x7 y0 y1 y2 y3 y4 y5 y6 y7
      have hK := rkept_any w3 (.slice sa sn sc) (.slice la ln lc) lm d 18446744073709551615 (-1) 0 (hs.on hb3) (hl.on hb3) hw hlen (by decide) (by decide) (by decide) (by decide) (by decide) (by decide) false
      ((with_reducible refine hK.mono ?_); rintro e w4 ⟨g, cap, rfl, hsafe, hb4, hgb⟩)
      have hx4 := (hb4.block w.heap.size (by omega)).trans hx3
      have hy4 := (hb4.block (w.heap.size + 1) (by omega)).trans hy3
      have hw4 : Below w.heap.size w w4 := hb3.on hb4
      have HW4 := Lib.hid hw4
      have HS4 := Lib.hid hsafe
      have HY4 := Lib.hid hy4
      have HSP3 := Lib.hid hsl
      clear hb3 hb4 hK HX1 HY1 HW1 HSP HSP2 hx3 hy3 hsafe hw4 hsl
      obtain ⟨x0, x1, x2, x3, x4, x5, x6, x7⟩ := cells4 hx4
      obtain ⟨y0, y1, y2, y3, y4, y5, y6, y7⟩ := cells4 HY4.out
      have hne0 : g ≠ w.heap.size := HS4.out.apart hw.lo x0
      have hne1 : g ≠ w.heap.size + 1 := HS4.out.apart hw.lo y0
      clear hx4 hy4
      go_wp2
      have hy5 := (heap_setCell_other (w4.setCell ⟨w.heap.size, 0, none⟩ (.slice (some ⟨g, 0, none⟩) d.n cap)) ⟨w.heap.size, 1, none⟩ (w.heap.size + 1) (.slice none 0 0) (by show w.heap.size + 1 ≠ w.heap.size; omega)).trans ((heap_setCell_other w4 ⟨w.heap.size, 0, none⟩ (w.heap.size + 1) (.slice (some ⟨g, 0, none⟩) d.n cap) (by show w.heap.size + 1 ≠ w.heap.size; omega)).trans HY4.out)
      have hb5 := (HW4.out.setCell (p := ⟨w.heap.size, 0, none⟩) (Nat.le_refl _) (.slice (some ⟨g, 0, none⟩) d.n cap)).setCell (p := ⟨w.heap.size, 1, none⟩) (Nat.le_refl _) (.slice none 0 0)
      have hs5 := (HS4.out.setCell ⟨w.heap.size, 0, none⟩ (.slice (some ⟨g, 0, none⟩) d.n cap) hne0).setCell ⟨w.heap.size, 1, none⟩ (.slice none 0 0) hne0
      generalize (w4.setCell ⟨w.heap.size, 0, none⟩ (.slice (some ⟨g, 0, none⟩) d.n cap)).setCell ⟨w.heap.size, 1, none⟩ (.slice none 0 0) = w5 at *
      have hfin := four_stored hy5 (.slice (some ⟨g, 0, none⟩) d.n cap) (.slice none 0 0) (.int .i64 lm) (.bool false)
      have hbl := four_below hb5 (Nat.le_succ _) (.slice (some ⟨g, 0, none⟩) d.n cap) (.slice none 0 0) (.int .i64 lm) (.bool false)
      have hs6 := (((hs5.setCell ⟨w.heap.size + 1, 0, none⟩ (.slice (some ⟨g, 0, none⟩) d.n cap) hne1).setCell ⟨w.heap.size + 1, 1, none⟩ (.slice none 0 0) hne1).setCell ⟨w.heap.size + 1, 2, none⟩ (.int .i64 lm) hne1).setCell ⟨w.heap.size + 1, 3, none⟩ (.bool false) hne1
      generalize (((w5.setCell ⟨w.heap.size + 1, 0, none⟩ (.slice (some ⟨g, 0, none⟩) d.n cap)).setCell ⟨w.heap.size + 1, 1, none⟩ (.slice none 0 0)).setCell ⟨w.heap.size + 1, 2, none⟩ (.int .i64 lm)).setCell ⟨w.heap.size + 1, 3, none⟩ (.bool false) = w6 at *
      clear x0 x1 x2 x3 x4 x5 x6 x7 y0 y1 y2 y3 y4 y5 y6 y7
      obtain ⟨y0, y1, y2, y3, _, _, _, _⟩ := cells4 hfin
      have hry : readyE d = 0 := by unfold readyE; rw [HG.out]; rfl
      refine bodyPost_ret (v := .tuple #[.agg #[.slice (some ⟨g, 0, none⟩) d.n cap, .slice none 0 0, .int .i64 lm, .bool false], .int .i64 0]) (by simp [results, Try.results17, go_sem, y0, y1, y2, y3]) rfl ?_
      refine ⟨_, by unfold flushE; rw [hry, if_pos rfl, hse], ?_, hbl⟩
      have hd : d.flush = d.spent.flushed := by unfold D.flush; rw [hry, if_pos rfl, if_pos hse]
      obtain ⟨q1, q2, q3⟩ := spent_same d
      rw [hd]
      refine ⟨some ⟨g, 0, none⟩, none, d.n, cap, 0, 0, lm, ?_, ?_, .inl ⟨rfl, rfl⟩, HSP3.out, hp0, hp1, fun _ => rfl, fun a e => .inr (by cases e; show w.heap.size ≤ g; omega), fun a e => (by cases e)⟩
      · show _ = Value.agg #[_, _, _, .bool d.spent.dark]
        rw [hsd, HG.out]
      · show SafeIn w6 _ d.spent.n d.spent.last
        rw [q1, spent_last]
        exact hs6.congr (crash_last hw)
  · go_enter Try.func17, Try.ntmps17
    go_wp2_with fail
    obtain ⟨y0, y1, y2, y3, _, _, _, _⟩ := cells4 (heap_alloc2_new w (.cells #[.slice sa sn sc, .slice la ln lc, .int .i64 lim, .bool true] 31) (.cells #[.slice sa sn sc, .slice la ln lc, .int .i64 lim, .bool true] 31))
    have he : flushE d = 11 := by unfold flushE readyE; rw [if_pos hg]; rfl
    have hd : d.flush = d := by unfold D.flush readyE; rw [if_pos hg]; rfl
    refine bodyPost_ret (v := .tuple #[.agg #[.slice sa sn sc, .slice la ln lc, .int .i64 lim, .bool true], .int .i64 11]) (by simp [results, Try.results17, go_sem, y0, y1, y2, y3]) rfl ?_
    refine ⟨_, by rw [he], ?_, by go_grown⟩
    rw [hd]
    exact ⟨sa, la, sn, sc, ln, lc, lim, by rw [hg], hs.on (by go_grown), hl.on (by go_grown), hr, l0, l1, lz, fun a e => .inl (lp a e), fun a e => .inl (lq a e)⟩
end Go.Proofs.Ytcefljfocagcoaa
