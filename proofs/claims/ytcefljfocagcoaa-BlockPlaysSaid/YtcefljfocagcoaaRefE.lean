/- Contracts of the reference's disk: Write. -/
import Derived.Test.YtcefljfocagcoaaRefV
import Derived.Deep.Cut
import Derived.Deep.DeepCutAuto
namespace Go.Proofs.Ytcefljfocagcoaa
open Go.ChangeShapes Go.WideShapes Go.ChangeAt Go.RowKit Go.PlainAid

theorem two_one {k : Int} {s : ByteArray} : ∀ u ∈ (#[.int .i64 k, .string s] : Array Value).toList, u.oneCell' = true := by
  intro u hu
  simp only [List.mem_cons, List.not_mem_nil, or_false] at hu
  rcases hu with rfl | rfl <;> rfl
theorem form_base {w : World} {base : Nat} {e : TypeId} {size : Nat} {g n cap : Nat} {xs : List Value} (h : w.ownsRow base e size (.slice (some ⟨g, 0, none⟩) n cap) n xs) : base ≤ g := (h.lt g rfl).1
theorem wt_facts {w w3 w5 w6 : World} {B : Nat} {E : TypeId} {V : Value} {n g cap : Nat} {xs ys : List Value} {o X Y : Obj} (hw5 : Below w.heap.size w w5) (hx5 : w5.heap[w.heap.size]? = some X) (hy5 : w5.heap[w.heap.size + 1]? = some Y) (ho5 : w5.ownsRow B E 2 V n xs)
    (hlt : w.heap.size + 1 < w3.heap.size) (hB : B = w3.heap.size) (hsz : w3.heap.size ≤ w5.heap.size) (_hown : w6.ownsRow B E 2 (.slice (some ⟨g, 0, none⟩) (n + 1) cap) (n + 1) ys) (hgrow : (w5.alloc o).grownBy w6 V.ownBlock) :
    Below w.heap.size w w6 ∧ w6.heap[w.heap.size]? = some X ∧ w6.heap[w.heap.size + 1]? = some Y := by
  have hne : ∀ k, k ≤ w.heap.size + 1 → some k ≠ V.ownBlock := fun k hk e => by
    have := (ho5.lt k e.symm).1
    omega
  refine ⟨(hw5.alloc (by omega) _).grown hgrow (by rw [World.size_alloc]; omega) (fun k hk => by have := (ho5.lt k hk).1; omega), ?_, ?_⟩
  · exact (hgrow.block _ (by rw [World.size_alloc]; omega) (hne _ (by omega))).trans ((Below.heap_alloc _ _ _ (by omega)).trans hx5)
  · exact (hgrow.block _ (by rw [World.size_alloc]; omega) (hne _ (by omega))).trans ((Below.heap_alloc _ _ _ (by omega)).trans hy5)
theorem wt_grown {w w3 w5 w6 : World} {B : Nat} {E : TypeId} {V : Value} {n : Nat} {xs : List Value} {X Y : Obj} (hw5 : Below w.heap.size w w5) (hx5 : w5.heap[w.heap.size]? = some X) (hy5 : w5.heap[w.heap.size + 1]? = some Y) (ho5 : w5.ownsRow B E 2 V n xs)
    (hlt : w.heap.size + 1 < w3.heap.size) (hB : B = w3.heap.size) (hsz : w3.heap.size ≤ w5.heap.size) (hgrow : w5.grownBy w6 V.ownBlock) :
    Below w.heap.size w w6 ∧ w6.heap[w.heap.size]? = some X ∧ w6.heap[w.heap.size + 1]? = some Y := by
  have hne : ∀ k, k ≤ w.heap.size + 1 → some k ≠ V.ownBlock := fun k hk e => by
    have := (ho5.lt k e.symm).1
    omega
  refine ⟨hw5.grown hgrow (by omega) (fun k hk => by have := (ho5.lt k hk).1; omega), ?_, ?_⟩
  · exact (hgrow.block _ (by omega) (hne _ (by omega))).trans hx5
  · exact (hgrow.block _ (by omega) (hne _ (by omega))).trans hy5
def WritePost (P : Nat → Prop) (d : D) (k : Int) (s : ByteArray) (w : World) (e : Ending) (w' : World) : Prop := ∃ v, e = .returned (.tuple #[v, .int .i64 (writeE d k s)]) ∧ RefV (fun b => P b ∨ w.heap.size ≤ b) w' v (d.write k s) ∧ Below w.heap.size w w'
theorem write_post {P : Nat → Prop} {d d' : D} {k : Int} {s : ByteArray} {w w' : World} {v : Value} {n : Int} (he : writeE d k s = n) (hd : d.write k s = d') (h : RefV (fun b => P b ∨ w.heap.size ≤ b) w' v d') (hb : Below w.heap.size w w') : WritePost P d k s w (.returned (.tuple #[v, .int .i64 n])) w' := by
  subst he hd
  exact ⟨v, rfl, h, hb⟩
set_option maxRecDepth 100000 in
set_option maxHeartbeats 4000000 in
theorem rwrite_any (P : Nat → Prop) (w : World) (v : Value) (d : D) (k : Int) (s : ByteArray) (h : RefV P w v d) (hw : d.Wf) (hlen : d.late.length < 4294967296) (h0 : -9223372036854775808 ≤ k) (h1 : k ≤ 9223372036854775807) :
    Calls Try.prog 16 #[v, .int .i64 k, .string s] w (WritePost P d k s w) := by
  obtain ⟨sa, la, sn, sc, ln, lc, lim, rfl, hs, hl, hr, l0, l1, lz, lp, lq⟩ := h
  have hE : writeE d k s = if reachE d k = 0 then (if 256 < s.size then 21 else spendE d) else reachE d k := rfl
  have hD : d.write k s = if reachE d k = 0 then (if 256 < s.size then d else if spendE d = 0 then { d.spent with late := d.spent.late ++ [(k.toNat, filled s)] } else d.spent) else d := rfl
  have HE := Lib.hid hE
  have HD := Lib.hid hD
  have HS := Lib.hid hs
  have HL := Lib.hid hl
  have HR := Lib.hid hr
  clear hE hD hs hl hr
  rcases reachE_cases d k with ⟨a, hk, hn, hd⟩ | ⟨a, hd⟩ | ⟨a, hd⟩
  · have hre := Lib.hid a
    clear a hd
    by_cases hbig : 256 < s.size
    · have hb : decide (256 < s.size) = true := by simpa using hbig
      go_enter Try.func16, Try.ntmps16
      go_wp2_with fail
      ((with_reducible refine (rread_any _ _ _ lim d k (HS.out.on (by go_grown)) (HL.out.on (by go_grown)) h0 h1 hlen).mono ?_); rintro e w1 ⟨rfl, hb1⟩)
      rw [hre.out]
      have hx1 := (hb1.block w.heap.size (by simp; omega)).trans (heap_alloc2_old w (.cells #[.slice sa sn sc, .slice la ln lc, .int .i64 lim, .bool d.dark] 31) (.cells #[.slice none 0 0, .slice none 0 0, .int .i64 0, .bool false] 31))
      have hy1 := (hb1.block (w.heap.size + 1) (by simp)).trans (heap_alloc2_new w (.cells #[.slice sa sn sc, .slice la ln lc, .int .i64 lim, .bool d.dark] 31) (.cells #[.slice none 0 0, .slice none 0 0, .int .i64 0, .bool false] 31))
      have hw1 : Below w.heap.size w w1 := (show Below w.heap.size w ((w.alloc (.cells #[.slice sa sn sc, .slice la ln lc, .int .i64 lim, .bool d.dark] 31)).alloc (.cells #[.slice none 0 0, .slice none 0 0, .int .i64 0, .bool false] 31)) by go_grown).on hb1
      have hgt : w.heap.size + 1 < w1.heap.size := by have := hb1.size; simp at this; omega
      have HW1 := Lib.hid hw1
      have HX1 := Lib.hid hx1
      have HY1 := Lib.hid hy1
      clear hb1 hw1 hx1 hy1
      obtain ⟨x0, x1, x2, x3, _, _, _, _⟩ := cells4 HX1.out
      obtain ⟨y0, y1, y2, y3, y4, y5, y6, y7⟩ := cells4 HY1.out
      go_wp2
      have hfin := four_stored HY1.out (.slice sa sn sc) (.slice la ln lc) (.int .i64 lim) (.bool d.dark)
      have hbl := four_below HW1.out (Nat.le_succ _) (.slice sa sn sc) (.slice la ln lc) (.int .i64 lim) (.bool d.dark)
      generalize (((w1.setCell ⟨w.heap.size + 1, 0, none⟩ (.slice sa sn sc)).setCell ⟨w.heap.size + 1, 1, none⟩ (.slice la ln lc)).setCell ⟨w.heap.size + 1, 2, none⟩ (.int .i64 lim)).setCell ⟨w.heap.size + 1, 3, none⟩ (.bool d.dark) = w2 at *
      clear y0 y1 y2 y3 y4 y5 y6 y7
      obtain ⟨y0, y1, y2, y3, _, _, _, _⟩ := cells4 hfin
      clear hfin
      refine bodyPost_ret (v := .tuple #[.agg #[.slice sa sn sc, .slice la ln lc, .int .i64 lim, .bool d.dark], .int .i64 21]) (by simp [results, Try.results16, go_sem, y0, y1, y2, y3]) rfl ?_
      refine write_post (n := 21) (d' := d) (HE.out.trans (by rw [hre.out]; rw [if_pos rfl, if_pos hbig])) (HD.out.trans (by rw [hre.out]; rw [if_pos rfl, if_pos hbig])) ?_ hbl
      exact ⟨sa, la, sn, sc, ln, lc, lim, rfl, HS.out.on hbl, HL.out.on hbl, HR.out, l0, l1, lz, fun a e => .inl (lp a e), fun a e => .inl (lq a e)⟩
    · have hb : decide (256 < s.size) = false := by simpa using hbig
      go_enter Try.func16, Try.ntmps16
      go_wp2_with fail
      ((with_reducible refine (rread_any _ _ _ lim d k (HS.out.on (by go_grown)) (HL.out.on (by go_grown)) h0 h1 hlen).mono ?_); rintro e w1 ⟨rfl, hb1⟩)
      rw [hre.out]
      have hx1 := (hb1.block w.heap.size (by simp; omega)).trans (heap_alloc2_old w (.cells #[.slice sa sn sc, .slice la ln lc, .int .i64 lim, .bool d.dark] 31) (.cells #[.slice none 0 0, .slice none 0 0, .int .i64 0, .bool false] 31))
      have hy1 := (hb1.block (w.heap.size + 1) (by simp)).trans (heap_alloc2_new w (.cells #[.slice sa sn sc, .slice la ln lc, .int .i64 lim, .bool d.dark] 31) (.cells #[.slice none 0 0, .slice none 0 0, .int .i64 0, .bool false] 31))
      have hw1 : Below w.heap.size w w1 := (show Below w.heap.size w ((w.alloc (.cells #[.slice sa sn sc, .slice la ln lc, .int .i64 lim, .bool d.dark] 31)).alloc (.cells #[.slice none 0 0, .slice none 0 0, .int .i64 0, .bool false] 31)) by go_grown).on hb1
      have hgt : w.heap.size + 1 < w1.heap.size := by have := hb1.size; simp at this; omega
      have HW1 := Lib.hid hw1
      have HX1 := Lib.hid hx1
      have HY1 := Lib.hid hy1
      clear hb1 hw1 hx1 hy1
      obtain ⟨x0, x1, x2, x3, _, _, _, _⟩ := cells4 HX1.out
      obtain ⟨y0, y1, y2, y3, y4, y5, y6, y7⟩ := cells4 HY1.out
      have hsp := rspent_any w1 sa la sn sc ln lc lim d.dark l0 l1
      by_cases z : lim = 0
      · obtain ⟨hse, hsd⟩ := (LimR.spend HR.out hw.llo).1 z
        have HSE := Lib.hid hse
        have HSD := Lib.hid hsd
        rw [if_neg (by omega), if_pos z, if_pos z] at hsp
        have HZ := Lib.hid z
        have HSP := Lib.hid hsp
        clear hse hsd z hsp
        go_wp2_with fail
        ((with_reducible refine HSP.out.mono ?_); rintro e w2 ⟨rfl, hb2⟩)
        have hx2 := (hb2.block w.heap.size (by omega)).trans HX1.out
        have hy2 := (hb2.block (w.heap.size + 1) (by omega)).trans HY1.out
        have hw2 := HW1.out.on hb2
        have HX2 := Lib.hid hx2
        have HY2 := Lib.hid hy2
        have HW2 := Lib.hid hw2
        clear hb2 hw2 hx2 hy2 x0 x1 x2 x3 y0 y1 y2 y3 y4 y5 y6 y7
        obtain ⟨x0, x1, x2, x3, x4, x5, x6, x7⟩ := cells4 HX2.out
        obtain ⟨y0, y1, y2, y3, y4, y5, y6, y7⟩ := cells4 HY2.out
        go_wp2_with fail
        have hy3 := (four_other (w1 := w2) (q := w.heap.size) (k := w.heap.size + 1) (by omega) (.slice sa sn sc) (.slice la ln lc) (.int .i64 lim) (.bool true)).trans HY2.out
        have hb3 := four_below HW2.out (Nat.le_refl _) (.slice sa sn sc) (.slice la ln lc) (.int .i64 lim) (.bool true)
        generalize (((w2.setCell ⟨w.heap.size, 0, none⟩ (.slice sa sn sc)).setCell ⟨w.heap.size, 1, none⟩ (.slice la ln lc)).setCell ⟨w.heap.size, 2, none⟩ (.int .i64 lim)).setCell ⟨w.heap.size, 3, none⟩ (.bool true) = w3 at *
        have hfin := four_stored hy3 (.slice sa sn sc) (.slice la ln lc) (.int .i64 lim) (.bool true)
        have hbl := four_below hb3 (Nat.le_succ _) (.slice sa sn sc) (.slice la ln lc) (.int .i64 lim) (.bool true)
        generalize (((w3.setCell ⟨w.heap.size + 1, 0, none⟩ (.slice sa sn sc)).setCell ⟨w.heap.size + 1, 1, none⟩ (.slice la ln lc)).setCell ⟨w.heap.size + 1, 2, none⟩ (.int .i64 lim)).setCell ⟨w.heap.size + 1, 3, none⟩ (.bool true) = w4 at *
        clear x0 x1 x2 x3 x4 x5 x6 x7 y0 y1 y2 y3 y4 y5 y6 y7
        obtain ⟨y0, y1, y2, y3, _, _, _, _⟩ := cells4 hfin
        clear hfin
        refine bodyPost_ret (v := .tuple #[.agg #[.slice sa sn sc, .slice la ln lc, .int .i64 lim, .bool true], .int .i64 11]) (by simp [results, Try.results16, go_sem, y0, y1, y2, y3]) rfl ?_
        refine write_post (n := 11) (d' := d.spent) (HE.out.trans (by rw [hre.out, if_pos rfl, if_neg hbig, HSE.out])) (HD.out.trans (by rw [hre.out, if_pos rfl, if_neg hbig, if_neg (by rw [HSE.out]; decide)])) ?_ hbl
        rw [HSD.out]
        exact ⟨sa, la, sn, sc, ln, lc, lim, rfl, HS.out.on hbl, HL.out.on hbl, HR.out, l0, l1, lz, fun a e => .inl (lp a e), fun a e => .inl (lq a e)⟩
      · obtain ⟨hse, hsd, hsl⟩ := (LimR.spend HR.out hw.llo).2 z
        have HSE := Lib.hid hse
        have HSD := Lib.hid hsd
        have HSL := Lib.hid hsl
        have hp0 : -9223372036854775808 ≤ (if 0 < lim then lim - 1 else lim) := by split <;> omega
        have hp1 : (if 0 < lim then lim - 1 else lim) ≤ 9223372036854775807 := by split <;> omega
        have HP0 := Lib.hid hp0
        have HP1 := Lib.hid hp1
        rw [if_neg z, if_neg z] at hsp
        generalize (if 0 < lim then lim - 1 else lim) = lm at *
        have HZ := Lib.hid z
        have HSP := Lib.hid hsp
        clear hse hsd hsl z hsp hp0 hp1
        go_wp2_with fail
        ((with_reducible refine HSP.out.mono ?_); rintro e w2 ⟨rfl, hb2⟩)
        have hx2 := (hb2.block w.heap.size (by omega)).trans HX1.out
        have hy2 := (hb2.block (w.heap.size + 1) (by omega)).trans HY1.out
        have hw2 := HW1.out.on hb2
        have hgt2 : w.heap.size + 1 < w2.heap.size := Nat.lt_of_lt_of_le hgt hb2.size
        have HX2 := Lib.hid hx2
        have HY2 := Lib.hid hy2
        have HW2 := Lib.hid hw2
        clear hb2 hw2 hx2 hy2 x0 x1 x2 x3 y0 y1 y2 y3 y4 y5 y6 y7
        obtain ⟨x0, x1, x2, x3, x4, x5, x6, x7⟩ := cells4 HX2.out
        obtain ⟨y0, y1, y2, y3, y4, y5, y6, y7⟩ := cells4 HY2.out
        go_upto_region 8 with (fail)
        have hx3 := four_stored HX2.out (.slice sa sn sc) (.slice la ln lc) (.int .i64 lm) (.bool d.dark)
        have hy3 := (four_other (w1 := w2) (q := w.heap.size) (k := w.heap.size + 1) (by omega) (.slice sa sn sc) (.slice la ln lc) (.int .i64 lm) (.bool d.dark)).trans HY2.out
        have hb3 := four_below HW2.out (Nat.le_refl _) (.slice sa sn sc) (.slice la ln lc) (.int .i64 lm) (.bool d.dark)
        have hgt3 : w.heap.size + 1 < ((((w2.setCell ⟨w.heap.size, 0, none⟩ (.slice sa sn sc)).setCell ⟨w.heap.size, 1, none⟩ (.slice la ln lc)).setCell ⟨w.heap.size, 2, none⟩ (.int .i64 lm)).setCell ⟨w.heap.size, 3, none⟩ (.bool d.dark)).heap.size := by simpa using hgt2
        generalize (((w2.setCell ⟨w.heap.size, 0, none⟩ (.slice sa sn sc)).setCell ⟨w.heap.size, 1, none⟩ (.slice la ln lc)).setCell ⟨w.heap.size, 2, none⟩ (.int .i64 lm)).setCell ⟨w.heap.size, 3, none⟩ (.bool d.dark) = w3 at *
        have HX3 := Lib.hid hx3
        have HY3 := Lib.hid hy3
        have HB3 := Lib.hid hb3
        clear hx3 hy3 hb3 x0 x1 x2 x3 x4 x5 x6 x7 y0 y1 y2 y3 y4 y5 y6 y7 HX1 HX2 HY1 HY2 hgt hgt2
        obtain ⟨x0, x1, x2, x3, x4, x5, x6, x7⟩ := cells4 HX3.out
        have hlt3 : w.heap.size < w3.heap.size := by omega
        obtain ⟨i0, hi, hz0, hz1, hz2⟩ := info_parts info_late
        have HI := Lib.hid (And.intro hi (And.intro hz0 (And.intro hz1 hz2)))
        clear hi hz0 hz1 hz2
        rcases HL.out with ⟨hnil, hln⟩ | ⟨lb, lcap, hls, hlb, hlc⟩
        · cases hnil
          have hown0 : (w3.alloc (.cells #[] 63)).ownsRow w3.heap.size 63 2 (.slice (some ⟨w3.heap.size, 0, none⟩) 0 0) 0 [] := ⟨rfl, .inr ⟨_, 0, #[], rfl, Nat.le_refl _, heap_alloc_new w3 _, Nat.le_refl _, Nat.zero_le _, rfl, rfl⟩⟩
          have HO4 := Lib.hid hown0
          have HB4 : Hid (Below w.heap.size w (w3.alloc (.cells #[] 63))) := HB3.out.alloc (by omega) _
          have HX4 : Hid ((w3.alloc (.cells #[] 63)).heap[w.heap.size]? = _) := (Below.heap_alloc _ _ _ hlt3).trans HX3.out
          have HY4 : Hid ((w3.alloc (.cells #[] 63)).heap[w.heap.size + 1]? = _) := (Below.heap_alloc _ _ _ hgt3).trans HY3.out
          have HLT4 : Hid (w.heap.size < (w3.alloc (.cells #[] 63)).heap.size) := by show _ < _; simp; omega
          have HGT4 : Hid (w.heap.size + 1 < (w3.alloc (.cells #[] 63)).heap.size) := by show _ < _; simp; omega
          have HSZ4 : Hid (w3.heap.size ≤ (w3.alloc (.cells #[] 63)).heap.size) := by show _ ≤ _; simp
          clear hown0
          go_wp2_with fail
          ((with_reducible refine (filled_any s _ (by omega)).mono ?_); rintro e w5 ⟨rfl, hb5⟩)
          have hw5 : Below w.heap.size w w5 := HB4.out.on hb5
          have hx5 := (hb5.block w.heap.size (HLT4.out)).trans HX4.out
          have hy5 := (hb5.block (w.heap.size + 1) (HGT4.out)).trans HY4.out
          have hown5 := ownsRow_on HO4.out hb5
          have hsz5 : w3.heap.size ≤ w5.heap.size := Nat.le_trans HSZ4.out hb5.size
          have HX5 := Lib.hid hx5
          have HY5 := Lib.hid hy5
          have HW5 := Lib.hid hw5
          have HO5 := Lib.hid hown5
          clear hb5 hw5 hx5 hy5 hown5 x0 x1 x2 x3 x4 x5 x6 x7
          have hlt5 : w.heap.size + 1 < w5.heap.size := by omega
          go_wp2_with (at_builtin; refine wpList_append_lies _ rfl (.tmp 34) (.tmp 39) 29 rfl w3.heap.size 63 i0 _ 2 24 Try.underlying29 HI.out.1 HI.out.2.1 HI.out.2.2.1 HI.out.2.2.2 rfl (by decide) _ 0 [] rfl (World.ownsRow.alloc HO5.out _) _ 1 1 (#[.int .i64 k, .string (filled s)] : Array Value).toList rfl rfl (World.news_of_block (heap_alloc_new _ _)) two_one (by decide) (by unfold maxLen; omega) (by omega) (by simp; omega) _ rfl ?_; intro g cap w6 hown hgrow hat hlt; obtain ⟨hb6, hx6, hy6⟩ := wt_facts (w3 := w3) HW5.out HX5.out HY5.out HO5.out (by omega) rfl hsz5 hown hgrow; have HB6 := Lib.hid hb6; have HX6 := Lib.hid hx6; have HY6 := Lib.hid hy6; have HO6 := Lib.hid hown; clear hb6 hx6 hy6 hown hgrow hat; obtain ⟨x0, x1, x2, x3, x4, x5, x6, x7⟩ := cells4 HX6.out; obtain ⟨y0, y1, y2, y3, y4, y5, y6, y7⟩ := cells4 HY6.out)
          have hown6 := HO6.out
          have hg6 : w3.heap.size ≤ g := form_base hown6
          have hy7 : (w6.setCell ⟨w.heap.size, 1, none⟩ (.slice (some ⟨g, 0, none⟩) 1 cap)).heap[w.heap.size + 1]? = _ := (heap_setCell_other w6 ⟨w.heap.size, 1, none⟩ (w.heap.size + 1) (.slice (some ⟨g, 0, none⟩) 1 cap) (by show w.heap.size + 1 ≠ w.heap.size; omega)).trans HY6.out
          have hb7 := HB6.out.setCell (p := ⟨w.heap.size, 1, none⟩) (Nat.le_refl _) (.slice (some ⟨g, 0, none⟩) 1 cap)
          have ho7 := ownsRow_setCell_below hown6 (a := ⟨w.heap.size, 1, none⟩) (by show w.heap.size < w3.heap.size; omega) (.slice (some ⟨g, 0, none⟩) 1 cap)
          generalize w6.setCell ⟨w.heap.size, 1, none⟩ (.slice (some ⟨g, 0, none⟩) 1 cap) = w7 at *
          have hfin := four_stored hy7 (.slice sa sn sc) (.slice (some ⟨g, 0, none⟩) 1 cap) (.int .i64 lm) (.bool d.dark)
          have hbl := four_below hb7 (Nat.le_succ _) (.slice sa sn sc) (.slice (some ⟨g, 0, none⟩) 1 cap) (.int .i64 lm) (.bool d.dark)
          have ho8 := ownsRow_setCell_below (ownsRow_setCell_below (ownsRow_setCell_below (ownsRow_setCell_below ho7 (a := ⟨w.heap.size + 1, 0, none⟩) hgt3 (.slice sa sn sc)) (a := ⟨w.heap.size + 1, 1, none⟩) hgt3 (.slice (some ⟨g, 0, none⟩) 1 cap)) (a := ⟨w.heap.size + 1, 2, none⟩) hgt3 (.int .i64 lm)) (a := ⟨w.heap.size + 1, 3, none⟩) hgt3 (.bool d.dark)
          generalize (((w7.setCell ⟨w.heap.size + 1, 0, none⟩ (.slice sa sn sc)).setCell ⟨w.heap.size + 1, 1, none⟩ (.slice (some ⟨g, 0, none⟩) 1 cap)).setCell ⟨w.heap.size + 1, 2, none⟩ (.int .i64 lm)).setCell ⟨w.heap.size + 1, 3, none⟩ (.bool d.dark) = w8 at *
          clear x0 x1 x2 x3 x4 x5 x6 x7 y0 y1 y2 y3 y4 y5 y6 y7
          obtain ⟨y0, y1, y2, y3, _, _, _, _⟩ := cells4 hfin
          clear hfin
          refine bodyPost_ret (v := .tuple #[.agg #[.slice sa sn sc, .slice (some ⟨g, 0, none⟩) 1 cap, .int .i64 lm, .bool d.dark], .int .i64 0]) (by simp [results, Try.results16, go_sem, y0, y1, y2, y3]) rfl ?_
          have hk0 : 0 ≤ k := (show (0 : Int) ≤ k from by omega)
          refine write_post (n := 0) (d' := { d.spent with late := d.spent.late ++ [(k.toNat, filled s)] }) (HE.out.trans (by rw [hre.out, if_pos rfl, if_neg hbig, HSE.out])) (HD.out.trans (by rw [hre.out, if_pos rfl, if_neg hbig, if_pos HSE.out])) ?_ hbl
          obtain ⟨q1, q2, q3⟩ := spent_same d
          refine ⟨sa, some ⟨g, 0, none⟩, sn, sc, 1, cap, lm, ?_, ?_, ?_, HSL.out, HP0.out, HP1.out, ?_, fun a e => .inl (lp a e), fun a e => .inr (by cases e; show w.heap.size ≤ g; omega)⟩
          · show _ = Value.agg #[_, _, _, .bool d.spent.dark]
            rw [HSD.out]
          · show SafeIn w8 _ d.spent.n d.spent.safe
            rw [q1, q2]; exact HS.out.on hbl
          · show LateIn w8 _ (d.spent.late ++ [(k.toNat, filled s)])
            rw [q3, hln]
            refine late_owned (base := w3.heap.size) (t := 63) (by rfl) ?_
            show w8.ownsRow _ _ 2 _ _ [.int .i64 (k.toNat : Int), .string (filled s)]
            rw [Int.toNat_of_nonneg hk0]
            exact ho8
          · intro e
            exact absurd (show d.spent.late ++ [(k.toNat, filled s)] = [] from e) (by simp)
        · cases hls
          have hnz : 0 < d.late.length := by
            rcases Nat.eq_zero_or_pos d.late.length with e | e
            · have := lz (List.length_eq_zero_iff.1 e)
              cases this
            · exact e
          have hown0 : (w3.alloc (.cells #[] 63)).ownsRow w3.heap.size 63 2 (.slice (some ⟨w3.heap.size, 0, none⟩) 0 0) 0 [] := ⟨rfl, .inr ⟨_, 0, #[], rfl, Nat.le_refl _, heap_alloc_new w3 _, Nat.le_refl _, Nat.zero_le _, rfl, rfl⟩⟩
          have HO4 := Lib.hid hown0
          have HB4 : Hid (Below w.heap.size w (w3.alloc (.cells #[] 63))) := HB3.out.alloc (by omega) _
          have HX4 : Hid ((w3.alloc (.cells #[] 63)).heap[w.heap.size]? = _) := (Below.heap_alloc _ _ _ hlt3).trans HX3.out
          have HY4 : Hid ((w3.alloc (.cells #[] 63)).heap[w.heap.size + 1]? = _) := (Below.heap_alloc _ _ _ hgt3).trans HY3.out
          have HLT4 : Hid (w.heap.size < (w3.alloc (.cells #[] 63)).heap.size) := by show _ < _; simp; omega
          have HGT4 : Hid (w.heap.size + 1 < (w3.alloc (.cells #[] 63)).heap.size) := by show _ < _; simp; omega
          have HSZ4 : Hid (w3.heap.size ≤ (w3.alloc (.cells #[] 63)).heap.size) := by show _ ≤ _; simp
          clear hown0
          have HN4 : Hid (∀ j u, (lateTexts d.late)[j]? = some u → (w3.alloc (.cells #[] 63)).cell? (Addr.add ⟨lb, 0, none⟩ j) = some u) := fun j u h => (HB4.out.cell (p := Addr.add ⟨lb, 0, none⟩ j) (by rw [show (Addr.add ⟨lb, 0, none⟩ j).block = lb by unfold Addr.add; split <;> rfl]; exact hlb)).trans (late_news hlc j u h)
          go_wp2_with (at_builtin; go_loud (refine wpList_append_lies _ rfl (.tmp 31) (.tmp 33) 29 rfl w3.heap.size 63 i0 _ 2 24 Try.underlying29 HI.out.1 HI.out.2.1 HI.out.2.2.1 HI.out.2.2.2 rfl (by decide) _ 0 [] rfl HO4.out ⟨lb, 0, none⟩ d.late.length _ (lateTexts d.late) rfl (lateTexts_length _) HN4.out (lateTexts_one _) hnz (by unfold maxLen; omega) (by omega) HSZ4.out _ rfl ?_; intro g1 cap1 w4 hown hgrow hat hlt4; obtain ⟨hb4, hx4, hy4⟩ := wt_grown (w3 := w3) HB4.out HX4.out HY4.out HO4.out (by omega) rfl HSZ4.out hgrow; rw [Nat.zero_add d.late.length, List.nil_append] at hown; rw [Nat.zero_add d.late.length]; have HB4' := Lib.hid hb4; have HX4' := Lib.hid hx4; have HY4' := Lib.hid hy4; have HO4' := Lib.hid hown; clear hb4 hx4 hy4 hown hgrow hat x0 x1 x2 x3 x4 x5 x6 x7; obtain ⟨x0, x1, x2, x3, x4, x5, x6, x7⟩ := cells4 HX4'.out))
          ((with_reducible refine (filled_any s _ (by omega)).mono ?_); rintro e w5 ⟨rfl, hb5⟩)
          have hg1 : w3.heap.size ≤ g1 := form_base HO4'.out
          have hw5 : Below w.heap.size w w5 := HB4'.out.on hb5
          have hx5 := (hb5.block w.heap.size (by omega)).trans HX4'.out
          have hy5 := (hb5.block (w.heap.size + 1) (by omega)).trans HY4'.out
          have hown5 := ownsRow_on HO4'.out hb5
          have hsz5 : w3.heap.size ≤ w5.heap.size := by
            have := hb5.size
            omega
          have HX5 := Lib.hid hx5
          have HY5 := Lib.hid hy5
          have HW5 := Lib.hid hw5
          have HO5 := Lib.hid hown5
          clear hb5 hw5 hx5 hy5 hown5 x0 x1 x2 x3 x4 x5 x6 x7
          have hlt5 : w.heap.size + 1 < w5.heap.size := by omega
          go_wp2_with (at_builtin; refine wpList_append_lies _ rfl (.tmp 34) (.tmp 39) 29 rfl w3.heap.size 63 i0 _ 2 24 Try.underlying29 HI.out.1 HI.out.2.1 HI.out.2.2.1 HI.out.2.2.2 rfl (by decide) _ d.late.length (lateTexts d.late) rfl (World.ownsRow.alloc HO5.out _) _ 1 1 (#[.int .i64 k, .string (filled s)] : Array Value).toList rfl rfl (World.news_of_block (heap_alloc_new _ _)) two_one (by decide) (by unfold maxLen; omega) (by omega) (by simp; omega) _ rfl ?_; intro g cap w6 hown hgrow hat hlt; obtain ⟨hb6, hx6, hy6⟩ := wt_facts (w3 := w3) HW5.out HX5.out HY5.out HO5.out (by omega) rfl hsz5 hown hgrow; have HB6 := Lib.hid hb6; have HX6 := Lib.hid hx6; have HY6 := Lib.hid hy6; have HO6 := Lib.hid hown; clear hb6 hx6 hy6 hown hgrow hat; obtain ⟨x0, x1, x2, x3, x4, x5, x6, x7⟩ := cells4 HX6.out; obtain ⟨y0, y1, y2, y3, y4, y5, y6, y7⟩ := cells4 HY6.out)
          have hown6 := HO6.out
          have hg6 : w3.heap.size ≤ g := form_base hown6
          have hy7 : (w6.setCell ⟨w.heap.size, 1, none⟩ (.slice (some ⟨g, 0, none⟩) (d.late.length + 1) cap)).heap[w.heap.size + 1]? = _ := (heap_setCell_other w6 ⟨w.heap.size, 1, none⟩ (w.heap.size + 1) (.slice (some ⟨g, 0, none⟩) (d.late.length + 1) cap) (by show w.heap.size + 1 ≠ w.heap.size; omega)).trans HY6.out
          have hb7 := HB6.out.setCell (p := ⟨w.heap.size, 1, none⟩) (Nat.le_refl _) (.slice (some ⟨g, 0, none⟩) (d.late.length + 1) cap)
          have ho7 := ownsRow_setCell_below hown6 (a := ⟨w.heap.size, 1, none⟩) (by show w.heap.size < w3.heap.size; omega) (.slice (some ⟨g, 0, none⟩) (d.late.length + 1) cap)
          generalize w6.setCell ⟨w.heap.size, 1, none⟩ (.slice (some ⟨g, 0, none⟩) (d.late.length + 1) cap) = w7 at *
          have hfin := four_stored hy7 (.slice sa sn sc) (.slice (some ⟨g, 0, none⟩) (d.late.length + 1) cap) (.int .i64 lm) (.bool d.dark)
          have hbl := four_below hb7 (Nat.le_succ _) (.slice sa sn sc) (.slice (some ⟨g, 0, none⟩) (d.late.length + 1) cap) (.int .i64 lm) (.bool d.dark)
          have ho8 := ownsRow_setCell_below (ownsRow_setCell_below (ownsRow_setCell_below (ownsRow_setCell_below ho7 (a := ⟨w.heap.size + 1, 0, none⟩) hgt3 (.slice sa sn sc)) (a := ⟨w.heap.size + 1, 1, none⟩) hgt3 (.slice (some ⟨g, 0, none⟩) (d.late.length + 1) cap)) (a := ⟨w.heap.size + 1, 2, none⟩) hgt3 (.int .i64 lm)) (a := ⟨w.heap.size + 1, 3, none⟩) hgt3 (.bool d.dark)
          generalize (((w7.setCell ⟨w.heap.size + 1, 0, none⟩ (.slice sa sn sc)).setCell ⟨w.heap.size + 1, 1, none⟩ (.slice (some ⟨g, 0, none⟩) (d.late.length + 1) cap)).setCell ⟨w.heap.size + 1, 2, none⟩ (.int .i64 lm)).setCell ⟨w.heap.size + 1, 3, none⟩ (.bool d.dark) = w8 at *
          clear x0 x1 x2 x3 x4 x5 x6 x7 y0 y1 y2 y3 y4 y5 y6 y7
          obtain ⟨y0, y1, y2, y3, _, _, _, _⟩ := cells4 hfin
          clear hfin
          refine bodyPost_ret (v := .tuple #[.agg #[.slice sa sn sc, .slice (some ⟨g, 0, none⟩) (d.late.length + 1) cap, .int .i64 lm, .bool d.dark], .int .i64 0]) (by simp [results, Try.results16, go_sem, y0, y1, y2, y3]) rfl ?_
          have hk0 : 0 ≤ k := (show (0 : Int) ≤ k from by omega)
          refine write_post (n := 0) (d' := { d.spent with late := d.spent.late ++ [(k.toNat, filled s)] }) (HE.out.trans (by rw [hre.out, if_pos rfl, if_neg hbig, HSE.out])) (HD.out.trans (by rw [hre.out, if_pos rfl, if_neg hbig, if_pos HSE.out])) ?_ hbl
          obtain ⟨q1, q2, q3⟩ := spent_same d
          refine ⟨sa, some ⟨g, 0, none⟩, sn, sc, d.late.length + 1, cap, lm, ?_, ?_, ?_, HSL.out, HP0.out, HP1.out, ?_, fun a e => .inl (lp a e), fun a e => .inr (by cases e; show w.heap.size ≤ g; omega)⟩
          · show _ = Value.agg #[_, _, _, .bool d.spent.dark]
            rw [HSD.out]
          · show SafeIn w8 _ d.spent.n d.spent.safe
            rw [q1, q2]; exact HS.out.on hbl
          · show LateIn w8 _ (d.spent.late ++ [(k.toNat, filled s)])
            rw [q3]
            refine late_owned (base := w3.heap.size) (t := 63) (n := d.late.length + 1) (by simp) ?_
            rw [lateTexts_snoc]
            show w8.ownsRow _ _ 2 _ _ (_ ++ [.int .i64 (k.toNat : Int), .string (filled s)])
            rw [Int.toNat_of_nonneg hk0]
            exact ho8
          · intro e
            exact absurd (show d.spent.late ++ [(k.toNat, filled s)] = [] from e) (by simp)
  · have hre := Lib.hid a
    clear a hd
    go_enter Try.func16, Try.ntmps16
    go_wp2_with fail
    ((with_reducible refine (rread_any _ _ _ lim d k (HS.out.on (by go_grown)) (HL.out.on (by go_grown)) h0 h1 hlen).mono ?_); rintro e w1 ⟨rfl, hb1⟩)
    rw [hre.out]
    have hx1 := (hb1.block w.heap.size (by simp; omega)).trans (heap_alloc2_old w (.cells #[.slice sa sn sc, .slice la ln lc, .int .i64 lim, .bool d.dark] 31) (.cells #[.slice none 0 0, .slice none 0 0, .int .i64 0, .bool false] 31))
    have hy1 := (hb1.block (w.heap.size + 1) (by simp)).trans (heap_alloc2_new w (.cells #[.slice sa sn sc, .slice la ln lc, .int .i64 lim, .bool d.dark] 31) (.cells #[.slice none 0 0, .slice none 0 0, .int .i64 0, .bool false] 31))
    have hw1 : Below w.heap.size w w1 := (show Below w.heap.size w ((w.alloc (.cells #[.slice sa sn sc, .slice la ln lc, .int .i64 lim, .bool d.dark] 31)).alloc (.cells #[.slice none 0 0, .slice none 0 0, .int .i64 0, .bool false] 31)) by go_grown).on hb1
    have hgt : w.heap.size + 1 < w1.heap.size := by have := hb1.size; simp at this; omega
    have HW1 := Lib.hid hw1
    have HX1 := Lib.hid hx1
    have HY1 := Lib.hid hy1
    clear hb1 hw1 hx1 hy1
    obtain ⟨x0, x1, x2, x3, _, _, _, _⟩ := cells4 HX1.out
    obtain ⟨y0, y1, y2, y3, y4, y5, y6, y7⟩ := cells4 HY1.out
    go_wp2
    have hfin := four_stored HY1.out (.slice sa sn sc) (.slice la ln lc) (.int .i64 lim) (.bool d.dark)
    have hbl := four_below HW1.out (Nat.le_succ _) (.slice sa sn sc) (.slice la ln lc) (.int .i64 lim) (.bool d.dark)
    generalize (((w1.setCell ⟨w.heap.size + 1, 0, none⟩ (.slice sa sn sc)).setCell ⟨w.heap.size + 1, 1, none⟩ (.slice la ln lc)).setCell ⟨w.heap.size + 1, 2, none⟩ (.int .i64 lim)).setCell ⟨w.heap.size + 1, 3, none⟩ (.bool d.dark) = w2 at *
    clear y0 y1 y2 y3 y4 y5 y6 y7
    obtain ⟨y0, y1, y2, y3, _, _, _, _⟩ := cells4 hfin
    clear hfin
    refine bodyPost_ret (v := .tuple #[.agg #[.slice sa sn sc, .slice la ln lc, .int .i64 lim, .bool d.dark], .int .i64 10]) (by simp [results, Try.results16, go_sem, y0, y1, y2, y3]) rfl ?_
    refine write_post (n := 10) (d' := d) (HE.out.trans (by rw [hre.out]; rw [if_neg (by decide)])) (HD.out.trans (by rw [hre.out]; rw [if_neg (by decide)])) ?_ hbl
    exact ⟨sa, la, sn, sc, ln, lc, lim, rfl, HS.out.on hbl, HL.out.on hbl, HR.out, l0, l1, lz, fun a e => .inl (lp a e), fun a e => .inl (lq a e)⟩
  · have hre := Lib.hid a
    clear a hd
    go_enter Try.func16, Try.ntmps16
    go_wp2_with fail
    ((with_reducible refine (rread_any _ _ _ lim d k (HS.out.on (by go_grown)) (HL.out.on (by go_grown)) h0 h1 hlen).mono ?_); rintro e w1 ⟨rfl, hb1⟩)
    rw [hre.out]
    have hx1 := (hb1.block w.heap.size (by simp; omega)).trans (heap_alloc2_old w (.cells #[.slice sa sn sc, .slice la ln lc, .int .i64 lim, .bool d.dark] 31) (.cells #[.slice none 0 0, .slice none 0 0, .int .i64 0, .bool false] 31))
    have hy1 := (hb1.block (w.heap.size + 1) (by simp)).trans (heap_alloc2_new w (.cells #[.slice sa sn sc, .slice la ln lc, .int .i64 lim, .bool d.dark] 31) (.cells #[.slice none 0 0, .slice none 0 0, .int .i64 0, .bool false] 31))
    have hw1 : Below w.heap.size w w1 := (show Below w.heap.size w ((w.alloc (.cells #[.slice sa sn sc, .slice la ln lc, .int .i64 lim, .bool d.dark] 31)).alloc (.cells #[.slice none 0 0, .slice none 0 0, .int .i64 0, .bool false] 31)) by go_grown).on hb1
    have hgt : w.heap.size + 1 < w1.heap.size := by have := hb1.size; simp at this; omega
    have HW1 := Lib.hid hw1
    have HX1 := Lib.hid hx1
    have HY1 := Lib.hid hy1
    clear hb1 hw1 hx1 hy1
    obtain ⟨x0, x1, x2, x3, _, _, _, _⟩ := cells4 HX1.out
    obtain ⟨y0, y1, y2, y3, y4, y5, y6, y7⟩ := cells4 HY1.out
    go_wp2
    have hfin := four_stored HY1.out (.slice sa sn sc) (.slice la ln lc) (.int .i64 lim) (.bool d.dark)
    have hbl := four_below HW1.out (Nat.le_succ _) (.slice sa sn sc) (.slice la ln lc) (.int .i64 lim) (.bool d.dark)
    generalize (((w1.setCell ⟨w.heap.size + 1, 0, none⟩ (.slice sa sn sc)).setCell ⟨w.heap.size + 1, 1, none⟩ (.slice la ln lc)).setCell ⟨w.heap.size + 1, 2, none⟩ (.int .i64 lim)).setCell ⟨w.heap.size + 1, 3, none⟩ (.bool d.dark) = w2 at *
    clear y0 y1 y2 y3 y4 y5 y6 y7
    obtain ⟨y0, y1, y2, y3, _, _, _, _⟩ := cells4 hfin
    clear hfin
    refine bodyPost_ret (v := .tuple #[.agg #[.slice sa sn sc, .slice la ln lc, .int .i64 lim, .bool d.dark], .int .i64 11]) (by simp [results, Try.results16, go_sem, y0, y1, y2, y3]) rfl ?_
    refine write_post (n := 11) (d' := d) (HE.out.trans (by rw [hre.out]; rw [if_neg (by decide)])) (HD.out.trans (by rw [hre.out]; rw [if_neg (by decide)])) ?_ hbl
    exact ⟨sa, la, sn, sc, ln, lc, lim, rfl, HS.out.on hbl, HL.out.on hbl, HR.out, l0, l1, lz, fun a e => .inl (lp a e), fun a e => .inl (lq a e)⟩
end Go.Proofs.Ytcefljfocagcoaa
