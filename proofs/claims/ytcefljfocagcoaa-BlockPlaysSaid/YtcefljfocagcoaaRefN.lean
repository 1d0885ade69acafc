/- Contract of the reference's New. -/
import Derived.Test.YtcefljfocagcoaaRefC
import Derived.Test.YtcefljfocagcoaaBlkG
namespace Go.Proofs.Ytcefljfocagcoaa
open Go.ChangeShapes Go.WideShapes Go.ChangeAt Go.RowKit Go.PlainAid

theorem filled_nil : filled ⟨#[]⟩ = zeroText := by
  unfold filled zeroText
  rfl
set_option maxHeartbeats 1000000 in
theorem rnew_no (n : Int) (w : World) (h : n < 1 ∨ 2048 < n) :
    Calls Try.prog 6 #[.int .i64 n] w fun e w' => ∃ v, e = .returned (.tuple #[v, .int .i64 1]) ∧ Below w.heap.size w w' := by
  rcases Int.lt_or_le n 1 with a | a
  · have hb1 : decide (n < 1) = true := by simpa using a
    clear h
    go_enter Try.func6, Try.ntmps6
    go_wp2_with fail
    obtain ⟨y0, y1, y2, y3, _, _, _, _⟩ := cells4 (heap_alloc_new w (.cells #[.slice none 0 0, .slice none 0 0, .int .i64 0, .bool false] 31))
    refine bodyPost_ret (v := .tuple #[.agg #[.slice none 0 0, .slice none 0 0, .int .i64 0, .bool false], .int .i64 1]) (by simp [results, Try.results6, go_sem, y0, y1, y2, y3]) rfl ?_
    exact ⟨_, rfl, by go_grown⟩
  · have hb1 : decide (n < 1) = false := by simpa using a
    have hb2 : decide (2048 < n) = true := by simp; omega
    clear h
    go_enter Try.func6, Try.ntmps6
    go_wp2_with fail
    obtain ⟨y0, y1, y2, y3, _, _, _, _⟩ := cells4 (heap_alloc_new w (.cells #[.slice none 0 0, .slice none 0 0, .int .i64 0, .bool false] 31))
    refine bodyPost_ret (v := .tuple #[.agg #[.slice none 0 0, .slice none 0 0, .int .i64 0, .bool false], .int .i64 1]) (by simp [results, Try.results6, go_sem, y0, y1, y2, y3]) rfl ?_
    exact ⟨_, rfl, by go_grown⟩
/-- New's rounds. -/
def NewAt (w wr : World) (k : Nat) : Prop := Below w.heap.size w wr ∧ wr.heap[w.heap.size]? = some (.cells #[.slice none 0 0, .slice none 0 0, .int .i64 0, .bool false] 31 (0, 0)) ∧
  ∃ sv, wr.heap[w.heap.size + 1]? = some (.cells #[sv, .slice none 0 0, .int .i64 (-1), .bool false] 31 (0, 0)) ∧ wr.ownsRow (w.heap.size + 2) 9 1 sv k (textList k fun _ => zeroText) ∧ w.heap.size + 1 < wr.heap.size
theorem NewAt.drew {w wr : World} {k : Nat} (h : NewAt w wr k) : NewAt w wr.drew k := by
  obtain ⟨a, b, sv, c, d, e⟩ := h
  exact ⟨a.on (Below.refl _ _ |>.drew), b, sv, c, d, e⟩
theorem textList_succ (k : Nat) (f : Nat → ByteArray) : textList (k + 1) f = textList k f ++ [.string (f k)] := by simp [textList, List.range_succ]
theorem new_step {w wr w1 w4 : World} {k g cap : Nat} {sv : Value} {o : Obj} (hb : Below w.heap.size w wr) (hq0 : wr.heap[w.heap.size]? = some (.cells #[.slice none 0 0, .slice none 0 0, .int .i64 0, .bool false] 31 (0, 0)))
    (hq1 : wr.heap[w.heap.size + 1]? = some (.cells #[sv, .slice none 0 0, .int .i64 (-1), .bool false] 31 (0, 0))) (hown : wr.ownsRow (w.heap.size + 2) 9 1 sv k (textList k fun _ => zeroText)) (hsz : w.heap.size + 1 < wr.heap.size)
    (hb1 : Below wr.heap.size wr w1) (hown4 : w4.ownsRow (w.heap.size + 2) 9 1 (.slice (some ⟨g, 0, none⟩) (k + 1) cap) (k + 1) ((textList k fun _ => zeroText) ++ [.string (filled ⟨#[]⟩)])) (hgrow : (w1.alloc o).grownBy w4 sv.ownBlock) :
    w4.heap[w.heap.size + 1]? = some (.cells #[sv, .slice none 0 0, .int .i64 (-1), .bool false] 31 (0, 0)) ∧ NewAt w (w4.setCell ⟨w.heap.size + 1, 0, none⟩ (.slice (some ⟨g, 0, none⟩) (k + 1) cap)) (k + 1) := by
  have hne : ∀ j, j ≤ w.heap.size + 1 → some j ≠ sv.ownBlock := fun j hj e => by
    have := (hown.lt j e.symm).1
    omega
  have hs1 : w.heap.size + 1 < w1.heap.size := Nat.lt_of_lt_of_le hsz hb1.size
  have hs2 : w1.heap.size < (w1.alloc o).heap.size := by rw [World.size_alloc]; omega
  have k0 : w4.heap[w.heap.size]? = _ := (hgrow.block _ (by omega) (hne _ (by omega))).trans ((Below.heap_alloc w1 o _ (by omega)).trans ((hb1.block _ (by omega)).trans hq0))
  have k1 : w4.heap[w.heap.size + 1]? = _ := (hgrow.block _ (by omega) (hne _ (by omega))).trans ((Below.heap_alloc w1 o _ (by omega)).trans ((hb1.block _ (by omega)).trans hq1))
  have hw1 : Below w.heap.size w w1 := hb.on hb1
  have hw4 : Below w.heap.size w w4 := (hw1.alloc (by omega) o).grown hgrow (by omega) (fun j hj => by have := (hown.lt j hj).1; omega)
  refine ⟨k1, hw4.setCell (p := ⟨w.heap.size + 1, 0, none⟩) (Nat.le_succ _) _, (heap_setCell_other _ _ _ _ (by show w.heap.size ≠ w.heap.size + 1; omega)).trans k0, _, heap_setCell_same _ _ _ _ _ _ k1, ?_, ?_⟩
  · rw [filled_nil] at hown4
    rw [textList_succ]
    exact ownsRow_setCell_below hown4 (a := ⟨w.heap.size + 1, 0, none⟩) (by show w.heap.size + 1 < w.heap.size + 2; omega) _
  · rw [World.size_setCell]
    have := hgrow.size
    omega
set_option maxHeartbeats 4000000 in
theorem rnew_any (n : Int) (w : World) (h0 : 1 ≤ n) (h1 : n ≤ 2048) :
    Calls Try.prog 6 #[.int .i64 n] w fun e w' => ∃ v, e = .returned (.tuple #[v, .int .i64 0]) ∧ RefV (fun b => w.heap.size ≤ b) w' v (newD n.toNat) ∧ Below w.heap.size w w' := by
  obtain ⟨m, rfl⟩ := Int.eq_ofNat_of_zero_le (show 0 ≤ n by omega)
  rw [Int.toNat_natCast]
  have hb1 : decide ((m : Int) < 1) = false := by simpa using h0
  have hb2 : decide (2048 < (m : Int)) = false := by simpa using h1
  go_enter Try.func6, Try.ntmps6
  go_wp2_with fail
  have hq0 := heap_alloc2_old w (.cells #[.slice none 0 0, .slice none 0 0, .int .i64 0, .bool false] 31) (.cells #[.slice none 0 0, .slice none 0 0, .int .i64 (-1), .bool false] 31)
  have hq1 := heap_alloc2_new w (.cells #[.slice none 0 0, .slice none 0 0, .int .i64 0, .bool false] 31) (.cells #[.slice none 0 0, .slice none 0 0, .int .i64 (-1), .bool false] 31)
  have hA : Below w.heap.size w ((w.alloc (.cells #[.slice none 0 0, .slice none 0 0, .int .i64 0, .bool false] 31)).alloc (.cells #[.slice none 0 0, .slice none 0 0, .int .i64 (-1), .bool false] 31)) := by go_grown
  have hAs : w.heap.size + 1 < ((w.alloc (.cells #[.slice none 0 0, .slice none 0 0, .int .i64 0, .bool false] 31)).alloc (.cells #[.slice none 0 0, .slice none 0 0, .int .i64 (-1), .bool false] 31)).heap.size := by simp
  generalize (w.alloc (.cells #[.slice none 0 0, .slice none 0 0, .int .i64 0, .bool false] 31)).alloc (.cells #[.slice none 0 0, .slice none 0 0, .int .i64 (-1), .bool false] 31) = wa at *
  have HQ0 := Lib.hid hq0
  have HQ1 := Lib.hid hq1
  have HA := Lib.hid hA
  have HAS := Lib.hid hAs
  clear hq0 hq1 hA hAs
  obtain ⟨i0, hi, hz0, hz1, hz2⟩ := info_parts info_string
  have HI := Lib.hid (And.intro hi (And.intro hz0 (And.intro hz1 hz2)))
  clear hi hz0 hz1 hz2
  go_loopw [5] (fun i wr => ∃ k : Nat, k ≤ m ∧ i = .int .i64 k ∧ NewAt w wr k) (fun i _ => m - (intOf i).toNat)
  case atStart => exact ⟨0, Nat.zero_le _, rfl, HA.out, HQ0.out, _, HQ1.out, World.ownsRow_nil _ _ _ _, HAS.out⟩
  case round =>
    obtain ⟨k, hk, rfl, hb, hq0, sv, hq1, hown, hsz⟩ := hrel
    have HB := Lib.hid hb
    have HQ0' := Lib.hid hq0
    have HQ1' := Lib.hid hq1
    have HO := Lib.hid hown
    clear hb hq0 hown
    obtain ⟨x0, x1, x2, x3, x4, x5, x6, x7⟩ := cells4 hq1
    clear hq1
    by_cases hlt : k < m
    · have hbl : decide ((k : Int) < (m : Int)) = true := by simpa using hlt
      go_wp2_with fail
      go_region_law (first
        | (go_simp; (with_reducible refine (filled_any ⟨#[]⟩ _ (by decide)).mono ?_); rintro e w1 ⟨rfl, hb1⟩; have hb1' : Below wr.heap.size wr w1 := (show Below wr.heap.size wr wr.drew by go_grown).on hb1; have hs1 : w.heap.size + 1 < w1.heap.size := Nat.lt_of_lt_of_le hsz hb1'.size; have z0 := (hb1'.cell (p := ⟨w.heap.size + 1, 0, none⟩) hsz).trans x0; have HO1 := Lib.hid (ownsRow_on HO.out hb1'); have HB1 := Lib.hid hb1'; clear hb1 hb1')
        | ((refine step_append_lies _ (by rfl) (.tmp 20) (.tmp 22) 28 (by rfl) (w.heap.size + 2) 9 i0 _ 1 16 Try.underlying28 HI.out.1 HI.out.2.1 HI.out.2.2.1 HI.out.2.2.2 (by rfl) (by decide) sv k (textList k fun _ => zeroText) (by rfl) (World.ownsRow.alloc HO1.out _) ⟨w1.heap.size, 0, none⟩ 1 1 [.string (filled ⟨#[]⟩)] (by rfl) (by rfl) (World.news_of_block (cs := #[.string (filled ⟨#[]⟩)]) (t := 9) (fr := (0, 0)) (heap_alloc_new w1 _)) (by simp [Value.oneCell']) (by decide) (by unfold maxLen; omega) (by omega) (by simp; omega) (w1.heap.size + 1) (by simp) ?_); intro g cap w4 hown hgrow hat hlt4; obtain ⟨hq4, hN4⟩ := new_step HB.out HQ0'.out HQ1'.out HO.out hsz HB1.out hown hgrow; have HQ4 := Lib.hid hq4; have HN4 := Lib.hid hN4; clear hq4 hN4 hown hgrow hat; obtain ⟨z0', _, _, _, z4', _, _, _⟩ := cells4 HQ4.out)
        | fail)
      all_goals
        go_wp2
        go_roundw
        case rel =>
          first
            | exact ⟨k + 1, by omega, by go_num, HN4.out⟩
            | exact ⟨k + 1, by omega, by go_num, HN4.out.drew⟩
        case measure => simp [intOf]; omega
    · have hbl : decide ((k : Int) < (m : Int)) = false := by simpa using hlt
      have e : k = m := by omega
      subst e
      obtain ⟨y0, y1, y2, y3, y4, y5, y6, y7⟩ := cells4 HQ0'.out
      obtain ⟨sa, sn, sc, rfl⟩ : ∃ (sa : Option Addr) (sn sc : Nat), sv = .slice sa sn sc := by
        rcases HO.out.2 with ⟨e, hn⟩ | ⟨g, cap, cur, e, _⟩
        · exact ⟨_, _, _, e⟩
        · exact ⟨_, _, _, e⟩
      go_wp2
      have hfin := four_stored HQ0'.out (.slice sa sn sc) (.slice none 0 0) (.int .i64 (-1)) (.bool false)
      have hbl := four_below HB.out (Nat.le_refl _) (.slice sa sn sc) (.slice none 0 0) (.int .i64 (-1)) (.bool false)
      have ho2 := ownsRow_setCell_below (ownsRow_setCell_below (ownsRow_setCell_below (ownsRow_setCell_below HO.out (a := ⟨w.heap.size, 0, none⟩) (by show w.heap.size < w.heap.size + 2; omega) (.slice sa sn sc)) (a := ⟨w.heap.size, 1, none⟩) (by show w.heap.size < w.heap.size + 2; omega) (.slice none 0 0)) (a := ⟨w.heap.size, 2, none⟩) (by show w.heap.size < w.heap.size + 2; omega) (.int .i64 (-1))) (a := ⟨w.heap.size, 3, none⟩) (by show w.heap.size < w.heap.size + 2; omega) (.bool false)
      generalize (((wr.setCell ⟨w.heap.size, 0, none⟩ (.slice sa sn sc)).setCell ⟨w.heap.size, 1, none⟩ (.slice none 0 0)).setCell ⟨w.heap.size, 2, none⟩ (.int .i64 (-1))).setCell ⟨w.heap.size, 3, none⟩ (.bool false) = w5 at *
      clear x0 x1 x2 x3 x4 x5 x6 x7 y0 y1 y2 y3 y4 y5 y6 y7
      obtain ⟨y0, y1, y2, y3, _, _, _, _⟩ := cells4 hfin
      refine bodyPost_ret (v := .tuple #[.agg #[.slice sa sn sc, .slice none 0 0, .int .i64 (-1), .bool false], .int .i64 0]) (by simp [results, Try.results6, go_sem, y0, y1, y2, y3]) rfl ?_
      refine ⟨_, rfl, ?_, hbl⟩
      have ht : SafeIn w5 (.slice sa sn sc) k fun _ => zeroText := by
        rcases ho2.2 with ⟨e, hn⟩ | ⟨g, cap, cur, e, _⟩
        · exact absurd hn (by omega)
        · rw [e] at ho2 ⊢
          exact (texts_owned ho2).safe cap
      refine ⟨sa, none, sn, sc, 0, 0, -1, rfl, ht, .inl ⟨rfl, rfl⟩, .inl rfl, by decide, by decide, fun _ => rfl, fun a e => ?_, fun a e => (by cases e)⟩
      subst e
      rcases ho2.2 with ⟨e, _⟩ | ⟨g, cap, cur, e, hg, _⟩
      · cases e
      · cases e
        show w.heap.size ≤ g
        omega
end Go.Proofs.Ytcefljfocagcoaa
