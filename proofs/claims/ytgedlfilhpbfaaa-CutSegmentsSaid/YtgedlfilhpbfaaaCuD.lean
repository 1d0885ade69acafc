/- Rows of operations that are put in order: rows change places (slices.swapRangeCmpFunc, rotateCmpFunc). -/
import Derived.Test.YtgedlfilhpbfaaaCuC
import Derived.Lib.QuietBelow
import Derived.Shelf.RegionOpenPlain
import Derived.Deep.RegionLaw
namespace Go.Proofs.Ytgedlfilhpbfaaa
set_option maxRecDepth 100000
open Go.ChangeShapes Go.WideShapes Go.ChangeAt Go.RowKit Go.PlainAid Go.Deep Go.Shelf Go.Sort
namespace Cu
attribute [local go_sem ↓ high] load_op store_o
set_option maxHeartbeats 4000000 in
/-- Two rows of m change places. -/
theorem swapRange_any (cl : Value) {g cap a b m n : Nat} {L : List OpV} {w : World} (h : InRow w g cap L) (hn : L.length = n) (hl : n ≤ 1048576) (hab : a + m ≤ b) (hb : b + m ≤ n) :
    Calls Try.prog 39 #[.slice (some ⟨g, 0, none⟩) n cap, .int .i64 a, .int .i64 b, .int .i64 m, cl] w (RowPost g cap n w fun L' => L'.Perm L ∧ Sw L L' a b m) := by
  have HS := Lib.hid (show RowAt g cap n w (fun L' => L'.Perm L ∧ Sw L L' a b 0) w from ⟨L, h, hn, ⟨List.Perm.refl _, Sw.nil _ _ _⟩, Keeps.refl _ _⟩)
  have HN := Lib.hid hn
  clear h hn
  have mixed := mixed
  go_enter Try.func39, Try.ntmps39
  go_wp2_with fail
  go_loopw [10] (fun s10 wr => ∃ i : Nat, s10 = .int .i64 i ∧ i ≤ m ∧ Hid (RowAt g cap n w (fun L' => L'.Perm L ∧ Sw L L' a b i) wr)) (fun s10 _ => m - (intOf s10).toNat)
  case atStart => exact ⟨0, rfl, Nat.zero_le _, HS⟩
  case round =>
    clear HS
    obtain ⟨i, rfl, him, HI⟩ := hrel
    by_cases hlt : i < m
    · have hltz : (i : Int) < (m : Int) := by omega
      have w1 : IntKind.i64.wrap ((i : Int) + 1) = (i : Int) + 1 := IntWalk.i64_in _ (by omega)
      have w2 : IntKind.i64.wrap ((a : Int) + (i : Int)) = (a : Int) + (i : Int) := IntWalk.i64_in _ (by omega)
      have w3 : IntKind.i64.wrap ((b : Int) + (i : Int)) = (b : Int) + (i : Int) := IntWalk.i64_in _ (by omega)
      have a1 : (a : Int) + (i : Int) < (n : Int) := by omega
      have a2 : (b : Int) + (i : Int) < (n : Int) := by omega
      have a3 : (0 : Int) ≤ (a : Int) + (i : Int) := by omega
      have a4 : (0 : Int) ≤ (b : Int) + (i : Int) := by omega
      have a5 : ((a : Int) + (i : Int)).toNat = a + i := by omega
      have a6 : ((b : Int) + (i : Int)).toNat = b + i := by omega
      obtain ⟨L1, hr1, hn1, ⟨hp1, hs1⟩, hk1⟩ := HI.out
      obtain ⟨x, hx⟩ : ∃ x, L1[a + i]? = some x := ⟨_, List.getElem?_eq_getElem (by omega)⟩
      obtain ⟨y, hy⟩ : ∃ y, L1[b + i]? = some y := ⟨_, List.getElem?_eq_getElem (by omega)⟩
      have HR3 := Lib.hid hr1
      have HP := Lib.hid (And.intro hn1 (And.intro hp1 (And.intro hs1 hk1)))
      have HX := Lib.hid hx
      have HY := Lib.hid hy
      clear HI hr1 hn1 hp1 hs1 hk1 hx hy
      obtain ⟨W1, W2, s1, s2, r2, k2⟩ := InRow.swap (HR3.out.on (below_drew _)) HX.out HY.out
      have lx2 := (HR3.out.on (below_drew _)).load HX.out
      have ly2 := (HR3.out.on (below_drew _)).load HY.out
      have R2 := Lib.hid r2
      have K2 := Lib.hid k2
      clear r2 k2
      go_wp2_with fail
      go_big_region_o
      all_goals go_wp2_with fail
      go_roundw
      case measure => simp [intOf] <;> omega
      case rel =>
        obtain ⟨p1, p2, p3, p4⟩ := HP.out
        have := HN.out
        exact ⟨i + 1, by simp, by omega, Lib.hid ⟨_, R2.out, by rw [swp_len]; exact p1, ⟨(swp_perm _ _ _).trans p2, p3.step (by omega) (by omega)⟩, p4.drew.on K2.out⟩⟩
    · obtain rfl : i = m := by omega
      have hltz : ¬ (i : Int) < (i : Int) := by omega
      go_wp2_with fail
      go_returns
      exact ⟨rfl, HI.out⟩
set_option maxHeartbeats 4000000 in
/-- Two rows beside each other change places. -/
theorem rotate_any (cl : Value) {g cap a m b n : Nat} {L : List OpV} {w : World} (h : InRow w g cap L) (hn : L.length = n) (hl : n ≤ 1048576) (ham : a < m) (hmb : m < b) (hb : b ≤ n) :
    Calls Try.prog 38 #[.slice (some ⟨g, 0, none⟩) n cap, .int .i64 a, .int .i64 m, .int .i64 b, cl] w (RowPost g cap n w fun L' => Rot L L' a m b) := by
  have e1 : m - (m - a) = a := by omega
  have e2 : m + (b - m) = b := by omega
  have HS := Lib.hid (show RowAt g cap n w (fun L' => Mv L L' a b ∧ ∀ k, rot L' (m - (m - a)) m (m + (b - m)) k = rot L a m b k) w from ⟨L, h, hn, ⟨Mv.refl _ _ _, fun k => by rw [e1, e2]⟩, Keeps.refl _ _⟩)
  have w1 : IntKind.i64.wrap ((m : Int) - (a : Int)) = ((m - a : Nat) : Int) := by rw [IntWalk.i64_in _ (by omega)]; omega
  have w2 : IntKind.i64.wrap ((b : Int) - (m : Int)) = ((b - m : Nat) : Int) := by rw [IntWalk.i64_in _ (by omega)]; omega
  clear h e1 e2
  have HN := Lib.hid hn
  clear hn
  have mixed := mixed
  go_enter Try.func38, Try.ntmps38
  go_wp2_with fail
  clear w1 w2
  go_loopw [10, 11] (fun s10 s11 wr => ∃ i j : Nat, s10 = .int .i64 i ∧ s11 = .int .i64 j ∧ 0 < i ∧ 0 < j ∧ i ≤ m - a ∧ j ≤ b - m ∧ Hid (RowAt g cap n w (fun L' => Mv L L' a b ∧ ∀ k, rot L' (m - i) m (m + j) k = rot L a m b k) wr)) (fun s10 s11 _ => (intOf s10).toNat + (intOf s11).toNat)
  case atStart => exact ⟨m - a, b - m, by simp, by simp, by omega, by omega, Nat.le_refl _, Nat.le_refl _, HS⟩
  case round =>
    clear HS
    obtain ⟨i, j, rfl, rfl, hi, hj, him, hjb, HI⟩ := hrel
    have w3 : IntKind.i64.wrap ((m : Int) - (i : Int)) = ((m - i : Nat) : Int) := by rw [IntWalk.i64_in _ (by omega)]; omega
    obtain ⟨L1, hr1, hn1, ⟨hm1, hs1⟩, hk1⟩ := HI.out
    have HP := Lib.hid (And.intro hm1 (And.intro hs1 hk1))
    clear HI hm1 hs1 hk1
    by_cases he : i = j
    · subst he
      have q1 : ((i : Int) != (i : Int)) = false := by simp
      have HC := Lib.hid (swapRange_any cl (a := m - i) (b := m) (m := i) hr1 hn1 hl (by omega) (by omega))
      clear hr1 hn1
      go_wp2_with fail
      refine HC.out.mono ?_
      rintro e w4 ⟨rfl, L4, r4, n4, ⟨p4, s4⟩, k4⟩
      have HE := Lib.hid (show RowAt g cap n w (fun L' => Rot L L' a m b) w4 from ⟨L4, r4, n4, ⟨HP.out.1.trans (s4.mv p4 (by omega) (by omega) (by omega)), fun k => by rw [rot_last (by omega) s4 k, HP.out.2.1 k]⟩, HP.out.2.2.on k4⟩)
      clear r4 n4 p4 s4 k4
      go_wp2_with fail
      go_returns
      exact ⟨rfl, HE.out⟩
    · have q1 : ((i : Int) != (j : Int)) = true := by simp; omega
      by_cases hij : j < i
      · have q2 : (j : Int) < (i : Int) := by omega
        have w4 : IntKind.i64.wrap ((i : Int) - (j : Int)) = ((i - j : Nat) : Int) := by rw [IntWalk.i64_in _ (by omega)]; omega
        have HC := Lib.hid (swapRange_any cl (a := m - i) (b := m) (m := j) hr1 hn1 hl (by omega) (by omega))
        clear hr1 hn1
        go_wp2_with fail
        refine HC.out.mono ?_
        rintro e w4 ⟨rfl, L4, r4, n4, ⟨p4, s4⟩, k4⟩
        have HE := Lib.hid (show RowAt g cap n w (fun L' => Mv L L' a b ∧ ∀ k, rot L' (m - (i - j)) m (m + j) k = rot L a m b k) w4 from ⟨L4, r4, n4, ⟨HP.out.1.trans (s4.mv p4 (by omega) (by omega) (by omega)), fun k => by rw [rot_left hj hij (by omega) s4 k, HP.out.2.1 k]⟩, HP.out.2.2.on k4⟩)
        clear r4 n4 p4 s4 k4
        go_wp2_with fail
        go_roundw
        case measure => simp [intOf] <;> omega
        case rel => exact ⟨i - j, j, by simp, rfl, by omega, hj, by omega, hjb, HE⟩
      · have q2 : ¬ (j : Int) < (i : Int) := by omega
        have w4 : IntKind.i64.wrap ((j : Int) - (i : Int)) = ((j - i : Nat) : Int) := by rw [IntWalk.i64_in _ (by omega)]; omega
        have w5 : IntKind.i64.wrap ((m : Int) + (j : Int)) = (m : Int) + (j : Int) := IntWalk.i64_in _ (by omega)
        have w6 : IntKind.i64.wrap ((m : Int) + (j : Int) - (i : Int)) = ((m + j - i : Nat) : Int) := by rw [IntWalk.i64_in _ (by omega)]; omega
        have HC := Lib.hid (swapRange_any cl (a := m - i) (b := m + j - i) (m := i) hr1 hn1 hl (by omega) (by omega))
        clear hr1 hn1
        go_wp2_with fail
        refine HC.out.mono ?_
        rintro e w4 ⟨rfl, L4, r4, n4, ⟨p4, s4⟩, k4⟩
        have HE := Lib.hid (show RowAt g cap n w (fun L' => Mv L L' a b ∧ ∀ k, rot L' (m - i) m (m + (j - i)) k = rot L a m b k) w4 from ⟨L4, r4, n4, ⟨HP.out.1.trans (s4.mv p4 (by omega) (by omega) (by omega)), fun k => by rw [rot_right hi (by omega) (by omega) s4 k, HP.out.2.1 k]⟩, HP.out.2.2.on k4⟩)
        clear r4 n4 p4 s4 k4
        go_wp2_with fail
        go_roundw
        case measure => simp [intOf] <;> omega
        case rel => exact ⟨i, j - i, rfl, by simp, hi, by omega, him, by omega, HE⟩
end Cu
end Go.Proofs.Ytgedlfilhpbfaaa
