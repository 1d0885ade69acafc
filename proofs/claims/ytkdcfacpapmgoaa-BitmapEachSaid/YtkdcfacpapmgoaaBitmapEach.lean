/- Each gives the numbers of every set of at most 1000 bytes, rising, as many as are asked for, Count tells how many they are, and the chapter's examples hold. Conditions: none. -/
import Derived.Test.YtkdcfacpapmgoaaMapI
import Derived.Test.YtkdcfacpapmgoaaLaw
import Derived.BigQuiet
import Derived.Deep.QuietTactic
import Derived.Lib.QuietBelow
import Derived.Deep.DeepCutAuto
import Derived.Deep.CutBlock
namespace Go.Proofs.Ytkdcfacpapmgoaa.bitmapEach
open Go.ChangeShapes Go.WideShapes Go.ChangeAt Go.RowKit Go.PlainAid
open Go.ChangeMaps (open_string)
open Go.Sort (grow)

theorem own : ownKnob Try.prog.godebug = none := by kernel_rfl
theorem laidOut : laidOutB Try.prog = true := by kernel_rfl
theorem each_len (s : ByteArray) (h : s.size ≤ 1000) : (nums s s.size).length ≤ 8000 := by
  have := cnt_le s s.size
  rw [nums_len]
  omega
/-- A slice of these numbers. -/
def Form (p : Option Addr) (ca : Nat) (L : List Int) (w : World) : Prop := L = [] ∨ ∃ g, p = some ⟨g, 0, none⟩ ∧ L.length ≤ ca ∧ ∀ j, j < L.length → w.cell? ⟨g, j, none⟩ = some (.int .i64 (L.getD j 0))
theorem own_form {a : Nat} {w : World} {v : Value} {L : List Int} (hv : IntsIn a w v L) : ∃ p ca, v = .slice p L.length ca ∧ Form p ca L w := by
  obtain ⟨h1, h2⟩ := hv
  rcases h2 with ⟨rfl, hz⟩ | ⟨g, cap, cur, rfl, _, hg, hn, _, _, ht⟩
  · exact ⟨none, 0, by rw [hz], .inl (List.length_eq_zero_iff.1 hz)⟩
  · refine ⟨some ⟨g, 0, none⟩, cap, rfl, .inr ⟨g, rfl, by omega, fun j hj => ?_⟩⟩
    rw [Nat.mul_one] at ht
    rw [cell_of_row _ _ _ _ _ _ hg, ← Array.getElem?_toList]
    have := congrArg (fun l => l[j]?) ht
    simp only [List.getElem?_map] at this
    rw [List.getElem?_take_of_lt (by omega)] at this
    rw [this, List.getElem?_eq_getElem hj, List.getD_eq_getElem?_getD, List.getElem?_eq_getElem hj]
    rfl
theorem Form.on {p : Option Addr} {ca : Nat} {L : List Int} {w w' : World} (h : Form p ca L w) (b : Below w.heap.size w w') : Form p ca L w' := by
  rcases h with h | ⟨g, rfl, hn, h⟩
  · exact .inl h
  · exact .inr ⟨g, rfl, hn, fun j hj => (b.cell (p := ⟨g, j, none⟩) (World.block_lt_of_cell? w _ (h j hj))).trans (h j hj)⟩
theorem Form.take {p : Option Addr} {ca : Nat} {L : List Int} {w : World} (h : Form p ca L w) (k : Nat) : Form p ca (L.take k) w := by
  rcases h with h | ⟨g, rfl, hn, h⟩
  · exact .inl (by rw [h]; exact List.take_nil)
  · refine .inr ⟨g, rfl, by rw [List.length_take]; omega, fun j hj => ?_⟩
    rw [List.length_take] at hj
    rw [h j (by omega), List.getD_eq_getElem?_getD, List.getD_eq_getElem?_getD, List.getElem?_take_of_lt (by omega)]
theorem Form.alike {p q : Option Addr} {ca cb : Nat} {L : List Int} {w : World} (h : Form p ca L w) (k : Form q cb L w) : Alike p q L w := by
  rcases h with h | ⟨g, hp, _, h⟩
  · exact .inl h
  · rcases k with k | ⟨g', hq, _, k⟩
    · exact .inl k
    · exact .inr ⟨g, g', hp, hq, h, k⟩
theorem drew_on {w : World} : Below w.heap.size w w.drew := ⟨rfl, rfl, rfl, Nat.le_refl _, fun _ _ => rfl⟩
theorem under_ints : Try.prog.underlying 33 = some (.slice (Try.prog.elem 33)) := by kernel_rfl
set_option maxRecDepth 100000 in
set_option maxHeartbeats 2000000 in
theorem walk (w : World) (a0 : ByteArray) (s0 : a0.size ≤ 140737488351232) (a1 : Int) (w1 : (Lit.int .i64 a1).wf = true) :
    Calls Try.prog 6 #[.string a0, .int .i64 a1] w fun e w' => e = .returned (.bool true) ∧ Below w.heap.size w w' := by
  have u0 := s0
  clear u0
  obtain ⟨b1, c1⟩ := bounds_i64 w1
  by_cases hn : a0.size ≤ 1000
  · have HLEN := each_len a0 hn
    have HCN := nums_len a0 a0.size
    have HA := fun w => all_any a0 w hn
    have HC := fun w => count_any a0 w s0
    have HE := fun m w => each_any a0 m w hn
    rw [← HCN] at HC
    clear HCN
    generalize nums a0 a0.size = L at *
    have HE1 := HE 10000
    rw [show L.take (10000 : Int).toNat = L from List.take_of_length_le (by show _ ≤ 10000; omega)] at HE1
    obtain ⟨n, hL⟩ : ∃ n, L.length = n := ⟨_, rfl⟩
    have hn8 : n ≤ 8000 := by omega
    rw [hL] at HC
    have HLL := Lib.hid hL
    have HA := Lib.hid HA
    have HC := Lib.hid HC
    have HE1 := Lib.hid HE1
    have HE2 := Lib.hid (HE a1)
    clear HLEN HE hL
    go_enter Try.func6, Try.ntmps6
    go_wp2_with fail
    refine (HA.out _).mono ?_
    rintro e w1 ⟨v, rfl, hR1, hb1⟩
    obtain ⟨p, ca, rfl, hF⟩ := own_form hR1
    rw [HLL.out]
    have HF := Lib.hid hF
    have HB1 := Lib.hid hb1
    clear hF hR1 hb1
    go_wp2_with fail
    refine (HC.out _).mono ?_
    rintro e _ ⟨rfl, rfl⟩
    go_wp2_with fail
    refine (HE1.out _).mono ?_
    rintro e w2 ⟨v, rfl, hR2, hb2⟩
    obtain ⟨q, cb, rfl, hF2⟩ := own_form hR2
    rw [HLL.out]
    have HI := Lib.hid fun w h => ints_any q p n cb ca L w HLL.out h (by omega)
    have HAL := Lib.hid (hF2.alike (HF.out.on hb2))
    have HF2 := Lib.hid (HF.out.on hb2)
    have HB2 := Lib.hid (HB1.out.on hb2)
    clear hR2 hb2 hF2 HF HB1
    go_wp2_with fail
    refine (HI.out _ HAL.out).mono ?_
    rintro e w3 ⟨rfl, hb3⟩
    have HF3 := Lib.hid (HF2.out.on hb3)
    have HB3 := Lib.hid (HB2.out.on hb3)
    clear hb3 HF2 HB2 HI HAL
    by_cases k1 : 0 ≤ a1
    · by_cases k2 : a1 < (n : Int)
      · obtain ⟨k, rfl⟩ := Int.eq_ofNat_of_zero_le k1
        have HE3 : Hid (∀ w, Calls Try.prog 20 #[.string a0, .int .i64 (k : Int)] w (Gives (L.take k) w)) := HE2
        have hf := HF3.out
        rcases hf with h0 | ⟨g, rfl, hca, _⟩
        · have := HLL.out
          rw [h0] at this
          exact absurd this (by simp; omega)
        · have hk2 : k < n := by omega
          have hca2 : n ≤ ca := by rw [← HLL.out]; exact hca
          have hsl : ∀ w, (Instr.slice 33 (.slice (some ⟨g, 0, none⟩) n ca) none (some (.int .i64 (k : Int))) none).run Try.prog w = .ok (.slice (some ⟨g, 0, none⟩) k ca) w := fun w => by
            rw [run_slice_h (P := Try.prog) w 33 (some ⟨g, 0, none⟩) n ca under_ints .i64 k (by omega) (by omega)]
            show Result.ok (sliced _ _ _ _ _) w = _
            unfold sliced
            rw [if_neg (by omega), Int.toNat_natCast]
            rfl
          have HI2 := Lib.hid fun q cb w h => ints_any q (some ⟨g, 0, none⟩) k cb ca (L.take k) w (by rw [List.length_take, HLL.out]; omega) h (by omega)
          have HTL := Lib.hid (show (L.take k).length = k by rw [List.length_take, HLL.out]; omega)
          clear HE2 hca
          go_wp2_with fail
          go_region_with (first
            | (go_at_call 20; (with_reducible refine (HE3.out _).mono ?_); rintro e w4 ⟨v4, rfl, hR4, hb4⟩; obtain ⟨q4, cb4, rfl, hF4⟩ := own_form hR4; rw [HTL.out]; have HF4 := Lib.hid hF4; have HB4 := Lib.hid hb4; clear hF4 hR4 hb4)
            | (go_at_call 19; (with_reducible refine (HI2.out _ _ _ (Form.alike HF4.out ((HF3.out.on (drew_on.on HB4.out)).take k))).mono ?_); rintro e w5 ⟨rfl, hb5⟩)
            | (go_at_call 12; (with_reducible refine (awake_any _).mono ?_); rintro e w6 ⟨rfl, hb6⟩))
          go_wp2
          go_returns
          exact ⟨rfl, HB3.out.on (drew_on.on (HB4.out.on (hb5.on hb6)))⟩
      · go_wp2_with fail
        refine (awake_any _).mono ?_
        rintro e w4 ⟨rfl, hb4⟩
        go_wp2
        go_returns
        exact ⟨rfl, HB3.out.on hb4⟩
    · go_wp2_with fail
      refine (awake_any _).mono ?_
      rintro e w4 ⟨rfl, hb4⟩
      go_wp2
      go_returns
      exact ⟨rfl, HB3.out.on hb4⟩
  · go_enter Try.func6, Try.ntmps6
    go_wp2_with fail
    refine (awake_any _).mono ?_
    rintro e w1 ⟨rfl, hb1⟩
    go_wp2
    go_returns
    exact ⟨rfl, hb1⟩

set_option maxRecDepth 100000 in
theorem lifted (os : Os) (started : os.Started) (H : Type) (enc : TypeId × Value → H) :
    ReturnsInHanded {} Try.checked os 6 .any (Rows.bitmapEachSpec.pre6 enc Try.prog Try.f6 Rows.bitmapEachRow.domain false) (Rows.bitmapEachSpec.post enc Try.prog Try.f6 false true false false) := by
  refine law_lift (C := Try.checked) own started (by kernel_rfl) Try.func6 laidOut (by kernel_rfl) rfl Try.underlying4 rfl
    (fun ds h => match ds, h with | [_, _], _ => rfl)
    (ChangeSpec.witness6 (enc := enc) (C := Try.checked) false ⟨#[], #[.string ByteArray.empty, .int .i64 0], []⟩ 8 (by kernel_rfl) (by kernel_rfl) (by kernel_rfl) (by kernel_rfl)) ?_
  intro W base args ds ps hval hA hsz
  rw [Try.params6] at hA hval hsz
  obtain ⟨v0, vs0, d0, ds0, p0, q0, hargs, rfl, rfl, h0, r0⟩ := trodAll_cons hA
  obtain ⟨v1, vs1, d1, ds1, p1, q1, rfl, rfl, rfl, h1, r1⟩ := trodAll_cons r0
  obtain ⟨rfl, rfl, rfl⟩ := trodAll_nil r1
  obtain rfl : args = #[v0, v1] := by cases args; simp_all
  obtain ⟨a0, rfl, rfl, rfl, _⟩ := open_string Try.underlying9 (hval 0 9 v0 rfl rfl) h0
  have s0 : a0.size ≤ 140737488351232 := by
    have := sized_string hsz (j := 0) rfl rfl
    simpa [reachBytes] using this
  obtain ⟨a1, rfl, rfl, rfl, w1⟩ := open_int Try.underlying3 (hval 1 3 v1 rfl rfl) h1
  exact walk W a0 s0 a1 w1

theorem over : Rows.bitmapEachRow.holds Try.pinned (OpenSpec.ofChange Rows.bitmapEachSpec) :=
  OpenClaim.holds_of_wide 6 Try.f6 rfl rfl rfl rfl rfl rfl rfl ⟨rfl, rfl, rfl, rfl, rfl⟩ rfl rfl rfl rfl rfl (by kernel_rfl) Try.func6 (by kernel_rfl)
    (of_decide_eq_true (by kernel_rfl)) (by unfold Func.isWrapper; first | (rw [if_pos (by decide +kernel)]; kernel_rfl) | (rw [if_neg (by decide +kernel)]; exact ⟨rfl, rfl⟩))
    (fun os started H enc _ => lifted os started H enc)

theorem proved : Rows.BitmapEachSaid :=
  over
end Go.Proofs.Ytkdcfacpapmgoaa.bitmapEach
