/- No tree, and a tree that no call made, have no records and answer the error of none, whatever is asked of them; there is no tree of no pager, nor one of a root that there is not; and the chapter's example holds: for every act. Conditions: none. -/
import Derived.Test.YtkdhlofcdcnjgaaGreatBI
import Derived.Test.YtkdhlofcdcnjgaaGreatBH
import Derived.Test.YtkdhlofcdcnjgaaGreatBK
import Derived.Test.YtkdhlofcdcnjgaaGreatLaw
import Derived.BigQuiet
import Derived.Deep.QuietTactic
import Derived.Lib.QuietBelow
import Derived.Deep.DeepCutAuto
import Derived.Deep.CutBlock
namespace Go.Proofs.YtkdhlofcdcnjgaaGreat.btreeNobody
open Go.ChangeShapes Go.WideShapes Go.ChangeAt Go.RowKit Go.PlainAid
open Go.ChangeMaps (open_string)
open Go.Sort (grow)

theorem own : ownKnob Tryz.prog.godebug = none := by kernel_rfl
theorem laidOut : laidOutB Tryz.prog = true := by kernel_rfl
set_option maxRecDepth 100000
theorem cellsAt {W : World} {b : Nat} {cs : List Value} {t : TypeId} {fr : Nat × Nat} (h : W.heap[b]? = some (.cells cs.toArray t fr)) (i : Nat) (v : Value) (hv : cs[i]? = some v) : W.cell? ⟨b, i, none⟩ = some v := by
  rw [cell_of_row _ _ _ _ _ _ h]
  simpa using hv
set_option maxRecDepth 100000 in
set_option maxHeartbeats 8000000 in
theorem walk (w : World) (a0 : ActV) (w0 : a0.Wf) (s0 : a0.key.size ≤ 140737488351232) :
    Calls Tryz.prog 4 #[.agg a0.cells.toArray] w fun e w' => e = .returned (.bool true) ∧ Below w.heap.size w w' := by
  obtain ⟨⟨bk0, ck0⟩, sk0, sv0⟩ := w0
  go_enter Tryz.func4, Tryz.ntmps4
  go_wp2_with fail
  have hb : Below w.heap.size w (((w.alloc (.cells a0.cells.toArray 31)).alloc (.cells #[.pointer none, .int .i64 0] 50)).alloc (.cells #[.pointer none, .pointer (some ⟨w.heap.size + 1, 0, none⟩)] 28)) := by go_grown
  obtain ⟨q1, q2, q3⟩ := heap3 w (.cells a0.cells.toArray 31) (.cells #[.pointer none, .int .i64 0] 50) (.cells #[.pointer none, .pointer (some ⟨w.heap.size + 1, 0, none⟩)] 28)
  rw [heap_drew] at q1 q2 q3
  generalize ((w.alloc (.cells a0.cells.toArray 31)).alloc (.cells #[.pointer none, .int .i64 0] 50)).alloc (.cells #[.pointer none, .pointer (some ⟨w.heap.size + 1, 0, none⟩)] 28) = W at *
  have hf : ∀ wr, Below W.heap.size W wr → wr.cell? ⟨w.heap.size, 0, none⟩ = some (.int .i64 a0.kind) ∧ wr.cell? ⟨w.heap.size, 1, none⟩ = some (.string a0.key) ∧ wr.cell? ⟨w.heap.size, 2, none⟩ = some (.string a0.val) ∧
      wr.cell? ⟨w.heap.size + 2, 0, none⟩ = some (.pointer none) ∧ wr.cell? ⟨w.heap.size + 2, 1, none⟩ = some (.pointer (some ⟨w.heap.size + 1, 0, none⟩)) ∧
      NoTree wr (.pointer none) ∧ NoTree wr (.pointer (some ⟨w.heap.size + 1, 0, none⟩)) := fun wr hbw => by
    have q1 := (hbw.block _ (heap_lt' q1)).trans q1
    have q2 := (hbw.block _ (heap_lt' q2)).trans q2
    have q3 := (hbw.block _ (heap_lt' q3)).trans q3
    exact ⟨cellsAt q1 0 _ rfl, cellsAt q1 1 _ rfl, cellsAt q1 2 _ rfl, cellsAt (cs := [_, _]) q3 0 _ rfl, cellsAt (cs := [_, _]) q3 1 _ rfl, .inl rfl, .inr ⟨_, rfl, q2⟩⟩
  have HF := Lib.hid hf
  have HB := Lib.hid hb
  clear q1 q2 q3 hb hf
  go_loopw [17] (fun i wr => ∃ k : Nat, k ≤ 2 ∧ i = .int .i64 k ∧ Below W.heap.size W wr) (fun i _ => 2 - (intOf i).toNat)
  case atStart => exact ⟨0, Nat.zero_le _, rfl, Below.refl _ _⟩
  case round =>
    obtain ⟨k, hk, rfl, hbw⟩ := hrel
    have HW0 := Lib.hid hbw
    clear hbw
    obtain ⟨g0, g1, g2, p0, p1, hn0, hn1⟩ := HF.out _ HW0.out
    have hcases : k = 0 ∨ k = 1 ∨ k = 2 := by omega
    rcases hcases with rfl | rfl | rfl
    · have hn := hn0
      clear hn0 hn1
      go_wp2_with fail
      refine (tget_no _ (.pointer none) a0.key hn).mono ?_
      rintro e w1 ⟨rfl, hb1⟩
      have HW1 := Lib.hid (HW0.out.on hb1)
      clear g0 g1 g2 p0 p1 hn hb1
      obtain ⟨g0, g1, g2, p0, p1, hn0, hn1⟩ := HF.out _ HW1.out
      have hn := hn0
      clear hn0 hn1 HW0
      go_wp2_with fail
      refine (tput_no _ (.pointer none) a0.key a0.val hn).mono ?_
      rintro e w2 ⟨rfl, hb2⟩
      have HW2 := Lib.hid (HW1.out.on hb2)
      clear g0 g1 g2 p0 p1 hn hb2
      obtain ⟨g0, g1, g2, p0, p1, hn0, hn1⟩ := HF.out _ HW2.out
      have hn := hn0
      clear hn0 hn1 HW1
      go_wp2_with fail
      refine (tdel_no _ (.pointer none) a0.key hn).mono ?_
      rintro e w3 ⟨rfl, hb3⟩
      have HW3 := Lib.hid (HW2.out.on hb3)
      clear g0 g1 g2 p0 p1 hn hb3
      obtain ⟨g0, g1, g2, p0, p1, hn0, hn1⟩ := HF.out _ HW3.out
      have hn := hn0
      clear hn0 hn1 HW2
      go_wp2_with fail
      refine (tcount_no _ none hn).mono ?_
      rintro e w4 ⟨rfl, hb4⟩
      have HW4 := Lib.hid (HW3.out.on hb4)
      clear g0 g1 g2 p0 p1 hn hb4
      obtain ⟨g0, g1, g2, p0, p1, hn0, hn1⟩ := HF.out _ HW4.out
      have hn := hn0
      clear hn0 hn1 HW3
      go_wp2_with fail
      refine (lall_no _ none hn).mono ?_
      rintro e w5 ⟨rfl, hb5⟩
      have HW5 := Lib.hid (HW4.out.on hb5)
      clear g0 g1 g2 p0 p1 hn hb5
      obtain ⟨g0, g1, g2, p0, p1, hn0, hn1⟩ := HF.out _ HW5.out
      have hn := hn0
      clear hn0 hn1 HW4
      go_wp2_with fail
      refine (lsome_no _ none a0.key s0 3 (by decide) hn).mono ?_
      rintro e w6 ⟨rfl, hb6⟩
      have HW6 := Lib.hid (HW5.out.on hb6)
      clear g0 g1 g2 p0 p1 hn hb6
      obtain ⟨g0, g1, g2, p0, p1, hn0, hn1⟩ := HF.out _ HW6.out
      have hn := hn0
      clear hn0 hn1 HW5
      go_wp2
      go_roundw
      case rel => exact ⟨1, by omega, rfl, HW6.out⟩
      case measure => simp [intOf]
    · have hn := hn1
      clear hn0 hn1
      go_wp2_with fail
      refine (tget_no _ (.pointer (some ⟨w.heap.size + 1, 0, none⟩)) a0.key hn).mono ?_
      rintro e w1 ⟨rfl, hb1⟩
      have HW1 := Lib.hid (HW0.out.on hb1)
      clear g0 g1 g2 p0 p1 hn hb1
      obtain ⟨g0, g1, g2, p0, p1, hn0, hn1⟩ := HF.out _ HW1.out
      have hn := hn1
      clear hn0 hn1 HW0
      go_wp2_with fail
      refine (tput_no _ (.pointer (some ⟨w.heap.size + 1, 0, none⟩)) a0.key a0.val hn).mono ?_
      rintro e w2 ⟨rfl, hb2⟩
      have HW2 := Lib.hid (HW1.out.on hb2)
      clear g0 g1 g2 p0 p1 hn hb2
      obtain ⟨g0, g1, g2, p0, p1, hn0, hn1⟩ := HF.out _ HW2.out
      have hn := hn1
      clear hn0 hn1 HW1
      go_wp2_with fail
      refine (tdel_no _ (.pointer (some ⟨w.heap.size + 1, 0, none⟩)) a0.key hn).mono ?_
      rintro e w3 ⟨rfl, hb3⟩
      have HW3 := Lib.hid (HW2.out.on hb3)
      clear g0 g1 g2 p0 p1 hn hb3
      obtain ⟨g0, g1, g2, p0, p1, hn0, hn1⟩ := HF.out _ HW3.out
      have hn := hn1
      clear hn0 hn1 HW2
      go_wp2_with fail
      refine (tcount_no _ (some ⟨w.heap.size + 1, 0, none⟩) hn).mono ?_
      rintro e w4 ⟨rfl, hb4⟩
      have HW4 := Lib.hid (HW3.out.on hb4)
      clear g0 g1 g2 p0 p1 hn hb4
      obtain ⟨g0, g1, g2, p0, p1, hn0, hn1⟩ := HF.out _ HW4.out
      have hn := hn1
      clear hn0 hn1 HW3
      go_wp2_with fail
      refine (lall_no _ (some ⟨w.heap.size + 1, 0, none⟩) hn).mono ?_
      rintro e w5 ⟨rfl, hb5⟩
      have HW5 := Lib.hid (HW4.out.on hb5)
      clear g0 g1 g2 p0 p1 hn hb5
      obtain ⟨g0, g1, g2, p0, p1, hn0, hn1⟩ := HF.out _ HW5.out
      have hn := hn1
      clear hn0 hn1 HW4
      go_wp2_with fail
      refine (lsome_no _ (some ⟨w.heap.size + 1, 0, none⟩) a0.key s0 3 (by decide) hn).mono ?_
      rintro e w6 ⟨rfl, hb6⟩
      have HW6 := Lib.hid (HW5.out.on hb6)
      clear g0 g1 g2 p0 p1 hn hb6
      obtain ⟨g0, g1, g2, p0, p1, hn0, hn1⟩ := HF.out _ HW6.out
      have hn := hn1
      clear hn0 hn1 HW5
      go_wp2
      go_roundw
      case rel => exact ⟨2, by omega, rfl, HW6.out⟩
      case measure => simp [intOf]
    · have HBW := Lib.hid (HB.out.on HW0.out)
      clear g0 g1 g2 p0 p1 hn0 hn1 HW0 HF
      go_wp2_with fail
      refine (open_nil _).mono ?_
      rintro e w1 ⟨rfl, hb1⟩
      have HB1 := Lib.hid (HBW.out.on hb1)
      clear hb1 HBW
      go_wp2_with fail
      refine (begun8_any 20 _ (by omega) (by omega)).mono ?_
      rintro e w2 ⟨pp, p, V, rfl, H2⟩
      have HO := Lib.hid (open_no (i := 16) H2 (.inr (by decide)))
      clear H2
      go_wp2_with fail
      refine HO.out.mono ?_
      rintro e w3 ⟨rfl, H3⟩
      have HB3 := Lib.hid (HB1.out.on H3.below)
      clear HO H3 HB1
      go_wp2_with fail
      refine (awake8_any _).mono ?_
      rintro e w6 ⟨rfl, hb6⟩
      have HB6 := Lib.hid (HB3.out.on hb6)
      clear hb6 HB3
      go_wp2
      go_returns
      exact ⟨rfl, HB6.out⟩

set_option maxRecDepth 100000 in
theorem lifted (os : Os) (started : os.Started) (H : Type) (enc : TypeId × Value → H) :
    ReturnsInHanded {} Tryz.checked os 4 .any (Rows.btreeNobodySpec.pre6 enc Tryz.prog Tryz.f4 Rows.btreeNobodyRow.domain false) (Rows.btreeNobodySpec.post enc Tryz.prog Tryz.f4 false true false false) := by
  refine law_lift (C := Tryz.checked) own started (by kernel_rfl) Tryz.func4 laidOut (by kernel_rfl) rfl Tryz.underlying4 rfl
    (fun ds h => match ds, h with | [_], _ => rfl)
    (ChangeSpec.witness6 (enc := enc) (C := Tryz.checked) false ⟨#[], #[.agg (ActV.cells ⟨0, ByteArray.empty, ByteArray.empty⟩).toArray], []⟩ 8 (by kernel_rfl) (by kernel_rfl) (by kernel_rfl) (by kernel_rfl)) ?_
  intro W base args ds ps hval hA hsz
  rw [Tryz.params4] at hA hval hsz
  obtain ⟨v0, vs0, d0, ds0, p0, q0, hargs, rfl, rfl, h0, r0⟩ := trodAll_cons hA
  obtain ⟨rfl, rfl, rfl⟩ := trodAll_nil r0
  obtain rfl : args = #[v0] := by cases args; simp_all
  obtain ⟨a0, parts0, rfl, w0, hd0, hp0⟩ := act_open_sized (hval 0 31 v0 rfl rfl) h0
  have s0 : a0.key.size ≤ 140737488351232 := by
    have hd : d0 = _ := hd0
    subst hd
    have := sized_part hsz (j := 0) (i := 1) rfl rfl Tryz.underlying31 rfl hp0
    simpa [reachBytes] using this
  exact walk W a0 w0 s0

theorem over : Rows.btreeNobodyRow.holds Tryz.pinned (OpenSpec.ofChange Rows.btreeNobodySpec) :=
  OpenClaim.holds_of_wide 4 Tryz.f4 rfl rfl rfl rfl rfl rfl rfl ⟨rfl, rfl, rfl, rfl, rfl⟩ rfl rfl rfl rfl rfl (by kernel_rfl) Tryz.func4 (by kernel_rfl)
    (of_decide_eq_true (by kernel_rfl)) (by unfold Func.isWrapper; first | (rw [if_pos (by decide +kernel)]; kernel_rfl) | (rw [if_neg (by decide +kernel)]; exact ⟨rfl, rfl⟩))
    (fun os started H enc _ => lifted os started H enc)

theorem proved : Rows.BtreeNobodySaid :=
  over
end Go.Proofs.YtkdhlofcdcnjgaaGreat.btreeNobody
