/- No store, and a store that no call made, have no pages and answer the error of none, whatever is asked of them; a disk without a head can't be opened, nor can no disk, nor be formatted; and the chapter's example holds: for every act. Conditions: none. -/
import Derived.Test.YtfcicpcpdklceaaSX
import Derived.Test.YtfcicpcpdklceaaSActs
import Derived.Test.YtfcicpcpdklceaaLaw
import Derived.BigQuiet
import Derived.Deep.QuietTactic
import Derived.Lib.QuietBelow
import Derived.Deep.DeepCutAuto
import Derived.Deep.CutBlock
namespace Go.Proofs.Ytfcicpcpdklceaa.storeNobody
open Go.ChangeShapes Go.WideShapes Go.ChangeAt Go.RowKit Go.PlainAid
open Go.ChangeMaps (open_string)
open Go.Sort (grow)

theorem own : ownKnob Try.prog.godebug = none := by kernel_rfl
theorem laidOut : laidOutB Try.prog = true := by kernel_rfl
set_option maxRecDepth 100000
theorem cellsAt {W : World} {b : Nat} {cs : List Value} {t : TypeId} {fr : Nat × Nat} (h : W.heap[b]? = some (.cells cs.toArray t fr)) (i : Nat) (v : Value) (hv : cs[i]? = some v) : W.cell? ⟨b, i, none⟩ = some v := by
  rw [cell_of_row _ _ _ _ _ _ h]
  simpa using hv
theorem new_none {w0 w : World} {p : Nat} (H : OwnL w0 p (newD 9) [] w) :
    Calls Try.prog 15 #[.pointer (some ⟨p, 0, none⟩)] w fun e w' => e = .returned (.tuple #[.pointer none, .int .i64 14]) ∧ OwnL w0 p (newD 9) [] w' :=
  open_bad H rfl (by show 2 ≤ 9; omega) none none (reads_zero 0 9) (reads_zero 1 9) rfl
set_option maxRecDepth 100000 in
set_option maxHeartbeats 400000 in
theorem walk (w : World) (a0 : ActV) (w0 : a0.Wf) :
    Calls Try.prog 7 #[.agg a0.cells.toArray] w fun e w' => e = .returned (.bool true) ∧ Below w.heap.size w w' := by
  obtain ⟨⟨bk0, ck0⟩, ⟨ba0, ca0⟩, sd0, ⟨bm0, cm0⟩, ⟨bt0, ct0⟩, ⟨bc0, cc0⟩⟩ := w0
  go_enter Try.func7, Try.ntmps7
  go_wp2_with fail
  have hb : Below w.heap.size w (((w.alloc (.cells a0.cells.toArray 53)).alloc (.cells #[.pointer none, .int .u64 0, .int .i64 0, .int .i64 0, .int .i64 0, .map none, .bool false] 58)).alloc (.cells #[.pointer none, .pointer (some ⟨w.heap.size + 1, 0, none⟩)] 25)) := by go_grown
  obtain ⟨q1, q2, q3⟩ := heap3 w (.cells a0.cells.toArray 53) (.cells #[.pointer none, .int .u64 0, .int .i64 0, .int .i64 0, .int .i64 0, .map none, .bool false] 58) (.cells #[.pointer none, .pointer (some ⟨w.heap.size + 1, 0, none⟩)] 25)
  rw [heap_drew] at q1 q2 q3
  generalize ((w.alloc (.cells a0.cells.toArray 53)).alloc (.cells #[.pointer none, .int .u64 0, .int .i64 0, .int .i64 0, .int .i64 0, .map none, .bool false] 58)).alloc (.cells #[.pointer none, .pointer (some ⟨w.heap.size + 1, 0, none⟩)] 25) = W at *
  have HQ := Lib.hid (And.intro q1 (And.intro q2 q3))
  have HB := Lib.hid hb
  clear q1 q2 q3 hb
  go_loopw [19] (fun i wr => ∃ k : Nat, k ≤ 2 ∧ i = .int .i64 k ∧ Below W.heap.size W wr) (fun i _ => 2 - (intOf i).toNat)
  case atStart => exact ⟨0, Nat.zero_le _, rfl, Below.refl _ _⟩
  case round =>
    obtain ⟨k, hk, rfl, hbw⟩ := hrel
    have HW := Lib.hid hbw
    have q1 := (hbw.block _ (heap_lt' HQ.out.1)).trans HQ.out.1
    have q2 := (hbw.block _ (heap_lt' HQ.out.2.1)).trans HQ.out.2.1
    have q3 := (hbw.block _ (heap_lt' HQ.out.2.2)).trans HQ.out.2.2
    have g1 := cellsAt q1 1 _ rfl
    have g2 := cellsAt q1 2 _ rfl
    have p0 := cellsAt (cs := [_, _]) q3 0 _ rfl
    have p1 := cellsAt (cs := [_, _]) q3 1 _ rfl
    have hn1 : NoStore wr (.pointer none) := .inl rfl
    have hn2 : NoStore wr (.pointer (some ⟨w.heap.size + 1, 0, none⟩)) := .inr ⟨_, rfl, q2⟩
    clear q1 q2 q3 hbw
    have hcases : k = 0 ∨ k = 1 ∨ k = 2 := by omega
    rcases hcases with rfl | rfl | rfl
    · go_wp2_with fail
      refine (sread_no _ _ _ hn1).mono ?_
      rintro e _ ⟨rfl, rfl⟩
      go_wp2_with fail
      refine (swrite_no _ _ _ _ hn1).mono ?_
      rintro e _ ⟨rfl, rfl⟩
      go_wp2_with fail
      refine (scommit_no _ _ hn1).mono ?_
      rintro e _ ⟨rfl, rfl⟩
      go_wp2_with fail
      refine (sback_no _ _ hn1).mono ?_
      rintro e _ ⟨rfl, rfl⟩
      go_wp2_with fail
      refine (slen_no _ _ hn1).mono ?_
      rintro e _ ⟨rfl, rfl⟩
      go_wp2_with fail
      refine (sdirty_no _ _ hn1).mono ?_
      rintro e w2 ⟨rfl, hb2⟩
      have HW2 := Lib.hid (HW.out.on hb2)
      clear hb2
      go_wp2
      go_roundw
      case rel => exact ⟨1, by omega, rfl, HW2.out⟩
      case measure => simp [intOf]
    · go_wp2_with fail
      refine (sread_no _ _ _ hn2).mono ?_
      rintro e _ ⟨rfl, rfl⟩
      go_wp2_with fail
      refine (swrite_no _ _ _ _ hn2).mono ?_
      rintro e _ ⟨rfl, rfl⟩
      go_wp2_with fail
      refine (scommit_no _ _ hn2).mono ?_
      rintro e _ ⟨rfl, rfl⟩
      go_wp2_with fail
      refine (sback_no _ _ hn2).mono ?_
      rintro e _ ⟨rfl, rfl⟩
      go_wp2_with fail
      refine (slen_no _ _ hn2).mono ?_
      rintro e _ ⟨rfl, rfl⟩
      go_wp2_with fail
      refine (sdirty_no _ _ hn2).mono ?_
      rintro e w2 ⟨rfl, hb2⟩
      have HW2 := Lib.hid (HW.out.on hb2)
      clear hb2
      go_wp2
      go_roundw
      case rel => exact ⟨2, by omega, rfl, HW2.out⟩
      case measure => simp [intOf]
    · have HBW := Lib.hid (HB.out.on HW.out)
      clear g1 g2 p0 p1 hn1 hn2
      go_wp2_with fail
      refine (new_any 9 wr (by omega) (by omega)).mono ?_
      rintro e w1 ⟨F, rfl, hd, hb, ho⟩
      have H1 := Lib.hid (show OwnL wr F.p (newD 9) [] w1 from OwnAt.owns ⟨F, rfl, hd, hb, ho⟩)
      clear hd hb ho
      generalize F.p = p at *
      go_wp2_with fail
      refine (new_none H1.out).mono ?_
      rintro e w2 ⟨rfl, H2⟩
      have HB2 := Lib.hid (HBW.out.on H2.below)
      clear H2 H1
      go_wp2_with fail
      refine (open_no w2).mono ?_
      rintro e w3 ⟨rfl, hb3⟩
      have HB3 := Lib.hid (HB2.out.on hb3)
      have hnd : NoDisk w3 (.pointer none) := .inl rfl
      clear hb3
      go_wp2_with fail
      refine (format_no w3 _ 1 hnd).mono ?_
      rintro e _ ⟨rfl, rfl⟩
      go_wp2_with fail
      refine (awake_any w3).mono ?_
      rintro e w4 ⟨rfl, hb4⟩
      have HB4 := Lib.hid (HB3.out.on hb4)
      clear hb4
      go_wp2
      go_returns
      exact ⟨rfl, HB4.out⟩

set_option maxRecDepth 100000 in
theorem lifted (os : Os) (started : os.Started) (H : Type) (enc : TypeId × Value → H) :
    ReturnsInHanded {} Try.checked os 7 .any (Rows.storeNobodySpec.pre6 enc Try.prog Try.f7 Rows.storeNobodyRow.domain false) (Rows.storeNobodySpec.post enc Try.prog Try.f7 false true false false) := by
  refine law_lift (C := Try.checked) own started (by kernel_rfl) Try.func7 laidOut (by kernel_rfl) rfl Try.underlying4 rfl
    (fun ds h => match ds, h with | [_], _ => rfl)
    (ChangeSpec.witness6 (enc := enc) (C := Try.checked) false ⟨#[], #[.agg (ActV.cells ⟨0, 0, ByteArray.empty, 0, 0, 0⟩).toArray], []⟩ 8 (by kernel_rfl) (by kernel_rfl) (by kernel_rfl) (by kernel_rfl)) ?_
  intro W base args ds ps hval hA hsz
  rw [Try.params7] at hA hval hsz
  obtain ⟨v0, vs0, d0, ds0, p0, q0, hargs, rfl, rfl, h0, r0⟩ := trodAll_cons hA
  obtain ⟨rfl, rfl, rfl⟩ := trodAll_nil r0
  obtain rfl : args = #[v0] := by cases args; simp_all
  obtain ⟨a0, rfl, w0⟩ := act_open (hval 0 53 v0 rfl rfl) h0
  exact walk W a0 w0

theorem over : Rows.storeNobodyRow.holds Try.pinned (OpenSpec.ofChange Rows.storeNobodySpec) :=
  OpenClaim.holds_of_wide 7 Try.f7 rfl rfl rfl rfl rfl rfl rfl ⟨rfl, rfl, rfl, rfl, rfl⟩ rfl rfl rfl rfl rfl (by kernel_rfl) Try.func7 (by kernel_rfl)
    (of_decide_eq_true (by kernel_rfl)) (by unfold Func.isWrapper; first | (rw [if_pos (by decide +kernel)]; kernel_rfl) | (rw [if_neg (by decide +kernel)]; exact ⟨rfl, rfl⟩))
    (fun os started H enc _ => lifted os started H enc)

theorem proved : Rows.StoreNobodySaid :=
  over
end Go.Proofs.Ytfcicpcpdklceaa.storeNobody
