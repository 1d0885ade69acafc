/- No pager, and a pager that no call made, give nothing out and answer the error of none, whatever is asked of them; there is no pager of no store; and the chapter's example holds: for every act. Conditions: none. -/
import Derived.Test.YtcoebinljdjemaaGreatGR
import Derived.Test.YtcoebinljdjemaaGreatLaw
import Derived.BigQuiet
import Derived.Deep.QuietTactic
import Derived.Lib.QuietBelow
import Derived.Deep.DeepCutAuto
import Derived.Deep.CutBlock
namespace Go.Proofs.YtcoebinljdjemaaGreat.pagerNobody
open Go.ChangeShapes Go.WideShapes Go.ChangeAt Go.RowKit Go.PlainAid
open Go.ChangeMaps (open_string)
open Go.Sort (grow)

theorem own : ownKnob Tryz.prog.godebug = none := by kernel_rfl
theorem laidOut : laidOutB Tryz.prog = true := by kernel_rfl
set_option maxRecDepth 100000
theorem cellsAt {W : World} {b : Nat} {cs : List Value} {t : TypeId} {fr : Nat × Nat} (h : W.heap[b]? = some (.cells cs.toArray t fr)) (i : Nat) (v : Value) (hv : cs[i]? = some v) : W.cell? ⟨b, i, none⟩ = some v := by
  rw [cell_of_row _ _ _ _ _ _ h]
  simpa using hv
set_option maxRecDepth 100000 in
set_option maxHeartbeats 8000000 in
theorem walk (w : World) (a0 : ActV) (w0 : a0.Wf) :
    Calls Tryz.prog 4 #[.agg a0.cells.toArray] w fun e w' => e = .returned (.bool true) ∧ Below w.heap.size w w' := by
  obtain ⟨⟨bk0, ck0⟩, ⟨ba0, ca0⟩, ⟨bt0, ct0⟩, sd0⟩ := w0
  go_enter Tryz.func4, Tryz.ntmps4
  go_wp2_with fail
  have hb : Below w.heap.size w (((w.alloc (.cells a0.cells.toArray 37)).alloc (.cells #[.pointer none, .pointer none] 52)).alloc (.cells #[.pointer none, .pointer (some ⟨w.heap.size + 1, 0, none⟩)] 25)) := by go_grown
  obtain ⟨q1, q2, q3⟩ := heap3 w (.cells a0.cells.toArray 37) (.cells #[.pointer none, .pointer none] 52) (.cells #[.pointer none, .pointer (some ⟨w.heap.size + 1, 0, none⟩)] 25)
  rw [heap_drew] at q1 q2 q3
  generalize ((w.alloc (.cells a0.cells.toArray 37)).alloc (.cells #[.pointer none, .pointer none] 52)).alloc (.cells #[.pointer none, .pointer (some ⟨w.heap.size + 1, 0, none⟩)] 25) = W at *
  have HQ := Lib.hid (And.intro q1 (And.intro q2 q3))
  have HB := Lib.hid hb
  clear q1 q2 q3 hb
  go_loopw [17] (fun i wr => ∃ k : Nat, k ≤ 2 ∧ i = .int .i64 k ∧ Below W.heap.size W wr) (fun i _ => 2 - (intOf i).toNat)
  case atStart => exact ⟨0, Nat.zero_le _, rfl, Below.refl _ _⟩
  case round =>
    obtain ⟨k, hk, rfl, hbw⟩ := hrel
    have HW := Lib.hid hbw
    have q1 := (hbw.block _ (heap_lt' HQ.out.1)).trans HQ.out.1
    have q2 := (hbw.block _ (heap_lt' HQ.out.2.1)).trans HQ.out.2.1
    have q3 := (hbw.block _ (heap_lt' HQ.out.2.2)).trans HQ.out.2.2
    have g1 := cellsAt q1 1 _ rfl
    have g2 := cellsAt q1 2 _ rfl
    have g3 := cellsAt q1 3 _ rfl
    have p0 := cellsAt (cs := [_, _]) q3 0 _ rfl
    have p1 := cellsAt (cs := [_, _]) q3 1 _ rfl
    have hn1 : NoPager wr (.pointer none) := .inl rfl
    have hn2 : NoPager wr (.pointer (some ⟨w.heap.size + 1, 0, none⟩)) := .inr ⟨_, rfl, q2⟩
    clear q1 q2 q3 hbw
    have hcases : k = 0 ∨ k = 1 ∨ k = 2 := by omega
    rcases hcases with rfl | rfl | rfl
    · go_wp2_with fail
      refine (palloc_nil _ _ hn1).mono ?_
      rintro e _ ⟨rfl, rfl⟩
      go_wp2_with fail
      refine (pget_nil _ _ _ hn1).mono ?_
      rintro e _ ⟨rfl, rfl⟩
      go_wp2_with fail
      refine (proot_nil _ _ _ hn1).mono ?_
      rintro e _ ⟨rfl, rfl⟩
      go_wp2_with fail
      refine (pback_nil _ _ hn1).mono ?_
      rintro e _ ⟨rfl, rfl⟩
      go_wp2_with fail
      refine (pfree_nil _ _ _ hn1).mono ?_
      rintro e _ ⟨rfl, rfl⟩
      go_wp2_with fail
      refine (pset_nil _ _ _ _ hn1).mono ?_
      rintro e _ ⟨rfl, rfl⟩
      go_wp2_with fail
      refine (psetroot_nil _ _ _ _ hn1).mono ?_
      rintro e _ ⟨rfl, rfl⟩
      go_wp2_with fail
      refine (proom_nil _ _ hn1).mono ?_
      rintro e _ ⟨rfl, rfl⟩
      go_wp2_with fail
      refine (pcommit_nil _ _ hn1).mono ?_
      rintro e _ ⟨rfl, rfl⟩
      go_wp2_with fail
      refine (pformat_nil _ _ hn1).mono ?_
      rintro e _ ⟨rfl, rfl⟩
      go_wp2
      go_roundw
      case rel => exact ⟨1, by omega, rfl, HW.out⟩
      case measure => simp [intOf]
    · go_wp2_with fail
      refine (palloc_nil _ _ hn2).mono ?_
      rintro e _ ⟨rfl, rfl⟩
      go_wp2_with fail
      refine (pget_nil _ _ _ hn2).mono ?_
      rintro e _ ⟨rfl, rfl⟩
      go_wp2_with fail
      refine (proot_nil _ _ _ hn2).mono ?_
      rintro e _ ⟨rfl, rfl⟩
      go_wp2_with fail
      refine (pback_nil _ _ hn2).mono ?_
      rintro e _ ⟨rfl, rfl⟩
      go_wp2_with fail
      refine (pfree_nil _ _ _ hn2).mono ?_
      rintro e _ ⟨rfl, rfl⟩
      go_wp2_with fail
      refine (pset_nil _ _ _ _ hn2).mono ?_
      rintro e _ ⟨rfl, rfl⟩
      go_wp2_with fail
      refine (psetroot_nil _ _ _ _ hn2).mono ?_
      rintro e _ ⟨rfl, rfl⟩
      go_wp2_with fail
      refine (proom_nil _ _ hn2).mono ?_
      rintro e _ ⟨rfl, rfl⟩
      go_wp2_with fail
      refine (pcommit_nil _ _ hn2).mono ?_
      rintro e _ ⟨rfl, rfl⟩
      go_wp2_with fail
      refine (pformat_nil _ _ hn2).mono ?_
      rintro e _ ⟨rfl, rfl⟩
      go_wp2
      go_roundw
      case rel => exact ⟨2, by omega, rfl, HW.out⟩
      case measure => simp [intOf]
    · have HBW := Lib.hid (HB.out.on HW.out)
      clear g1 g2 g3 p0 p1 hn1 hn2
      go_wp2_with fail
      refine (pnew_nil _).mono ?_
      rintro e _ ⟨rfl, rfl⟩
      go_wp2_with fail
      refine (awake_any _).mono ?_
      rintro e w6 ⟨rfl, hb6⟩
      have HB6 := Lib.hid (HBW.out.on hb6)
      clear hb6 HBW
      go_wp2
      go_returns
      exact ⟨rfl, HB6.out⟩

set_option maxRecDepth 100000 in
theorem lifted (os : Os) (started : os.Started) (H : Type) (enc : TypeId × Value → H) :
    ReturnsInHanded {} Tryz.checked os 4 .any (Rows.pagerNobodySpec.pre6 enc Tryz.prog Tryz.f4 Rows.pagerNobodyRow.domain false) (Rows.pagerNobodySpec.post enc Tryz.prog Tryz.f4 false true false false) := by
  refine law_lift (C := Tryz.checked) own started (by kernel_rfl) Tryz.func4 laidOut (by kernel_rfl) rfl Tryz.underlying4 rfl
    (fun ds h => match ds, h with | [_], _ => rfl)
    (ChangeSpec.witness6 (enc := enc) (C := Tryz.checked) false ⟨#[], #[.agg (ActV.cells ⟨0, 0, 0, ByteArray.empty⟩).toArray], []⟩ 8 (by kernel_rfl) (by kernel_rfl) (by kernel_rfl) (by kernel_rfl)) ?_
  intro W base args ds ps hval hA hsz
  rw [Tryz.params4] at hA hval hsz
  obtain ⟨v0, vs0, d0, ds0, p0, q0, hargs, rfl, rfl, h0, r0⟩ := trodAll_cons hA
  obtain ⟨rfl, rfl, rfl⟩ := trodAll_nil r0
  obtain rfl : args = #[v0] := by cases args; simp_all
  obtain ⟨a0, rfl, w0⟩ := act_open (hval 0 37 v0 rfl rfl) h0
  exact walk W a0 w0

theorem over : Rows.pagerNobodyRow.holds Tryz.pinned (OpenSpec.ofChange Rows.pagerNobodySpec) :=
  OpenClaim.holds_of_wide 4 Tryz.f4 rfl rfl rfl rfl rfl rfl rfl ⟨rfl, rfl, rfl, rfl, rfl⟩ rfl rfl rfl rfl rfl (by kernel_rfl) Tryz.func4 (by kernel_rfl)
    (of_decide_eq_true (by kernel_rfl)) (by unfold Func.isWrapper; first | (rw [if_pos (by decide +kernel)]; kernel_rfl) | (rw [if_neg (by decide +kernel)]; exact ⟨rfl, rfl⟩))
    (fun os started H enc _ => lifted os started H enc)

theorem proved : Rows.PagerNobodySaid :=
  over
end Go.Proofs.YtcoebinljdjemaaGreat.pagerNobody
