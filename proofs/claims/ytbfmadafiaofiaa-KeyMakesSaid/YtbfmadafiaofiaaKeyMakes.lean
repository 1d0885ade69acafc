/- The key of every list of numbers is the document's, with its error, and the chapter's examples hold. Conditions: none. -/
import Derived.Test.YtbfmadafiaofiaaKyF
import Derived.Test.YtbfmadafiaofiaaLaw
import Derived.BigQuiet
import Derived.Deep.QuietTactic
import Derived.Lib.QuietBelow
import Derived.Deep.DeepCutAuto
import Derived.Deep.CutBlock
namespace Go.Proofs.Ytbfmadafiaofiaa.keyMakes
open Go.ChangeShapes Go.WideShapes Go.ChangeAt Go.RowKit Go.PlainAid
open Go.ChangeMaps (open_string)
open Go.Sort (grow)

theorem own : ownKnob Try.prog.godebug = none := by kernel_rfl
theorem laidOut : laidOutB Try.prog = true := by kernel_rfl
theorem ofV_is (l : List Int) : ∃ s e, ofV l = .tuple #[.string s, .int .i64 e] := by
  unfold ofV
  split
  · exact ⟨_, _, rfl⟩
  · exact ⟨_, _, rfl⟩
set_option maxRecDepth 100000 in
set_option maxHeartbeats 400000 in
theorem walk (w : World) (v0 : Value) (l0 : List Int) (h0 : IntsOf w v0 l0) :
    Calls Try.prog 3 #[v0] w fun e w' => e = .returned (.bool true) ∧ Below w.heap.size w w' := by
  obtain ⟨s, e, he⟩ := ofV_is l0
  have HE := Lib.hid he
  have H0 := Lib.hid h0
  clear he h0
  go_enter Try.func3, Try.ntmps3
  go_wp2_with fail
  refine (keyOf_any v0 l0 _ H0.out).mono ?_
  rintro _ w1 ⟨rfl, hb1⟩
  rw [HE.out]
  go_wp2_with fail
  refine (rkeyOf_any v0 l0 _ (H0.out.on hb1)).mono ?_
  rintro _ w2 ⟨rfl, hb2⟩
  rw [HE.out]
  go_wp2_with fail
  refine (awake_any _).mono ?_
  rintro _ w3 ⟨rfl, hb3⟩
  go_wp2
  go_returns
  exact ⟨rfl, hb1.on (hb2.on hb3)⟩

set_option maxRecDepth 100000 in
theorem lifted (os : Os) (started : os.Started) (H : Type) (enc : TypeId × Value → H) :
    ReturnsInHanded {} Try.checked os 3 .any (Rows.keyMakesSpec.pre6 enc Try.prog Try.f3 Rows.keyMakesRow.domain false) (Rows.keyMakesSpec.post enc Try.prog Try.f3 false true false false) := by
  refine law_lift (C := Try.checked) own started (by kernel_rfl) Try.func3 laidOut (by kernel_rfl) rfl Try.underlying4 rfl
    (fun ds h => match ds, h with | [_], _ => rfl)
    (ChangeSpec.witness6 (enc := enc) (C := Try.checked) false ⟨#[], #[.slice none 0 0], []⟩ 8 (by kernel_rfl) (by kernel_rfl) (by kernel_rfl) (by kernel_rfl)) ?_
  intro W base args ds ps hval hA hsz
  rw [Try.params3] at hA hval hsz
  obtain ⟨v0, vs0, d0, ds0, p0, q0, hargs, rfl, rfl, h0, r0⟩ := trodAll_cons hA
  obtain ⟨rfl, rfl, rfl⟩ := trodAll_nil r0
  obtain rfl : args = #[v0] := by cases args; simp_all
  obtain ⟨l0, hl0⟩ := ints_open (hval 0 22 v0 rfl rfl) h0
  exact walk W v0 l0 hl0

theorem over : Rows.keyMakesRow.holds Try.pinned (OpenSpec.ofChange Rows.keyMakesSpec) :=
  OpenClaim.holds_of_wide 3 Try.f3 rfl rfl rfl rfl rfl rfl rfl ⟨rfl, rfl, rfl, rfl, rfl⟩ rfl rfl rfl rfl rfl (by kernel_rfl) Try.func3 (by kernel_rfl)
    (of_decide_eq_true (by kernel_rfl)) (by unfold Func.isWrapper; first | (rw [if_pos (by decide +kernel)]; kernel_rfl) | (rw [if_neg (by decide +kernel)]; exact ⟨rfl, rfl⟩))
    (fun os started H enc _ => lifted os started H enc)

theorem proved : Rows.KeyMakesSaid :=
  over
end Go.Proofs.Ytbfmadafiaofiaa.keyMakes
