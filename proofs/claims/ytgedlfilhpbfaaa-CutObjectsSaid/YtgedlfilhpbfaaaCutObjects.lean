/- The operations of every object are told as the document says, and the chapter's example holds: for every list of operations (longer ones than 80, and those that have unlike operations of one number, are let go). No conditions. -/
import Derived.Test.YtgedlfilhpbfaaaCuO
import Derived.Test.YtgedlfilhpbfaaaLaw
import Derived.BigQuiet
import Derived.Deep.QuietTactic
import Derived.Lib.QuietBelow
import Derived.Deep.DeepCutAuto
import Derived.Deep.CutBlock
namespace Go.Proofs.Ytgedlfilhpbfaaa.cutObjects
open Go.ChangeShapes Go.WideShapes Go.ChangeAt Go.RowKit Go.PlainAid
open Go.ChangeMaps (open_string)
open Go.Sort (grow)

theorem own : ownKnob Try.prog.godebug = none := by kernel_rfl
theorem laidOut : laidOutB Try.prog = true := by kernel_rfl
open Cu Go.Shelf Go.Sort
attribute [local go_sem ↓ high] load_op store_o load_s
set_option maxRecDepth 100000 in
set_option maxHeartbeats 4000000 in
theorem walk (w : World) (v0 : Value) (l0 : List OpV) (h0 : OpsOf w v0 l0) :
    Calls Try.prog 3 #[v0] w fun e w' => e = .returned (.bool true) ∧ Below w.heap.size w w' := by
  obtain ⟨ao, ac, rfl⟩ := h0.len
  have H := Lib.hid h0
  clear h0
  by_cases hl : 80 < l0.length
  · have q0 : decide ((l0.length : Int) > 80) = true := decide_eq_true (by omega)
    have q00 : ((80 : Int) < (l0.length : Int)) = True := eq_true (by omega)
    clear hl
    go_enter Try.func3, Try.ntmps3
    go_wp2_with fail
    refine (Cu.awake_any _).mono ?_
    rintro _ w2 ⟨rfl, hb2⟩
    go_wp2_with fail
    go_returns
    exact ⟨rfl, hb2⟩
  have q0 : decide ((l0.length : Int) > 80) = false := decide_eq_false (by omega)
  have q00 : ((80 : Int) < (l0.length : Int)) = False := eq_false (by omega)
  have HL0 := Lib.hid (show l0.length ≤ 80 by omega)
  clear hl
  go_enter Try.func3, Try.ntmps3
  go_wp2_with fail
  refine (mixed_any H.out (by have := HL0.out; omega)).mono ?_
  rintro _ w2 ⟨mb, rfl, hb2, hal⟩
  have HB2 := Lib.hid hb2
  have H2 := Lib.hid (H.out.on hb2)
  have HAL := Lib.hid hal
  clear hb2 hal
  cases mb with
  | true =>
    go_wp2_with fail
    refine (Cu.awake_any _).mono ?_
    rintro _ w3 ⟨rfl, hb3⟩
    have HB3 := Lib.hid (HB2.out.on hb3)
    clear hb3
    go_wp2_with fail
    go_returns
    exact ⟨rfl, HB3.out⟩
  | false =>
    go_wp2_with fail
    refine (objects_any H2.out (by have := HL0.out; omega)).mono ?_
    rintro _ w3 ⟨vA, ps, rfl, hm, hok⟩
    have HB3 := Lib.hid (HB2.out.on hm.below)
    have H3 := Lib.hid (H2.out.on hm.below)
    have HS := Lib.hid hm.segs
    have HOK := Lib.hid hok
    clear hm hok
    go_wp2_with fail
    refine (robjects_any H3.out (by have := HL0.out; omega)).mono ?_
    rintro _ w4 ⟨vB, qs, rfl, hm2, hok2⟩
    have HB4 := Lib.hid (HB3.out.on hm2.below)
    have HS2 := Lib.hid (HS.out.on hm2.below)
    have HT := Lib.hid (show SegsOf w4 vB (ps.map Prod.fst) from by rw [obj_one (by first | exact HAL.out trivial | exact HAL.out rfl) HOK.out hok2]; exact hm2.segs)
    have HC := Lib.hid (same_any HS2.out HT.out (by have := HOK.out.few; have := HL0.out; omega) (fun s hs => by
      have h1 := (HOK.out.each s hs).1.1.length_eq
      have h2 := List.length_filter_le (fun o => decide (o.obj = s.obj)) l0
      have := HL0.out
      omega))
    clear hm2 hok2
    go_wp2_with fail
    refine HC.out.mono ?_
    rintro _ w5 ⟨rfl, hb5⟩
    have HB5 := Lib.hid (HB4.out.on hb5)
    clear hb5
    go_wp2_with fail
    refine (Cu.awake_any _).mono ?_
    rintro _ w6 ⟨rfl, hb6⟩
    have HB6 := Lib.hid (HB5.out.on hb6)
    clear hb6
    go_wp2_with fail
    go_returns
    exact ⟨rfl, HB6.out⟩

set_option maxRecDepth 100000 in
theorem lifted (os : Os) (started : os.Started) (H : Type) (enc : TypeId × Value → H) :
    ReturnsInHanded {} Try.checked os 3 .any (Rows.cutObjectsSpec.pre6 enc Try.prog Try.f3 Rows.cutObjectsRow.domain false) (Rows.cutObjectsSpec.post enc Try.prog Try.f3 false true false false) := by
  refine law_lift (C := Try.checked) own started (by kernel_rfl) Try.func3 laidOut (by kernel_rfl) rfl Try.underlying4 rfl
    (fun ds h => match ds, h with | [_], _ => rfl)
    (ChangeSpec.witness6 (enc := enc) (C := Try.checked) false ⟨#[], #[.slice none 0 0], []⟩ 8 (by kernel_rfl) (by kernel_rfl) (by kernel_rfl) (by kernel_rfl)) ?_
  intro W base args ds ps hval hA hsz
  rw [Try.params3] at hA hval hsz
  obtain ⟨v0, vs0, d0, ds0, p0, q0, hargs, rfl, rfl, h0, r0⟩ := trodAll_cons hA
  obtain ⟨rfl, rfl, rfl⟩ := trodAll_nil r0
  obtain rfl : args = #[v0] := by cases args; simp_all
  obtain ⟨l0, hl0, _⟩ := ops_open (hval 0 22 v0 rfl rfl) h0
  exact walk W v0 l0 hl0

theorem over : Rows.cutObjectsRow.holds Try.pinned (OpenSpec.ofChange Rows.cutObjectsSpec) :=
  OpenClaim.holds_of_wide 3 Try.f3 rfl rfl rfl rfl rfl rfl rfl ⟨rfl, rfl, rfl, rfl, rfl⟩ rfl rfl rfl rfl rfl (by kernel_rfl) Try.func3 (by kernel_rfl)
    (of_decide_eq_true (by kernel_rfl)) (by unfold Func.isWrapper; first | (rw [if_pos (by decide +kernel)]; kernel_rfl) | (rw [if_neg (by decide +kernel)]; exact ⟨rfl, rfl⟩))
    (fun os started H enc _ => lifted os started H enc)

theorem proved : Rows.CutObjectsSaid :=
  over
end Go.Proofs.Ytgedlfilhpbfaaa.cutObjects
