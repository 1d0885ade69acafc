/- Which texts begin with a text is told: just those that are not below it, and below what is past it; and the chapter's examples hold: for every two texts. Conditions: none. -/
import Derived.Test.YtbfmadafiaofiaaKyF
import Derived.Test.YtbfmadafiaofiaaLaw
import Derived.BigQuiet
import Derived.Deep.QuietTactic
import Derived.Lib.QuietBelow
import Derived.Deep.DeepCutAuto
import Derived.Deep.CutBlock
namespace Go.Proofs.Ytbfmadafiaofiaa.keyFronts
open Go.ChangeShapes Go.WideShapes Go.ChangeAt Go.RowKit Go.PlainAid
open Go.ChangeMaps (open_string)
open Go.Sort (grow)

theorem own : ownKnob Try.prog.godebug = none := by kernel_rfl
theorem laidOut : laidOutB Try.prog = true := by kernel_rfl

set_option maxRecDepth 100000 in
set_option maxHeartbeats 800000 in
theorem walk (w : World) (a0 : ByteArray) (s0 : a0.size ≤ 140737488351232) (a1 : ByteArray) (s1 : a1.size ≤ 140737488351232) :
    Calls Try.prog 7 #[.string a0, .string a1] w fun e w' => e = .returned (.bool true) ∧ Below w.heap.size w w' := by
  have u0 := s0
  clear u0
  have u1 := s1
  clear u1
  have hu := under_between a0 a1
  have HC := Lib.hid (under_cat a1 a0)
  obtain ⟨p, hp⟩ : ∃ p, pastS a1 = p := ⟨_, rfl⟩
  rw [hp] at hu
  have HP := Lib.hid hp
  obtain ⟨x, hx⟩ : ∃ x, underB a0 a1 = x := ⟨_, rfl⟩
  rw [hx] at hu
  have HX := Lib.hid hx
  have hsum : a1.size + a0.size ≤ 281474976702464 := by omega
  clear hp hx
  obtain ⟨b1, hb1⟩ : ∃ b, Op.bytesLess a0.toList a1.toList = b := ⟨_, rfl⟩
  obtain ⟨b2, hb2⟩ : ∃ b, p.toList.isEmpty = b := ⟨_, rfl⟩
  obtain ⟨b3, hb3⟩ : ∃ b, Op.bytesLess a0.toList p.toList = b := ⟨_, rfl⟩
  rw [hb1, hb2, hb3] at hu
  cases b1 <;> cases b2 <;> cases b3 <;> (simp at hu; subst hu)
  all_goals
    go_enter Try.func7, Try.ntmps7
    go_wp2_with fail
    refine (past_any a1 _ s1).mono ?_
    rintro _ w1 ⟨rfl, hw1⟩
    rw [HP.out]
    go_wp2_with fail
    refine (rpast_any a1 _ s1).mono ?_
    rintro _ w2 ⟨rfl, hw2⟩
    rw [HP.out]
    go_wp2_with fail
    refine (under_any a0 a1 _).mono ?_
    rintro _ _ ⟨rfl, rfl⟩
    rw [HX.out]
    go_wp2_with fail
    refine (under_any _ a1 _).mono ?_
    rintro _ _ ⟨rfl, rfl⟩
    rw [HC.out]
    go_wp2_with fail
    refine (awake_any _).mono ?_
    rintro _ w5 ⟨rfl, hb5⟩
    go_wp2
    go_returns
    exact ⟨rfl, hw1.on (hw2.on hb5)⟩

set_option maxRecDepth 100000 in
theorem lifted (os : Os) (started : os.Started) (H : Type) (enc : TypeId × Value → H) :
    ReturnsInHanded {} Try.checked os 7 .any (Rows.keyFrontsSpec.pre6 enc Try.prog Try.f7 Rows.keyFrontsRow.domain false) (Rows.keyFrontsSpec.post enc Try.prog Try.f7 false true false false) := by
  refine law_lift (C := Try.checked) own started (by kernel_rfl) Try.func7 laidOut (by kernel_rfl) rfl Try.underlying4 rfl
    (fun ds h => match ds, h with | [_, _], _ => rfl)
    (ChangeSpec.witness6 (enc := enc) (C := Try.checked) false ⟨#[], #[.string ByteArray.empty, .string ByteArray.empty], []⟩ 8 (by kernel_rfl) (by kernel_rfl) (by kernel_rfl) (by kernel_rfl)) ?_
  intro W base args ds ps hval hA hsz
  rw [Try.params7] at hA hval hsz
  obtain ⟨v0, vs0, d0, ds0, p0, q0, hargs, rfl, rfl, h0, r0⟩ := trodAll_cons hA
  obtain ⟨v1, vs1, d1, ds1, p1, q1, rfl, rfl, rfl, h1, r1⟩ := trodAll_cons r0
  obtain ⟨rfl, rfl, rfl⟩ := trodAll_nil r1
  obtain rfl : args = #[v0, v1] := by cases args; simp_all
  obtain ⟨a0, rfl, rfl, rfl, _⟩ := open_string Try.underlying9 (hval 0 9 v0 rfl rfl) h0
  have s0 : a0.size ≤ 140737488351232 := by
    have := sized_string hsz (j := 0) rfl rfl
    simpa [reachBytes] using this
  obtain ⟨a1, rfl, rfl, rfl, _⟩ := open_string Try.underlying9 (hval 1 9 v1 rfl rfl) h1
  have s1 : a1.size ≤ 140737488351232 := by
    have := sized_string hsz (j := 1) rfl rfl
    simpa [reachBytes] using this
  exact walk W a0 s0 a1 s1

theorem over : Rows.keyFrontsRow.holds Try.pinned (OpenSpec.ofChange Rows.keyFrontsSpec) :=
  OpenClaim.holds_of_wide 7 Try.f7 rfl rfl rfl rfl rfl rfl rfl ⟨rfl, rfl, rfl, rfl, rfl⟩ rfl rfl rfl rfl rfl (by kernel_rfl) Try.func7 (by kernel_rfl)
    (of_decide_eq_true (by kernel_rfl)) (by unfold Func.isWrapper; first | (rw [if_pos (by decide +kernel)]; kernel_rfl) | (rw [if_neg (by decide +kernel)]; exact ⟨rfl, rfl⟩))
    (fun os started H enc _ => lifted os started H enc)

theorem proved : Rows.KeyFrontsSaid :=
  over
end Go.Proofs.Ytbfmadafiaofiaa.keyFronts
