/- Every state is written as the document says, and from every text the state that the document says is read, and the chapter's examples hold. Conditions: what comes in is of bulk at most 1048576 (given with the statement). -/
import Derived.Test.YtkdaghflonppfaaMoX
import Derived.Test.YtkdaghflonppfaaMoP
import Derived.Test.YtkdaghflonppfaaMoQ
import Derived.Test.YtkdaghflonppfaaMoV
import Derived.Test.YtkdaghflonppfaaLaw
import Derived.Test.YtkdaghflonppfaaLawU
import Derived.BigQuiet
import Derived.Deep.QuietTactic
import Derived.Lib.QuietBelow
import Derived.Deep.DeepCutAuto
import Derived.Deep.CutBlock
namespace Go.Proofs.Ytkdaghflonppfaa.modelTexts
open Go.ChangeShapes Go.WideShapes Go.ChangeAt Go.RowKit Go.PlainAid
open Go.ChangeMaps (open_string)
open Go.Sort (grow)

theorem own : ownKnob Try.prog.godebug = none := by kernel_rfl
theorem laidOut : laidOutB Try.prog = true := by kernel_rfl

set_option maxRecDepth 100000 in
set_option maxHeartbeats 4000000 in
theorem walk (w : World) (v0 : Value) (l0 : List Int) (h0 : IntsC w v0 l0) (n0 : l0.length ≤ 1048576) (a1 : ByteArray) (s1 : a1.size ≤ 1048576) :
    Calls Try.prog 5 #[v0, .string a1] w fun e w' => e = .returned (.bool true) ∧ Below w.heap.size w w' := by
  have H0 := Lib.hid h0
  have HN := Lib.hid (And.intro n0 s1)
  clear h0 n0
  rcases hA : stateP a1 with ⟨A, n⟩
  have HA := Lib.hid hA
  clear hA
  go_enter Try.func5, Try.ntmps5
  go_wp2_with fail
  refine (state_any a1 _ (by have := HN.out; omega) (.inl (by have := HN.out; omega))).mono ?_
  rintro _ w1 ⟨v1, rfl, ho1, hb1⟩
  rw [HA.out] at ho1 ⊢
  have HO1 := Lib.hid ho1
  have HB1 := Lib.hid hb1
  clear ho1 hb1
  go_wp2_with fail
  refine (rstate_any a1 _ (by have := HN.out; omega) (.inl (by have := HN.out; omega))).mono ?_
  rintro _ w2 ⟨v2, rfl, ho2, hb2⟩
  rw [HA.out] at ho2 ⊢
  have HO2 := Lib.hid ho2
  have HO12 := Lib.hid (HO1.out.on hb2)
  have HB2 := Lib.hid (HB1.out.on hb2)
  clear ho2 hb2
  go_wp2_with fail
  refine (text_any v0 l0 _ (H0.out.ints.on HB2.out) (fun B b a s w1 hb hs hB => bwrite_any B b _ s w1 hb (by rw [cells_size]; have := HN.out; omega) hB)).mono ?_
  rintro _ w3 ⟨rfl, hb3⟩
  have HB3 := Lib.hid (HB2.out.on hb3)
  have HO23 := Lib.hid (HO2.out.on hb3)
  have HO13 := Lib.hid (HO12.out.on hb3)
  clear hb3
  go_wp2_with fail
  refine (rtext_any v0 l0 _ (H0.out.ints.on HB3.out) (by have := HN.out; omega)).mono ?_
  rintro _ w4 ⟨rfl, hb4⟩
  have HB4 := Lib.hid (HB3.out.on hb4)
  have HO24 := Lib.hid (HO23.out.on hb4)
  have HO14 := Lib.hid (HO13.out.on hb4)
  clear hb4
  go_wp2_with fail
  refine (rints_any v1 v2 A A _ HO14.out.reads HO24.out.reads).mono ?_
  rintro _ w5 ⟨rfl, hb5⟩
  rw [beq_self_eq_true]
  have HB5 := Lib.hid (HB4.out.on hb5)
  clear hb5
  go_wp2_with fail
  refine (awake_any _).mono ?_
  rintro _ w6 ⟨rfl, hb6⟩
  go_wp2_with fail
  go_returns
  exact ⟨rfl, HB5.out.on hb6⟩

set_option maxRecDepth 100000 in
theorem lifted (os : Os) (started : os.Started) (H : Type) (enc : TypeId × Value → H) (F : Stop.Interp) :
    ReturnsInHanded {} Try.checked os 5 .any ((Rows.OpenSpec.upto Rows.modelTextsSpec).pre6 enc Try.prog Try.f5 Rows.modelTextsUptoRow.domain false) (((Rows.OpenSpec.upto Rows.modelTextsSpec).at F).post enc Try.prog Try.f5 false true false false) := by
  refine law_lift_cond (C := Try.checked) own started (by kernel_rfl) Try.func5 laidOut (by kernel_rfl) rfl Try.underlying4 rfl
    (fun ds h => match ds, h with | [_, _], _ => rfl)
    (OpenSpec.witness (enc := enc) (C := Try.checked) (s := Rows.OpenSpec.upto Rows.modelTextsSpec) (k := Rows.uptoSmall) rfl false ⟨#[], #[.slice none 0 0, .string ByteArray.empty], []⟩ 8 (by kernel_rfl) (by kernel_rfl) (by kernel_rfl)
      (x := ([.nil, .lit (.string [])], [], [])) (by kernel_rfl) rfl (by kernel_rfl)) ?_
  intro W base args ds ps hval hA hsz hup
  rw [Try.params5] at hA hval hsz
  obtain ⟨v0, vs0, d0, ds0, p0, q0, hargs, rfl, rfl, h0, r0⟩ := trodAll_cons hA
  obtain ⟨v1, vs1, d1, ds1, p1, q1, rfl, rfl, rfl, h1, r1⟩ := trodAll_cons r0
  obtain ⟨rfl, rfl, rfl⟩ := trodAll_nil r1
  obtain rfl : args = #[v0, v1] := by cases args; simp_all
  obtain ⟨l0, hl0, hc0, hz0⟩ := ints_openC (hval 0 22 v0 rfl rfl) h0
  have n0 : l0.length ≤ 1048576 := by
    rcases hz0 with rfl | ⟨el, rest, rfl, hel⟩
    · exact Nat.zero_le _
    · have := bulk_slice hup (el := el) (rest := rest) (by simp)
      omega
  obtain ⟨a1, rfl, rfl, rfl, _⟩ := open_string Try.underlying9 (hval 1 9 v1 rfl rfl) h1
  have s1 : a1.size ≤ 1048576 := bulk_string hup (by simp)
  exact walk W v0 l0 ⟨hl0, hc0⟩ n0 a1 s1

theorem proved : Rows.ModelTextsUptoSaid :=
  OpenClaim.holds_of_cond 5 Try.f5 rfl rfl rfl rfl rfl rfl rfl ⟨rfl, rfl, rfl, rfl, rfl⟩ rfl rfl rfl rfl rfl (by kernel_rfl) Try.func5 (by kernel_rfl)
    (of_decide_eq_true (by kernel_rfl)) (by unfold Func.isWrapper; first | (rw [if_pos (by decide +kernel)]; kernel_rfl) | (rw [if_neg (by decide +kernel)]; exact ⟨rfl, rfl⟩))
    (fun os started H enc _ F => lifted os started H enc F)
end Go.Proofs.Ytkdaghflonppfaa.modelTexts
