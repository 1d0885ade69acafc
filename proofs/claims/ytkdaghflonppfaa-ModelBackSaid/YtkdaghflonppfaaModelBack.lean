/- A state that is written is read as it was, whatever stands behind it, and the chapter's examples hold: for every list of numbers and every text. Conditions: none. -/
import Derived.Test.YtkdaghflonppfaaMoY
import Derived.Test.YtkdaghflonppfaaMoP
import Derived.Test.YtkdaghflonppfaaMoQ
import Derived.Test.YtkdaghflonppfaaMoV
import Derived.Test.YtkdaghflonppfaaLaw
import Derived.BigQuiet
import Derived.Deep.QuietTactic
import Derived.Lib.QuietBelow
import Derived.Deep.DeepCutAuto
import Derived.Deep.CutBlock
namespace Go.Proofs.Ytkdaghflonppfaa.modelBack
open Go.ChangeShapes Go.WideShapes Go.ChangeAt Go.RowKit Go.PlainAid
open Go.ChangeMaps (open_string)
open Go.Sort (grow)

theorem own : ownKnob Try.prog.godebug = none := by kernel_rfl
theorem laidOut : laidOutB Try.prog = true := by kernel_rfl

set_option maxRecDepth 100000 in
set_option maxHeartbeats 4000000 in
theorem walk (w : World) (v0 : Value) (l0 : List Int) (h0 : IntsC w v0 l0) (n0 : l0.length ≤ 17592186043904) (a1 : ByteArray) (s1 : a1.size ≤ 140737488351232) :
    Calls Try.prog 6 #[v0, .string a1] w fun e w' => e = .returned (.bool true) ∧ Below w.heap.size w w' := by
  have u1 := s1
  clear u1
  have H0 := Lib.hid h0
  have HN := Lib.hid (And.intro n0 s1)
  have HI := Lib.hid h0.ints.inI
  have HBS := Lib.hid (body_size l0 HI.out)
  have HVS := Lib.hid (varS_size (l0.length : Int) (by omega) (by omega))
  have hts : Hid ((textS l0).size ≤ 200000000000000) := by
    show (textS l0).size ≤ 200000000000000
    unfold textS
    rw [ByteArray.size_append]
    have h1 := HBS.out
    have h2 := HVS.out
    omega
  have HSB := Lib.hid (state_back l0 a1 HI.out (by omega))
  have HUP := Lib.hid (show (unvarP (textS l0 ++ a1)).1 = (l0.length : Int) by
    have hb := back_var (l0.length : Int) (bodyS l0 ++ a1) (by omega) (by omega)
    rw [show varS (l0.length : Int) ++ (bodyS l0 ++ a1) = textS l0 ++ a1 by unfold textS; rw [ByteArray.append_assoc]] at hb
    rw [hb])
  clear h0 n0
  obtain ⟨t, ht⟩ : ∃ t, textS l0 = t := ⟨_, rfl⟩
  have HT := Lib.hid ht
  rw [ht] at hts HSB HUP
  have hts2 : t.size ≤ 200000000000000 := hts.out
  go_enter Try.func6, Try.ntmps6
  go_wp2_with fail
  refine (text_any v0 l0 _ H0.out.ints (fun B b a s w1 hb hs hB => bwrite_big B b _ s w1 hb (by rw [cells_size]; have := HN.out; omega) hB)).mono ?_
  rintro _ w1 ⟨rfl, hb1⟩
  rw [HT.out]
  have HB1 := Lib.hid hb1
  clear hb1 ht
  go_wp2_with fail
  refine (state_any (t ++ a1) _ (by rw [ByteArray.size_append]; have := HN.out; have := hts.out; omega) (.inr (by rw [HUP.out]; have := HN.out; omega))).mono ?_
  rintro _ w2 ⟨v2, rfl, ho2, hb2⟩
  rw [HSB.out] at ho2 ⊢
  have HO2 := Lib.hid ho2
  have HB2 := Lib.hid (HB1.out.on hb2)
  clear ho2 hb2
  go_wp2_with fail
  refine (rints_any v2 v0 l0 l0 _ HO2.out.reads (H0.out.ints.on HB2.out)).mono ?_
  rintro _ w3 ⟨rfl, hb3⟩
  rw [beq_self_eq_true]
  have HB3 := Lib.hid (HB2.out.on hb3)
  clear hb3
  go_wp2_with fail
  refine (awake_any _).mono ?_
  rintro _ w4 ⟨rfl, hb4⟩
  go_wp2_with fail
  go_returns
  exact ⟨rfl, HB3.out.on hb4⟩

set_option maxRecDepth 100000 in
theorem lifted (os : Os) (started : os.Started) (H : Type) (enc : TypeId × Value → H) :
    ReturnsInHanded {} Try.checked os 6 .any (Rows.modelBackSpec.pre6 enc Try.prog Try.f6 Rows.modelBackRow.domain false) (Rows.modelBackSpec.post enc Try.prog Try.f6 false true false false) := by
  refine law_lift (C := Try.checked) own started (by kernel_rfl) Try.func6 laidOut (by kernel_rfl) rfl Try.underlying4 rfl
    (fun ds h => match ds, h with | [_, _], _ => rfl)
    (ChangeSpec.witness6 (enc := enc) (C := Try.checked) false ⟨#[], #[.slice none 0 0, .string ByteArray.empty], []⟩ 8 (by kernel_rfl) (by kernel_rfl) (by kernel_rfl) (by kernel_rfl)) ?_
  intro W base args ds ps hval hA hsz
  rw [Try.params6] at hA hval hsz
  obtain ⟨v0, vs0, d0, ds0, p0, q0, hargs, rfl, rfl, h0, r0⟩ := trodAll_cons hA
  obtain ⟨v1, vs1, d1, ds1, p1, q1, rfl, rfl, rfl, h1, r1⟩ := trodAll_cons r0
  obtain ⟨rfl, rfl, rfl⟩ := trodAll_nil r1
  obtain rfl : args = #[v0, v1] := by cases args; simp_all
  obtain ⟨l0, hl0, hc0, hz0⟩ := ints_openC (hval 0 22 v0 rfl rfl) h0
  have n0 : l0.length ≤ 17592186043904 := by
    rcases hz0 with rfl | ⟨el, rest, rfl, hel⟩
    · exact Nat.zero_le _
    · have this : (el.length + rest.length) * Try.prog.bytesOf 3 ≤ reachBytes := sized_slice hsz (j := 0) rfl rfl Try.underlying22
      have h8 : Try.prog.bytesOf 3 = 8 := by kernel_rfl
      rw [h8] at this
      simp only [reachBytes] at this
      omega
  obtain ⟨a1, rfl, rfl, rfl, _⟩ := open_string Try.underlying9 (hval 1 9 v1 rfl rfl) h1
  have s1 : a1.size ≤ 140737488351232 := by
    have := sized_string hsz (j := 1) rfl rfl
    simpa [reachBytes] using this
  exact walk W v0 l0 ⟨hl0, hc0⟩ n0 a1 s1

theorem over : Rows.modelBackRow.holds Try.pinned (OpenSpec.ofChange Rows.modelBackSpec) :=
  OpenClaim.holds_of_wide 6 Try.f6 rfl rfl rfl rfl rfl rfl rfl ⟨rfl, rfl, rfl, rfl, rfl⟩ rfl rfl rfl rfl rfl (by kernel_rfl) Try.func6 (by kernel_rfl)
    (of_decide_eq_true (by kernel_rfl)) (by unfold Func.isWrapper; first | (rw [if_pos (by decide +kernel)]; kernel_rfl) | (rw [if_neg (by decide +kernel)]; exact ⟨rfl, rfl⟩))
    (fun os started H enc _ => lifted os started H enc)

theorem proved : Rows.ModelBackSaid :=
  over
end Go.Proofs.Ytkdaghflonppfaa.modelBack
