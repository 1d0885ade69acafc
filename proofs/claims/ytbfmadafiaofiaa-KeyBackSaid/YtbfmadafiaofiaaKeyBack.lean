/- The numbers of a key are those that it was made of, and the key of a text's numbers is that text, and the chapter's examples hold: for every list of numbers and every text. Conditions: none. -/
import Derived.Test.YtbfmadafiaofiaaKyF
import Derived.Test.YtbfmadafiaofiaaLaw
import Derived.BigQuiet
import Derived.Deep.QuietTactic
import Derived.Lib.QuietBelow
import Derived.Deep.DeepCutAuto
import Derived.Deep.CutBlock
namespace Go.Proofs.Ytbfmadafiaofiaa.keyBack
open Go.ChangeShapes Go.WideShapes Go.ChangeAt Go.RowKit Go.PlainAid
open Go.ChangeMaps (open_string)
open Go.Sort (grow)

theorem own : ownKnob Try.prog.godebug = none := by kernel_rfl
theorem laidOut : laidOutB Try.prog = true := by kernel_rfl
theorem ofV_few {l : List Int} (h : l.length ≤ 4) : ofV l = .tuple #[.string (keyS l), .int .i64 0] := if_neg (by omega)
theorem ofV_many {l : List Int} (h : ¬ l.length ≤ 4) : ofV l = .tuple #[.string ⟨#[]⟩, .int .i64 22] := if_pos (by omega)
set_option maxRecDepth 100000 in
set_option maxHeartbeats 800000 in
theorem walk (w : World) (v0 : Value) (l0 : List Int) (h0 : IntsOf w v0 l0) (a1 : ByteArray) (s1 : a1.size ≤ 140737488351232) :
    Calls Try.prog 5 #[v0, .string a1] w fun e w' => e = .returned (.bool true) ∧ Below w.heap.size w w' := by
  have u1 := s1
  clear u1
  have H0 := Lib.hid h0
  have HI := Lib.hid h0.inI
  clear h0
  have hk : splitOk a1 = true → Hid (keyS (splitL a1) = a1) := fun h => key_split a1 h
  have HO := Lib.hid (ofV_few (splitL_len a1))
  cases hs : splitOk a1
  · have e1 : Hid ((if splitOk a1 = true then (0 : Int) else 22) = 22) := by unfold Hid; rw [hs]; rfl
    have e2 : Hid (splitL a1 = []) := splitL_no hs
    clear hk hs
    by_cases hl : l0.length ≤ 4
    · have HV := Lib.hid (ofV_few hl)
      obtain ⟨k1, k2⟩ := split_key l0 hl HI.out
      have e3 : Hid ((if splitOk (keyS l0) = true then (0 : Int) else 22) = 0) := by unfold Hid; rw [k1]; rfl
      have e4 := Lib.hid k2
      have hz : (keyS l0).size ≤ 140737488351232 := by rw [keyS_size]; omega
      clear k1 k2
      go_enter Try.func5, Try.ntmps5
      go_wp2_with fail
      refine (keyOf_any v0 l0 _ H0.out).mono ?_
      rintro _ w1 ⟨rfl, hb1⟩
      rw [HV.out]
      go_wp2_with fail
      refine (split9_any (keyS l0) _ hz).mono ?_
      rintro _ w2 ⟨v, rfl, hv, hb2⟩
      rw [e3.out]
      rw [e4.out] at hv
      go_wp2_with fail
      refine (rints9_any v v0 l0 l0 _ hv (H0.out.on (hb1.on hb2))).mono ?_
      rintro _ w3 ⟨rfl, hb3⟩
      rw [beq_self_eq_true]
      clear hv
      go_wp2_with fail
      refine (split9_any a1 _ s1).mono ?_
      rintro _ w4 ⟨u, rfl, hu, hb4⟩
      rw [e1.out]
      rw [e2.out] at hu
      obtain ⟨ao, cap, rfl, _, _⟩ := hu.parts
      clear hu
      go_wp2_with fail
      refine (awake_any _).mono ?_
      rintro _ w5 ⟨rfl, hb5⟩
      go_wp2
      go_returns
      exact ⟨rfl, hb1.on (hb2.on (hb3.on (hb4.on hb5)))⟩
    · have HV := Lib.hid (ofV_many hl)
      clear hl
      go_enter Try.func5, Try.ntmps5
      go_wp2_with fail
      refine (keyOf_any v0 l0 _ H0.out).mono ?_
      rintro _ w1 ⟨rfl, hb1⟩
      rw [HV.out]
      go_wp2_with fail
      refine (split9_any a1 _ s1).mono ?_
      rintro _ w4 ⟨u, rfl, hu, hb4⟩
      rw [e1.out]
      rw [e2.out] at hu
      obtain ⟨ao, cap, rfl, _, _⟩ := hu.parts
      clear hu
      go_wp2_with fail
      refine (awake_any _).mono ?_
      rintro _ w5 ⟨rfl, hb5⟩
      go_wp2
      go_returns
      exact ⟨rfl, hb1.on (hb4.on hb5)⟩
  · have e1 : Hid ((if splitOk a1 = true then (0 : Int) else 22) = 0) := by unfold Hid; rw [hs]; rfl
    have HK := hk hs
    clear hk hs
    by_cases hl : l0.length ≤ 4
    · have HV := Lib.hid (ofV_few hl)
      obtain ⟨k1, k2⟩ := split_key l0 hl HI.out
      have e3 : Hid ((if splitOk (keyS l0) = true then (0 : Int) else 22) = 0) := by unfold Hid; rw [k1]; rfl
      have e4 := Lib.hid k2
      have hz : (keyS l0).size ≤ 140737488351232 := by rw [keyS_size]; omega
      clear k1 k2
      go_enter Try.func5, Try.ntmps5
      go_wp2_with fail
      refine (keyOf_any v0 l0 _ H0.out).mono ?_
      rintro _ w1 ⟨rfl, hb1⟩
      rw [HV.out]
      go_wp2_with fail
      refine (split9_any (keyS l0) _ hz).mono ?_
      rintro _ w2 ⟨v, rfl, hv, hb2⟩
      rw [e3.out]
      rw [e4.out] at hv
      go_wp2_with fail
      refine (rints9_any v v0 l0 l0 _ hv (H0.out.on (hb1.on hb2))).mono ?_
      rintro _ w3 ⟨rfl, hb3⟩
      rw [beq_self_eq_true]
      clear hv
      go_wp2_with fail
      refine (split9_any a1 _ s1).mono ?_
      rintro _ w4 ⟨u, rfl, hu, hb4⟩
      rw [e1.out]
      go_wp2_with fail
      refine (keyOf_any u _ _ hu).mono ?_
      rintro _ w5 ⟨rfl, hb5⟩
      rw [HO.out, HK.out]
      clear hu
      go_wp2_with fail
      refine (awake_any _).mono ?_
      rintro _ w6 ⟨rfl, hb6⟩
      go_wp2
      go_returns
      exact ⟨rfl, hb1.on (hb2.on (hb3.on (hb4.on (hb5.on hb6))))⟩
    · have HV := Lib.hid (ofV_many hl)
      clear hl
      go_enter Try.func5, Try.ntmps5
      go_wp2_with fail
      refine (keyOf_any v0 l0 _ H0.out).mono ?_
      rintro _ w1 ⟨rfl, hb1⟩
      rw [HV.out]
      go_wp2_with fail
      refine (split9_any a1 _ s1).mono ?_
      rintro _ w4 ⟨u, rfl, hu, hb4⟩
      rw [e1.out]
      go_wp2_with fail
      refine (keyOf_any u _ _ hu).mono ?_
      rintro _ w5 ⟨rfl, hb5⟩
      rw [HO.out, HK.out]
      clear hu
      go_wp2_with fail
      refine (awake_any _).mono ?_
      rintro _ w6 ⟨rfl, hb6⟩
      go_wp2
      go_returns
      exact ⟨rfl, hb1.on (hb4.on (hb5.on hb6))⟩

set_option maxRecDepth 100000 in
theorem lifted (os : Os) (started : os.Started) (H : Type) (enc : TypeId × Value → H) :
    ReturnsInHanded {} Try.checked os 5 .any (Rows.keyBackSpec.pre6 enc Try.prog Try.f5 Rows.keyBackRow.domain false) (Rows.keyBackSpec.post enc Try.prog Try.f5 false true false false) := by
  refine law_lift (C := Try.checked) own started (by kernel_rfl) Try.func5 laidOut (by kernel_rfl) rfl Try.underlying4 rfl
    (fun ds h => match ds, h with | [_, _], _ => rfl)
    (ChangeSpec.witness6 (enc := enc) (C := Try.checked) false ⟨#[], #[.slice none 0 0, .string ByteArray.empty], []⟩ 8 (by kernel_rfl) (by kernel_rfl) (by kernel_rfl) (by kernel_rfl)) ?_
  intro W base args ds ps hval hA hsz
  rw [Try.params5] at hA hval hsz
  obtain ⟨v0, vs0, d0, ds0, p0, q0, hargs, rfl, rfl, h0, r0⟩ := trodAll_cons hA
  obtain ⟨v1, vs1, d1, ds1, p1, q1, rfl, rfl, rfl, h1, r1⟩ := trodAll_cons r0
  obtain ⟨rfl, rfl, rfl⟩ := trodAll_nil r1
  obtain rfl : args = #[v0, v1] := by cases args; simp_all
  obtain ⟨l0, hl0⟩ := ints_open (hval 0 22 v0 rfl rfl) h0
  obtain ⟨a1, rfl, rfl, rfl, _⟩ := open_string Try.underlying9 (hval 1 9 v1 rfl rfl) h1
  have s1 : a1.size ≤ 140737488351232 := by
    have := sized_string hsz (j := 1) rfl rfl
    simpa [reachBytes] using this
  exact walk W v0 l0 hl0 a1 s1

theorem over : Rows.keyBackRow.holds Try.pinned (OpenSpec.ofChange Rows.keyBackSpec) :=
  OpenClaim.holds_of_wide 5 Try.f5 rfl rfl rfl rfl rfl rfl rfl ⟨rfl, rfl, rfl, rfl, rfl⟩ rfl rfl rfl rfl rfl (by kernel_rfl) Try.func5 (by kernel_rfl)
    (of_decide_eq_true (by kernel_rfl)) (by unfold Func.isWrapper; first | (rw [if_pos (by decide +kernel)]; kernel_rfl) | (rw [if_neg (by decide +kernel)]; exact ⟨rfl, rfl⟩))
    (fun os started H enc _ => lifted os started H enc)

theorem proved : Rows.KeyBackSaid :=
  over
end Go.Proofs.Ytbfmadafiaofiaa.keyBack
