/- The state behind operations, one after the other, is the document's, or that they can't be done so, and the chapter's examples hold: for every rising list of numbers and every list of at most 300 operations of one kind. Conditions: none. -/
import Derived.Test.YtkdaghflonppfaaMoP
import Derived.Test.YtkdaghflonppfaaMoQ
import Derived.Test.YtkdaghflonppfaaMoV
import Derived.Test.YtkdaghflonppfaaLaw
import Derived.BigQuiet
import Derived.Deep.QuietTactic
import Derived.Lib.QuietBelow
import Derived.Deep.DeepCutAuto
import Derived.Deep.CutBlock
namespace Go.Proofs.Ytkdaghflonppfaa.modelRuns
open Go.ChangeShapes Go.WideShapes Go.ChangeAt Go.RowKit Go.PlainAid
open Go.ChangeMaps (open_string)
open Go.Sort (grow)

theorem own : ownKnob Try.prog.godebug = none := by kernel_rfl
theorem laidOut : laidOutB Try.prog = true := by kernel_rfl

set_option maxRecDepth 100000 in
set_option maxHeartbeats 8000000 in
theorem walk (w : World) (v0 : Value) (l0 : List Int) (h0 : IntsC w v0 l0) (n0 : l0.length ≤ 17592186043904) (v1 : Value) (l1 : List OpV) (h1 : OpsOf w v1 l1) :
    Calls Try.prog 4 #[v0, v1] w fun e w' => e = .returned (.bool true) ∧ Below w.heap.size w w' := by
  obtain ⟨al, cl, rfl⟩ := h1.len
  have H0 := Lib.hid h0
  have H1 := Lib.hid h1
  have HN := Lib.hid n0
  clear h0 h1 n0
  cases hR : risesB l0 with
  | false =>
    have HR := Lib.hid hR
    clear hR
    go_enter Try.func4, Try.ntmps4
    go_wp2_with fail
    refine (rrising_any v0 l0 _ H0.out.ints).mono ?_
    rintro _ w2 ⟨rfl, hb2⟩
    rw [HR.out]
    go_wp2_with fail
    refine (awake_any _).mono ?_
    rintro _ w3 ⟨rfl, hb3⟩
    go_wp2_with fail
    go_returns
    exact ⟨rfl, hb2.on hb3⟩
  | true =>
    have HR := Lib.hid hR
    clear hR
    by_cases hl : l1.length ≤ 300
    · have q0 : decide ((l1.length : Int) > 300) = false := decide_eq_false (by omega)
      have q00 : ((300 : Int) < (l1.length : Int)) = False := eq_false (by omega)
      have HL := Lib.hid hl
      clear hl
      go_enter Try.func4, Try.ntmps4
      go_wp2_with fail
      refine (rrising_any v0 l0 _ H0.out.ints).mono ?_
      rintro _ w2 ⟨rfl, hb2⟩
      rw [HR.out]
      have HB2 := Lib.hid hb2
      clear hb2
      go_wp2_with fail
      go_loopw [5] (fun s5 wr => ∃ k : Nat, s5 = .int .i64 k ∧ k ≤ l1.length ∧ Hid (Below w.heap.size w wr ∧ ∀ (i : Nat) (o z : OpV), i < k → l1[i]? = some o → l1[0]? = some z → o.kind = z.kind)) (fun s5 _ => l1.length - (intOf s5).toNat)
      case atStart => exact ⟨0, rfl, Nat.zero_le _, HB2.out, fun i o z hi => absurd hi (by omega)⟩
      case round =>
        obtain ⟨k, rfl, hk, HX⟩ := hrel
        by_cases hkl : k < l1.length
        · have p1 : decide ((k : Int) < (l1.length : Int)) = true := decide_eq_true (by omega)
          have p2 : (k : Int) < (l1.length : Int) := by omega
          have p3 : IntKind.i64.wrap ((k : Int) + 1) = (k : Int) + 1 := IntWalk.i64_in _ (by have := HL.out; omega)
          have p4 : (0 : Int) < (l1.length : Int) := by omega
          obtain ⟨o, ho⟩ : ∃ o, l1[k]? = some o := ⟨_, List.getElem?_eq_getElem hkl⟩
          obtain ⟨z, hz⟩ : ∃ z, l1[0]? = some z := ⟨_, List.getElem?_eq_getElem (by omega)⟩
          obtain ⟨b, p, cap, hv, hlt, _, hc⟩ := OpsOf.at (H1.out.on HX.out.1) ho
          obtain ⟨b', p', cap', hv', _, _, hc'⟩ := OpsOf.at (H1.out.on HX.out.1) hz
          have e1 : al = some ⟨b, p, none⟩ := by cases hv; rfl
          have e2 : b' = b ∧ p' = p := by cases hv; cases hv'; exact ⟨rfl, rfl⟩
          obtain ⟨rfl, rfl⟩ := e2
          subst e1
          have c0 : wr.cell? ⟨b', p' + k * 11 + 3, none⟩ = some (.int .i64 o.kind) := hc 3 _ rfl
          have c1 : wr.cell? ⟨b', p' + 3, none⟩ = some (.int .i64 z.kind) := by have := hc' 3 _ rfl; rwa [Nat.zero_mul, Nat.add_zero] at this
          have HO := Lib.hid (And.intro hkl (And.intro ho hz))
          clear hk hkl ho hz hv hv' hc hc' hlt
          by_cases hxy : o.kind = z.kind
          · have qq : (o.kind != z.kind) = false := by rw [hxy]; simp
            have HY := Lib.hid hxy
            clear hxy
            go_wp2
            go_quiet (fail)
            go_wp2
            go_roundw
            case measure => have := HO.out.1; simp [intOf]; omega
            case rel => exact ⟨k + 1, by simp, HO.out.1, Lib.hid ⟨HX.out.1.on (below_drewN _ _), fun i u y hi hu hy => by
              by_cases c : i = k
              · subst c
                rw [HO.out.2.1] at hu
                rw [HO.out.2.2] at hy
                rw [← Option.some.inj hu, ← Option.some.inj hy]
                exact HY.out
              · exact HX.out.2 i u y (by omega) hu hy⟩⟩
          · have qq : (o.kind != z.kind) = true := bne_iff_ne.2 hxy
            clear hxy
            go_wp2
            go_quiet (fail)
            go_wp2_with fail
            refine (awake_any _).mono ?_
            rintro _ w4 ⟨rfl, hb4⟩
            go_wp2_with fail
            go_returns
            exact ⟨rfl, (HX.out.1.on (below_drewN wr nq)).on hb4⟩
        · have p1 : decide ((k : Int) < (l1.length : Int)) = false := decide_eq_false (by omega)
          have p2 : ((k : Int) < (l1.length : Int)) = False := eq_false (by omega)
          have HK : Hid (∃ K, ∀ o ∈ l1, o.kind = K) := by
            by_cases h0 : 0 < l1.length
            · refine ⟨(l1[0]).kind, fun o ho => ?_⟩
              obtain ⟨i, hi, rfl⟩ := List.mem_iff_getElem.1 ho
              exact HX.out.2 i _ _ (by omega) (List.getElem?_eq_getElem hi) (List.getElem?_eq_getElem h0)
            · refine ⟨0, fun o ho => ?_⟩
              rw [List.length_eq_zero_iff.1 (show l1.length = 0 by omega)] at ho
              simp at ho
          clear hk hkl
          go_wp2_with fail
          refine (runs_any (v := v0) (L := l0) (l := l1) (H0.out.ints.on HX.out.1) (H1.out.on HX.out.1) (by have := HN.out; have := HL.out; omega)).mono ?_
          rintro _ w3 ⟨v3, rfl, ho3, hb3⟩
          have HO3 := Lib.hid ho3
          have HB3 := Lib.hid (HX.out.1.on hb3)
          clear ho3 hb3
          go_wp2_with fail
          obtain ⟨K, hK⟩ := HK.out
          refine (rruns_any (v := v0) (L := l0) (l := l1) (H0.out.on HB3.out) (H1.out.on HB3.out) (by have := HN.out; have := HL.out; omega) hK HR.out).mono ?_
          rintro _ w4 ⟨v4, rfl, hi4, hb4⟩
          have HI4 := Lib.hid hi4
          have HO4 := Lib.hid (HO3.out.on hb4)
          have HB4 := Lib.hid (HB3.out.on hb4)
          clear hi4 hb4 hK
          obtain ⟨r1, hr1⟩ : ∃ r, (runsC l1 l0).2 = r := ⟨_, rfl⟩
          rw [hr1]
          clear hr1
          go_wp2_with fail
          refine (rints_any v3 v4 _ _ _ HO4.out.reads HI4.out.ints).mono ?_
          rintro _ w5 ⟨rfl, hb5⟩
          rw [beq_self_eq_true]
          have HB5 := Lib.hid (HB4.out.on hb5)
          clear hb5
          cases r1
          · go_wp2_with fail
            refine (awake_any _).mono ?_
            rintro _ w6 ⟨rfl, hb6⟩
            go_wp2_with fail
            go_returns
            exact ⟨rfl, HB5.out.on hb6⟩
          · go_wp2_with fail
            refine (awake_any _).mono ?_
            rintro _ w6 ⟨rfl, hb6⟩
            go_wp2_with fail
            go_returns
            exact ⟨rfl, HB5.out.on hb6⟩
    · have q0 : decide ((l1.length : Int) > 300) = true := decide_eq_true (by omega)
      have q00 : ((300 : Int) < (l1.length : Int)) = True := eq_true (by omega)
      clear hl
      go_enter Try.func4, Try.ntmps4
      go_wp2_with fail
      refine (rrising_any v0 l0 _ H0.out.ints).mono ?_
      rintro _ w2 ⟨rfl, hb2⟩
      rw [HR.out]
      go_wp2_with fail
      refine (awake_any _).mono ?_
      rintro _ w3 ⟨rfl, hb3⟩
      go_wp2_with fail
      go_returns
      exact ⟨rfl, hb2.on hb3⟩

set_option maxRecDepth 100000 in
theorem lifted (os : Os) (started : os.Started) (H : Type) (enc : TypeId × Value → H) :
    ReturnsInHanded {} Try.checked os 4 .any (Rows.modelRunsSpec.pre6 enc Try.prog Try.f4 Rows.modelRunsRow.domain false) (Rows.modelRunsSpec.post enc Try.prog Try.f4 false true false false) := by
  refine law_lift (C := Try.checked) own started (by kernel_rfl) Try.func4 laidOut (by kernel_rfl) rfl Try.underlying4 rfl
    (fun ds h => match ds, h with | [_, _], _ => rfl)
    (ChangeSpec.witness6 (enc := enc) (C := Try.checked) false ⟨#[], #[.slice none 0 0, .slice none 0 0], []⟩ 8 (by kernel_rfl) (by kernel_rfl) (by kernel_rfl) (by kernel_rfl)) ?_
  intro W base args ds ps hval hA hsz
  rw [Try.params4] at hA hval hsz
  obtain ⟨v0, vs0, d0, ds0, p0, q0, hargs, rfl, rfl, h0, r0⟩ := trodAll_cons hA
  obtain ⟨v1, vs1, d1, ds1, p1, q1, rfl, rfl, rfl, h1, r1⟩ := trodAll_cons r0
  obtain ⟨rfl, rfl, rfl⟩ := trodAll_nil r1
  obtain rfl : args = #[v0, v1] := by cases args; simp_all
  obtain ⟨l0, hl0, hc0, hz0⟩ := ints_openC (hval 0 22 v0 rfl rfl) h0
  have n0 : l0.length ≤ 17592186043904 := by
    rcases hz0 with rfl | ⟨el, rest, rfl, hel⟩
    · exact Nat.zero_le _
    · have this : (el.length + rest.length) * Try.prog.bytesOf 3 ≤ reachBytes := sized_slice hsz (j := 0) rfl rfl Try.underlying22
      have h8 : Try.prog.bytesOf 3 = 8 := by kernel_rfl
      rw [h8] at this
      simp only [reachBytes] at this
      omega
  obtain ⟨l1, hl1, _⟩ := ops_open (hval 1 35 v1 rfl rfl) h1
  exact walk W v0 l0 ⟨hl0, hc0⟩ n0 v1 l1 hl1

theorem over : Rows.modelRunsRow.holds Try.pinned (OpenSpec.ofChange Rows.modelRunsSpec) :=
  OpenClaim.holds_of_wide 4 Try.f4 rfl rfl rfl rfl rfl rfl rfl ⟨rfl, rfl, rfl, rfl, rfl⟩ rfl rfl rfl rfl rfl (by kernel_rfl) Try.func4 (by kernel_rfl)
    (of_decide_eq_true (by kernel_rfl)) (by unfold Func.isWrapper; first | (rw [if_pos (by decide +kernel)]; kernel_rfl) | (rw [if_neg (by decide +kernel)]; exact ⟨rfl, rfl⟩))
    (fun os started H enc _ => lifted os started H enc)

theorem proved : Rows.ModelRunsSaid :=
  over
end Go.Proofs.Ytkdaghflonppfaa.modelRuns
