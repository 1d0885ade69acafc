/- A queue gives back what came first, and a stack what came last, each of all, and then nothing, and the chapter's examples hold: for every list of numbers. Conditions: none. -/
import Derived.Test.YtkdaghflonppfaaMoQ
import Derived.Test.YtkdaghflonppfaaLaw
import Derived.BigQuiet
import Derived.Deep.QuietTactic
import Derived.Lib.QuietBelow
import Derived.Deep.DeepCutAuto
import Derived.Deep.CutBlock
namespace Go.Proofs.Ytkdaghflonppfaa.modelLines
open Go.ChangeShapes Go.WideShapes Go.ChangeAt Go.RowKit Go.PlainAid
open Go.ChangeMaps (open_string)
open Go.Sort (grow)

theorem own : ownKnob Try.prog.godebug = none := by kernel_rfl
theorem laidOut : laidOutB Try.prog = true := by kernel_rfl
theorem que_push (L : List Int) (x : Int) : doC ⟨0, 0, 0, 3, 6, x, 0, false, 0, 0, 0⟩ L = (L ++ [x], 0, true) := by simp [doC, queC]
theorem stk_push (L : List Int) (x : Int) : doC ⟨0, 0, 0, 4, 8, x, 0, false, 0, 0, 0⟩ L = (L ++ [x], 0, true) := by simp [doC, stkC]
theorem que_pop (L : List Int) (x : Int) : doC ⟨0, 0, 0, 3, 7, 0, 0, false, 0, 0, 0⟩ (x :: L) = (L, x, true) := by simp [doC, queC]
theorem stk_pop (L : List Int) (x : Int) : doC ⟨0, 0, 0, 4, 9, 0, 0, false, 0, 0, 0⟩ (L ++ [x]) = (L, x, true) := by simp [doC, stkC]
theorem que_none : doC ⟨0, 0, 0, 3, 7, 0, 0, false, 0, 0, 0⟩ [] = ([], -1, true) := by simp [doC, queC]
theorem stk_none : doC ⟨0, 0, 0, 4, 9, 0, 0, false, 0, 0, 0⟩ [] = ([], -1, true) := by simp [doC, stkC]
theorem drop_at {L : List Int} {k : Nat} {x : Int} (h : L[k]? = some x) : L.drop k = x :: L.drop (k + 1) := by
  obtain ⟨hk, rfl⟩ := List.getElem?_eq_some_iff.1 h
  exact List.drop_eq_getElem_cons hk
set_option maxRecDepth 100000 in
set_option maxHeartbeats 8000000 in
theorem walk (w : World) (v0 : Value) (l0 : List Int) (h0 : IntsOf w v0 l0) :
    Calls Try.prog 8 #[v0] w fun e w' => e = .returned (.bool true) ∧ Below w.heap.size w w' := by
  obtain ⟨ao, cap, rfl, hm, hx⟩ := h0.parts
  have HX := Lib.hid hx
  have HI := Lib.hid h0.inI
  clear h0 hx
  by_cases hl : l0.length ≤ 200
  · have q0 : decide ((l0.length : Int) > 200) = false := decide_eq_false (by omega)
    have q00 : ((200 : Int) < (l0.length : Int)) = False := eq_false (by omega)
    have HL := Lib.hid hl
    clear hl hm
    go_enter Try.func8, Try.ntmps8
    go_wp2_with fail
    go_loopw [3, 4, 5] (fun s3 s4 s5 wr => ∃ k : Nat, s5 = .int .i64 k ∧ k ≤ l0.length ∧ Hid (IntsOf wr s3 (l0.take k) ∧ IntsOf wr s4 (l0.take k) ∧ Below w.heap.size w wr)) (fun _ _ s5 _ => l0.length - (intOf s5).toNat)
    case atStart => exact ⟨0, rfl, Nat.zero_le _, .inl ⟨rfl, none, 0, rfl⟩, .inl ⟨rfl, none, 0, rfl⟩, Below.refl _ _⟩
    case round =>
      obtain ⟨k, rfl, hk, HR⟩ := hrel
      by_cases hkl : k < l0.length
      · obtain ⟨b, p, rfl, hlt, hr⟩ := HX.out (by omega)
        have q1 : decide ((k : Int) < (l0.length : Int)) = true := decide_eq_true (by omega)
        have q2 : (k : Int) < (l0.length : Int) := by omega
        have q3 : IntKind.i64.wrap ((k : Int) + 1) = (k : Int) + 1 := IntWalk.i64_in _ (by have := HL.out; omega)
        obtain ⟨x, hx⟩ : ∃ x, l0[k]? = some x := ⟨_, List.getElem?_eq_getElem hkl⟩
        have hc : ∀ W, Below w.heap.size w W → W.cell? ⟨b, p + k, none⟩ = some (.int .i64 x) := fun W hb => (hb.cell (p := ⟨b, p + k, none⟩) hlt).trans (hr k x hx)
        have c0 := hc wr HR.out.2.2
        have HC := Lib.hid hc
        have HT := Lib.hid (show l0.take (k + 1) = l0.take k ++ [x] from take_snoc hx)
        have HY := Lib.hid (HI.out x (List.mem_of_getElem? hx))
        have HK := Lib.hid hkl
        clear hk hkl hr hx hc hlt
        go_wp2_with fail
        refine (mdo_any ⟨0, 0, 0, 3, 6, x, 0, false, 0, 0, 0⟩ (wf_lit (by omega) HY.out (by omega)) HR.out.1 (by rw [List.length_take]; have := HL.out; omega)).mono ?_
        rintro _ w2 ⟨v2, rfl, ho2, hb2⟩
        rw [que_push] at ho2 ⊢
        have HO2 := Lib.hid ho2
        have HB2 := Lib.hid (HR.out.2.2.on hb2)
        have HS2 := Lib.hid (HR.out.2.1.on hb2)
        clear ho2 hb2 c0
        have c0 := HC.out w2 HB2.out
        go_wp2_with fail
        refine (mdo_any ⟨0, 0, 0, 4, 8, x, 0, false, 0, 0, 0⟩ (wf_lit (by omega) HY.out (by omega)) HS2.out (by rw [List.length_take]; have := HL.out; omega)).mono ?_
        rintro _ w3 ⟨v3, rfl, ho3, hb3⟩
        rw [stk_push] at ho3 ⊢
        have HO3 := Lib.hid ho3
        have HB3 := Lib.hid (HB2.out.on hb3)
        have HQ3 := Lib.hid (HO2.out.on hb3)
        clear ho3 hb3 c0
        go_wp2_with fail
        go_roundw
        case measure => have := HK.out; simp [intOf]; omega
        case rel => exact ⟨k + 1, by simp, HK.out, by rw [HT.out]; exact ⟨HQ3.out.reads, HO3.out.reads, HB3.out⟩⟩
      · have q1 : decide ((k : Int) < (l0.length : Int)) = false := decide_eq_false (by omega)
        have q2 : ((k : Int) < (l0.length : Int)) = False := eq_false (by omega)
        have HT := Lib.hid (show l0.take k = l0 from List.take_of_length_le (by omega))
        have HR0 : Hid (IntsOf wr u3 l0 ∧ IntsOf wr u4 l0 ∧ Below w.heap.size w wr) := by
          have := HR.out
          rw [HT.out] at this
          exact this
        clear hk hkl HR
        go_wp2_with fail
        go_loopw [3, 4, 12] (fun s3 s4 s12 wr => ∃ k : Nat, s12 = .int .i64 k ∧ k ≤ l0.length ∧ Hid (IntsOf wr s3 (l0.drop k) ∧ IntsOf wr s4 (l0.take (l0.length - k)) ∧ Below w.heap.size w wr)) (fun _ _ s12 _ => l0.length + 1 - (intOf s12).toNat)
        case atStart => exact ⟨0, rfl, Nat.zero_le _, Lib.hid ⟨HR0.out.1, by rw [Nat.sub_zero, List.take_length]; exact HR0.out.2.1, HR0.out.2.2⟩⟩
        case round =>
          obtain ⟨j, rfl, hj, HR⟩ := hrel
          have p1 : decide ((j : Int) ≤ (l0.length : Int)) = true := decide_eq_true (by omega)
          have p2 : ((j : Int) ≤ (l0.length : Int)) = True := eq_true (by omega)
          have p3 : IntKind.i64.wrap ((j : Int) + 1) = (j : Int) + 1 := IntWalk.i64_in _ (by have := HL.out; omega)
          have HJ := Lib.hid hj
          by_cases he : j = l0.length
          · have e1 := Lib.hid (show l0.drop j = [] by rw [he, List.drop_length])
            have e2 := Lib.hid (show l0.take (l0.length - j) = [] by rw [he, Nat.sub_self]; rfl)
            have p4 : ((j : Int) == (l0.length : Int)) = true := by rw [he]; simp
            have p5 : ((j : Int) = (l0.length : Int)) = True := eq_true (by omega)
            have h1 := HR.out.1
            have h2 := HR.out.2.1
            rw [e1.out] at h1
            rw [e2.out] at h2
            have H1 := Lib.hid h1
            have H2 := Lib.hid h2
            clear h1 h2 hj he
            go_wp2_with fail
            refine (mdo_any ⟨0, 0, 0, 3, 7, 0, 0, false, 0, 0, 0⟩ (wf_lit (by omega) (by omega) (by omega)) H1.out (by simp)).mono ?_
            rintro _ w2 ⟨v2, rfl, ho2, hb2⟩
            rw [que_none] at ho2 ⊢
            have H22 := Lib.hid (H2.out.on hb2)
            have HB2 := Lib.hid (HR.out.2.2.on hb2)
            obtain ⟨ao2, cap2, hv2⟩ := ho2.len
            subst hv2
            clear ho2 hb2
            go_wp2_with fail
            refine (mdo_any ⟨0, 0, 0, 4, 9, 0, 0, false, 0, 0, 0⟩ (wf_lit (by omega) (by omega) (by omega)) H22.out (by simp)).mono ?_
            rintro _ w3 ⟨v3, rfl, ho3, hb3⟩
            rw [stk_none] at ho3 ⊢
            have HB3 := Lib.hid (HB2.out.on hb3)
            obtain ⟨ao3, cap3, hv3⟩ := ho3.len
            subst hv3
            clear ho3 hb3
            go_wp2_with fail
            refine (awake_any _).mono ?_
            rintro _ w4 ⟨rfl, hb4⟩
            go_wp2_with fail
            go_returns
            exact ⟨rfl, HB3.out.on hb4⟩
          · have hjl : j < l0.length := by omega
            obtain ⟨b, p, rfl, hlt, hr⟩ := HX.out (by omega)
            have p4 : ((j : Int) == (l0.length : Int)) = false := beq_eq_false_iff_ne.2 (by omega)
            have p5 : ((j : Int) = (l0.length : Int)) = False := eq_false (by omega)
            have p6 : (j : Int) < (l0.length : Int) := by omega
            obtain ⟨i, hi⟩ : ∃ i, l0.length - 1 - j = i := ⟨_, rfl⟩
            have p7 : IntKind.i64.wrap ((l0.length : Int) - 1) = (l0.length : Int) - 1 := IntWalk.i64_in _ (by have := HL.out; omega)
            have p8 : IntKind.i64.wrap ((l0.length : Int) - 1 - (j : Int)) = (i : Int) := by rw [IntWalk.i64_in _ (by have := HL.out; omega)]; omega
            have p9 : (i : Int) < (l0.length : Int) := by omega
            obtain ⟨x, hx⟩ : ∃ x, l0[j]? = some x := ⟨_, List.getElem?_eq_getElem hjl⟩
            obtain ⟨y, hy⟩ : ∃ y, l0[i]? = some y := ⟨_, List.getElem?_eq_getElem (by omega)⟩
            have hcx : ∀ W, Below w.heap.size w W → W.cell? ⟨b, p + j, none⟩ = some (.int .i64 x) := fun W hb => (hb.cell (p := ⟨b, p + j, none⟩) hlt).trans (hr j x hx)
            have hcy : ∀ W, Below w.heap.size w W → W.cell? ⟨b, p + i, none⟩ = some (.int .i64 y) := fun W hb => (hb.cell (p := ⟨b, p + i, none⟩) hlt).trans (hr i y hy)
            have HCX := Lib.hid hcx
            have HCY := Lib.hid hcy
            have e1 := Lib.hid (drop_at hx)
            have e2 := Lib.hid (show l0.take (l0.length - j) = l0.take (l0.length - (j + 1)) ++ [y] by
              rw [show l0.length - j = i + 1 by omega, show l0.length - (j + 1) = i by omega]
              exact take_snoc hy)
            have h1 := HR.out.1
            have h2 := HR.out.2.1
            rw [e1.out] at h1
            rw [e2.out] at h2
            have H1 := Lib.hid h1
            have H2 := Lib.hid h2
            have HJL := Lib.hid hjl
            clear h1 h2 hj he hjl hr hx hy hcx hcy hlt hi
            go_wp2_with fail
            refine (mdo_any ⟨0, 0, 0, 3, 7, 0, 0, false, 0, 0, 0⟩ (wf_lit (by omega) (by omega) (by omega)) H1.out (by rw [List.length_cons, List.length_drop]; have := HL.out; omega)).mono ?_
            rintro _ w2 ⟨v2, rfl, ho2, hb2⟩
            rw [que_pop] at ho2 ⊢
            have HO2 := Lib.hid ho2
            have H22 := Lib.hid (H2.out.on hb2)
            have HB2 := Lib.hid (HR.out.2.2.on hb2)
            clear ho2 hb2
            go_wp2_with fail
            refine (mdo_any ⟨0, 0, 0, 4, 9, 0, 0, false, 0, 0, 0⟩ (wf_lit (by omega) (by omega) (by omega)) H22.out (by rw [List.length_append, List.length_take, List.length_singleton]; have := HL.out; omega)).mono ?_
            rintro _ w3 ⟨v3, rfl, ho3, hb3⟩
            rw [stk_pop] at ho3 ⊢
            have HO3 := Lib.hid ho3
            have HO23 := Lib.hid (HO2.out.on hb3)
            have HB3 := Lib.hid (HB2.out.on hb3)
            clear ho3 hb3
            have c0 := HCX.out w3 HB3.out
            have c1 := HCY.out w3 HB3.out
            go_wp2_with fail
            go_roundw
            case measure => have := HJL.out; simp [intOf]; omega
            case rel => exact ⟨j + 1, by simp, HJL.out, Lib.hid ⟨HO23.out.reads, HO3.out.reads, HB3.out⟩⟩
  · have q0 : decide ((l0.length : Int) > 200) = true := decide_eq_true (by omega)
    have q00 : ((200 : Int) < (l0.length : Int)) = True := eq_true (by omega)
    clear hl
    go_enter Try.func8, Try.ntmps8
    go_wp2_with fail
    refine (awake_any _).mono ?_
    rintro _ w2 ⟨rfl, hb⟩
    go_wp2_with fail
    go_returns
    exact ⟨rfl, hb⟩

set_option maxRecDepth 100000 in
theorem lifted (os : Os) (started : os.Started) (H : Type) (enc : TypeId × Value → H) :
    ReturnsInHanded {} Try.checked os 8 .any (Rows.modelLinesSpec.pre6 enc Try.prog Try.f8 Rows.modelLinesRow.domain false) (Rows.modelLinesSpec.post enc Try.prog Try.f8 false true false false) := by
  refine law_lift (C := Try.checked) own started (by kernel_rfl) Try.func8 laidOut (by kernel_rfl) rfl Try.underlying4 rfl
    (fun ds h => match ds, h with | [_], _ => rfl)
    (ChangeSpec.witness6 (enc := enc) (C := Try.checked) false ⟨#[], #[.slice none 0 0], []⟩ 8 (by kernel_rfl) (by kernel_rfl) (by kernel_rfl) (by kernel_rfl)) ?_
  intro W base args ds ps hval hA hsz
  rw [Try.params8] at hA hval hsz
  obtain ⟨v0, vs0, d0, ds0, p0, q0, hargs, rfl, rfl, h0, r0⟩ := trodAll_cons hA
  obtain ⟨rfl, rfl, rfl⟩ := trodAll_nil r0
  obtain rfl : args = #[v0] := by cases args; simp_all
  obtain ⟨l0, hl0⟩ := ints_open (hval 0 22 v0 rfl rfl) h0
  exact walk W v0 l0 hl0

theorem over : Rows.modelLinesRow.holds Try.pinned (OpenSpec.ofChange Rows.modelLinesSpec) :=
  OpenClaim.holds_of_wide 8 Try.f8 rfl rfl rfl rfl rfl rfl rfl ⟨rfl, rfl, rfl, rfl, rfl⟩ rfl rfl rfl rfl rfl (by kernel_rfl) Try.func8 (by kernel_rfl)
    (of_decide_eq_true (by kernel_rfl)) (by unfold Func.isWrapper; first | (rw [if_pos (by decide +kernel)]; kernel_rfl) | (rw [if_neg (by decide +kernel)]; exact ⟨rfl, rfl⟩))
    (fun os started H enc _ => lifted os started H enc)

theorem proved : Rows.ModelLinesSaid :=
  over
end Go.Proofs.Ytkdaghflonppfaa.modelLines
