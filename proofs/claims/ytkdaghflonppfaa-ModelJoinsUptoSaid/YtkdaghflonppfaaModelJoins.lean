/- Two lists of operations of one kind, one behind the other, are the second from the state behind the first one, and the chapter's examples hold: for every rising list of numbers and every two lists of at most 300 operations together. Conditions: what comes in is of bulk at most 1048576 (given with the statement). -/
import Derived.Test.YtkdaghflonppfaaMoP
import Derived.Test.YtkdaghflonppfaaMoQ
import Derived.Test.YtkdaghflonppfaaMoV
import Derived.Test.YtkdaghflonppfaaMoW
import Derived.Test.YtkdaghflonppfaaLaw
import Derived.Test.YtkdaghflonppfaaLawU
import Derived.BigQuiet
import Derived.Deep.QuietTactic
import Derived.Lib.QuietBelow
import Derived.Deep.DeepCutAuto
import Derived.Deep.CutBlock
namespace Go.Proofs.Ytkdaghflonppfaa.modelJoins
open Go.ChangeShapes Go.WideShapes Go.ChangeAt Go.RowKit Go.PlainAid
open Go.ChangeMaps (open_string)
open Go.Sort (grow)

theorem own : ownKnob Try.prog.godebug = none := by kernel_rfl
theorem laidOut : laidOutB Try.prog = true := by kernel_rfl
attribute [local go_sem ↓ high] app_opO
set_option maxRecDepth 100000 in
set_option maxHeartbeats 8000000 in
theorem walk (w : World) (v0 : Value) (l0 : List Int) (h0 : IntsC w v0 l0) (n0 : l0.length ≤ 1048576) (v1 : Value) (l1 : List OpV) (h1 : OpsOf w v1 l1) (n1 : l1.length ≤ 1048576) (v2 : Value) (l2 : List OpV) (h2 : OpsOf w v2 l2) (n2 : l2.length ≤ 1048576) :
    Calls Try.prog 7 #[v0, v1, v2] w fun e w' => e = .returned (.bool true) ∧ Below w.heap.size w w' := by
  obtain ⟨al1, cl1, rfl⟩ := h1.len
  obtain ⟨al2, cl2, rfl⟩ := h2.len
  have HBE : Below w.heap.size w (w.alloc (.cells #[] 24)) := by go_grown
  obtain ⟨va, W2, hra, hoa, hba⟩ := ops_app (n₀ := w.heap.size) (W := w.alloc (.cells #[] 24)) (a := []) (b := l1) (OpsOwn.made _ _ (Nat.le_refl _)) (h1.on HBE) HBE.size (by rw [List.length_nil]; omega)
  obtain ⟨vb, W3, hrb, hob, hbb⟩ := ops_app hoa (h2.on (HBE.trans hba)) (HBE.trans hba).size (by rw [List.nil_append]; omega)
  rw [List.nil_append] at hob
  have hall := hob.reads (fun o ho => by
    rcases List.mem_append.1 ho with c | c
    · exact h1.2 o c
    · exact h2.2 o c)
  have HB3 := Lib.hid (HBE.trans (hba.trans hbb))
  obtain ⟨L, hL⟩ : ∃ L, l1 ++ l2 = L := ⟨_, rfl⟩
  rw [hL] at hall
  obtain ⟨al, cl, rfl⟩ := hall.len
  have HALL := Lib.hid hall
  have HL12 := Lib.hid (And.intro hL (show L.length = l1.length + l2.length by rw [← hL, List.length_append]))
  have H0 := Lib.hid h0
  have H1 := Lib.hid h1
  have H2 := Lib.hid h2
  have HN := Lib.hid (And.intro n0 (And.intro n1 n2))
  have HW1 := Lib.hid HBE
  clear h0 h1 h2 n0 n1 n2 hall hoa hob hba hbb hL HBE
  have HLL : Hid (L.length ≤ 2097152) := by have := HL12.out.2; have := HN.out; show L.length ≤ 2097152; omega
  go_enter Try.func7, Try.ntmps7
  go_wp2_with fail
  go_loopw [8] (fun s8 wr => ∃ k : Nat, s8 = .int .i64 k ∧ k ≤ L.length ∧ Hid (Below W3.heap.size W3 wr ∧ ∀ (i : Nat) (o z : OpV), i < k → L[i]? = some o → L[0]? = some z → o.kind = z.kind)) (fun s8 _ => L.length - (intOf s8).toNat)
  case atStart => exact ⟨0, rfl, Nat.zero_le _, Below.refl _ _, fun i o z hi => absurd hi (by omega)⟩
  case round =>
    obtain ⟨k, rfl, hk, HX⟩ := hrel
    by_cases hkl : k < L.length
    · have p1 : decide ((k : Int) < (L.length : Int)) = true := decide_eq_true (by omega)
      have p2 : (k : Int) < (L.length : Int) := by omega
      have p3 : IntKind.i64.wrap ((k : Int) + 1) = (k : Int) + 1 := IntWalk.i64_in _ (by have := HLL.out; omega)
      have p4 : (0 : Int) < (L.length : Int) := by omega
      obtain ⟨o, ho⟩ : ∃ o, L[k]? = some o := ⟨_, List.getElem?_eq_getElem hkl⟩
      obtain ⟨z, hz⟩ : ∃ z, L[0]? = some z := ⟨_, List.getElem?_eq_getElem (by omega)⟩
      obtain ⟨b, p, cap, hv, hlt, _, hc⟩ := OpsOf.at (HALL.out.on HX.out.1) ho
      obtain ⟨b', p', cap', hv', _, _, hc'⟩ := OpsOf.at (HALL.out.on HX.out.1) hz
      have e1 : al = some ⟨b, p, none⟩ := by cases hv; rfl
      have e2 : b' = b ∧ p' = p := by cases hv; cases hv'; exact ⟨rfl, rfl⟩
      obtain ⟨rfl, rfl⟩ := e2
      subst e1
      have c0 : wr.cell? ⟨b', p' + k * 11 + 3, none⟩ = some (.int .i64 o.kind) := hc 3 _ rfl
      have c1 : wr.cell? ⟨b', p' + 3, none⟩ = some (.int .i64 z.kind) := by have := hc' 3 _ rfl; rwa [Nat.zero_mul, Nat.add_zero] at this
      have HO := Lib.hid (And.intro hkl (And.intro ho hz))
      clear hk hkl ho hz hv hv' hc hc' hlt hra hrb
      by_cases hxy : o.kind = z.kind
      · have qq : (o.kind != z.kind) = false := by rw [hxy]; simp
        have HY := Lib.hid hxy
        clear hxy
        go_wp2
        go_quiet (fail)
        go_wp2
        go_roundw
        case measure => have := HO.out.1; simp [intOf]; omega
        case rel => exact ⟨k + 1, by simp, HO.out.1, Lib.hid ⟨HX.out.1.on (below_drewN _ _), fun i u y hi hu hy => by
          by_cases c : i = k
          · subst c
            rw [HO.out.2.1] at hu
            rw [HO.out.2.2] at hy
            rw [← Option.some.inj hu, ← Option.some.inj hy]
            exact HY.out
          · exact HX.out.2 i u y (by omega) hu hy⟩⟩
      · have qq : (o.kind != z.kind) = true := bne_iff_ne.2 hxy
        clear hxy
        go_wp2
        go_quiet (fail)
        go_wp2_with fail
        refine (awake_any _).mono ?_
        rintro _ w4 ⟨rfl, hb4⟩
        go_wp2_with fail
        go_returns
        exact ⟨rfl, HB3.out.on ((HX.out.1.on (below_drewN wr nq)).on hb4)⟩
    · have p1 : decide ((k : Int) < (L.length : Int)) = false := decide_eq_false (by omega)
      have p2 : ((k : Int) < (L.length : Int)) = False := eq_false (by omega)
      have HBW := Lib.hid (HB3.out.on HX.out.1)
      clear hk hkl hra hrb
      cases hR : risesB l0 with
      | false =>
        have HR := Lib.hid hR
        clear hR
        go_wp2_with fail
        refine (rrising_any v0 l0 _ (H0.out.ints.on HBW.out)).mono ?_
        rintro _ w4 ⟨rfl, hb4⟩
        rw [HR.out]
        go_wp2_with fail
        refine (awake_any _).mono ?_
        rintro _ w5 ⟨rfl, hb5⟩
        go_wp2_with fail
        go_returns
        exact ⟨rfl, HBW.out.on (hb4.on hb5)⟩
      | true =>
        have HR := Lib.hid hR
        clear hR
        by_cases hl : L.length ≤ 300
        · have q0 : decide ((L.length : Int) > 300) = false := decide_eq_false (by omega)
          have q00 : ((300 : Int) < (L.length : Int)) = False := eq_false (by omega)
          have HL := Lib.hid hl
          clear hl
          go_wp2_with fail
          refine (rrising_any v0 l0 _ (H0.out.ints.on HBW.out)).mono ?_
          rintro _ w4 ⟨rfl, hb4⟩
          rw [HR.out]
          have HB4 := Lib.hid (HBW.out.on hb4)
          have HA4 := Lib.hid (HALL.out.on (HX.out.1.on hb4))
          clear hb4
          go_wp2_with fail
          refine (runs_any (v := v0) (L := l0) (l := l1) (H0.out.ints.on HB4.out) (H1.out.on HB4.out) (by have := HN.out; omega)).mono ?_
          rintro _ w5 ⟨v5, rfl, ho5, hb5⟩
          have HO5 := Lib.hid ho5
          have HB5 := Lib.hid (HB4.out.on hb5)
          have HA5 := Lib.hid (HA4.out.on hb5)
          have HRL := Lib.hid (runs_len l1 l0)
          clear ho5 hb5
          go_wp2_with fail
          refine (runs_any (v := v5) (L := (runsC l1 l0).1) (l := l2) HO5.out.reads (H2.out.on HB5.out) (by have := HN.out; have := HRL.out; omega)).mono ?_
          rintro _ w6 ⟨v6, rfl, ho6, hb6⟩
          have HO6 := Lib.hid ho6
          have HB6 := Lib.hid (HB5.out.on hb6)
          have HA6 := Lib.hid (HA5.out.on hb6)
          clear ho6 hb6
          go_wp2_with fail
          refine (runs_any (v := v0) (L := l0) (l := L) (H0.out.ints.on HB6.out) HA6.out (by have := HN.out; have := HLL.out; omega)).mono ?_
          rintro _ w7 ⟨v7, rfl, ho7, hb7⟩
          have HO7 := Lib.hid ho7
          have HB7 := Lib.hid (HB6.out.on hb7)
          have HO67 := Lib.hid (HO6.out.on hb7)
          have HRA := Lib.hid (show runsC L l0 = if (runsC l1 l0).2 = true then runsC l2 (runsC l1 l0).1 else ([], false) by rw [← HL12.out.1]; exact runs_app l1 l2 l0)
          clear ho7 hb7
          obtain ⟨x, hx⟩ : ∃ x, (runsC l1 l0).2 = x := ⟨_, rfl⟩
          obtain ⟨y, hy⟩ : ∃ y, (runsC l2 (runsC l1 l0).1).2 = y := ⟨_, rfl⟩
          obtain ⟨z, hz⟩ : ∃ z, (runsC L l0).2 = z := ⟨_, rfl⟩
          have HXY := Lib.hid (And.intro hx (And.intro hy hz))
          rw [hx, hy, hz]
          clear hx hy hz
          cases x with
          | false =>
            have hz : z = false := by
              have h1 := HRA.out
              rw [if_neg (by rw [HXY.out.1]; simp)] at h1
              rw [← HXY.out.2.2, h1]
            subst hz
            go_wp2_with fail
            refine (awake_any _).mono ?_
            rintro _ w8 ⟨rfl, hb8⟩
            go_wp2_with fail
            go_returns
            exact ⟨rfl, HB7.out.on hb8⟩
          | true =>
            have h1 := HRA.out
            rw [if_pos HXY.out.1] at h1
            have hz : z = y := by rw [← HXY.out.2.2, h1, HXY.out.2.1]
            subst hz
            have HE := Lib.hid (congrArg Prod.fst h1)
            clear h1
            cases z with
            | false =>
              go_wp2_with fail
              refine (awake_any _).mono ?_
              rintro _ w8 ⟨rfl, hb8⟩
              go_wp2_with fail
              go_returns
              exact ⟨rfl, HB7.out.on hb8⟩
            | true =>
              go_wp2_with fail
              refine (rints_any v6 v7 _ _ _ HO67.out.reads HO7.out.reads).mono ?_
              rintro _ w8 ⟨rfl, hb8⟩
              rw [HE.out, beq_self_eq_true]
              have HB8 := Lib.hid (HB7.out.on hb8)
              clear hb8
              go_wp2_with fail
              refine (awake_any _).mono ?_
              rintro _ w9 ⟨rfl, hb9⟩
              go_wp2_with fail
              go_returns
              exact ⟨rfl, HB8.out.on hb9⟩
        · have q0 : decide ((L.length : Int) > 300) = true := decide_eq_true (by omega)
          have q00 : ((300 : Int) < (L.length : Int)) = True := eq_true (by omega)
          clear hl
          go_wp2_with fail
          refine (rrising_any v0 l0 _ (H0.out.ints.on HBW.out)).mono ?_
          rintro _ w4 ⟨rfl, hb4⟩
          rw [HR.out]
          go_wp2_with fail
          refine (awake_any _).mono ?_
          rintro _ w5 ⟨rfl, hb5⟩
          go_wp2_with fail
          go_returns
          exact ⟨rfl, HBW.out.on (hb4.on hb5)⟩

set_option maxRecDepth 100000 in
theorem lifted (os : Os) (started : os.Started) (H : Type) (enc : TypeId × Value → H) (F : Stop.Interp) :
    ReturnsInHanded {} Try.checked os 7 .any ((Rows.OpenSpec.upto Rows.modelJoinsSpec).pre6 enc Try.prog Try.f7 Rows.modelJoinsUptoRow.domain false) (((Rows.OpenSpec.upto Rows.modelJoinsSpec).at F).post enc Try.prog Try.f7 false true false false) := by
  refine law_lift_cond (C := Try.checked) own started (by kernel_rfl) Try.func7 laidOut (by kernel_rfl) rfl Try.underlying4 rfl
    (fun ds h => match ds, h with | [_, _, _], _ => rfl)
    (OpenSpec.witness (enc := enc) (C := Try.checked) (s := Rows.OpenSpec.upto Rows.modelJoinsSpec) (k := Rows.uptoSmall) rfl false ⟨#[], #[.slice none 0 0, .slice none 0 0, .slice none 0 0], []⟩ 8 (by kernel_rfl) (by kernel_rfl) (by kernel_rfl)
      (x := ([.nil, .nil, .nil], [], [])) (by kernel_rfl) rfl (by kernel_rfl)) ?_
  intro W base args ds ps hval hA hsz hup
  rw [Try.params7] at hA hval hsz
  obtain ⟨v0, vs0, d0, ds0, p0, q0, hargs, rfl, rfl, h0, r0⟩ := trodAll_cons hA
  obtain ⟨v1, vs1, d1, ds1, p1, q1, rfl, rfl, rfl, h1, r1⟩ := trodAll_cons r0
  obtain ⟨v2, vs2, d2, ds2, p2, q2, rfl, rfl, rfl, h2, r2⟩ := trodAll_cons r1
  obtain ⟨rfl, rfl, rfl⟩ := trodAll_nil r2
  obtain rfl : args = #[v0, v1, v2] := by cases args; simp_all
  obtain ⟨l0, hl0, hc0, hz0⟩ := ints_openC (hval 0 22 v0 rfl rfl) h0
  have n0 : l0.length ≤ 1048576 := by
    rcases hz0 with rfl | ⟨el, rest, rfl, hel⟩
    · exact Nat.zero_le _
    · have := bulk_slice hup (el := el) (rest := rest) (by simp)
      omega
  obtain ⟨l1, hl1, hz1⟩ := ops_open (hval 1 35 v1 rfl rfl) h1
  have n1 : l1.length ≤ 1048576 := by
    rcases hz1 with rfl | ⟨el, rest, rfl, hel⟩
    · exact Nat.zero_le _
    · have := bulk_slice hup (el := el) (rest := rest) (by simp)
      omega
  obtain ⟨l2, hl2, hz2⟩ := ops_open (hval 2 35 v2 rfl rfl) h2
  have n2 : l2.length ≤ 1048576 := by
    rcases hz2 with rfl | ⟨el, rest, rfl, hel⟩
    · exact Nat.zero_le _
    · have := bulk_slice hup (el := el) (rest := rest) (by simp)
      omega
  exact walk W v0 l0 ⟨hl0, hc0⟩ n0 v1 l1 hl1 n1 v2 l2 hl2 n2

theorem proved : Rows.ModelJoinsUptoSaid :=
  OpenClaim.holds_of_cond 7 Try.f7 rfl rfl rfl rfl rfl rfl rfl ⟨rfl, rfl, rfl, rfl, rfl⟩ rfl rfl rfl rfl rfl (by kernel_rfl) Try.func7 (by kernel_rfl)
    (of_decide_eq_true (by kernel_rfl)) (by unfold Func.isWrapper; first | (rw [if_pos (by decide +kernel)]; kernel_rfl) | (rw [if_neg (by decide +kernel)]; exact ⟨rfl, rfl⟩))
    (fun os started H enc _ F => lifted os started H enc F)
end Go.Proofs.Ytkdaghflonppfaa.modelJoins
