/- Just as many spots as there are is enough, more changes nothing, and one fewer is not enough; and the chapter's examples hold: for every small segment, its states and every number more (of others the examples alone are asked). Conditions: none. -/
import Derived.Test.YtpooekmogfkkjaaSLoA
import Derived.Test.YtpooekmogfkkjaaSLoB
import Derived.Test.YtpooekmogfkkjaaSLoE
import Derived.Test.YtpooekmogfkkjaaLaw
import Derived.BigQuiet
import Derived.Deep.QuietTactic
import Derived.Lib.QuietBelow
import Derived.Deep.DeepCutAuto
import Derived.Deep.CutBlock
namespace Go.Proofs.Ytpooekmogfkkjaa.linBudget
open Go.ChangeShapes Go.WideShapes Go.ChangeAt Go.RowKit Go.PlainAid
open Go.ChangeMaps (open_string)
open Go.Sort (grow)

theorem own : ownKnob Try.prog.godebug = none := by kernel_rfl
theorem laidOut : laidOutB Try.prog = true := by kernel_rfl
open Ln
set_option maxRecDepth 100000 in
set_option maxHeartbeats 8000000 in
theorem walk (w : World) (s0 : Ln.SegP) (u0 : Value) (h0 : OpsOf w u0 s0.ops) (v1 : Value) (l1 : List (List Int)) (h1 : Ln.StsC w v1 l1) (n1 : ∀ s ∈ l1, s.length ≤ 17592186044416) (a2 : Int) (w2 : (Lit.int .u16 a2).wf = true) :
    Calls Try.prog 7 #[.agg #[.int .i64 s0.obj, .int .i64 s0.kind, u0], v1, .int .u16 a2] w fun e w' => e = .returned (.bool true) ∧ Below w.heap.size w w' := by
  obtain ⟨b2, c2⟩ := bounds_u16 w2
  obtain ⟨ao, co, rfl⟩ := h0.len
  have hs1 := h1.sts
  obtain ⟨aE1, cE1, rfl⟩ := hs1.len
  have hbw : Below w.heap.size w (w.alloc (.cells #[.int .i64 s0.obj, .int .i64 s0.kind, .slice ao s0.ops.length co] 24)) := by go_grown
  have hbx := heap_alloc_new w (.cells #[.int .i64 s0.obj, .int .i64 s0.kind, .slice ao s0.ops.length co] 24)
  obtain ⟨W1, hW1⟩ : ∃ W, w.alloc (.cells #[.int .i64 s0.obj, .int .i64 s0.kind, .slice ao s0.ops.length co] 24) = W := ⟨_, rfl⟩
  rw [hW1] at hbw hbx
  have HB1 := Lib.hid hbw
  have HX1 := Lib.hid hbx
  have HO := Lib.hid (h0.on hbw)
  have HE1 := Lib.hid (hs1.on hbw)
  have HZ1 := Lib.hid n1
  obtain ⟨g0, g1, g2⟩ := seg_cells hbx (Below.refl _ _)
  clear hbw hbx h0 hs1 h1 n1
  have HSM := Lib.hid (small_any (obj := s0.obj) (kind := s0.kind) 6 HO.out HE1.out HZ1.out (by decide))
  go_enter Try.func7, Try.ntmps7
  go_wp2_with fail
  refine HSM.out.mono ?_
  rintro _ w2 ⟨b2, rfl, hsm, hb2⟩
  have HB2 := Lib.hid hb2
  obtain ⟨d0, d1, d2⟩ := seg_cells HX1.out hb2
  have HS := Lib.hid hsm
  clear hb2 hsm g0 g1 g2
  cases b2 with
  | false =>
    go_wp2_with fail
    refine (Ln.awake_any _).mono ?_
    rintro _ w9 ⟨rfl, hb9⟩
    have HB9 := Lib.hid (HB2.out.on hb9)
    clear hb9
    go_wp2_with fail
    go_returns
    exact ⟨rfl, HB1.out.on HB9.out⟩
  | true =>
    have HSP := Lib.hid (HS.out (by first | rfl | trivial))
    have HSH1 := Lib.hid HSP.out.short
    have hl6 : s0.ops.length ≤ 6 := by have := HSP.out.few; omega
    have HUX := Lib.hid (us_exists (sts_okz HE1.out fun s hs => by have := HSH1.out.each s hs; omega))
    have HQ3 := Lib.hid (search_any (obj := s0.obj) (kind := s0.kind) (HO.out.on HB2.out) (HE1.out.on HB2.out) (fun s hs => by have := HSH1.out.each s hs; omega) (by have := HSH1.out.few; omega) 32768 (by omega) 32768 (by decide))
    go_wp2_with fail
    refine HQ3.out.mono ?_
    rintro _ v3 ⟨ve3, vx3, n3, z3, rfl, P3, Q3, hA3, hP3, hQ3, hb3⟩
    obtain ⟨ae3, ce3, rfl⟩ := hP3.len
    obtain ⟨ax3, cx3, rfl⟩ := hQ3.len
    have hbx3 : Below v3.heap.size v3 (v3.alloc (.cells #[.slice ae3 P3.length ce3, .slice ax3 Q3.length cx3, .int .i64 n3] 27)) := by go_grown
    have hnx3 := heap_alloc_new v3 (.cells #[.slice ae3 P3.length ce3, .slice ax3 Q3.length cx3, .int .i64 n3] 27)
    obtain ⟨W3, hW3⟩ : ∃ W, v3.alloc (.cells #[.slice ae3 P3.length ce3, .slice ax3 Q3.length cx3, .int .i64 n3] 27) = W := ⟨_, rfl⟩
    rw [hW3] at hbx3 hnx3
    have HA3 := Lib.hid hA3
    have HP3 := Lib.hid (hP3.on hbx3)
    have HR3 := Lib.hid (hQ3.on hbx3)
    have HX3 := Lib.hid hnx3
    have HB3 := Lib.hid ((HB2.out.on hb3).on hbx3)
    have HD3 := Lib.hid (hb3.on hbx3)
    clear hA3 hP3 hQ3 hb3 hbx3 hnx3 HQ3
    obtain ⟨d0, d1, d2⟩ := seg_cells HX1.out HB3.out
    obtain ⟨e0, e1, e2⟩ := sum_cells HX3.out (Below.refl W3.heap.size W3)
    by_cases hz : z3 = 0
    case neg =>
      have q1 : (z3 != 0) = true := bne_iff_ne.2 hz
      clear hz
      go_wp2_with fail
      refine (Ln.awake_any _).mono ?_
      rintro _ w9 ⟨rfl, hb9⟩
      have HB9 := Lib.hid (HB3.out.on hb9)
      clear hb9
      go_wp2_with fail
      go_returns
      exact ⟨rfl, HB1.out.on HB9.out⟩
    case pos =>
      subst hz
      obtain ⟨c1, c2, c3, c4⟩ := HA3.out.count (by omega) HUX.out rfl
      have HC := Lib.hid (And.intro c1 (And.intro c2 (And.intro c3 c4)))
      have hmn : min n3 32768 = n3 := by omega
      have r1 : IntKind.i64.wrap (n3 + a2) = n3 + a2 := IntWalk.i64_in _ (by omega)
      have r2 : IntKind.i64.wrap (n3 - 1) = n3 - 1 := IntWalk.i64_in _ (by omega)
      have HQ4 := Lib.hid (search_any (obj := s0.obj) (kind := s0.kind) (HO.out.on HB3.out) (HE1.out.on HB3.out) (fun s hs => by have := HSH1.out.each s hs; omega) (by have := HSH1.out.few; omega) n3 (by omega) n3 hmn.symm)
      clear c1 c2 c3 c4
      go_wp2_with fail
      refine HQ4.out.mono ?_
      rintro _ v4 ⟨ve4, vx4, n4, z4, rfl, P4, Q4, hA4, hP4, hQ4, hb4⟩
      obtain ⟨ae4, ce4, rfl⟩ := hP4.len
      obtain ⟨ax4, cx4, rfl⟩ := hQ4.len
      have hbx4 : Below v4.heap.size v4 (v4.alloc (.cells #[.slice ae4 P4.length ce4, .slice ax4 Q4.length cx4, .int .i64 n4] 27)) := by go_grown
      have hnx4 := heap_alloc_new v4 (.cells #[.slice ae4 P4.length ce4, .slice ax4 Q4.length cx4, .int .i64 n4] 27)
      obtain ⟨W4, hW4⟩ : ∃ W, v4.alloc (.cells #[.slice ae4 P4.length ce4, .slice ax4 Q4.length cx4, .int .i64 n4] 27) = W := ⟨_, rfl⟩
      rw [hW4] at hbx4 hnx4
      have HA4 := Lib.hid hA4
      have HP4 := Lib.hid (hP4.on hbx4)
      have HR4 := Lib.hid (hQ4.on hbx4)
      have HX4 := Lib.hid hnx4
      have HB4 := Lib.hid ((HB3.out.on hb4).on hbx4)
      have HD4 := Lib.hid (hb4.on hbx4)
      clear hA4 hP4 hQ4 hb4 hbx4 hnx4 HQ4
      obtain ⟨d0, d1, d2⟩ := seg_cells HX1.out HB4.out
      obtain ⟨e0, e1, e2⟩ := sum_cells HX3.out HD4.out
      have HQ5 := Lib.hid (search_any (obj := s0.obj) (kind := s0.kind) (HO.out.on HB4.out) (HE1.out.on HB4.out) (fun s hs => by have := HSH1.out.each s hs; omega) (by have := HSH1.out.few; omega) (n3 + a2) (by have := HC.out; omega) _ rfl)
      go_wp2_with fail
      refine HQ5.out.mono ?_
      rintro _ v5 ⟨ve5, vx5, n5, z5, rfl, P5, Q5, hA5, hP5, hQ5, hb5⟩
      obtain ⟨ae5, ce5, rfl⟩ := hP5.len
      obtain ⟨ax5, cx5, rfl⟩ := hQ5.len
      have hbx5 : Below v5.heap.size v5 (v5.alloc (.cells #[.slice ae5 P5.length ce5, .slice ax5 Q5.length cx5, .int .i64 n5] 27)) := by go_grown
      have hnx5 := heap_alloc_new v5 (.cells #[.slice ae5 P5.length ce5, .slice ax5 Q5.length cx5, .int .i64 n5] 27)
      obtain ⟨W5, hW5⟩ : ∃ W, v5.alloc (.cells #[.slice ae5 P5.length ce5, .slice ax5 Q5.length cx5, .int .i64 n5] 27) = W := ⟨_, rfl⟩
      rw [hW5] at hbx5 hnx5
      have HA5 := Lib.hid hA5
      have HP5 := Lib.hid (hP5.on hbx5)
      have HR5 := Lib.hid (hQ5.on hbx5)
      have HX5 := Lib.hid hnx5
      have HB5 := Lib.hid ((HB4.out.on hb5).on hbx5)
      have HD5 := Lib.hid (hb5.on hbx5)
      clear hA5 hP5 hQ5 hb5 hbx5 hnx5 HQ5
      obtain ⟨d0, d1, d2⟩ := seg_cells HX1.out HB5.out
      obtain ⟨e0, e1, e2⟩ := sum_cells HX3.out (HD4.out.on HD5.out)
      have HQ6 := Lib.hid (search_any (obj := s0.obj) (kind := s0.kind) (HO.out.on HB5.out) (HE1.out.on HB5.out) (fun s hs => by have := HSH1.out.each s hs; omega) (by have := HSH1.out.few; omega) (n3 - 1) (by have := HC.out; omega) _ rfl)
      go_wp2_with fail
      refine HQ6.out.mono ?_
      rintro _ v6 ⟨ve6, vx6, n6, z6, rfl, P6, Q6, hA6, hP6, hQ6, hb6⟩
      obtain ⟨ae6, ce6, rfl⟩ := hP6.len
      obtain ⟨ax6, cx6, rfl⟩ := hQ6.len
      have hbx6 : Below v6.heap.size v6 (v6.alloc (.cells #[.slice ae6 P6.length ce6, .slice ax6 Q6.length cx6, .int .i64 n6] 27)) := by go_grown
      have hnx6 := heap_alloc_new v6 (.cells #[.slice ae6 P6.length ce6, .slice ax6 Q6.length cx6, .int .i64 n6] 27)
      obtain ⟨W6, hW6⟩ : ∃ W, v6.alloc (.cells #[.slice ae6 P6.length ce6, .slice ax6 Q6.length cx6, .int .i64 n6] 27) = W := ⟨_, rfl⟩
      rw [hW6] at hbx6 hnx6
      have HA6 := Lib.hid hA6
      have HP6 := Lib.hid (hP6.on hbx6)
      have HR6 := Lib.hid (hQ6.on hbx6)
      have HX6 := Lib.hid hnx6
      have HB6 := Lib.hid ((HB5.out.on hb6).on hbx6)
      have HD6 := Lib.hid (hb6.on hbx6)
      clear hA6 hP6 hQ6 hb6 hbx6 hnx6 HQ6
      obtain ⟨k1, k2, k3, k4⟩ := HA3.out.same HA4.out (by omega) HUX.out rfl (by omega)
      obtain ⟨m1, m2, m3, m4⟩ := HA3.out.same HA5.out (by omega) HUX.out rfl (by have := HC.out; omega)
      have y1 := HA3.out.less HA6.out (by omega) HUX.out rfl (by have := HC.out; omega)
      subst k1 k2 k3 k4 m1 m2 m3 m4 y1
      have HS3 := Lib.hid ((HD4.out.on HD5.out).on HD6.out)
      have HS4 := Lib.hid (HD5.out.on HD6.out)
      obtain ⟨e0, e1, e2⟩ := sum_cells HX3.out HS3.out
      obtain ⟨f0, f1, f2⟩ := sum_cells HX4.out HS4.out
      obtain ⟨j0, j1, j2⟩ := sum_cells HX5.out HD6.out
      have hPl : P5.length ≤ 1000000000 := by have := HC.out.2.2.1; have := HSH1.out.few; omega
      have hQl : Q5.length ≤ 1000000000 := by have := HC.out; omega
      have HSA := Lib.hid (same_any (n := n5) (n2 := n5) (HP4.out.on HS4.out) (HR4.out.on HS4.out) (HP3.out.on HS3.out) (HR3.out.on HS3.out) hPl hQl)
      have HSB := Lib.hid fun (W : World) (hb : Below W6.heap.size W6 W) => same_any (n := n5) (n2 := n5) (HP5.out.on (HD6.out.on hb)) (HR5.out.on (HD6.out.on hb)) (HP3.out.on (HS3.out.on hb)) (HR3.out.on (HS3.out.on hb)) hPl hQl
      go_wp2_with fail
      refine HSA.out.mono ?_
      rintro _ w7 ⟨rfl, hb7⟩
      simp only [decide_true, Bool.and_self]
      obtain ⟨e0, e1, e2⟩ := sum_cells HX3.out (HS3.out.on hb7)
      obtain ⟨j0, j1, j2⟩ := sum_cells HX5.out (HD6.out.on hb7)
      have HB7 := Lib.hid hb7
      clear hb7
      go_wp2_with fail
      refine (HSB.out _ HB7.out).mono ?_
      rintro _ w8 ⟨rfl, hb8⟩
      simp only [decide_true, Bool.and_self]
      have HB8 := Lib.hid ((HB6.out.on HB7.out).on hb8)
      clear hb8
      go_wp2_with fail
      refine (Ln.awake_any _).mono ?_
      rintro _ w9 ⟨rfl, hb9⟩
      have HB9 := Lib.hid (HB8.out.on hb9)
      clear hb9
      go_wp2_with fail
      go_returns
      exact ⟨rfl, HB1.out.on HB9.out⟩

set_option maxRecDepth 100000 in
theorem lifted (os : Os) (started : os.Started) (H : Type) (enc : TypeId × Value → H) :
    ReturnsInHanded {} Try.checked os 7 .any (Rows.linBudgetSpec.pre6 enc Try.prog Try.f7 Rows.linBudgetRow.domain false) (Rows.linBudgetSpec.post enc Try.prog Try.f7 false true false false) := by
  refine law_lift (C := Try.checked) own started (by kernel_rfl) Try.func7 laidOut (by kernel_rfl) rfl Try.underlying4 rfl
    (fun ds h => match ds, h with | [_, _, _], _ => rfl)
    (ChangeSpec.witness6 (enc := enc) (C := Try.checked) false ⟨#[], #[.agg #[.int .i64 0, .int .i64 0, .slice none 0 0], .slice none 0 0, .int .u16 0], []⟩ 8 (by kernel_rfl) (by kernel_rfl) (by kernel_rfl) (by kernel_rfl)) ?_
  intro W base args ds ps hval hA hsz
  rw [Try.params7] at hA hval hsz
  obtain ⟨v0, vs0, d0, ds0, p0, q0, hargs, rfl, rfl, h0, r0⟩ := trodAll_cons hA
  obtain ⟨v1, vs1, d1, ds1, p1, q1, rfl, rfl, rfl, h1, r1⟩ := trodAll_cons r0
  obtain ⟨v2, vs2, d2, ds2, p2, q2, rfl, rfl, rfl, h2, r2⟩ := trodAll_cons r1
  obtain ⟨rfl, rfl, rfl⟩ := trodAll_nil r2
  obtain rfl : args = #[v0, v1, v2] := by cases args; simp_all
  obtain ⟨s0, u0, rfl, hl0⟩ := Ln.segp_open (hval 0 24 v0 rfl rfl) h0
  obtain ⟨l1, hl1, hz1⟩ := Ln.sts_open (hval 1 25 v1 rfl rfl) h1
  have n1 := hz1 fun n hn => of_decide_eq_true (List.all_eq_true.1 hsz _ (DataW.weights_mem_each (j := 1) rfl rfl n hn))
  obtain ⟨a2, rfl, rfl, rfl, w2⟩ := open_int Try.underlying44 (hval 2 44 v2 rfl rfl) h2
  exact walk W s0 u0 hl0 v1 l1 hl1 n1 a2 w2

theorem over : Rows.linBudgetRow.holds Try.pinned (OpenSpec.ofChange Rows.linBudgetSpec) :=
  OpenClaim.holds_of_wide 7 Try.f7 rfl rfl rfl rfl rfl rfl rfl ⟨rfl, rfl, rfl, rfl, rfl⟩ rfl rfl rfl rfl rfl (by kernel_rfl) Try.func7 (by kernel_rfl)
    (of_decide_eq_true (by kernel_rfl)) (by unfold Func.isWrapper; first | (rw [if_pos (by decide +kernel)]; kernel_rfl) | (rw [if_neg (by decide +kernel)]; exact ⟨rfl, rfl⟩))
    (fun os started H enc _ => lifted os started H enc)

theorem proved : Rows.LinBudgetSaid :=
  over
end Go.Proofs.Ytpooekmogfkkjaa.linBudget
