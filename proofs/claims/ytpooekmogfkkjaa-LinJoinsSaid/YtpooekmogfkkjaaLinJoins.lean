/- The exits of two lists of entries together are those of the one, and of the other, in order, each once; there are as many spots as fits; and the chapter's examples hold: for every small segment and two lists of its states (of others the examples alone are asked). Conditions: none. -/
import Derived.Test.YtpooekmogfkkjaaSLoA
import Derived.Test.YtpooekmogfkkjaaSLoB
import Derived.Test.YtpooekmogfkkjaaSLoE
import Derived.Test.YtpooekmogfkkjaaSLoF
import Derived.Test.YtpooekmogfkkjaaSLoH
import Derived.Test.YtpooekmogfkkjaaLaw
import Derived.BigQuiet
import Derived.Deep.QuietTactic
import Derived.Lib.QuietBelow
import Derived.Deep.DeepCutAuto
import Derived.Deep.CutBlock
namespace Go.Proofs.Ytpooekmogfkkjaa.linJoins
open Go.ChangeShapes Go.WideShapes Go.ChangeAt Go.RowKit Go.PlainAid
open Go.ChangeMaps (open_string)
open Go.Sort (grow)

theorem own : ownKnob Try.prog.godebug = none := by kernel_rfl
theorem laidOut : laidOutB Try.prog = true := by kernel_rfl
open Ln
attribute [local go_sem ↓ high] app_st store_sum
set_option maxRecDepth 100000 in
set_option maxHeartbeats 8000000 in
theorem walk (w : World) (s0 : Ln.SegP) (u0 : Value) (h0 : OpsOf w u0 s0.ops) (v1 : Value) (l1 : List (List Int)) (h1 : Ln.StsC w v1 l1) (n1 : ∀ s ∈ l1, s.length ≤ 17592186044416) (v2 : Value) (l2 : List (List Int)) (h2 : Ln.StsC w v2 l2) (n2 : ∀ s ∈ l2, s.length ≤ 17592186044416) :
    Calls Try.prog 6 #[.agg #[.int .i64 s0.obj, .int .i64 s0.kind, u0], v1, v2] w fun e w' => e = .returned (.bool true) ∧ Below w.heap.size w w' := by
  obtain ⟨ao, co, rfl⟩ := h0.len
  have hs1 := h1.sts
  obtain ⟨aE1, cE1, rfl⟩ := hs1.len
  have hs2 := h2.sts
  obtain ⟨aE2, cE2, rfl⟩ := hs2.len
  have hbw : Below w.heap.size w (w.alloc (.cells #[.int .i64 s0.obj, .int .i64 s0.kind, .slice ao s0.ops.length co] 24)) := by go_grown
  have hbx := heap_alloc_new w (.cells #[.int .i64 s0.obj, .int .i64 s0.kind, .slice ao s0.ops.length co] 24)
  obtain ⟨W1, hW1⟩ : ∃ W, w.alloc (.cells #[.int .i64 s0.obj, .int .i64 s0.kind, .slice ao s0.ops.length co] 24) = W := ⟨_, rfl⟩
  rw [hW1] at hbw hbx
  have HB1 := Lib.hid hbw
  have HX1 := Lib.hid hbx
  have HO := Lib.hid (h0.on hbw)
  have HE1 := Lib.hid (hs1.on hbw)
  have HZ1 := Lib.hid n1
  have HE2 := Lib.hid (hs2.on hbw)
  have HZ2 := Lib.hid n2
  obtain ⟨g0, g1, g2⟩ := seg_cells hbx (Below.refl _ _)
  clear hbw hbx h0 hs1 h1 n1 hs2 h2 n2
  have HSM := Lib.hid (small_any (obj := s0.obj) (kind := s0.kind) 6 HO.out HE1.out HZ1.out (by decide))
  have HSN := Lib.hid fun (W : World) (hb : Below W1.heap.size W1 W) => small_any (obj := s0.obj) (kind := s0.kind) 6 (HO.out.on hb) (HE2.out.on hb) HZ2.out (by decide)
  go_enter Try.func6, Try.ntmps6
  go_wp2_with fail
  refine HSM.out.mono ?_
  rintro _ w2 ⟨b2, rfl, hsm, hb2⟩
  have HB2 := Lib.hid hb2
  obtain ⟨d0, d1, d2⟩ := seg_cells HX1.out hb2
  have HS := Lib.hid hsm
  clear hb2 hsm g0 g1 g2
  cases b2 with
  | false =>
    go_wp2_with fail
    refine (Ln.awake_any _).mono ?_
    rintro _ w9 ⟨rfl, hb9⟩
    have HB9 := Lib.hid (HB2.out.on hb9)
    clear hb9
    go_wp2_with fail
    go_returns
    exact ⟨rfl, HB1.out.on HB9.out⟩
  | true =>
    have HSP := Lib.hid (HS.out (by first | rfl | trivial))
    have HSH1 := Lib.hid HSP.out.short
    go_wp2_with fail
    refine (HSN.out _ HB2.out).mono ?_
    rintro _ w3 ⟨b3, rfl, hsm, hb3⟩
    have HB0 := Lib.hid (HB2.out.on hb3)
    obtain ⟨d0, d1, d2⟩ := seg_cells HX1.out HB0.out
    have HS2 := Lib.hid hsm
    clear hb3 hsm
    cases b3 with
    | false =>
      go_wp2_with fail
      refine (Ln.awake_any _).mono ?_
      rintro _ w9 ⟨rfl, hb9⟩
      have HB9 := Lib.hid (HB0.out.on hb9)
      clear hb9
      go_wp2_with fail
      go_returns
      exact ⟨rfl, HB1.out.on HB9.out⟩
    | true =>
      have HSH2 := Lib.hid (HS2.out (by first | rfl | trivial)).short
      have hl6 : s0.ops.length ≤ 6 := by have := HSP.out.few; omega
      have hok1 := sts_okz HE1.out fun s hs => by have := HSH1.out.each s hs; omega
      have hok2 := sts_okz HE2.out fun s hs => by have := HSH2.out.each s hs; omega
      have HUX := Lib.hid (And.intro (us_exists hok1) (And.intro (us_exists hok2) (us_exists (l := l1 ++ l2) fun s hs => (List.mem_append.1 hs).elim (hok1 s) (hok2 s))))
      clear hok1 hok2
      have HQ3 := Lib.hid (search_own (obj := s0.obj) (kind := s0.kind) (HO.out.on HB0.out) (HE1.out.on HB0.out) (fun s hs => by have := HSH1.out.each s hs; omega) (by have := HSH1.out.few; omega) 32768 (by omega) 32768 (by decide))
      go_wp2_with fail
      refine HQ3.out.mono ?_
      rintro _ v3 ⟨ve3, vx3, n3, z3, rfl, P3, Q3, hA3, hP3', hQ3', hl3, hb3⟩
      have hP3 := hP3'.reads
      have hQ3 := hQ3'.reads
      have HL3 := Lib.hid hl3
      clear hP3' hQ3' hl3
      obtain ⟨ae3, ce3, rfl⟩ := hP3.len
      obtain ⟨ax3, cx3, rfl⟩ := hQ3.len
      have hbx3 : Below v3.heap.size v3 (v3.alloc (.cells #[.slice ae3 P3.length ce3, .slice ax3 Q3.length cx3, .int .i64 n3] 27)) := by go_grown
      have hnx3 := heap_alloc_new v3 (.cells #[.slice ae3 P3.length ce3, .slice ax3 Q3.length cx3, .int .i64 n3] 27)
      obtain ⟨W3, hW3⟩ : ∃ W, v3.alloc (.cells #[.slice ae3 P3.length ce3, .slice ax3 Q3.length cx3, .int .i64 n3] 27) = W := ⟨_, rfl⟩
      rw [hW3] at hbx3 hnx3
      have st3 := sum_new v3 (.slice ae3 P3.length ce3) (.slice ax3 Q3.length cx3) (.int .i64 n3)
      rw [hW3] at st3
      have HA3 := Lib.hid hA3
      have HP3 := Lib.hid (hP3.on hbx3)
      have HR3 := Lib.hid (hQ3.on hbx3)
      have HX3 := Lib.hid hnx3
      have HB3 := Lib.hid ((HB0.out.on hb3).on hbx3)
      have HD3 := Lib.hid (hb3.on hbx3)
      clear hA3 hP3 hQ3 hb3 hbx3 hnx3 HQ3
      obtain ⟨d0, d1, d2⟩ := seg_cells HX1.out HB3.out
      have HQ4 := Lib.hid (search_own (obj := s0.obj) (kind := s0.kind) (HO.out.on HB3.out) (HE2.out.on HB3.out) (fun s hs => by have := HSH2.out.each s hs; omega) (by have := HSH2.out.few; omega) 32768 (by omega) 32768 (by decide))
      go_wp2_with fail
      refine HQ4.out.mono ?_
      rintro _ v4 ⟨ve4, vx4, n4, z4, rfl, P4, Q4, hA4, hP4', hQ4', hl4, hb4⟩
      have hP4 := hP4'.reads
      have hQ4 := hQ4'.reads
      have HL4 := Lib.hid hl4
      clear hP4' hQ4' hl4
      obtain ⟨ae4, ce4, rfl⟩ := hP4.len
      obtain ⟨ax4, cx4, rfl⟩ := hQ4.len
      have hbx4 : Below v4.heap.size v4 (v4.alloc (.cells #[.slice ae4 P4.length ce4, .slice ax4 Q4.length cx4, .int .i64 n4] 27)) := by go_grown
      have hnx4 := heap_alloc_new v4 (.cells #[.slice ae4 P4.length ce4, .slice ax4 Q4.length cx4, .int .i64 n4] 27)
      obtain ⟨W4, hW4⟩ : ∃ W, v4.alloc (.cells #[.slice ae4 P4.length ce4, .slice ax4 Q4.length cx4, .int .i64 n4] 27) = W := ⟨_, rfl⟩
      rw [hW4] at hbx4 hnx4
      have st4 := sum_new v4 (.slice ae4 P4.length ce4) (.slice ax4 Q4.length cx4) (.int .i64 n4)
      rw [hW4] at st4
      have HA4 := Lib.hid hA4
      have HP4 := Lib.hid (hP4.on hbx4)
      have HR4 := Lib.hid (hQ4.on hbx4)
      have HX4 := Lib.hid hnx4
      have HB4 := Lib.hid ((HB3.out.on hb4).on hbx4)
      have HD4 := Lib.hid (hb4.on hbx4)
      clear hA4 hP4 hQ4 hb4 hbx4 hnx4 HQ4
      have hu1 : Sts W4 (.slice aE1 l1.length cE1) l1 := HE1.out.on HB4.out
      have hu2 : Sts W4 (.slice aE2 l2.length cE2) l2 := HE2.out.on HB4.out
      have hlt : l1.length + l2.length ≤ 1000000 := by have := HSH1.out.few; have := HSH2.out.few; omega
      have hd4 : Below W4.heap.size W4 W4.drew := (Below.refl W4.heap.size W4).drew
      have hA1 : Below W4.heap.size W4 (W4.drew.alloc (.cells #[.slice none 0 0, .slice none 0 0, .int .i64 0] 27)) := hd4.alloc hd4.size _
      have hA2 : Below W4.heap.size W4 ((W4.drew.alloc (.cells #[.slice none 0 0, .slice none 0 0, .int .i64 0] 27)).alloc (.cells #[] 36)) := hA1.alloc hA1.size _
      have hB1 : Below W4.heap.size W4 (W4.drew.alloc (.cells #[] 36)) := hd4.alloc hd4.size _
      have hB2 : Below W4.heap.size W4 ((W4.drew.alloc (.cells #[] 36)).alloc (.cells #[.slice none 0 0, .slice none 0 0, .int .i64 0] 27)) := hB1.alloc hB1.size _
      have RA0 : RowS W4 ((W4.drew.alloc (.cells #[.slice none 0 0, .slice none 0 0, .int .i64 0] 27)).alloc (.cells #[] 36)) (.slice (some ⟨W4.heap.size + 1, 0, none⟩) 0 0) [] := by have h := RowS.made hA1; rw [World.size_alloc] at h; exact h
      have zA0 : ((W4.drew.alloc (.cells #[.slice none 0 0, .slice none 0 0, .int .i64 0] 27)).alloc (.cells #[] 36)).heap[W4.heap.size]? = some (.cells #[.slice none 0 0, .slice none 0 0, .int .i64 0] 27 (0, 0)) := (Below.heap_alloc _ _ _ (by rw [World.size_alloc]; exact Nat.lt_succ_self _)).trans (heap_alloc_new W4.drew _)
      obtain ⟨aA1, cA1, WA1, eA1, RA1, zA1⟩ := RA0.app hu1 l1.length (by simp) (by omega)
      obtain ⟨aA2, cA2, WA2, eA2, RA2, zA2⟩ := RA1.app hu2 (l1.length + l2.length) rfl hlt
      have ZA := zA2 _ _ (zA1 _ _ zA0)
      have RB0 : RowS W4 (W4.drew.alloc (.cells #[] 36)) (.slice (some ⟨W4.heap.size, 0, none⟩) 0 0) [] := RowS.made hd4
      have RB1 := RB0.grow (.cells #[.slice none 0 0, .slice none 0 0, .int .i64 0] 27)
      have zB0 : ((W4.drew.alloc (.cells #[] 36)).alloc (.cells #[.slice none 0 0, .slice none 0 0, .int .i64 0] 27)).heap[W4.heap.size + 1]? = some (.cells #[.slice none 0 0, .slice none 0 0, .int .i64 0] 27 (0, 0)) := by have h := heap_alloc_new (W4.drew.alloc (.cells #[] 36)) (.cells #[.slice none 0 0, .slice none 0 0, .int .i64 0] 27); rw [World.size_alloc] at h; exact h
      obtain ⟨aB1, cB1, WB1, eB1, RB2, zB1⟩ := RB1.app hu1 l1.length (by simp) (by omega)
      obtain ⟨aB2, cB2, WB2, eB2, RB3, zB2⟩ := RB2.app hu2 (l1.length + l2.length) rfl hlt
      have ZB := zB2 _ _ (zB1 _ _ zB0)
      obtain ⟨aC1, cC1, WC1, eC1, RC1, _⟩ := RB0.app hu1 l1.length (by simp) (by omega)
      have RC1z := RC1.grow (.cells #[.slice none 0 0, .slice none 0 0, .int .i64 0] 27)
      obtain ⟨aC2, cC2, WC2, eC2, RC2, zC2⟩ := RC1z.app hu2 (l1.length + l2.length) rfl hlt
      have ZC := zC2 _ _ (heap_alloc_new WC1 _)
      obtain ⟨aD2, cD2, WD2, eD2, RD2, _⟩ := RC1.app hu2 (l1.length + l2.length) rfl hlt
      have RD2z := RD2.grow (.cells #[.slice none 0 0, .slice none 0 0, .int .i64 0] 27)
      have ZD := heap_alloc_new WD2 (.cells #[.slice none 0 0, .slice none 0 0, .int .i64 0] 27)
      rw [List.nil_append] at RA1 RB2 RC1 RC1z RA2 RB3 RC2 RD2 RD2z
      have eA1' : (appSt #[.slice (some ⟨W4.heap.size + 1, 0, none⟩) 0 0, .slice aE1 l1.length cE1]).run Try.prog ((W4.alloc (.cells #[.slice none 0 0, .slice none 0 0, .int .i64 0] 27)).alloc (.cells #[] 36)).drew = .ok (.slice aA1 l1.length cA1) WA1 := eA1
      have eB1' : (appSt #[.slice (some ⟨W4.heap.size, 0, none⟩) 0 0, .slice aE1 l1.length cE1]).run Try.prog ((W4.alloc (.cells #[] 36)).alloc (.cells #[.slice none 0 0, .slice none 0 0, .int .i64 0] 27)).drew = .ok (.slice aB1 l1.length cB1) WB1 := eB1
      have eC1' : (appSt #[.slice (some ⟨W4.heap.size, 0, none⟩) 0 0, .slice aE1 l1.length cE1]).run Try.prog (W4.alloc (.cells #[] 36)).drew = .ok (.slice aC1 l1.length cC1) WC1 := eC1
      have hA3 := RA1.1
      have hA4 := RA2.1
      have hB3 := RB2.1
      have hB4 := RB3.1
      have hC1 := RC1.1
      have hC2 := RC1z.1
      have hC3 := RC2.1
      have hD1 := RD2.1
      have hD2 := RD2z.1
      have HC := Lib.hid fun (W : World) (hb : Below W4.heap.size W4 W) => seg_cells HX1.out (HB4.out.on hb)
      obtain ⟨k0, k1, k2⟩ := HC.out _ hd4
      have HQ5 := Lib.hid fun (W : World) (v : Value) (h : RowS W4 W v (l1 ++ l2)) => (search_own (obj := s0.obj) (kind := s0.kind) (HO.out.on (HB4.out.on h.1)) h.sts (fun s hs => by
        rcases List.mem_append.1 hs with hs | hs
        · have := HSH1.out.each s hs; omega
        · have := HSH2.out.each s hs; omega) (by have := HSH1.out.few; have := HSH2.out.few; rw [List.length_append]; omega) 32768 (by omega) 32768 (by decide)).mono (R' := fun e v5 => ∃ ve vx n z, e = .returned (.tuple #[.agg #[ve, vx, .int .i64 n], .int .i64 z]) ∧ ∃ P Q, Ln.Ans s0.ops (l1 ++ l2) 32768 P Q n z ∧ StsOwn 0 v5 ve P ∧ StsOwn 0 v5 vx Q ∧ Below W.heap.size W v5 ∧ Below W4.heap.size W4 v5) fun _ _ ⟨ve, vx, n, z, e, P, Q, hA, h1, h2, _, hb⟩ => ⟨ve, vx, n, z, e, P, Q, hA, h1, h2, hb, h.1.on hb⟩
      clear zA0 zA1 zA2 zB0 zB1 zB2 zC2 RA0 RA1 RB0 RB1 RB2 RC1 RC1z hu1 hu2 d0 d1 d2
      go_wp2_with fail
      go_region_held3 (fun w' => w'.cell? ⟨w.heap.size, 0, none⟩ = some (.int .i64 s0.obj) ∧ w'.cell? ⟨w.heap.size, 1, none⟩ = some (.int .i64 s0.kind) ∧ w'.cell? ⟨w.heap.size, 2, none⟩ = some (.slice ao s0.ops.length co)) (first | (exact HC.out _ (by assumption)) | go_keep) (first | (go_at_call 9; (with_reducible refine (HQ5.out _ _ (by assumption)).mono ?_); rintro _ v5 ⟨ve5, vx5, n5, z5, rfl, P5, Q5, hA5, hP5, hQ5, hb5, hb45⟩; obtain ⟨ae5, ce5, rfl⟩ := hP5.reads.len; obtain ⟨ax5, cx5, rfl⟩ := hQ5.reads.len; have HA5 := Lib.hid hA5; first
        | (obtain ⟨W5, st5, hx5, hR5, hb55⟩ := put_in (U := W4) (ae := ae5) (ce := ce5) (P := P5) n5 hb45 (Nat.le_refl _) ((hb5.block _ (heap_inO ZA)).trans ZA) hQ5; have HX5 := Lib.hid hx5; have HR5 := Lib.hid hR5; clear hA5 hP5 hQ5 hb5 hx5 hR5)
        | (obtain ⟨W5, st5, hx5, hR5, hb55⟩ := put_in (U := W4) (ae := ae5) (ce := ce5) (P := P5) n5 hb45 (Nat.le_succ _) ((hb5.block _ (heap_inO ZB)).trans ZB) hQ5; have HX5 := Lib.hid hx5; have HR5 := Lib.hid hR5; clear hA5 hP5 hQ5 hb5 hx5 hR5)
        | (obtain ⟨W5, st5, hx5, hR5, hb55⟩ := put_in (U := W4) (ae := ae5) (ce := ce5) (P := P5) n5 hb45 hC1.size ((hb5.block _ (heap_inO ZC)).trans ZC) hQ5; have HX5 := Lib.hid hx5; have HR5 := Lib.hid hR5; clear hA5 hP5 hQ5 hb5 hx5 hR5)
        | (obtain ⟨W5, st5, hx5, hR5, hb55⟩ := put_in (U := W4) (ae := ae5) (ce := ce5) (P := P5) n5 hb45 hD1.size ((hb5.block _ (heap_inO ZD)).trans ZD) hQ5; have HX5 := Lib.hid hx5; have HR5 := Lib.hid hR5; clear hA5 hP5 hQ5 hb5 hx5 hR5)
        | (obtain ⟨W5, st5, hx5, hR5, hb55⟩ := put_new (U := W4) (ae := ae5) (ce := ce5) (P := P5) n5 hb45 hQ5; have hb56 := hb45.alloc hb45.size (.cells #[.slice none 0 0, .slice none 0 0, .int .i64 0] 27); have HX5 := Lib.hid hx5; have HR5 := Lib.hid hR5; clear hA5 hP5 hQ5 hb5 hx5 hR5)) | fail)
      all_goals
        have HB5 := Lib.hid hb55
        have HB45 := Lib.hid (HB4.out.on hb55)
        have HD5 := Lib.hid (HD4.out.on hb55)
        try clear st5
        try clear hb45
        try clear hb55
        try clear hb56
        try clear hA1
        try clear hA2
        try clear hA3
        try clear hA4
        try clear hB1
        try clear hB2
        try clear hB3
        try clear hB4
        try clear hC1
        try clear hC2
        try clear hC3
        try clear hD1
        try clear hD2
        try clear RA2
        try clear RB3
        try clear RC1
        try clear RC2
        try clear RD2
        try clear RD2z
        try clear ZA
        try clear ZB
        try clear ZC
        try clear ZD
        try clear eA1'
        try clear eB1'
        try clear eC1'
        try clear eA1
        try clear eB1
        try clear eC1
        try clear eA2
        try clear eB2
        try clear eC2
        try clear eD2
        try clear k0
        try clear k1
        try clear k2
        try clear hd4
        try clear HQ5
        obtain ⟨e0, e1, e2⟩ := sum_cells HX3.out HD5.out
        obtain ⟨f0, f1, f2⟩ := sum_cells HX4.out HB5.out
        obtain ⟨j0, j1, j2⟩ := sum_cells HX5.out (Below.refl W5.heap.size W5)
        by_cases hz : z3 = 0
        case neg =>
          have q1 : (z3 != 0) = true := bne_iff_ne.2 hz
          clear hz
          go_wp2_with fail
          refine (Ln.awake_any _).mono ?_
          rintro _ w9 ⟨rfl, hb9⟩
          have HB9 := Lib.hid (HB45.out.on hb9)
          clear hb9
          go_wp2_with fail
          go_returns
          exact ⟨rfl, HB1.out.on HB9.out⟩
        case pos =>
          subst hz
          by_cases hz : z4 = 0
          case neg =>
            have q1 : (z4 != 0) = true := bne_iff_ne.2 hz
            clear hz
            go_wp2_with fail
            refine (Ln.awake_any _).mono ?_
            rintro _ w9 ⟨rfl, hb9⟩
            have HB9 := Lib.hid (HB45.out.on hb9)
            clear hb9
            go_wp2_with fail
            go_returns
            exact ⟨rfl, HB1.out.on HB9.out⟩
          case pos =>
            subst hz
            by_cases hz : z5 = 0
            case neg =>
              have q1 : (z5 != 0) = true := bne_iff_ne.2 hz
              clear hz
              go_wp2_with fail
              refine (Ln.awake_any _).mono ?_
              rintro _ w9 ⟨rfl, hb9⟩
              have HB9 := Lib.hid (HB45.out.on hb9)
              clear hb9
              go_wp2_with fail
              go_returns
              exact ⟨rfl, HB1.out.on HB9.out⟩
            case pos =>
              subst hz
              obtain ⟨c1, c2, c3, c4⟩ := HA3.out.count (by omega) HUX.out.1 rfl
              obtain ⟨g1, g2, g3, g4⟩ := HA4.out.count (by omega) HUX.out.2.1 rfl
              obtain ⟨i1, i2, i3, i4⟩ := HA5.out.count (by omega) HUX.out.2.2 rfl
              obtain ⟨jj, l1', l2', l3'⟩ := ans_join HA3.out HA4.out HA5.out (by omega) (by decide) HUX.out.1 HUX.out.2.1 HUX.out.2.2 rfl rfl rfl
              have HJ := Lib.hid jj
              have HN := Lib.hid (And.intro c1 (And.intro c2 (And.intro g1 (And.intro g2 (And.intro l1' (And.intro l2' l3'))))))
              have HLQ := Lib.hid (show Q3.length ≤ 32768 ∧ Q4.length ≤ 32768 ∧ Q5.length ≤ 32768 by omega)
              clear c1 c2 c3 c4 g1 g2 g3 g4 i1 i2 i3 i4 jj l1' l2' l3'
              have hd5 : Below W5.heap.size W5 W5.drew := (Below.refl W5.heap.size W5).drew
              have hE1 : Below W5.heap.size W5 (W5.drew.alloc (.cells #[] 36)) := hd5.alloc hd5.size _
              have RE0 : RowS W5 (W5.drew.alloc (.cells #[] 36)) (.slice (some ⟨W5.heap.size, 0, none⟩) 0 0) [] := RowS.made hd5
              obtain ⟨b6, d6, X6, r6, RE1, _⟩ := RE0.app (HR3.out.on HD5.out) Q3.length (by simp) (by have := HLQ.out; omega)
              obtain ⟨b7, d7, X7, r7, RE2, _⟩ := RE1.app (HR4.out.on HB5.out) (Q3.length + Q4.length) rfl (by have := HLQ.out; omega)
              rw [List.nil_append] at RE1 RE2
              have r6' : (appSt #[.slice (some ⟨W5.heap.size, 0, none⟩) 0 0, .slice ax3 Q3.length cx3]).run Try.prog (W5.alloc (.cells #[] 36)).drew = .ok (.slice b6 Q3.length d6) X6 := r6
              have hE2 := RE1.1
              have hE3 := RE2.1
              have HE3 := Lib.hid RE2.1
              have HQU := Lib.hid (unique_any RE2.sts (fun s hs => (List.mem_append.1 hs).elim (HL3.out s) (HL4.out s)) (by have := HLQ.out; rw [List.length_append]; omega))
              have HS8 := Lib.hid fun (W : World) (hb : Below W5.heap.size W5 W) => And.intro (sum_cells HX3.out (HD5.out.on hb)).2.1 (sum_cells HX4.out (HB5.out.on hb)).2.1
              obtain ⟨k0, k1⟩ := HS8.out _ hd5
              clear RE0 RE1 RE2 e0 f0 j0
              go_wp2_with fail
              go_region_held3 (fun w' => w'.cell? ⟨v3.heap.size, 1, none⟩ = some (.slice ax3 Q3.length cx3) ∧ w'.cell? ⟨v4.heap.size, 1, none⟩ = some (.slice ax4 Q4.length cx4)) (first | (exact HS8.out _ (by assumption)) | go_keep) (first | (go_at_call 15; (with_reducible refine HQU.out.mono ?_); rintro _ w6 ⟨v6, rfl, u6, hO6, hU6, hb6⟩; have hb56 := HE3.out.on hb6; have HO6 := Lib.hid hO6; have HU6 := Lib.hid hU6) | fail)
              obtain ⟨a8, c8, rfl⟩ := HO6.out.reads.len
              clear e1 e2 f1 f2 j1 j2 k0 k1 hO6 hU6 hd5 hE1 hE2 hE3 r6 r6' r7 hb6
              obtain ⟨e0, e1, e2⟩ := sum_cells HX3.out (HD5.out.on hb56)
              obtain ⟨f0, f1, f2⟩ := sum_cells HX4.out (HB5.out.on hb56)
              obtain ⟨j0, j1, j2⟩ := sum_cells HX5.out hb56
              have HEQ := Lib.hid (HJ.out _ HU6.out)
              have HSS := Lib.hid (states_any (HR5.out.on hb56) HO6.out.reads (by have := HLQ.out; omega))
              have HB56 := Lib.hid hb56
              clear hb56
              go_wp2_with fail
              refine HSS.out.mono ?_
              rintro _ w7 ⟨rfl, hb7⟩
              rw [decide_eq_true HEQ.out]
              have HB7 := Lib.hid (HB56.out.on hb7)
              have HW7 := Lib.hid (HB45.out.on HB7.out)
              clear hb7 e0 e1 e2 f0 f1 f2 j0 j1 j2
              obtain ⟨e0, e1, e2⟩ := sum_cells HX3.out (HD5.out.on HB7.out)
              obtain ⟨f0, f1, f2⟩ := sum_cells HX4.out (HB5.out.on HB7.out)
              obtain ⟨j0, j1, j2⟩ := sum_cells HX5.out HB7.out
              have q2 : IntKind.i64.wrap (n3 + n4) = n3 + n4 := IntWalk.i64_in _ (by have := HN.out; omega)
              have q3 : n5 ≤ n3 + n4 := by have := HN.out; omega
              have q4 : max n3 n4 ≤ n5 := by have := HN.out; omega
              have q5 : n3 ≤ n5 := by have := HN.out; omega
              have q6 : n4 ≤ n5 := by have := HN.out; omega
              go_wp2_with fail
              refine (Ln.awake_any _).mono ?_
              rintro _ w9 ⟨rfl, hb9⟩
              have HB9 := Lib.hid (HW7.out.on hb9)
              clear hb9
              go_wp2_with fail
              go_returns
              exact ⟨rfl, HB1.out.on HB9.out⟩

set_option maxRecDepth 100000 in
theorem lifted (os : Os) (started : os.Started) (H : Type) (enc : TypeId × Value → H) :
    ReturnsInHanded {} Try.checked os 6 .any (Rows.linJoinsSpec.pre6 enc Try.prog Try.f6 Rows.linJoinsRow.domain false) (Rows.linJoinsSpec.post enc Try.prog Try.f6 false true false false) := by
  refine law_lift (C := Try.checked) own started (by kernel_rfl) Try.func6 laidOut (by kernel_rfl) rfl Try.underlying4 rfl
    (fun ds h => match ds, h with | [_, _, _], _ => rfl)
    (ChangeSpec.witness6 (enc := enc) (C := Try.checked) false ⟨#[], #[.agg #[.int .i64 0, .int .i64 0, .slice none 0 0], .slice none 0 0, .slice none 0 0], []⟩ 8 (by kernel_rfl) (by kernel_rfl) (by kernel_rfl) (by kernel_rfl)) ?_
  intro W base args ds ps hval hA hsz
  rw [Try.params6] at hA hval hsz
  obtain ⟨v0, vs0, d0, ds0, p0, q0, hargs, rfl, rfl, h0, r0⟩ := trodAll_cons hA
  obtain ⟨v1, vs1, d1, ds1, p1, q1, rfl, rfl, rfl, h1, r1⟩ := trodAll_cons r0
  obtain ⟨v2, vs2, d2, ds2, p2, q2, rfl, rfl, rfl, h2, r2⟩ := trodAll_cons r1
  obtain ⟨rfl, rfl, rfl⟩ := trodAll_nil r2
  obtain rfl : args = #[v0, v1, v2] := by cases args; simp_all
  obtain ⟨s0, u0, rfl, hl0⟩ := Ln.segp_open (hval 0 24 v0 rfl rfl) h0
  obtain ⟨l1, hl1, hz1⟩ := Ln.sts_open (hval 1 25 v1 rfl rfl) h1
  have n1 := hz1 fun n hn => of_decide_eq_true (List.all_eq_true.1 hsz _ (DataW.weights_mem_each (j := 1) rfl rfl n hn))
  obtain ⟨l2, hl2, hz2⟩ := Ln.sts_open (hval 2 25 v2 rfl rfl) h2
  have n2 := hz2 fun n hn => of_decide_eq_true (List.all_eq_true.1 hsz _ (DataW.weights_mem_each (j := 2) rfl rfl n hn))
  exact walk W s0 u0 hl0 v1 l1 hl1 n1 v2 l2 hl2 n2

theorem over : Rows.linJoinsRow.holds Try.pinned (OpenSpec.ofChange Rows.linJoinsSpec) :=
  OpenClaim.holds_of_wide 6 Try.f6 rfl rfl rfl rfl rfl rfl rfl ⟨rfl, rfl, rfl, rfl, rfl⟩ rfl rfl rfl rfl rfl (by kernel_rfl) Try.func6 (by kernel_rfl)
    (of_decide_eq_true (by kernel_rfl)) (by unfold Func.isWrapper; first | (rw [if_pos (by decide +kernel)]; kernel_rfl) | (rw [if_neg (by decide +kernel)]; exact ⟨rfl, rfl⟩))
    (fun os started H enc _ => lifted os started H enc)

theorem proved : Rows.LinJoinsSaid :=
  over
end Go.Proofs.Ytpooekmogfkkjaa.linJoins
