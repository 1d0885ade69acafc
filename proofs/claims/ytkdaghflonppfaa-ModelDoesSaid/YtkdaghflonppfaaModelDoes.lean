/- What every operation does with every state (a rising one, if it is a set's), its answer, and each kind's first state, are the document's, and the chapter's examples hold. Conditions: none. -/
import Derived.Test.YtkdaghflonppfaaMoP
import Derived.Test.YtkdaghflonppfaaMoQ
import Derived.Test.YtkdaghflonppfaaMoV
import Derived.Deep.RegionHeld3
import Derived.Test.YtkdaghflonppfaaLaw
import Derived.BigQuiet
import Derived.Deep.QuietTactic
import Derived.Lib.QuietBelow
import Derived.Deep.DeepCutAuto
import Derived.Deep.CutBlock
namespace Go.Proofs.Ytkdaghflonppfaa.modelDoes
open Go.ChangeShapes Go.WideShapes Go.ChangeAt Go.RowKit Go.PlainAid
open Go.ChangeMaps (open_string)
open Go.Sort (grow)

theorem own : ownKnob Try.prog.godebug = none := by kernel_rfl
theorem laidOut : laidOutB Try.prog = true := by kernel_rfl
attribute [local go_sem ↓ high] load_op store_d
set_option maxRecDepth 100000 in
set_option maxHeartbeats 16000000 in
theorem walk (w : World) (v0 : Value) (l0 : List Int) (h0 : IntsC w v0 l0) (n0 : l0.length ≤ 17592186043904) (o1 : OpV) (w1 : o1.Wf) :
    Calls Try.prog 3 #[v0, Value.agg #[Value.int .i64 o1.id, Value.int .i64 o1.proc, Value.int .i64 o1.obj, Value.int .i64 o1.kind, Value.int .i64 o1.meth, Value.int .i64 o1.arg, Value.int .i64 o1.sec, Value.bool o1.done, Value.int .i64 o1.res, Value.int .i64 o1.inv, Value.int .i64 o1.ret]] w fun e w' => e = .returned (.bool true) ∧ Below w.heap.size w w' := by
  have u1 := w1
  clear u1
  have HB : Below w.heap.size w (w.alloc (.cells #[Value.int .i64 o1.id, Value.int .i64 o1.proc, Value.int .i64 o1.obj, Value.int .i64 o1.kind, Value.int .i64 o1.meth, Value.int .i64 o1.arg, Value.int .i64 o1.sec, Value.bool o1.done, Value.int .i64 o1.res, Value.int .i64 o1.inv, Value.int .i64 o1.ret] 24)) := by go_grown
  have hop := OpAt.box w o1
  have h00 := h0.on HB
  obtain ⟨W1, hW1⟩ : ∃ W1, w.alloc (.cells #[Value.int .i64 o1.id, Value.int .i64 o1.proc, Value.int .i64 o1.obj, Value.int .i64 o1.kind, Value.int .i64 o1.meth, Value.int .i64 o1.arg, Value.int .i64 o1.sec, Value.bool o1.done, Value.int .i64 o1.res, Value.int .i64 o1.inv, Value.int .i64 o1.ret] 24) = W1 := ⟨_, rfl⟩
  rw [hW1] at hop HB h00
  have H0 := Lib.hid h00
  have HB1 := Lib.hid HB
  have HP := Lib.hid hop
  have HN := Lib.hid (And.intro n0 w1)
  have l1 := hop.load
  have k3 := hop.cell.2.2.2.1
  clear HB h0 h00 hop n0 w1
  by_cases hk : o1.kind = 5
  · rw [hk] at k3
    cases hr : risesB l0 with
    | false =>
      have HR := Lib.hid hr
      clear hk hr
      go_enter Try.func3, Try.ntmps3
      go_wp2_with fail
      refine (rrising_any v0 l0 _ H0.out.ints).mono ?_
      rintro _ w2 ⟨rfl, hb2⟩
      rw [HR.out]
      go_wp2_with fail
      refine (awake_any _).mono ?_
      rintro _ w3 ⟨rfl, hb3⟩
      go_wp2_with fail
      go_returns
      exact ⟨rfl, HB1.out.on (hb2.on hb3)⟩
    | true =>
      have HR := Lib.hid hr
      have HG : Hid (o1.kind = 5 → risesB l0 = true) := fun _ => HR.out
      clear hk hr
      rcases hA : doC o1 l0 with ⟨A, n, b⟩
      have HA := Lib.hid hA
      clear hA
      go_enter Try.func3, Try.ntmps3
      go_wp2_with fail
      refine (rrising_any v0 l0 _ H0.out.ints).mono ?_
      rintro _ w1 ⟨rfl, hb1⟩
      rw [HR.out]
      have H01 := Lib.hid (H0.out.on hb1)
      have HB11 := Lib.hid (HB1.out.on hb1)
      have HP1 := Lib.hid (HP.out.on hb1)
      clear l1 k3 hb1
      have l1 := HP1.out.load
      have k3 : (1 : Nat) = 1 := rfl
      go_wp2_with fail
      refine (mdo_any o1 HN.out.2 H01.out.ints (by have := HN.out.1; omega)).mono ?_
      rintro _ w2 ⟨v2, rfl, ho2, hb2⟩
      rw [HA.out] at ho2 ⊢
      have HO2 := Lib.hid ho2
      have HB2 := Lib.hid (HB11.out.on hb2)
      have HP2 := Lib.hid (HP1.out.on hb2)
      have H02 := Lib.hid (H01.out.on hb2)
      clear l1 k3 ho2 hb2
      have l2 := HP2.out.load
      go_wp2_with fail
      refine (rdo_any o1 HN.out.2 H02.out.ints H02.out.cap HG.out (by have := HN.out.1; omega)).mono ?_
      rintro _ w3 ⟨v3, rfl, ⟨hi3, hc3⟩, hb3⟩
      rw [HA.out] at hi3 ⊢
      obtain ⟨ao3, cap3, hv3, _⟩ := hi3.parts
      subst hv3
      have hba : Below w3.heap.size w3 (w3.alloc (.cells #[.slice none 0 0, .int .i64 0, .bool false] 30)) := by go_grown
      obtain ⟨W4, hst, hd⟩ := done_store (wr := w3.alloc (.cells #[.slice none 0 0, .int .i64 0, .bool false] 30)) (b := w3.heap.size) ⟨_, heap_alloc_new _ _, rfl⟩ (.slice ao3 A.length cap3) n b rfl
      have hb4 : Below w3.heap.size w3 W4 := hba.trans hd.below
      have HI4 := Lib.hid (hi3.on hb4)
      have HO4 := Lib.hid (HO2.out.on (hb3.on hb4)).reads
      have HB4 := Lib.hid (HB2.out.on (hb3.on hb4))
      have hlt3 : w3.heap.size < W4.heap.size := heap_inO hd.blk
      have HS : Hid (∀ W', Below W4.heap.size W4 W' → W'.cell? ⟨w3.heap.size, 0, none⟩ = some (.slice ao3 A.length cap3) ∧ W'.cell? ⟨w3.heap.size, 1, none⟩ = some (.int .i64 n) ∧ W'.cell? ⟨w3.heap.size, 2, none⟩ = some (.bool b) ∧ W'.cell? ⟨w.heap.size, 3, none⟩ = some (.int .i64 o1.kind)) := fun W' hb =>
        ⟨(hb.cell (p := ⟨w3.heap.size, 0, none⟩) hlt3).trans hd.c0, (hb.cell (p := ⟨w3.heap.size, 1, none⟩) hlt3).trans hd.c1, (hb.cell (p := ⟨w3.heap.size, 2, none⟩) hlt3).trans hd.c2, ((HP2.out.on (hb3.on hb4)).on hb).cell.2.2.2.1⟩
      clear hi3 hc3 hb3 hba hd hb4 hlt3 l2
      have HAA := Lib.hid (beq_self_eq_true A)
      have HFC := Lib.hid (beq_self_eq_true (firstC o1.kind))
      obtain ⟨e0, e1, e2, e3⟩ := HS.out W4 (Below.refl _ _)
      obtain ⟨d0, d1, d2, d3⟩ := HS.out W4.drew (Below.refl _ _).drew
      go_wp2_with fail
      cases b
      · go_region_held3 (fun w' => w'.cell? ⟨w3.heap.size, 0, none⟩ = some (.slice ao3 A.length cap3) ∧ w'.cell? ⟨w3.heap.size, 1, none⟩ = some (.int .i64 n) ∧ w'.cell? ⟨w3.heap.size, 2, none⟩ = some (.bool false) ∧ w'.cell? ⟨w.heap.size, 3, none⟩ = some (.int .i64 o1.kind)) (go_keep)
          (first
          | (go_at_call 14; (with_reducible refine (mfirst_any _ _).mono ?_); rintro _ w6 ⟨v6, rfl, hf6, hb6⟩; have HF6 := Lib.hid hf6; have HB6 := Lib.hid (HB5.out.on hb6); have HD6 := Lib.hid hb6; obtain ⟨e0, e1, e2, e3⟩ := HS.out w6 HB6.out; clear hf6 hb6)
          | (go_at_call 15; (with_reducible refine (rfirst_any _ _).mono ?_); rintro _ w7 ⟨v7, rfl, hf7, hb7⟩; have HF7 := Lib.hid hf7; have HB7 := Lib.hid (HB6.out.on hb7); have HD7 := Lib.hid hb7; obtain ⟨e0, e1, e2, e3⟩ := HS.out w7 HB7.out; clear hf7 hb7)
          | (go_at_call 10; (with_reducible refine (awake_any _).mono ?_); rintro _ w9 ⟨rfl, hb9⟩; have HB9 := Lib.hid (HB8.out.on hb9); obtain ⟨e0, e1, e2, e3⟩ := HS.out w9 HB9.out; clear hb9)
          | (go_at_call 13; (with_reducible refine (rints_any v2 _ A A _ ?_ ?_).mono ?_); exact HO4.out.on (Below.refl W4.heap.size W4).drew; exact HI4.out.on (Below.refl W4.heap.size W4).drew; rintro _ w5 ⟨rfl, hb5⟩; rw [HAA.out]; have HB5 := Lib.hid ((Below.refl W4.heap.size W4).drew.on hb5); obtain ⟨e0, e1, e2, e3⟩ := HS.out w5 HB5.out; clear hb5)
          | (go_at_call 13; (with_reducible refine (rints_any v6 v7 (firstC o1.kind) (firstC o1.kind) _ (HF6.out.on HD7.out) HF7.out).mono ?_); rintro _ w8 ⟨rfl, hb8⟩; rw [HFC.out]; have HB8 := Lib.hid (HB7.out.on hb8); obtain ⟨e0, e1, e2, e3⟩ := HS.out w8 HB8.out; clear hb8)
          | fail)
        all_goals go_wp2_with fail
        all_goals go_returns
        all_goals exact ⟨rfl, HB4.out.on HB9.out⟩
      · go_region_held3 (fun w' => w'.cell? ⟨w3.heap.size, 0, none⟩ = some (.slice ao3 A.length cap3) ∧ w'.cell? ⟨w3.heap.size, 1, none⟩ = some (.int .i64 n) ∧ w'.cell? ⟨w3.heap.size, 2, none⟩ = some (.bool true) ∧ w'.cell? ⟨w.heap.size, 3, none⟩ = some (.int .i64 o1.kind)) (go_keep)
          (first
          | (go_at_call 14; (with_reducible refine (mfirst_any _ _).mono ?_); rintro _ w6 ⟨v6, rfl, hf6, hb6⟩; have HF6 := Lib.hid hf6; have HB6 := Lib.hid (HB5.out.on hb6); have HD6 := Lib.hid hb6; obtain ⟨e0, e1, e2, e3⟩ := HS.out w6 HB6.out; clear hf6 hb6)
          | (go_at_call 15; (with_reducible refine (rfirst_any _ _).mono ?_); rintro _ w7 ⟨v7, rfl, hf7, hb7⟩; have HF7 := Lib.hid hf7; have HB7 := Lib.hid (HB6.out.on hb7); have HD7 := Lib.hid hb7; obtain ⟨e0, e1, e2, e3⟩ := HS.out w7 HB7.out; clear hf7 hb7)
          | (go_at_call 10; (with_reducible refine (awake_any _).mono ?_); rintro _ w9 ⟨rfl, hb9⟩; have HB9 := Lib.hid (HB8.out.on hb9); obtain ⟨e0, e1, e2, e3⟩ := HS.out w9 HB9.out; clear hb9)
          | (go_at_call 13; (with_reducible refine (rints_any v2 _ A A _ ?_ ?_).mono ?_); exact HO4.out.on (Below.refl W4.heap.size W4).drew; exact HI4.out.on (Below.refl W4.heap.size W4).drew; rintro _ w5 ⟨rfl, hb5⟩; rw [HAA.out]; have HB5 := Lib.hid ((Below.refl W4.heap.size W4).drew.on hb5); obtain ⟨e0, e1, e2, e3⟩ := HS.out w5 HB5.out; clear hb5)
          | (go_at_call 13; (with_reducible refine (rints_any v6 v7 (firstC o1.kind) (firstC o1.kind) _ (HF6.out.on HD7.out) HF7.out).mono ?_); rintro _ w8 ⟨rfl, hb8⟩; rw [HFC.out]; have HB8 := Lib.hid (HB7.out.on hb8); obtain ⟨e0, e1, e2, e3⟩ := HS.out w8 HB8.out; clear hb8)
          | fail)
        all_goals go_wp2_with fail
        all_goals go_returns
        all_goals exact ⟨rfl, HB4.out.on HB9.out⟩
  · have q5 : (o1.kind == 5) = false := beq_eq_false_iff_ne.2 hk
    have HG : Hid (o1.kind = 5 → risesB l0 = true) := fun e => absurd e hk
    clear hk
    rcases hA : doC o1 l0 with ⟨A, n, b⟩
    have HA := Lib.hid hA
    clear hA
    go_enter Try.func3, Try.ntmps3
    go_wp2_with fail
    refine (mdo_any o1 HN.out.2 H0.out.ints (by have := HN.out.1; omega)).mono ?_
    rintro _ w2 ⟨v2, rfl, ho2, hb2⟩
    rw [HA.out] at ho2 ⊢
    have HO2 := Lib.hid ho2
    have HB2 := Lib.hid (HB1.out.on hb2)
    have HP2 := Lib.hid (HP.out.on hb2)
    have H02 := Lib.hid (H0.out.on hb2)
    clear l1 k3 q5 ho2 hb2
    have l2 := HP2.out.load
    go_wp2_with fail
    refine (rdo_any o1 HN.out.2 H02.out.ints H02.out.cap HG.out (by have := HN.out.1; omega)).mono ?_
    rintro _ w3 ⟨v3, rfl, ⟨hi3, hc3⟩, hb3⟩
    rw [HA.out] at hi3 ⊢
    obtain ⟨ao3, cap3, hv3, _⟩ := hi3.parts
    subst hv3
    have hba : Below w3.heap.size w3 (w3.alloc (.cells #[.slice none 0 0, .int .i64 0, .bool false] 30)) := by go_grown
    obtain ⟨W4, hst, hd⟩ := done_store (wr := w3.alloc (.cells #[.slice none 0 0, .int .i64 0, .bool false] 30)) (b := w3.heap.size) ⟨_, heap_alloc_new _ _, rfl⟩ (.slice ao3 A.length cap3) n b rfl
    have hb4 : Below w3.heap.size w3 W4 := hba.trans hd.below
    have HI4 := Lib.hid (hi3.on hb4)
    have HO4 := Lib.hid (HO2.out.on (hb3.on hb4)).reads
    have HB4 := Lib.hid (HB2.out.on (hb3.on hb4))
    have hlt3 : w3.heap.size < W4.heap.size := heap_inO hd.blk
    have HS : Hid (∀ W', Below W4.heap.size W4 W' → W'.cell? ⟨w3.heap.size, 0, none⟩ = some (.slice ao3 A.length cap3) ∧ W'.cell? ⟨w3.heap.size, 1, none⟩ = some (.int .i64 n) ∧ W'.cell? ⟨w3.heap.size, 2, none⟩ = some (.bool b) ∧ W'.cell? ⟨w.heap.size, 3, none⟩ = some (.int .i64 o1.kind)) := fun W' hb =>
      ⟨(hb.cell (p := ⟨w3.heap.size, 0, none⟩) hlt3).trans hd.c0, (hb.cell (p := ⟨w3.heap.size, 1, none⟩) hlt3).trans hd.c1, (hb.cell (p := ⟨w3.heap.size, 2, none⟩) hlt3).trans hd.c2, ((HP2.out.on (hb3.on hb4)).on hb).cell.2.2.2.1⟩
    clear hi3 hc3 hb3 hba hd hb4 hlt3 l2
    have HAA := Lib.hid (beq_self_eq_true A)
    have HFC := Lib.hid (beq_self_eq_true (firstC o1.kind))
    obtain ⟨e0, e1, e2, e3⟩ := HS.out W4 (Below.refl _ _)
    obtain ⟨d0, d1, d2, d3⟩ := HS.out W4.drew (Below.refl _ _).drew
    go_wp2_with fail
    cases b
    · go_region_held3 (fun w' => w'.cell? ⟨w3.heap.size, 0, none⟩ = some (.slice ao3 A.length cap3) ∧ w'.cell? ⟨w3.heap.size, 1, none⟩ = some (.int .i64 n) ∧ w'.cell? ⟨w3.heap.size, 2, none⟩ = some (.bool false) ∧ w'.cell? ⟨w.heap.size, 3, none⟩ = some (.int .i64 o1.kind)) (go_keep)
        (first
        | (go_at_call 14; (with_reducible refine (mfirst_any _ _).mono ?_); rintro _ w6 ⟨v6, rfl, hf6, hb6⟩; have HF6 := Lib.hid hf6; have HB6 := Lib.hid (HB5.out.on hb6); have HD6 := Lib.hid hb6; obtain ⟨e0, e1, e2, e3⟩ := HS.out w6 HB6.out; clear hf6 hb6)
        | (go_at_call 15; (with_reducible refine (rfirst_any _ _).mono ?_); rintro _ w7 ⟨v7, rfl, hf7, hb7⟩; have HF7 := Lib.hid hf7; have HB7 := Lib.hid (HB6.out.on hb7); have HD7 := Lib.hid hb7; obtain ⟨e0, e1, e2, e3⟩ := HS.out w7 HB7.out; clear hf7 hb7)
        | (go_at_call 10; (with_reducible refine (awake_any _).mono ?_); rintro _ w9 ⟨rfl, hb9⟩; have HB9 := Lib.hid (HB8.out.on hb9); obtain ⟨e0, e1, e2, e3⟩ := HS.out w9 HB9.out; clear hb9)
        | (go_at_call 13; (with_reducible refine (rints_any v2 _ A A _ ?_ ?_).mono ?_); exact HO4.out.on (Below.refl W4.heap.size W4).drew; exact HI4.out.on (Below.refl W4.heap.size W4).drew; rintro _ w5 ⟨rfl, hb5⟩; rw [HAA.out]; have HB5 := Lib.hid ((Below.refl W4.heap.size W4).drew.on hb5); obtain ⟨e0, e1, e2, e3⟩ := HS.out w5 HB5.out; clear hb5)
        | (go_at_call 13; (with_reducible refine (rints_any v6 v7 (firstC o1.kind) (firstC o1.kind) _ (HF6.out.on HD7.out) HF7.out).mono ?_); rintro _ w8 ⟨rfl, hb8⟩; rw [HFC.out]; have HB8 := Lib.hid (HB7.out.on hb8); obtain ⟨e0, e1, e2, e3⟩ := HS.out w8 HB8.out; clear hb8)
        | fail)
      all_goals go_wp2_with fail
      all_goals go_returns
      all_goals exact ⟨rfl, HB4.out.on HB9.out⟩
    · go_region_held3 (fun w' => w'.cell? ⟨w3.heap.size, 0, none⟩ = some (.slice ao3 A.length cap3) ∧ w'.cell? ⟨w3.heap.size, 1, none⟩ = some (.int .i64 n) ∧ w'.cell? ⟨w3.heap.size, 2, none⟩ = some (.bool true) ∧ w'.cell? ⟨w.heap.size, 3, none⟩ = some (.int .i64 o1.kind)) (go_keep)
        (first
        | (go_at_call 14; (with_reducible refine (mfirst_any _ _).mono ?_); rintro _ w6 ⟨v6, rfl, hf6, hb6⟩; have HF6 := Lib.hid hf6; have HB6 := Lib.hid (HB5.out.on hb6); have HD6 := Lib.hid hb6; obtain ⟨e0, e1, e2, e3⟩ := HS.out w6 HB6.out; clear hf6 hb6)
        | (go_at_call 15; (with_reducible refine (rfirst_any _ _).mono ?_); rintro _ w7 ⟨v7, rfl, hf7, hb7⟩; have HF7 := Lib.hid hf7; have HB7 := Lib.hid (HB6.out.on hb7); have HD7 := Lib.hid hb7; obtain ⟨e0, e1, e2, e3⟩ := HS.out w7 HB7.out; clear hf7 hb7)
        | (go_at_call 10; (with_reducible refine (awake_any _).mono ?_); rintro _ w9 ⟨rfl, hb9⟩; have HB9 := Lib.hid (HB8.out.on hb9); obtain ⟨e0, e1, e2, e3⟩ := HS.out w9 HB9.out; clear hb9)
        | (go_at_call 13; (with_reducible refine (rints_any v2 _ A A _ ?_ ?_).mono ?_); exact HO4.out.on (Below.refl W4.heap.size W4).drew; exact HI4.out.on (Below.refl W4.heap.size W4).drew; rintro _ w5 ⟨rfl, hb5⟩; rw [HAA.out]; have HB5 := Lib.hid ((Below.refl W4.heap.size W4).drew.on hb5); obtain ⟨e0, e1, e2, e3⟩ := HS.out w5 HB5.out; clear hb5)
        | (go_at_call 13; (with_reducible refine (rints_any v6 v7 (firstC o1.kind) (firstC o1.kind) _ (HF6.out.on HD7.out) HF7.out).mono ?_); rintro _ w8 ⟨rfl, hb8⟩; rw [HFC.out]; have HB8 := Lib.hid (HB7.out.on hb8); obtain ⟨e0, e1, e2, e3⟩ := HS.out w8 HB8.out; clear hb8)
        | fail)
      all_goals go_wp2_with fail
      all_goals go_returns
      all_goals exact ⟨rfl, HB4.out.on HB9.out⟩

set_option maxRecDepth 100000 in
theorem lifted (os : Os) (started : os.Started) (H : Type) (enc : TypeId × Value → H) :
    ReturnsInHanded {} Try.checked os 3 .any (Rows.modelDoesSpec.pre6 enc Try.prog Try.f3 Rows.modelDoesRow.domain false) (Rows.modelDoesSpec.post enc Try.prog Try.f3 false true false false) := by
  refine law_lift (C := Try.checked) own started (by kernel_rfl) Try.func3 laidOut (by kernel_rfl) rfl Try.underlying4 rfl
    (fun ds h => match ds, h with | [_, _], _ => rfl)
    (ChangeSpec.witness6 (enc := enc) (C := Try.checked) false ⟨#[], #[.slice none 0 0, .agg #[.int .i64 0, .int .i64 0, .int .i64 0, .int .i64 0, .int .i64 0, .int .i64 0, .int .i64 0, .bool false, .int .i64 0, .int .i64 0, .int .i64 0]], []⟩ 8 (by kernel_rfl) (by kernel_rfl) (by kernel_rfl) (by kernel_rfl)) ?_
  intro W base args ds ps hval hA hsz
  rw [Try.params3] at hA hval hsz
  obtain ⟨v0, vs0, d0, ds0, p0, q0, hargs, rfl, rfl, h0, r0⟩ := trodAll_cons hA
  obtain ⟨v1, vs1, d1, ds1, p1, q1, rfl, rfl, rfl, h1, r1⟩ := trodAll_cons r0
  obtain ⟨rfl, rfl, rfl⟩ := trodAll_nil r1
  obtain rfl : args = #[v0, v1] := by cases args; simp_all
  obtain ⟨l0, hl0, hc0, hz0⟩ := ints_openC (hval 0 22 v0 rfl rfl) h0
  have n0 : l0.length ≤ 17592186043904 := by
    rcases hz0 with rfl | ⟨el, rest, rfl, hel⟩
    · exact Nat.zero_le _
    · have this : (el.length + rest.length) * Try.prog.bytesOf 3 ≤ reachBytes := sized_slice hsz (j := 0) rfl rfl Try.underlying22
      have h8 : Try.prog.bytesOf 3 = 8 := by kernel_rfl
      rw [h8] at this
      simp only [reachBytes] at this
      omega
  obtain ⟨o1, rfl, w1⟩ := op_open (hval 1 24 v1 rfl rfl) h1
  exact walk W v0 l0 ⟨hl0, hc0⟩ n0 o1 w1

theorem over : Rows.modelDoesRow.holds Try.pinned (OpenSpec.ofChange Rows.modelDoesSpec) :=
  OpenClaim.holds_of_wide 3 Try.f3 rfl rfl rfl rfl rfl rfl rfl ⟨rfl, rfl, rfl, rfl, rfl⟩ rfl rfl rfl rfl rfl (by kernel_rfl) Try.func3 (by kernel_rfl)
    (of_decide_eq_true (by kernel_rfl)) (by unfold Func.isWrapper; first | (rw [if_pos (by decide +kernel)]; kernel_rfl) | (rw [if_neg (by decide +kernel)]; exact ⟨rfl, rfl⟩))
    (fun os started H enc _ => lifted os started H enc)

theorem proved : Rows.ModelDoesSaid :=
  over
end Go.Proofs.Ytkdaghflonppfaa.modelDoes
