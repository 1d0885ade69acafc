/- Keys are in the order of their lists of numbers, and the chapter's examples hold: for every two lists. Conditions: none. -/
import Derived.Test.YtbfmadafiaofiaaKyF
import Derived.Test.YtbfmadafiaofiaaLaw
import Derived.BigQuiet
import Derived.Deep.QuietTactic
import Derived.Lib.QuietBelow
import Derived.Deep.DeepCutAuto
import Derived.Deep.CutBlock
namespace Go.Proofs.Ytbfmadafiaofiaa.keyRises
open Go.ChangeShapes Go.WideShapes Go.ChangeAt Go.RowKit Go.PlainAid
open Go.ChangeMaps (open_string)
open Go.Sort (grow)

theorem own : ownKnob Try.prog.godebug = none := by kernel_rfl
theorem laidOut : laidOutB Try.prog = true := by kernel_rfl
theorem ofV_few {l : List Int} (h : l.length ≤ 4) : ofV l = .tuple #[.string (keyS l), .int .i64 0] := if_neg (by omega)
theorem ofV_many {l : List Int} (h : ¬ l.length ≤ 4) : ofV l = .tuple #[.string ⟨#[]⟩, .int .i64 22] := if_pos (by omega)
set_option maxRecDepth 100000 in
set_option maxHeartbeats 800000 in
theorem walk (w : World) (v0 : Value) (l0 : List Int) (h0 : IntsOf w v0 l0) (v1 : Value) (l1 : List Int) (h1 : IntsOf w v1 l1) :
    Calls Try.prog 6 #[v0, v1] w fun e w' => e = .returned (.bool true) ∧ Below w.heap.size w w' := by
  have H0 := Lib.hid h0
  have H1 := Lib.hid h1
  have hless := key_less l0 l1 h0.inI h1.inI
  have heq := key_eq l0 l1 h0.inI h1.inI
  clear h0 h1
  by_cases hl : l0.length ≤ 4
  · have HV := Lib.hid (ofV_few hl)
    by_cases hm : l1.length ≤ 4
    · have HU := Lib.hid (ofV_few hm)
      clear hl hm
      obtain ⟨b, hb⟩ : ∃ b, befB l0 l1 = b := ⟨_, rfl⟩
      obtain ⟨c, hc⟩ : ∃ c, (l0 == l1) = c := ⟨_, rfl⟩
      rw [hb] at hless
      rw [hc] at heq
      have HB := Lib.hid hb
      have HC := Lib.hid hc
      clear hb hc
      have HL := Lib.hid hless
      have HQ := Lib.hid heq
      clear hless heq
      go_enter Try.func6, Try.ntmps6
      go_wp2_with fail
      refine (keyOf_any v0 l0 _ H0.out).mono ?_
      rintro _ w1 ⟨rfl, hb1⟩
      rw [HV.out]
      go_wp2_with fail
      refine (keyOf_any v1 l1 _ (H1.out.on hb1)).mono ?_
      rintro _ w2 ⟨rfl, hb2⟩
      rw [HU.out]
      have hless := HL.out
      have heq := HQ.out
      generalize keyS l0 = x at *
      generalize keyS l1 = y at *
      go_wp2_with fail
      refine (rbefore9_any v0 v1 l0 l1 _ (H0.out.on (hb1.on hb2)) (H1.out.on (hb1.on hb2))).mono ?_
      rintro _ w3 ⟨rfl, hb3⟩
      rw [HB.out]
      go_wp2_with fail
      refine (rints9_any v0 v1 l0 l1 _ (H0.out.on (hb1.on (hb2.on hb3))) (H1.out.on (hb1.on (hb2.on hb3)))).mono ?_
      rintro _ w4 ⟨rfl, hb4⟩
      rw [HC.out]
      go_wp2_with fail
      refine (awake_any _).mono ?_
      rintro _ w5 ⟨rfl, hb5⟩
      go_wp2
      go_returns
      exact ⟨rfl, hb1.on (hb2.on (hb3.on (hb4.on hb5)))⟩
    · have HU := Lib.hid (ofV_many hm)
      clear hl hm hless heq
      go_enter Try.func6, Try.ntmps6
      go_wp2_with fail
      refine (keyOf_any v0 l0 _ H0.out).mono ?_
      rintro _ w1 ⟨rfl, hb1⟩
      rw [HV.out]
      go_wp2_with fail
      refine (keyOf_any v1 l1 _ (H1.out.on hb1)).mono ?_
      rintro _ w2 ⟨rfl, hb2⟩
      rw [HU.out]
      go_wp2_with fail
      refine (awake_any _).mono ?_
      rintro _ w5 ⟨rfl, hb5⟩
      go_wp2
      go_returns
      exact ⟨rfl, hb1.on (hb2.on hb5)⟩
  · have HV := Lib.hid (ofV_many hl)
    obtain ⟨s, e, he⟩ : ∃ s e, ofV l1 = .tuple #[.string s, .int .i64 e] := by
      unfold ofV
      split
      · exact ⟨_, _, rfl⟩
      · exact ⟨_, _, rfl⟩
    have HU := Lib.hid he
    clear hl he hless heq
    go_enter Try.func6, Try.ntmps6
    go_wp2_with fail
    refine (keyOf_any v0 l0 _ H0.out).mono ?_
    rintro _ w1 ⟨rfl, hb1⟩
    rw [HV.out]
    go_wp2_with fail
    refine (keyOf_any v1 l1 _ (H1.out.on hb1)).mono ?_
    rintro _ w2 ⟨rfl, hb2⟩
    rw [HU.out]
    go_wp2_with fail
    refine (awake_any _).mono ?_
    rintro _ w5 ⟨rfl, hb5⟩
    go_wp2
    go_returns
    exact ⟨rfl, hb1.on (hb2.on hb5)⟩

set_option maxRecDepth 100000 in
theorem lifted (os : Os) (started : os.Started) (H : Type) (enc : TypeId × Value → H) :
    ReturnsInHanded {} Try.checked os 6 .any (Rows.keyRisesSpec.pre6 enc Try.prog Try.f6 Rows.keyRisesRow.domain false) (Rows.keyRisesSpec.post enc Try.prog Try.f6 false true false false) := by
  refine law_lift (C := Try.checked) own started (by kernel_rfl) Try.func6 laidOut (by kernel_rfl) rfl Try.underlying4 rfl
    (fun ds h => match ds, h with | [_, _], _ => rfl)
    (ChangeSpec.witness6 (enc := enc) (C := Try.checked) false ⟨#[], #[.slice none 0 0, .slice none 0 0], []⟩ 8 (by kernel_rfl) (by kernel_rfl) (by kernel_rfl) (by kernel_rfl)) ?_
  intro W base args ds ps hval hA hsz
  rw [Try.params6] at hA hval hsz
  obtain ⟨v0, vs0, d0, ds0, p0, q0, hargs, rfl, rfl, h0, r0⟩ := trodAll_cons hA
  obtain ⟨v1, vs1, d1, ds1, p1, q1, rfl, rfl, rfl, h1, r1⟩ := trodAll_cons r0
  obtain ⟨rfl, rfl, rfl⟩ := trodAll_nil r1
  obtain rfl : args = #[v0, v1] := by cases args; simp_all
  obtain ⟨l0, hl0⟩ := ints_open (hval 0 22 v0 rfl rfl) h0
  obtain ⟨l1, hl1⟩ := ints_open (hval 1 22 v1 rfl rfl) h1
  exact walk W v0 l0 hl0 v1 l1 hl1

theorem over : Rows.keyRisesRow.holds Try.pinned (OpenSpec.ofChange Rows.keyRisesSpec) :=
  OpenClaim.holds_of_wide 6 Try.f6 rfl rfl rfl rfl rfl rfl rfl ⟨rfl, rfl, rfl, rfl, rfl⟩ rfl rfl rfl rfl rfl (by kernel_rfl) Try.func6 (by kernel_rfl)
    (of_decide_eq_true (by kernel_rfl)) (by unfold Func.isWrapper; first | (rw [if_pos (by decide +kernel)]; kernel_rfl) | (rw [if_neg (by decide +kernel)]; exact ⟨rfl, rfl⟩))
    (fun os started H enc _ => lifted os started H enc)

theorem proved : Rows.KeyRisesSaid :=
  over
end Go.Proofs.Ytbfmadafiaofiaa.keyRises
