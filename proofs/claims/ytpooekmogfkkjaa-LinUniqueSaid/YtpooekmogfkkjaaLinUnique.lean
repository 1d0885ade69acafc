/- States, each once, in the order of their texts, are the document's, and the chapter's examples hold: for every list of states (of more than 60 states the examples alone are asked, of more than 600 numbers nothing). Conditions: none. -/
import Derived.Test.YtpooekmogfkkjaaSLoA
import Derived.Test.YtpooekmogfkkjaaSLoB
import Derived.Test.YtpooekmogfkkjaaSLnY
import Derived.Test.YtpooekmogfkkjaaLaw
import Derived.BigQuiet
import Derived.Deep.QuietTactic
import Derived.Lib.QuietBelow
import Derived.Deep.DeepCutAuto
import Derived.Deep.CutBlock
namespace Go.Proofs.Ytpooekmogfkkjaa.linUnique
open Go.ChangeShapes Go.WideShapes Go.ChangeAt Go.RowKit Go.PlainAid
open Go.ChangeMaps (open_string)
open Go.Sort (grow)

theorem own : ownKnob Try.prog.godebug = none := by kernel_rfl
theorem laidOut : laidOutB Try.prog = true := by kernel_rfl
open Ln
theorem mem_le_sum : ∀ (l : List Nat) (x : Nat), x ∈ l → x ≤ l.sum
  | y :: r, x, h => by
    rw [List.sum_cons]
    rcases List.mem_cons.1 h with rfl | h
    · omega
    · have := mem_le_sum r x h; omega
set_option maxRecDepth 100000 in
set_option maxHeartbeats 4000000 in
theorem walk (w : World) (v0 : Value) (l0 : List (List Int)) (h0 : Ln.StsC w v0 l0) (n0 : ∀ s ∈ l0, s.length ≤ 17592186044416) :
    Calls Try.prog 4 #[v0] w fun e w' => e = .returned (.bool true) ∧ Below w.heap.size w w' := by
  have hs := h0.sts
  obtain ⟨al, cl, rfl⟩ := hs.len
  have H := Lib.hid hs
  clear h0 hs
  by_cases hl : 60 < l0.length
  · have q0 : decide ((l0.length : Int) > 60) = true := decide_eq_true (by omega)
    have q00 : ((60 : Int) < (l0.length : Int)) = True := eq_true (by omega)
    clear hl
    go_enter Try.func4, Try.ntmps4
    go_wp2_with fail
    refine (Ln.awake_any _).mono ?_
    rintro _ w2 ⟨rfl, hb2⟩
    go_wp2_with fail
    go_returns
    exact ⟨rfl, hb2⟩
  have q0 : decide ((l0.length : Int) > 60) = false := decide_eq_false (by omega)
  have q00 : ((60 : Int) < (l0.length : Int)) = False := eq_false (by omega)
  have HL := Lib.hid (show l0.length ≤ 60 by omega)
  clear hl
  have HB := Lib.hid n0
  clear n0
  have hsum : ∀ i, i ≤ l0.length → ((l0.take i).map List.length).sum ≤ 17592186044416 * i := fun i => by
    induction i with
    | zero => intro _; simp
    | succ i ih =>
      intro hi
      obtain ⟨s, hs⟩ : ∃ s, l0[i]? = some s := ⟨_, List.getElem?_eq_getElem (by omega)⟩
      have := HB.out s (List.mem_of_getElem? hs)
      have := ih (by omega)
      rw [take_succ hs, List.map_append, List.sum_append]
      simp only [List.map_cons, List.map_nil, List.sum_cons, List.sum_nil]
      omega
  have HSU := Lib.hid hsum
  clear hsum
  go_enter Try.func4, Try.ntmps4
  go_wp2_with fail
  go_loopw [3, 4] (fun s3 s4 wr => ∃ i : Nat, s4 = .int .i64 i ∧ s3 = .int .i64 (((l0.take i).map List.length).sum : Nat) ∧ i ≤ l0.length ∧ wr = w) (fun _ s4 _ => l0.length - (intOf s4).toNat)
  case atStart => exact ⟨0, rfl, rfl, Nat.zero_le _, rfl⟩
  case round =>
    obtain ⟨i, rfl, rfl, hi, hw⟩ := hrel
    rename World => wq
    subst hw
    by_cases hil : i < l0.length
    · have q1 : (i : Int) < (l0.length : Int) := by omega
      have q2 : IntKind.i64.wrap ((i : Int) + 1) = (i : Int) + 1 := IntWalk.i64_in _ (by have := HL.out; omega)
      obtain ⟨s, hs⟩ : ∃ s, l0[i]? = some s := ⟨_, List.getElem?_eq_getElem hil⟩
      obtain ⟨b, p, cap, u, hveq, hlt, hc, hu⟩ := H.out.at hs
      obtain rfl : al = some ⟨b, p, none⟩ := by cases hveq; rfl
      obtain ⟨au, cu, rfl, _⟩ := hu.parts
      have hnx : ((l0.take (i + 1)).map List.length).sum = ((l0.take i).map List.length).sum + s.length := by
        rw [take_succ hs, List.map_append, List.sum_append]
        simp
      have hb1 := HSU.out (i + 1) (by omega)
      have HNX := Lib.hid hnx
      rw [hnx] at hb1
      clear hnx hveq hs hlt hu
      generalize ((l0.take i).map List.length).sum = n at hb1 HNX ⊢
      have q3 : IntKind.i64.wrap ((n : Int) + (s.length : Int)) = (n : Int) + (s.length : Int) := IntWalk.i64_in _ (by have := HL.out; omega)
      go_wp2_with fail
      go_roundw
      case measure => simp [intOf] <;> omega
      case rel => exact ⟨i + 1, by simp, by rw [HNX.out]; simp, by omega, by first | trivial | rfl⟩
    · obtain rfl : i = l0.length := by omega
      have q1 : ¬ ((l0.length : Int) < (l0.length : Int)) := by omega
      rw [List.take_length]
      by_cases hn : 600 < (l0.map List.length).sum
      · have q5 : (600 : Int) < ((l0.map List.length).sum : Nat) := by omega
        go_wp2_with fail
        go_returns
        exact ⟨rfl, Below.refl _ _⟩
      · have q5 : ¬ ((600 : Int) < ((l0.map List.length).sum : Nat)) := by omega
        have hle : ∀ s ∈ l0, s.length ≤ 600 := fun s hs => by
          have : s.length ≤ (l0.map List.length).sum := mem_le_sum _ _ (List.mem_map.2 ⟨s, hs, rfl⟩)
          omega
        have HU := Lib.hid (unique_any H.out (fun s hs => by have := hle s hs; omega) (by have := HL.out; omega))
        have HR := Lib.hid fun (W : World) (hb : Below wq.heap.size wq W) => rsorted_any (H.out.on hb) (fun s hs => by have := hle s hs; omega) (by have := HL.out; omega)
        clear hle
        generalize ((l0.map List.length).sum) = n at hn q5 ⊢
        go_wp2_with fail
        refine HU.out.mono ?_
        rintro _ w1 ⟨v1, rfl, r1, h1, hu1, hb1⟩
        have HH1 := Lib.hid h1
        have HU1 := Lib.hid hu1
        have HB1 := Lib.hid hb1
        clear h1 hu1 hb1
        go_wp2_with fail
        refine (HR.out _ HB1.out).mono ?_
        rintro _ w2 ⟨v2, rfl, r2, h2, hu2, hb2⟩
        have hrr : r1 = r2 := HU1.out.eq hu2 fun _ => Iff.rfl
        have HST := Lib.hid (states_any (HH1.out.on hb2).reads (h2.reads hb2) (by have := HU1.out.len; have := HL.out; omega))
        have HRR := Lib.hid (show decide (r1 = r2) = true from decide_eq_true hrr)
        have HB2 := Lib.hid (HB1.out.on hb2)
        clear h2 hu2 hb2 hrr
        go_wp2_with fail
        refine HST.out.mono ?_
        rintro _ w3 ⟨rfl, hb3⟩
        rw [HRR.out]
        have HB3 := Lib.hid (HB2.out.on hb3)
        clear hb3
        go_wp2_with fail
        refine (Ln.awake_any _).mono ?_
        rintro _ w4 ⟨rfl, hb4⟩
        have HB4 := Lib.hid (HB3.out.on hb4)
        clear hb4
        go_wp2_with fail
        go_returns
        exact ⟨rfl, HB4.out⟩

set_option maxRecDepth 100000 in
theorem lifted (os : Os) (started : os.Started) (H : Type) (enc : TypeId × Value → H) :
    ReturnsInHanded {} Try.checked os 4 .any (Rows.linUniqueSpec.pre6 enc Try.prog Try.f4 Rows.linUniqueRow.domain false) (Rows.linUniqueSpec.post enc Try.prog Try.f4 false true false false) := by
  refine law_lift (C := Try.checked) own started (by kernel_rfl) Try.func4 laidOut (by kernel_rfl) rfl Try.underlying4 rfl
    (fun ds h => match ds, h with | [_], _ => rfl)
    (ChangeSpec.witness6 (enc := enc) (C := Try.checked) false ⟨#[], #[.slice none 0 0], []⟩ 8 (by kernel_rfl) (by kernel_rfl) (by kernel_rfl) (by kernel_rfl)) ?_
  intro W base args ds ps hval hA hsz
  rw [Try.params4] at hA hval hsz
  obtain ⟨v0, vs0, d0, ds0, p0, q0, hargs, rfl, rfl, h0, r0⟩ := trodAll_cons hA
  obtain ⟨rfl, rfl, rfl⟩ := trodAll_nil r0
  obtain rfl : args = #[v0] := by cases args; simp_all
  obtain ⟨l0, hl0, hz0⟩ := Ln.sts_open (hval 0 25 v0 rfl rfl) h0
  have n0 := hz0 fun n hn => of_decide_eq_true (List.all_eq_true.1 hsz _ (DataW.weights_mem_each (j := 0) rfl rfl n hn))
  exact walk W v0 l0 hl0 n0

theorem over : Rows.linUniqueRow.holds Try.pinned (OpenSpec.ofChange Rows.linUniqueSpec) :=
  OpenClaim.holds_of_wide 4 Try.f4 rfl rfl rfl rfl rfl rfl rfl ⟨rfl, rfl, rfl, rfl, rfl⟩ rfl rfl rfl rfl rfl (by kernel_rfl) Try.func4 (by kernel_rfl)
    (of_decide_eq_true (by kernel_rfl)) (by unfold Func.isWrapper; first | (rw [if_pos (by decide +kernel)]; kernel_rfl) | (rw [if_neg (by decide +kernel)]; exact ⟨rfl, rfl⟩))
    (fun os started H enc _ => lifted os started H enc)

theorem proved : Rows.LinUniqueSaid :=
  over
end Go.Proofs.Ytpooekmogfkkjaa.linUnique
