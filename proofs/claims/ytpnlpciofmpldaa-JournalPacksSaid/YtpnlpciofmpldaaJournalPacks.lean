/- Every list of pages is shown as blocks, or what is wrong with it, and how many blocks it takes, as the reference shows it; and the chapter's examples hold: for all pages. Conditions: none. -/
import Derived.Test.YtpnlpciofmpldaaJPackS
import Derived.Test.YtpnlpciofmpldaaLaw
import Derived.BigQuiet
import Derived.Deep.QuietTactic
import Derived.Lib.QuietBelow
import Derived.Deep.DeepCutAuto
import Derived.Deep.CutBlock
namespace Go.Proofs.Ytpnlpciofmpldaa.journalPacks
open Go.ChangeShapes Go.WideShapes Go.ChangeAt Go.RowKit Go.PlainAid
open Go.ChangeMaps (open_string)
open Go.Sort (grow)

theorem own : ownKnob Try.prog.godebug = none := by kernel_rfl
theorem laidOut : laidOutB Try.prog = true := by kernel_rfl

set_option maxRecDepth 100000 in
set_option maxHeartbeats 4000000 in
theorem walk (w : World) (v0 : Value) (l0 : List PageV) (h0 : PagesIn w v0 l0) (n0 : l0.length ≤ 1152921504606846976) :
    Calls Try.prog 4 #[v0] w fun e w' => e = .returned (.bool true) ∧ Below w.heap.size w w' := by
  obtain ⟨ao, cap, rfl⟩ := h0.slice
  have HP := Lib.hid h0
  have HN := Lib.hid n0
  clear h0 n0
  by_cases ha : 200 < l0.length ∧ l0.length ≤ 1024
  · have hA : decide ((200 : Int) < (l0.length : Int)) = true := decide_eq_true (by omega)
    have hB : decide ((l0.length : Int) ≤ 1024) = true := decide_eq_true (by omega)
    clear ha
    go_enter Try.func4, Try.ntmps4
    go_wp2_with fail
    refine (awake_any _).mono ?_
    rintro e w1 ⟨rfl, hb⟩
    go_wp2
    go_returns
    exact ⟨rfl, hb⟩
  · have hAB : decide ((200 : Int) < (l0.length : Int)) = false ∨ (decide ((200 : Int) < (l0.length : Int)) = true ∧ decide ((l0.length : Int) ≤ 1024) = false) := by
      by_cases hc : 200 < l0.length
      · exact .inr ⟨decide_eq_true (by omega), decide_eq_false (by omega)⟩
      · exact .inl (decide_eq_false (by omega))
    clear ha
    rcases hAB with hA | ⟨hA, hB⟩
    all_goals
      go_enter Try.func4, Try.ntmps4
      go_wp2_with fail
      refine (pack_all w _ l0 HP.out).mono ?_
      rintro e w1 ⟨sv, rfl, ho1, hb1⟩
      have HB1 := Lib.hid hb1
      have HO1 := Lib.hid ho1
      have HP1 := Lib.hid (HP.out.on hb1)
      clear hb1 ho1 HP
      go_wp2_with fail
      refine (rpack_all w1 _ l0 HP1.out).mono ?_
      rintro e w2 ⟨tv, rfl, ho2, hb2⟩
      have HO2 := Lib.hid ho2
      have HO3 := Lib.hid (HO1.out.on hb2)
      have HB2 := Lib.hid (HB1.out.on hb2)
      clear hb2 ho2 HP1 HO1 HB1
      go_wp2_with fail
      have hbn : blocksN l0.length ≤ 1171000000000000000 := by
        have := HN.out
        unfold blocksN
        omega
      refine (texts_same w2 l0 _ sv tv HO3.out HO2.out (by omega)).mono ?_
      rintro e w3 ⟨rfl, hb3⟩
      have HO4 := Lib.hid (HO3.out.on hb3)
      have HB3 := Lib.hid (HB2.out.on hb3)
      have HC := Lib.hid (code_range l0)
      have HBN := Lib.hid hbn
      clear hb3 HO2 HO3 HB2 hbn
      generalize codeP l0 = z at *
      have hz := HC.out
      have hw : wrap64 z = z := by unfold wrap64; omega
      clear hz
      go_wp2_with fail
      refine (blocks_any l0.length w3 HN.out).mono ?_
      rintro e w' ⟨rfl, rfl⟩
      go_wp2_with fail
      refine (rblocks_any l0.length w3 HN.out).mono ?_
      rintro e w' ⟨rfl, rfl⟩
      have HO := HO4.out
      clear HO4
      rcases HO with ⟨hz, rfl⟩ | ⟨rfl, g, cap', rfl, _, _⟩
      · have hzb : (z != 0) = true := by simpa [bne] using hz
        clear hz
        go_wp2_with fail
        refine (awake_any w3).mono ?_
        rintro e w4 ⟨rfl, hb4⟩
        have HB4 := Lib.hid (HB3.out.on hb4)
        clear hb4
        go_wp2
        go_returns
        exact ⟨rfl, HB4.out⟩
      · go_wp2_with fail
        refine (rblocks_any l0.length w3 HN.out).mono ?_
        rintro e w' ⟨rfl, rfl⟩
        go_wp2_with fail
        refine (awake_any w3).mono ?_
        rintro e w4 ⟨rfl, hb4⟩
        have HB4 := Lib.hid (HB3.out.on hb4)
        clear hb4
        go_wp2
        go_returns
        exact ⟨rfl, HB4.out⟩

set_option maxRecDepth 100000 in
theorem lifted (os : Os) (started : os.Started) (H : Type) (enc : TypeId × Value → H) :
    ReturnsInHanded {} Try.checked os 4 .any (Rows.journalPacksSpec.pre6 enc Try.prog Try.f4 Rows.journalPacksRow.domain false) (Rows.journalPacksSpec.post enc Try.prog Try.f4 false true false false) := by
  refine law_lift (C := Try.checked) own started (by kernel_rfl) Try.func4 laidOut (by kernel_rfl) rfl Try.underlying4 rfl
    (fun ds h => match ds, h with | [_], _ => rfl)
    (ChangeSpec.witness6 (enc := enc) (C := Try.checked) false ⟨#[], #[.slice none 0 0], []⟩ 8 (by kernel_rfl) (by kernel_rfl) (by kernel_rfl) (by kernel_rfl)) ?_
  intro W base args ds ps hval hA hsz
  rw [Try.params4] at hA hval hsz
  obtain ⟨v0, vs0, d0, ds0, p0, q0, hargs, rfl, rfl, h0, r0⟩ := trodAll_cons hA
  obtain ⟨rfl, rfl, rfl⟩ := trodAll_nil r0
  obtain rfl : args = #[v0] := by cases args; simp_all
  obtain ⟨l0, hl0, hz0⟩ := pages_open (hval 0 35 v0 rfl rfl) h0
  have n0 : l0.length ≤ 1152921504606846976 := by
    rcases hz0 with rfl | ⟨el, rest, rfl, hel⟩
    · exact Nat.zero_le _
    · have this : (el.length + rest.length) * Try.prog.bytesOf 56 ≤ reachBytes := sized_slice hsz (j := 0) rfl rfl Try.underlying35
      have h24 : Try.prog.bytesOf 56 = 24 := by kernel_rfl
      rw [h24] at this
      simp only [reachBytes] at this
      omega
  exact walk W v0 l0 hl0 n0

theorem over : Rows.journalPacksRow.holds Try.pinned (OpenSpec.ofChange Rows.journalPacksSpec) :=
  OpenClaim.holds_of_wide 4 Try.f4 rfl rfl rfl rfl rfl rfl rfl ⟨rfl, rfl, rfl, rfl, rfl⟩ rfl rfl rfl rfl rfl (by kernel_rfl) Try.func4 (by kernel_rfl)
    (of_decide_eq_true (by kernel_rfl)) (by unfold Func.isWrapper; first | (rw [if_pos (by decide +kernel)]; kernel_rfl) | (rw [if_neg (by decide +kernel)]; exact ⟨rfl, rfl⟩))
    (fun os started H enc _ => lifted os started H enc)

theorem proved : Rows.JournalPacksSaid :=
  over
end Go.Proofs.Ytpnlpciofmpldaa.journalPacks
