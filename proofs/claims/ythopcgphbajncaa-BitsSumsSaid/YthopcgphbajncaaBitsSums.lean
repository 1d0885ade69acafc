/- Sum and Not answer as the document's own Sum and Not, Not undoes Not, and the chapter's examples hold: for every text. Conditions: none. -/
import Derived.Test.YthopcgphbajncaaAwake
import Derived.Test.YthopcgphbajncaaLaw
namespace Go.Proofs.Ythopcgphbajncaa.bitsSums
open Go.ChangeShapes Go.WideShapes Go.ChangeAt Go.RowKit Go.PlainAid
open Go.ChangeMaps (open_string)

theorem own : ownKnob Try.prog.godebug = none := by kernel_rfl
theorem laidOut : laidOutB Try.prog = true := by kernel_rfl
theorem notS_size (s : ByteArray) : (notS s).size = s.size := by unfold notS; rw [strOfNums_size, List.length_map, List.length_range]
theorem notS_get (s : ByteArray) (i : Nat) (h : i < s.size) : ((List.range s.size).map fun j => 255 - bt s j).getD i 0 = 255 - bt s i := by
  simp [List.getD_eq_getElem?_getD, List.getElem?_map, List.getElem?_range h]
theorem back (s : ByteArray) : notS (notS s) = s := by
  apply ByteArray.ext
  apply Array.ext'
  apply List.ext_getElem?
  intro i
  have h : ∀ t : ByteArray, (notS t).data.toList = ((List.range t.size).map fun j => 255 - bt t j).map fun n => UInt8.ofNat n.toNat := fun t => strOfNums_data _
  rw [h, notS_size, List.getElem?_map, List.getElem?_map]
  by_cases c : i < s.size
  · rw [List.getElem?_range c]
    have e : bt (notS s) i = 255 - bt s i := by
      have g := notS_get s i c
      have b := bt_nonneg s i
      have b' := bt_le s i
      unfold notS
      rw [bt_strOfNums _ i (by rw [g]; omega) (by rw [g]; omega), g]
    have hl : i < s.data.toList.length := by simpa using c
    rw [List.getElem?_eq_getElem hl]
    simp only [Option.map_some, e]
    rw [bt_list, List.getD_eq_getElem?_getD, List.getElem?_eq_getElem hl]
    simp only [Option.getD_some]
    congr 1
    rw [show (255 - (255 - ((s.data.toList[i]).toNat : Int))).toNat = (s.data.toList[i]).toNat by omega]
    simp
  · rw [List.getElem?_eq_none (by simp; omega), List.getElem?_eq_none (by simp; omega)]
    rfl
set_option maxHeartbeats 400000 in
theorem walk (a0 : ByteArray) (s0 : a0.size ≤ 140737488351232) (w : World) :
    Calls Try.prog 7 #[.string a0] w fun e w' => e = .returned (.bool true) ∧ Below w.heap.size w w' := by
  have u0 := s0
  clear u0
  have hm : a0.size ≤ maxLen := by unfold maxLen; omega
  have hn : (notS a0).size ≤ maxLen := by rw [notS_size]; exact hm
  have hb := back a0
  go_enter Try.func7, Try.ntmps7
  go_wp2_with fail
  refine (sum_any a0 _ hm).mono ?_
  rintro e _ ⟨rfl, rfl⟩
  go_wp2_with fail
  refine (rsum_any a0 _ hm).mono ?_
  rintro e _ ⟨rfl, rfl⟩
  go_wp2_with fail
  refine (not_any a0 _ hm).mono ?_
  rintro e w1 ⟨rfl, hb1⟩
  go_wp2_with fail
  refine (rnot_any a0 _ s0).mono ?_
  rintro e w2 ⟨rfl, hb2⟩
  go_wp2_with fail
  refine (not_any a0 _ hm).mono ?_
  rintro e w3 ⟨rfl, hb3⟩
  go_wp2_with fail
  refine (not_any (notS a0) _ hn).mono ?_
  rintro e w4 ⟨rfl, hb4⟩
  go_wp2_with fail
  refine (awake_any _).mono ?_
  rintro e w5 ⟨rfl, hb5⟩
  go_wp2
  go_returns
  exact ⟨rfl, hb1.on (hb2.on (hb3.on (hb4.on hb5)))⟩

set_option maxRecDepth 100000 in
theorem lifted (os : Os) (started : os.Started) (H : Type) (enc : TypeId × Value → H) :
    ReturnsInHanded {} Try.checked os 7 .any (Rows.bitsSumsSpec.pre6 enc Try.prog Try.f7 Rows.bitsSumsRow.domain false) (Rows.bitsSumsSpec.post enc Try.prog Try.f7 false true false false) := by
  refine law_lift (C := Try.checked) own started (by kernel_rfl) Try.func7 laidOut (by kernel_rfl) rfl Try.underlying4 rfl
    (fun ds h => match ds, h with | [_], _ => rfl)
    (ChangeSpec.witness6 (enc := enc) (C := Try.checked) false ⟨#[], #[.string ByteArray.empty], []⟩ 8 (by kernel_rfl) (by kernel_rfl) (by kernel_rfl) (by kernel_rfl)) ?_
  intro W base args ds ps hval hA hsz
  rw [Try.params7] at hA hval hsz
  obtain ⟨v0, vs0, d0, ds0, p0, q0, hargs, rfl, rfl, h0, r0⟩ := trodAll_cons hA
  obtain ⟨rfl, rfl, rfl⟩ := trodAll_nil r0
  obtain rfl : args = #[v0] := by cases args; simp_all
  obtain ⟨a0, rfl, rfl, rfl, _⟩ := open_string Try.underlying9 (hval 0 9 v0 rfl rfl) h0
  have s0 : a0.size ≤ 140737488351232 := by
    have := sized_string hsz (j := 0) rfl rfl
    simpa [reachBytes] using this
  exact walk a0 s0 W

theorem over : Rows.bitsSumsRow.holds Try.pinned (OpenSpec.ofChange Rows.bitsSumsSpec) :=
  OpenClaim.holds_of_wide 7 Try.f7 rfl rfl rfl rfl rfl rfl rfl ⟨rfl, rfl, rfl, rfl, rfl⟩ rfl rfl rfl rfl rfl (by kernel_rfl) Try.func7 (by kernel_rfl)
    (of_decide_eq_true (by kernel_rfl)) (by unfold Func.isWrapper; first | (rw [if_pos (by decide +kernel)]; kernel_rfl) | (rw [if_neg (by decide +kernel)]; exact ⟨rfl, rfl⟩))
    (fun os started H enc _ => lifted os started H enc)

theorem proved : Rows.BitsSumsSaid :=
  over
end Go.Proofs.Ythopcgphbajncaa.bitsSums
