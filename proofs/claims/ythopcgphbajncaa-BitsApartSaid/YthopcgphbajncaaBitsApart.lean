/- A text with one byte otherwise has another Sum, and the chapter's examples hold: for every text, place and byte. Conditions: none. -/
import Derived.Test.YthopcgphbajncaaAwake
import Derived.Deep.RegionWith
import Derived.Test.YthopcgphbajncaaLaw
namespace Go.Proofs.Ythopcgphbajncaa.bitsApart
open Go.ChangeShapes Go.WideShapes Go.ChangeAt Go.RowKit Go.PlainAid
open Go.ChangeMaps (open_string)

theorem own : ownKnob Try.prog.godebug = none := by kernel_rfl
theorem laidOut : laidOutB Try.prog = true := by kernel_rfl
/-- A text with byte k otherwise. -/
def withB (s : ByteArray) (k : Nat) (c : Int) : ByteArray := s.extract 0 k ++ strOfNums [c] ++ s.extract (k + 1) s.size
theorem withB_list (s : ByteArray) (k : Nat) (c : Int) : (withB s k c).data.toList = s.data.toList.take k ++ [UInt8.ofNat c.toNat] ++ s.data.toList.drop (k + 1) := by
  unfold withB
  have hl : s.data.toList.length = s.size := by simp
  simp only [ByteArray.data_append, Array.toList_append, Lib.extract_data, strOfNums_data, List.map_cons, List.map_nil]
  simp [List.take_of_length_le]
theorem withB_size (s : ByteArray) (k : Nat) (c : Int) (hk : k < s.size) : (withB s k c).size = s.size := by
  have h := congrArg List.length (withB_list s k c)
  simp only [List.length_append, List.length_take, List.length_drop, List.length_cons, List.length_nil] at h
  have hl : s.data.toList.length = s.size := by simp
  have hl2 : (withB s k c).data.toList.length = (withB s k c).size := by simp
  omega
theorem withB_bt (s : ByteArray) (k : Nat) (c : Int) (hk : k < s.size) (h0 : 0 ≤ c) (h1 : c ≤ 255) (j : Nat) : bt (withB s k c) j = if j = k then c else bt s j := by
  have hl : s.data.toList.length = s.size := by simp
  rw [bt_list, bt_list, withB_list s k c]
  simp only [List.getD_eq_getElem?_getD]
  rcases Nat.lt_trichotomy j k with h | h | h
  · rw [if_neg (by omega), List.append_assoc, List.getElem?_append_left (by rw [List.length_take]; omega), List.getElem?_take_of_lt h]
  · subst h
    rw [if_pos rfl, List.append_assoc, List.getElem?_append_right (by rw [List.length_take]; omega), List.length_take, show j - min j s.data.toList.length = 0 by omega]
    simp only [List.cons_append, List.getElem?_cons_zero, Option.getD_some]
    rw [UInt8.toNat_ofNat']
    omega
  · rw [if_neg (by omega), List.getElem?_append_right (by simp only [List.length_append, List.length_take, List.length_cons, List.length_nil]; omega)]
    simp only [List.length_append, List.length_take, List.length_cons, List.length_nil, List.getElem?_drop]
    rw [show k + 1 + (j - (min k s.data.toList.length + (0 + 1))) = j by omega]
theorem sums_same (s t : ByteArray) (h : ∀ j, bt t j = bt s j) : ∀ n, sA t n = sA s n ∧ sB t n = sB s n
  | 0 => ⟨rfl, rfl⟩
  | n + 1 => by
    have := sums_same s t h n
    simp only [sA, sB, this.1, this.2, h]
    exact ⟨trivial, trivial⟩
theorem sums_apart (s t : ByteArray) (k : Nat) (c : Int) (h : ∀ j, bt t j = if j = k then c else bt s j) : ∀ n, (n ≤ k → sA t n = sA s n) ∧ (k < n → (sA t n - sA s n - (c - bt s k)) % 65521 = 0)
  | 0 => ⟨fun _ => rfl, fun h => by omega⟩
  | n + 1 => by
    have ih := sums_apart s t k c h n
    have hn := h n
    refine ⟨fun hk => ?_, fun hk => ?_⟩
    · have := ih.1 (by omega)
      rw [if_neg (by omega)] at hn
      simp only [sA, this, hn]
    · by_cases e : n = k
      · subst e
        have := ih.1 (Nat.le_refl _)
        rw [if_pos rfl] at hn
        simp only [sA, this, hn]
        omega
      · have := ih.2 (by omega)
        rw [if_neg e] at hn
        simp only [sA, hn]
        omega
theorem apart (s : ByteArray) (k : Nat) (c : Int) (hk : k < s.size) (h0 : 0 ≤ c) (h1 : c ≤ 255) : (sumZ s == sumZ (withB s k c)) = (bt s k == c) := by
  have hb := withB_bt s k c hk h0 h1
  have hs := withB_size s k c hk
  generalize withB s k c = t at *
  by_cases e : bt s k = c
  · have hsame : ∀ j, bt t j = bt s j := fun j => by
      rw [hb j]
      by_cases ej : j = k
      · rw [if_pos ej, ej, e]
      · rw [if_neg ej]
    have := sums_same s t hsame s.size
    have e2 : sumZ t = sumZ s := by unfold sumZ; rw [hs, this.1, this.2]
    rw [e2, e]
    simp
  · have hx := (sums_apart s t k c hb s.size).2 hk
    have b1 := sA_b s s.size
    have b2 := sA_b t s.size
    have d1 := bt_nonneg s k
    have d2 := bt_le s k
    rw [beq_eq_false_iff_ne.2 e]
    apply beq_eq_false_iff_ne.2
    unfold sumZ
    rw [hs]
    omega
set_option maxHeartbeats 1000000 in
theorem walk (a0 : ByteArray) (s0 : a0.size ≤ 140737488351232) (a1 : Int) (w1 : (Lit.int .u64 a1).wf = true) (a2 : Int) (w2 : (Lit.int .u8 a2).wf = true) (w : World) :
    Calls Try.prog 10 #[.string a0, .int .u64 a1, .int .u8 a2] w fun e w' => e = .returned (.bool true) ∧ Below w.heap.size w w' := by
  have u0 := s0
  clear u0
  obtain ⟨b1, c1⟩ := bounds_u64 w1
  obtain ⟨b2, c2⟩ := bounds_u8 w2
  have hm : a0.size ≤ maxLen := by unfold maxLen; omega
  by_cases h0 : a0.size = 0
  · go_enter Try.func10, Try.ntmps10
    go_wp2_with fail
    refine (awake_any _).mono ?_
    rintro e w1 ⟨rfl, hb1⟩
    go_wp2
    go_returns
    exact ⟨rfl, hb1⟩
  · obtain ⟨k, hk1, hk⟩ : ∃ k : Nat, k < a0.size ∧ a1 % (a0.size : Int) = k := by
      have e1 := Int.emod_nonneg a1 (show (a0.size : Int) ≠ 0 by omega)
      have e2 := Int.emod_lt_of_pos a1 (show (0 : Int) < (a0.size : Int) by omega)
      exact ⟨(a1 % (a0.size : Int)).toNat, by omega, by omega⟩
    have gb := get_bt a0
    have hc := And.intro (bt_nonneg a0 k) (bt_le a0 k)
    have HC := fun w b => run_conv_one (P := Try.prog) 48 5 9 Try.underlying48 Try.underlying5 Try.underlying9 w b 1
    have HO := fun w b x => convOne_some Try.prog 48 9 w b 1 x
    have z1 : (a0.extract 0 k).size ≤ 140737488351232 := by rw [ByteArray.size_extract]; omega
    have z2 : (strOfNums [a2]).size ≤ 1 := by rw [strOfNums_size]; exact Nat.le_refl _
    have z3 : (a0.extract (k + 1) a0.size).size ≤ 140737488351232 := by rw [ByteArray.size_extract]; omega
    have z4 : (a0.extract 0 k ++ strOfNums [a2]).size ≤ 140737488351233 := by rw [ByteArray.size_append]; omega
    have k1 : k ≤ a0.size := by omega
    have k2 : k + 1 ≤ a0.size := by omega
    have k3 : IntKind.i64.wrap ((k : Int) + 1) = (k : Int) + 1 := IntWalk.i64_in _ (by omega)
    have k4 : ((k : Int) + 1).toNat = k + 1 := by omega
    go_enter Try.func10, Try.ntmps10
    go_wp2_with fail
    go_region
    have hq := apart a0 k a2 hk1 b2 c2
    have hz := withB_size a0 k a2 hk1
    have hT : (withB a0 k a2).size ≤ maxLen := by rw [hz]; exact hm
    unfold withB at hq hz hT
    have HM := Lib.hid hm
    have HT := Lib.hid hT
    have HZ := Lib.hid hz
    clear hm hT hz z1 z2 z3 z4
    generalize a0.extract 0 k ++ strOfNums [a2] ++ a0.extract (k + 1) a0.size = T at *
    go_wp2_with fail
    go_region_with (first
      | (go_at_call_of 28 (Value.string a0); (with_reducible refine (sum_any a0 _ HM.out).mono ?_); rintro e _ ⟨rfl, rfl⟩)
      | (go_at_call_of 28 (Value.string T); (with_reducible refine (sum_any T _ HT.out).mono ?_); rintro e _ ⟨rfl, rfl⟩)
      | (go_at_call 15; (with_reducible refine (awake_any _).mono ?_); rintro e w2 ⟨rfl, hb2⟩))
    all_goals
      go_wp2
      go_returns
      exact ⟨rfl, (((Below.refl _ _).alloc (Nat.le_refl _) _).drew.drew).trans (hb2.mono (by simp))⟩

set_option maxRecDepth 100000 in
theorem lifted (os : Os) (started : os.Started) (H : Type) (enc : TypeId × Value → H) :
    ReturnsInHanded {} Try.checked os 10 .any (Rows.bitsApartSpec.pre6 enc Try.prog Try.f10 Rows.bitsApartRow.domain false) (Rows.bitsApartSpec.post enc Try.prog Try.f10 false true false false) := by
  refine law_lift (C := Try.checked) own started (by kernel_rfl) Try.func10 laidOut (by kernel_rfl) rfl Try.underlying4 rfl
    (fun ds h => match ds, h with | [_, _, _], _ => rfl)
    (ChangeSpec.witness6 (enc := enc) (C := Try.checked) false ⟨#[], #[.string ByteArray.empty, .int .u64 0, .int .u8 0], []⟩ 8 (by kernel_rfl) (by kernel_rfl) (by kernel_rfl) (by kernel_rfl)) ?_
  intro W base args ds ps hval hA hsz
  rw [Try.params10] at hA hval hsz
  obtain ⟨v0, vs0, d0, ds0, p0, q0, hargs, rfl, rfl, h0, r0⟩ := trodAll_cons hA
  obtain ⟨v1, vs1, d1, ds1, p1, q1, rfl, rfl, rfl, h1, r1⟩ := trodAll_cons r0
  obtain ⟨v2, vs2, d2, ds2, p2, q2, rfl, rfl, rfl, h2, r2⟩ := trodAll_cons r1
  obtain ⟨rfl, rfl, rfl⟩ := trodAll_nil r2
  obtain rfl : args = #[v0, v1, v2] := by cases args; simp_all
  obtain ⟨a0, rfl, rfl, rfl, _⟩ := open_string Try.underlying9 (hval 0 9 v0 rfl rfl) h0
  have s0 : a0.size ≤ 140737488351232 := by
    have := sized_string hsz (j := 0) rfl rfl
    simpa [reachBytes] using this
  obtain ⟨a1, rfl, rfl, rfl, w1⟩ := open_int Try.underlying47 (hval 1 47 v1 rfl rfl) h1
  obtain ⟨a2, rfl, rfl, rfl, w2⟩ := open_int Try.underlying5 (hval 2 5 v2 rfl rfl) h2
  exact walk a0 s0 a1 w1 a2 w2 W

theorem over : Rows.bitsApartRow.holds Try.pinned (OpenSpec.ofChange Rows.bitsApartSpec) :=
  OpenClaim.holds_of_wide 10 Try.f10 rfl rfl rfl rfl rfl rfl rfl ⟨rfl, rfl, rfl, rfl, rfl⟩ rfl rfl rfl rfl rfl (by kernel_rfl) Try.func10 (by kernel_rfl)
    (of_decide_eq_true (by kernel_rfl)) (by unfold Func.isWrapper; first | (rw [if_pos (by decide +kernel)]; kernel_rfl) | (rw [if_neg (by decide +kernel)]; exact ⟨rfl, rfl⟩))
    (fun os started H enc _ => lifted os started H enc)

theorem proved : Rows.BitsApartSaid :=
  over
end Go.Proofs.Ythopcgphbajncaa.bitsApart
