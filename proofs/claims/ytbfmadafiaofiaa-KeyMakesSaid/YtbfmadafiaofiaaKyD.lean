/- Contracts of Split, both the code's and the reference's. -/
import Derived.Test.YtbfmadafiaofiaaKyC
namespace Go.Proofs.Ytbfmadafiaofiaa
set_option maxRecDepth 100000
open Go.ChangeShapes Go.WideShapes Go.ChangeAt Go.RowKit Go.PlainAid
attribute [local go_sem ↓ high] app_intI

/-- What Split answers: a slice of the numbers, and whether there was an error. -/
def SplitPost (s : ByteArray) (w : World) (e : Ending) (w' : World) : Prop :=
  ∃ v, e = .returned (.tuple #[v, .int .i64 (if splitOk s = true then 0 else 22)]) ∧ IntsOf w' v (splitL s) ∧ Below w.heap.size w w'
theorem own_in {n₀ : Nat} {w : World} {s : ByteArray} {v : Value} {k : Nat} (h : IntsOwn n₀ w v ((List.range k).map (numAt s))) (hk : k ≤ 4) : IntsOf w v ((List.range k).map (numAt s)) := by
  refine h.reads (by simp; omega) fun x hx => ?_
  obtain ⟨k, _, rfl⟩ := List.mem_map.1 hx
  exact unordV_bounds _
theorem own_nil (n₀ : Nat) (w : World) : IntsOwn n₀ w (.slice none 0 0) [] := ⟨rfl, .inl ⟨rfl, rfl⟩⟩
theorem rest_facts (s : ByteArray) (k : Nat) (h : 8 * k + 8 ≤ s.size) :
    (s.extract (8 * k) s.size).size = s.size - 8 * k ∧ (s.extract (8 * k) s.size).toList.isEmpty = false ∧
    (s.extract (8 * k) s.size).extract 0 8 = s.extract (8 * k) (8 * k + 8) ∧ (s.extract (8 * k) s.size).extract 8 (s.size - 8 * k) = s.extract (8 * (k + 1)) s.size := by
  have hz : (s.extract (8 * k) s.size).size = s.size - 8 * k := by rw [ByteArray.size_extract]; omega
  refine ⟨hz, ?_, ?_, ?_⟩
  · rw [← Bool.not_eq_true, List.isEmpty_iff]
    intro e
    have := congrArg List.length e
    rw [ByteArray.toList_eq, Array.length_toList] at this
    have hz' : (s.extract (8 * k) s.size).data.size = s.size - 8 * k := hz
    rw [hz'] at this
    simp at this
    omega
  · apply ByteArray.ext
    simp only [ByteArray.data_extract, Array.extract_extract]
    congr 1
    have : s.data.size = s.size := rfl
    omega
  · apply ByteArray.ext
    simp only [ByteArray.data_extract, Array.extract_extract]
    congr 1
    have : s.data.size = s.size := rfl
    omega

set_option maxHeartbeats 800000 in
theorem split9_any (s : ByteArray) (w : World) (hs : s.size ≤ 140737488351232) :
    Calls Try.prog 11 #[.string s] w (SplitPost s w) := by
  cases hok : splitOk s
  · have hp : ∀ w' : World, Below w.heap.size w w' → SplitPost s w (.returned (.tuple #[.slice none 0 0, .int .i64 22])) w' := fun w' hb =>
      ⟨_, by rw [hok]; rfl, by rw [splitL_no hok]; exact .inl ⟨rfl, _, _, rfl⟩, hb⟩
    have HP := Lib.hid hp
    have hcase : 32 < s.size ∨ (s.size ≤ 32 ∧ s.size % 8 ≠ 0) := by
      simp only [splitOk, Bool.and_eq_false_iff, decide_eq_false_iff_not] at hok
      omega
    clear hp hok
    rcases hcase with h | ⟨h, h8⟩
    · have h' : (32 : Int) < s.size := by omega
      go_enter Try.func11, Try.ntmps11
      go_wp2
      go_returns
      exact HP.out _ (Below.refl _ _)
    · have h' : ¬ (32 : Int) < s.size := by omega
      obtain ⟨m, hm⟩ : ∃ m : Int, (s.size : Int).tmod 8 = m := ⟨_, rfl⟩
      have hm0 : (m == 0) = false := beq_eq_false_iff_ne.2 (by rw [Int.tmod_eq_emod_of_nonneg (by omega)] at hm; omega)
      go_enter Try.func11, Try.ntmps11
      go_wp2
      go_returns
      exact HP.out _ (Below.refl _ _)
  · have h2 : s.size ≤ 32 ∧ s.size % 8 = 0 := by simpa [splitOk] using hok
    have hp : ∀ (w' : World) (v : Value), IntsOwn w.heap.size w' v ((List.range (s.size / 8)).map (numAt s)) → Below w.heap.size w w' → SplitPost s w (.returned (.tuple #[v, .int .i64 0])) w' := fun w' v hv hb =>
      ⟨_, by rw [hok]; rfl, by rw [splitL_ok hok]; exact own_in hv (by omega), hb⟩
    have HP := Lib.hid hp
    clear hp hok
    obtain ⟨n, hn⟩ : ∃ n, s.size = 8 * n := ⟨s.size / 8, by omega⟩
    have hn4 : n ≤ 4 := by omega
    have HN := Lib.hid hn
    have h' : ¬ (32 : Int) < s.size := by omega
    have hm0 : (s.size : Int).tmod 8 = 0 := by rw [Int.tmod_eq_emod_of_nonneg (by omega)]; omega
    have h0 : (s.extract (8 * 0) s.size) = s := by
      apply ByteArray.ext
      simp
    have H0 := Lib.hid h0
    clear h2 h0 hn
    go_enter Try.func11, Try.ntmps11
    go_wp2_with fail
    go_loopw [0, 4] (fun t v wr => ∃ k : Nat, k ≤ n ∧ t = .string (s.extract (8 * k) s.size) ∧ IntsOwn w.heap.size wr v ((List.range k).map (numAt s)) ∧ Below w.heap.size w wr) (fun t _ _ => match t with | .string t => t.size | _ => 0)
    case atStart => exact ⟨0, Nat.zero_le _, by rw [H0.out], own_nil _ _, Below.refl _ _⟩
    case round =>
      obtain ⟨k, hk, rfl, hv, hb⟩ := hrel
      have HV := Lib.hid hv
      have HB := Lib.hid hb
      clear hv hb
      by_cases hlt : k < n
      · obtain ⟨f1, f2, f3, f4⟩ := rest_facts s k (by have := HN.out; omega)
        obtain ⟨z, hz⟩ : ∃ z, s.size - 8 * k = z := ⟨_, rfl⟩
        have hz8 : 8 ≤ z := by have := HN.out; omega
        have hzm : z ≤ 32 := by have := HN.out; omega
        rw [hz] at f1 f4
        have F3 := Lib.hid f3
        have F4 := Lib.hid f4
        have hsz : (s.extract (8 * k) (8 * k + 8)).size = 8 := by
          have := HN.out
          rw [ByteArray.size_extract]; omega
        have HSZ := Lib.hid hsz
        have hsm : (s.extract (8 * (k + 1)) s.size).size < z := by
          have := HN.out
          rw [ByteArray.size_extract]; omega
        have HSM := Lib.hid hsm
        have HF1 := Lib.hid f1
        clear hz f3 f4 hsz hsm
        generalize s.extract (8 * k) s.size = t at *
        go_wp2_with fail
        rw [F3.out]
        refine (unordered_any _ _ HSZ.out).mono ?_
        rintro e w1 ⟨rfl, hb1⟩
        obtain ⟨g, cap, w2, p1, p2, _, p3⟩ := row_pushI (ownsRow_onI HV.out hb1) (Nat.le_trans HB.out.size hb1.size) (by simp; omega) (unordV (s.extract (8 * k) (8 * k + 8))) k (by simp)
        have P2 := Lib.hid p2
        have P3 := Lib.hid ((HB.out.on hb1).trans p3)
        clear p2 p3 hb1
        go_wp2
        go_roundw
        case rel => exact ⟨k + 1, by omega, by rw [← F4.out], by rw [List.range_succ, List.map_append]; exact P2.out, P3.out⟩
        case measure => have := HSM.out; have := HF1.out; rw [F4.out]; show (s.extract (8 * (k + 1)) s.size).size < t.size; omega
      · obtain rfl : k = n := by omega
        have he : (s.extract (8 * k) s.size).toList.isEmpty = true := by
          rw [← HN.out, show s.extract s.size s.size = ⟨#[]⟩ from ByteArray.ext (by simp), empty_list]
          rfl
        have HK : Hid (s.size / 8 = k) := by unfold Hid; have := HN.out; omega
        go_wp2
        go_returns
        exact HP.out _ _ (by rw [HK.out]; exact HV.out) HB.out

set_option maxHeartbeats 800000 in
theorem rsplit9_any (s : ByteArray) (w : World) (hs : s.size ≤ 140737488351232) :
    Calls Try.prog 12 #[.string s] w (SplitPost s w) := by
  cases hok : splitOk s
  · have hp : ∀ w' : World, Below w.heap.size w w' → SplitPost s w (.returned (.tuple #[.slice none 0 0, .int .i64 22])) w' := fun w' hb =>
      ⟨_, by rw [hok]; rfl, by rw [splitL_no hok]; exact .inl ⟨rfl, _, _, rfl⟩, hb⟩
    have HP := Lib.hid hp
    have hcase : 32 < s.size ∨ (s.size ≤ 32 ∧ s.size % 8 ≠ 0) := by
      simp only [splitOk, Bool.and_eq_false_iff, decide_eq_false_iff_not] at hok
      omega
    clear hp hok
    rcases hcase with h | ⟨h, h8⟩
    · have h' : (32 : Int) < s.size := by omega
      go_enter Try.func12, Try.ntmps12
      go_wp2
      go_returns
      exact HP.out _ (Below.refl _ _)
    · have h' : ¬ (32 : Int) < s.size := by omega
      obtain ⟨m, hm⟩ : ∃ m : Int, (s.size : Int).tmod 8 = m := ⟨_, rfl⟩
      have hm0 : 0 < m := by rw [Int.tmod_eq_emod_of_nonneg (by omega)] at hm; omega
      go_enter Try.func12, Try.ntmps12
      go_wp2
      go_returns
      exact HP.out _ (Below.refl _ _)
  · have h2 : s.size ≤ 32 ∧ s.size % 8 = 0 := by simpa [splitOk] using hok
    have hp : ∀ (w' : World) (v : Value), IntsOwn w.heap.size w' v ((List.range (s.size / 8)).map (numAt s)) → Below w.heap.size w w' → SplitPost s w (.returned (.tuple #[v, .int .i64 0])) w' := fun w' v hv hb =>
      ⟨_, by rw [hok]; rfl, by rw [splitL_ok hok]; exact own_in hv (by omega), hb⟩
    have HP := Lib.hid hp
    clear hp hok
    obtain ⟨n, hn⟩ : ∃ n, s.size = 8 * n := ⟨s.size / 8, by omega⟩
    have hn4 : n ≤ 4 := by omega
    have HN := Lib.hid hn
    have h' : ¬ (32 : Int) < s.size := by omega
    have hm0 : (s.size : Int).tmod 8 = 0 := by rw [Int.tmod_eq_emod_of_nonneg (by omega)]; omega
    clear h2 hn
    go_enter Try.func12, Try.ntmps12
    go_wp2_with fail
    go_loopw [4, 5] (fun v i wr => ∃ k j : Nat, k ≤ n ∧ Hid (j = 8 * k) ∧ i = .int .i64 (j : Int) ∧ IntsOwn w.heap.size wr v ((List.range k).map (numAt s)) ∧ Below w.heap.size w wr) (fun _ i _ => 32 - (intOf i).toNat)
    case atStart => exact ⟨0, 0, Nat.zero_le _, rfl, rfl, own_nil _ _, Below.refl _ _⟩
    case round =>
      obtain ⟨k, j, hk, HJ, rfl, hv, hb⟩ := hrel
      have HV := Lib.hid hv
      have HB := Lib.hid hb
      clear hv hb
      by_cases hlt : k < n
      · have hin : j + 8 ≤ s.size := by have := HN.out; have := HJ.out; omega
        have hsz : (s.extract (8 * k) (8 * k + 8)).size = 8 := by
          have := HN.out
          rw [ByteArray.size_extract]; omega
        have HSZ := Lib.hid hsz
        have hcut : Hid (s.extract j (j + 8) = s.extract (8 * k) (8 * k + 8)) := by unfold Hid; rw [HJ.out]
        clear hsz
        go_wp2_with fail
        rw [run_slice_string _ 9 s .i64 .i64 (j : Int) ((j : Int) + 8) Try.underlying9 (by omega) (by omega) (by omega), show ((j : Int)).toNat = j by omega, show ((j : Int) + 8).toNat = j + 8 by omega, hcut.out]
        go_wp2_with fail
        refine (runordered_any _ _ HSZ.out).mono ?_
        rintro e w1 ⟨rfl, rfl⟩
        obtain ⟨g, cap, w2, p1, p2, _, p3⟩ := row_pushI HV.out HB.out.size (by simp; omega) (unordV (s.extract (8 * k) (8 * k + 8))) k (by simp)
        have P2 := Lib.hid p2
        have P3 := Lib.hid (HB.out.trans p3)
        clear p2 p3
        go_wp2
        go_roundw
        case rel => exact ⟨k + 1, j + 8, by omega, by have := HJ.out; unfold Hid; omega, by go_num, by rw [List.range_succ, List.map_append]; exact P2.out, P3.out⟩
        case measure => have := HN.out; simp [intOf]; omega
      · obtain rfl : k = n := by omega
        have hfin : (s.size : Int) = j := by have := HN.out; have := HJ.out; omega
        have HK : Hid (s.size / 8 = k) := by unfold Hid; have := HN.out; omega
        go_wp2
        go_returns
        exact HP.out _ _ (by rw [HK.out]; exact HV.out) HB.out
end Go.Proofs.Ytbfmadafiaofiaa
