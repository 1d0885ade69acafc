/- Contract of numbers: the numbers that a text is made of. -/
import Derived.Test.YthgibogdbbebaaaDoorOpQ
import Derived.Test.YthgibogdbbebaaaDoorUns
namespace Go.Proofs.YthgibogdbbebaaaDoor
set_option maxRecDepth 100000
open Go.ChangeShapes Go.WideShapes Go.ChangeAt Go.RowKit Go.PlainAid

attribute [local go_sem ↓ high] app_u64U
theorem own_nilU (n₀ : Nat) (W : World) : UnsOwn n₀ W (.slice none 0 0) [] := ⟨rfl, .inl ⟨rfl, rfl⟩⟩
theorem empty_is {t : ByteArray} (h : t.size = 0) : t.toList = [] := by
  rw [ByteArray.toList_eq]
  exact List.length_eq_zero_iff.1 (by rw [Array.length_toList]; exact h)
theorem empty_yes {t : ByteArray} (h : t.size = 0) : t.toList.isEmpty = true := by rw [empty_is h]; rfl
theorem empty_no {t : ByteArray} (h : t.size ≠ 0) : t.toList.isEmpty = false := by
  cases e : t.toList with
  | nil =>
    rw [ByteArray.toList_eq] at e
    exact absurd (by have := congrArg List.length e; simpa using this) h
  | cons => rfl
def strLen : Value → Nat | .string t => t.size | _ => 0
/-- What numbers tells. -/
def NumsPost (s : ByteArray) (w : World) (e : Ending) (w' : World) : Prop := (numsP 10 s = none ∧ e = .returned (.tuple #[.slice none 0 0, .bool false]) ∧ Below w.heap.size w w') ∨
  ∃ l r v, numsP 10 s = some (l, r) ∧ e = .returned (.tuple #[v, .bool (decide (r.size = 0))]) ∧ UnsOwn w.heap.size w' v l ∧ l.length ≤ 10 ∧ Below w.heap.size w w'
set_option maxHeartbeats 1000000 in
theorem numbers_any (s : ByteArray) (w : World) (hs : s.size ≤ 140737488351232) : Calls Tryd.prog 32 #[.string s] w (NumsPost s w) := by
  have HS := Lib.hid hs
  go_enter Tryd.func32, Tryd.ntmps32
  go_wp2_with fail
  go_loopw [4, 0] (fun v sv wr => ∃ (L : List Int) (t : ByteArray), sv = .string t ∧ L.length ≤ 10 ∧ t.size ≤ 140737488351232 ∧ Hid (UnsOwn w.heap.size wr v L) ∧ Hid (numsP 10 s = (numsP (10 - L.length) t).map fun x => (L ++ x.1, x.2)) ∧ Below w.heap.size w wr) (fun _ sv _ => strLen sv)
  case atStart => exact ⟨[], s, rfl, Nat.zero_le _, HS.out, own_nilU _ _, by unfold Hid; show _ = (numsP 10 s).map _; cases numsP 10 s <;> rfl, Below.refl _ _⟩
  case round =>
    obtain ⟨L, t, rfl, hl, ht, HV, HP, hb⟩ := hrel
    have HB := Lib.hid hb
    clear hb
    obtain ⟨ao, cap, rfl, _⟩ := HV.out.cells
    by_cases h0 : t.size = 0
    · have he := empty_yes h0
      have hl0 := empty_is h0
      have HN := Lib.hid (show numsP 10 s = some (L, t) by rw [HP.out, numsP_end _ h0]; simp)
      have HD := Lib.hid (decide_eq_true h0)
      clear h0
      go_wp2
      go_returns
      exact .inr ⟨L, t, _, HN.out, by rw [HD.out]; rfl, HV.out, hl, HB.out⟩
    · have he := empty_no h0
      have HD := Lib.hid (decide_eq_false h0)
      by_cases hten : L.length < 10
      · obtain ⟨n, hn⟩ : ∃ n, (unvarP t).1 = n := ⟨_, rfl⟩
        obtain ⟨k, hk⟩ : ∃ k, (unvarP t).2 = k := ⟨_, rfl⟩
        have HU := Lib.hid (show unvarP t = (n, k) by rw [← hn, ← hk])
        obtain ⟨f, hf⟩ : ∃ f, 10 - L.length = f + 1 := ⟨10 - L.length - 1, by omega⟩
        have HH := Lib.hid h0
        have HFL := Lib.hid hf
        rw [hf] at HP
        have hten' : (L.length : Int) < 10 := by omega
        have HNN := Lib.hid hn
        have HKK := Lib.hid hk
        clear hn hk h0 hf
        have HC := Lib.hid (unvar_any t (by unfold maxLen; omega))
        by_cases hk0 : k = 0
        · have HN := Lib.hid (show numsP 10 s = none by rw [HP.out, numsP_bad f HH.out (by rw [HKK.out]; exact hk0)]; rfl)
          subst hk0
          go_wp2_with fail
          refine (HC.out _).mono ?_
          rintro _ _ ⟨rfl, rfl⟩
          rw [HU.out]
          go_wp2
          go_returns
          exact .inl ⟨HN.out, rfl, HB.out⟩
        · obtain ⟨⟨n0, n1⟩, ⟨k0, k1, k2⟩, _, _⟩ := unvar_forth HU.out hk0
          have hk0' : (k == 0) = false := beq_eq_false_iff_ne.2 hk0
          obtain ⟨g, cap2, w2, p1, p2, _, p3⟩ := row_pushU HV.out HB.out.size (by omega) n L.length rfl
          have P2 := Lib.hid p2
          have P3 := Lib.hid (HB.out.trans p3)
          have HN := Lib.hid (show numsP 10 s = (numsP f (t.extract k.toNat t.size)).map fun x => ((L ++ [n]) ++ x.1, x.2) by
            rw [HP.out, numsP_go f HH.out (by rw [HKK.out]; exact hk0), HNN.out, HKK.out, Option.map_map]
            congr 1
            funext x
            simp)
          have HSM := Lib.hid (show (t.extract k.toNat t.size).size < t.size by rw [ByteArray.size_extract]; have := HH.out; omega)
          clear p2 p3 hk0
          go_wp2_with fail
          refine (HC.out _).mono ?_
          rintro _ _ ⟨rfl, rfl⟩
          rw [HU.out]
          go_wp2
          go_roundw
          case rel => exact ⟨L ++ [n], _, rfl, by simp; omega, by have := HSM.out; omega, P2.out, by rw [List.length_append, List.length_singleton, show 10 - (L.length + 1) = f by have := HFL.out; omega]; exact HN.out, P3.out⟩
          case measure => exact HSM.out
      · have HN := Lib.hid (show numsP 10 s = some (L, t) by rw [HP.out, show 10 - L.length = 0 by omega]; simp [numsP])
        have hten' : ¬ (L.length : Int) < 10 := by omega
        clear h0
        go_wp2
        go_returns
        exact .inr ⟨L, t, _, HN.out, by rw [HD.out]; rfl, HV.out, hl, HB.out⟩
end Go.Proofs.YthgibogdbbebaaaDoor
