/- States as texts: contracts of both States; a state that is written is read. -/
import Derived.Test.YtpooekmogfkkjaaSMoS
import Derived.Test.YtpooekmogfkkjaaGB
namespace Go.Proofs.Ytpooekmogfkkjaa
set_option maxRecDepth 100000
open Go.ChangeShapes Go.WideShapes Go.ChangeAt Go.RowKit Go.PlainAid Go.Deep

attribute [local go_sem ↓ high] app_intI
/-- The numbers that a text has from a place on, so many. -/
def stL (s : ByteArray) : Nat → Nat → List Int → List Int × Int
  | 0, p, L => (L, (p : Int))
  | c + 1, p, L => if (unvarP (s.extract p s.size)).2 = 0 then ([], 0) else stL s c (p + (unvarP (s.extract p s.size)).2.toNat) (L ++ [unfoldZ (unvarP (s.extract p s.size)).1])
def stateP (s : ByteArray) : List Int × Int := if (unvarP s).2 = 0 then ([], 0) else stL s (unvarP s).1.toNat (unvarP s).2.toNat []
theorem stL_bad {s : ByteArray} {c p : Nat} {L : List Int} (h : (unvarP (s.extract p s.size)).2 = 0) : stL s (c + 1) p L = ([], 0) := by rw [stL, if_pos h]
theorem stL_go {s : ByteArray} {c p : Nat} {L : List Int} {u k : Int} (h : unvarP (s.extract p s.size) = (u, k)) (hk : k ≠ 0) : stL s (c + 1) p L = stL s c (p + k.toNat) (L ++ [unfoldZ u]) := by
  rw [stL, h, if_neg hk]
theorem state_end {L : List Int} {p : Int} {A : List Int × Int} (h : A = (L, p)) : A.1 = L ∧ A.2 = p := by rw [h]; exact ⟨rfl, rfl⟩
set_option maxHeartbeats 4000000 in
theorem state_any (s : ByteArray) (w : World) (hs : s.size ≤ 1000000000000000000) (hb : s.size ≤ 17592186044414 ∨ (unvarP s).1 ≤ 17592186044414) : Calls Try.prog 34 #[.string s] w fun e w' => ∃ v', e = .returned (.tuple #[v', .int .i64 (stateP s).2]) ∧ OwnI w.heap.size w' v' (stateP s).1 ∧ Below w.heap.size w w' := by
  rcases hu : unvarP s with ⟨n, k⟩
  have HU := Lib.hid hu
  have HSZ := Lib.hid hs
  by_cases hk : k = 0
  · subst hk
    have HA := Lib.hid (show stateP s = ([], 0) by unfold stateP; rw [hu, if_pos rfl])
    clear hu hb hs
    go_enter Try.func34, Try.ntmps34
    go_wp2_with fail
    refine (unvar_any s (by have := HSZ.out; unfold maxLen; omega) _).mono ?_
    rintro _ _ ⟨rfl, rfl⟩
    rw [HU.out]
    go_wp2_with fail
    go_returns
    exact ⟨_, by rw [HA.out]; rfl, by rw [HA.out]; exact OwnI.nil _ _ none, Below.refl _ _⟩
  · obtain ⟨⟨n0, n1⟩, ⟨k0, k1, k2⟩, _, _⟩ := unvar_forth hu hk
    have hkq : (k == 0) = false := beq_eq_false_iff_ne.2 hk
    have HA := Lib.hid (show stateP s = stL s n.toNat k.toNat [] by unfold stateP; rw [hu, if_neg hk])
    have HN := Lib.hid (And.intro n0 n1)
    have HK := Lib.hid (And.intro k0 k2)
    have HBD : Hid (s.size ≤ 17592186044414 ∨ n ≤ 17592186044414) := by rw [hu] at hb; exact hb
    clear hu hb hs hk k0 k1 k2
    go_enter Try.func34, Try.ntmps34
    go_wp2_with fail
    refine (unvar_any s (by have := HSZ.out; unfold maxLen; omega) _).mono ?_
    rintro _ _ ⟨rfl, rfl⟩
    rw [HU.out]
    have HB1 := Lib.hid (Below.refl w.heap.size w)
    go_wp2_with fail
    go_loopw [5, 6, 17] (fun s5 s6 s17 wr => ∃ (p j : Nat) (L : List Int), s5 = .int .i64 p ∧ s17 = .int .u64 j ∧ L.length = j ∧ Hid (OwnI w.heap.size wr s6 L ∧ stL s (n.toNat - L.length) p L = stL s n.toNat k.toNat [] ∧ Below w.heap.size w wr ∧ L.length ≤ p ∧ p ≤ s.size ∧ L.length ≤ n.toNat)) (fun _ _ s17 _ => n.toNat - (intOf s17).toNat)
    case atStart => exact ⟨k.toNat, 0, [], by rw [show ((k.toNat : Nat) : Int) = k by have := HK.out; omega], rfl, rfl, OwnI.nil _ _ none, rfl, HB1.out, Nat.zero_le _, by have := HK.out; omega, Nat.zero_le _⟩
    case round =>
      obtain ⟨p, j, L, rfl, rfl, rfl, HR⟩ := hrel
      by_cases hc : (L.length : Int) < n
      · have q1 : decide ((L.length : Int) < n) = true := decide_eq_true hc
        have hps := HR.out.2.2.2.2.1
        have p0 : (p : Int) ≤ (s.size : Int) := by omega
        have hj1 : IntKind.u64.wrap ((L.length : Int) + 1) = (L.length : Int) + 1 := by rw [IntKind.wrap_u64]; have := HN.out; omega
        obtain ⟨t, ht⟩ : ∃ t, s.extract p s.size = t := ⟨_, rfl⟩
        have hts : t.size = s.size - p := by rw [← ht, ByteArray.size_extract]; omega
        have HTS := Lib.hid hts
        rcases hv : unvarP t with ⟨u, k'⟩
        have HV := Lib.hid hv
        have HT := Lib.hid ht
        have HC := Lib.hid hc
        have HL : Hid (L.length ≤ 17592186044414) := by
          show L.length ≤ 17592186044414
          have h1 := HR.out.2.2.2.1
          rcases HBD.out with c | c <;> omega
        obtain ⟨f, hf⟩ : ∃ f, n.toNat - L.length = f + 1 := ⟨n.toNat - L.length - 1, by omega⟩
        have HF := Lib.hid hf
        by_cases hk' : k' = 0
        · have HX := Lib.hid (show stateP s = ([], 0) by rw [HA.out, ← HR.out.2.1, hf]; exact stL_bad (by rw [ht, hv]; exact hk'))
          subst hk'
          clear hc hf hts hv hps
          go_wp2_with fail
          refine (unvar_any t (by have := HTS.out; have := HSZ.out; unfold maxLen; omega) _).mono ?_
          rintro _ _ ⟨rfl, rfl⟩
          rw [HV.out]
          go_wp2_with fail
          go_returns
          exact ⟨_, by rw [HX.out]; rfl, by rw [HX.out]; exact OwnI.nil _ _ none, HR.out.2.2.1⟩
        · obtain ⟨⟨u0, u1⟩, ⟨c0, c1, c2⟩, _, _⟩ := unvar_forth hv hk'
          have hkq' : (k' == 0) = false := beq_eq_false_iff_ne.2 hk'
          have HX := Lib.hid (show stL s f (p + k'.toNat) (L ++ [unfoldZ u]) = stL s n.toNat k.toNat [] by rw [← HR.out.2.1, hf]; exact (stL_go (by rw [ht, hv]) hk').symm)
          have hw1 : IntKind.i64.wrap ((p : Int) + k') = (p : Int) + k' := IntWalk.i64_in _ (by have := HSZ.out; omega)
          have HKK := Lib.hid (And.intro c0 (show k' ≤ (s.size : Int) - p by omega))
          have hz := unfoldZ_b u u0 u1
          have HZ := Lib.hid hz
          have HU1 := Lib.hid (And.intro u0 u1)
          clear hc hf hts hv hps hk' c0 c1 c2 u0 u1 hz
          go_wp2_with fail
          refine (unvar_any t (by have := HTS.out; have := HSZ.out; unfold maxLen; omega) _).mono ?_
          rintro _ _ ⟨rfl, rfl⟩
          rw [HV.out]
          have HRo := Lib.hid HR.out.1
          have HBr := Lib.hid HR.out.2.2.1
          go_wp2_with fail
          refine (unfold_any u _ HU1.out.1 HU1.out.2).mono ?_
          rintro _ _ ⟨rfl, rfl⟩
          obtain ⟨v2, W2, hr2, ho2, hm2⟩ := own_push HRo.out HBr.out.size HL.out (unfoldZ u) HZ.out
          have HO2 := Lib.hid ho2
          have HB2 := Lib.hid (HBr.out.trans (hm2.below HRo.out HBr.out.size))
          clear ho2 hm2
          go_wp2_with fail
          go_roundw
          case measure => have := HC.out; simp [intOf]; omega
          case rel => exact ⟨p + k'.toNat, L.length + 1, L ++ [unfoldZ u], by rw [show ((p + k'.toNat : Nat) : Int) = (p : Int) + k' by have := HKK.out; omega], by simp, by simp, Lib.hid ⟨HO2.out, by rw [List.length_append, List.length_singleton, show n.toNat - (L.length + 1) = f by have := HF.out; omega]; exact HX.out, HB2.out, by rw [List.length_append, List.length_singleton]; have := HR.out.2.2.2.1; have := HKK.out; omega, by have := HKK.out; omega, by rw [List.length_append, List.length_singleton]; have := HC.out; omega⟩⟩
      · have q1 : decide ((L.length : Int) < n) = false := decide_eq_false hc
        have q2 : ((L.length : Int) < n) = False := eq_false hc
        have HX := Lib.hid (show stateP s = (L, (p : Int)) by
          rw [HA.out, ← HR.out.2.1, show n.toNat - L.length = 0 by have := HN.out; omega]
          rfl)
        clear hc
        go_wp2_with fail
        go_returns
        exact ⟨_, by rw [HX.out]; rfl, by rw [HX.out]; exact HR.out.1, HR.out.2.2.1⟩
/-- What is written behind so many bytes is read from there. -/
theorem stL_body : ∀ (L : List Int) (s pre rest : ByteArray) (M : List Int), (∀ x ∈ L, -9223372036854775808 ≤ x ∧ x ≤ 9223372036854775807) → s = pre ++ bodyS L ++ rest →
    stL s L.length pre.size M = (M ++ L, ((pre.size + (bodyS L).size : Nat) : Int))
  | [], s, pre, rest, M, _, _ => by
    rw [List.append_nil]
    rfl
  | x :: r, s, pre, rest, M, h, hs => by
    have hx := h x (by simp)
    have hz := foldZ_b x hx.1 hx.2
    have e : s.extract pre.size s.size = varS (foldZ x) ++ (bodyS r ++ rest) := by
      have e1 : s = pre ++ (varS (foldZ x) ++ (bodyS r ++ rest)) := by rw [hs, bodyS]; simp only [ByteArray.append_assoc]
      rw [e1]
      exact ByteArray.extract_append_eq_right rfl (by rw [ByteArray.size_append])
    have hb := back_var (foldZ x) (bodyS r ++ rest) hz.1 hz.2
    rw [← e] at hb
    have hpos : ((varS (foldZ x)).size : Int) ≠ 0 := by
      have : 1 ≤ (varS (foldZ x)).size := by unfold varS; rw [strOfNums_size]; exact varL_pos _
      omega
    rw [List.length_cons, stL_go hb hpos, unfold_fold, show pre.size + ((varS (foldZ x)).size : Int).toNat = (pre ++ varS (foldZ x)).size by rw [ByteArray.size_append]; omega,
      stL_body r s (pre ++ varS (foldZ x)) rest (M ++ [x]) (fun y hy => h y (by simp [hy])) (by rw [hs, bodyS]; simp only [ByteArray.append_assoc])]
    rw [ByteArray.size_append, bodyS, ByteArray.size_append, List.append_assoc, Nat.add_assoc]
    rfl
theorem state_back (L : List Int) (rest : ByteArray) (h : ∀ x ∈ L, -9223372036854775808 ≤ x ∧ x ≤ 9223372036854775807) (hl : L.length ≤ 9223372036854775807) : stateP (textS L ++ rest) = (L, ((textS L).size : Int)) := by
  have hb := back_var (L.length : Int) (bodyS L ++ rest) (by omega) (by omega)
  have e : varS (L.length : Int) ++ (bodyS L ++ rest) = textS L ++ rest := by unfold textS; rw [ByteArray.append_assoc]
  rw [e] at hb
  have hpos : ((varS (L.length : Int)).size : Int) ≠ 0 := by
    have : 1 ≤ (varS (L.length : Int)).size := by unfold varS; rw [strOfNums_size]; exact varL_pos _
    omega
  unfold stateP
  rw [hb, if_neg hpos]
  show stL _ (L.length : Int).toNat ((varS (L.length : Int)).size : Int).toNat [] = _
  rw [show (L.length : Int).toNat = L.length by omega, show ((varS (L.length : Int)).size : Int).toNat = (varS (L.length : Int)).size by omega, stL_body L (textS L ++ rest) (varS (L.length : Int)) rest [] h rfl, List.nil_append]
  unfold textS
  rw [ByteArray.size_append]
end Go.Proofs.Ytpooekmogfkkjaa
