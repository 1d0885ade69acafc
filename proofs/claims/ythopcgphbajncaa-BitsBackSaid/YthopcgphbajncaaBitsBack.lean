/- What Var, Ordered and Fixed write is read as it was, whatever stands behind it, and the chapter's examples hold: for every number and text. Conditions: none. -/
import Derived.Test.YthopcgphbajncaaAwake
import Derived.Test.YthopcgphbajncaaBitsI
import Derived.Test.YthopcgphbajncaaLaw
namespace Go.Proofs.Ythopcgphbajncaa.bitsBack
open Go.ChangeShapes Go.WideShapes Go.ChangeAt Go.RowKit Go.PlainAid
open Go.ChangeMaps (open_string)

theorem own : ownKnob Try.prog.godebug = none := by kernel_rfl
theorem laidOut : laidOutB Try.prog = true := by kernel_rfl
theorem varL_shape : ∀ (k n : Nat), n < 128 ^ (k + 1) → (∀ i, i + 1 < (varL n).length → 128 ≤ (varL n).getD i 0) ∧ (varL n).getD ((varL n).length - 1) 0 < 128
  | 0, n, h => by
    rw [varL_lt (by omega)]
    refine ⟨fun i hi => ?_, ?_⟩
    · simp at hi
    · show (n : Int) < 128
      omega
  | k + 1, n, h => by
    by_cases c : n < 128
    · rw [varL_lt c]
      refine ⟨fun i hi => ?_, ?_⟩
      · simp at hi
      · show (n : Int) < 128
        omega
    · have ih := varL_shape k (n / 128) (by rw [Nat.pow_succ] at h; omega)
      have hp := varL_pos (n / 128)
      rw [varL_ge (by omega)]
      generalize varL (n / 128) = L at *
      refine ⟨fun i hi => ?_, ?_⟩
      · cases i with
        | zero => simp; omega
        | succ i =>
          have := ih.1 i (by simpa using hi)
          simpa using this
      · cases L with
        | nil => simp at hp
        | cons y r => simpa using ih.2
theorem bt_front (xs : List Int) (t : ByteArray) (i : Nat) (hi : i < xs.length) (hx : ∀ x ∈ xs, 0 ≤ x ∧ x < 256) : bt (strOfNums xs ++ t) i = xs.getD i 0 := by
  have hm := hx xs[i] (List.getElem_mem hi)
  rw [bt_list]
  have e : (strOfNums xs ++ t).data.toList = (xs.map fun n => UInt8.ofNat n.toNat) ++ t.data.toList := by
    rw [ByteArray.data_append, Array.toList_append, strOfNums_data]
  rw [e]
  simp only [List.getD_eq_getElem?_getD]
  rw [List.getElem?_append_left (by simpa using hi), List.getElem?_map, List.getElem?_eq_getElem hi]
  simp only [Option.map_some, Option.getD_some]
  rw [UInt8.toNat_ofNat']
  omega
theorem uv_reach (s : ByteArray) (k : Nat) (hk : k < s.size) (hc : bt s k < 128) (ho : uvOk s k = true) : ∀ (f j : Nat), (∀ i, j ≤ i → i < k → 128 ≤ bt s i) → j ≤ k → k < j + f → uv s f j = (pv s (k + 1), ((k + 1 : Nat) : Int))
  | 0, j, _, _, h => by omega
  | f + 1, j, hm, hj, hf => by
    by_cases e : j = k
    · subst e
      exact uv_ok s f j hk hc ho
    · rw [uv_go s f j (by omega) (by have := hm j (Nat.le_refl _) (by omega); omega)]
      exact uv_reach s k hk hc ho f (j + 1) (fun i h1 h2 => hm i (by omega) h2) (by omega) (by omega)
theorem back_var (n : Int) (t : ByteArray) (h0 : 0 ≤ n) (h1 : n ≤ 18446744073709551615) : unvarP (varS n ++ t) = (n, ((varS n).size : Int)) := by
  have hN : n.toNat < 128 ^ (9 + 1) := by
    have e : (128 : Nat) ^ (9 + 1) = 1180591620717411303424 := by decide
    omega
  have hsh := varL_shape 9 _ hN
  have hby := varL_bytes 9 _ hN
  have hd := dec_varL 9 _ hN
  have hten := varL_ten n.toNat (by omega)
  have hpos := varL_pos n.toNat
  have hsz : (varS n).size = (varL n.toNat).length := by unfold varS; rw [strOfNums_size]
  have hbt : ∀ i, i < (varL n.toNat).length → bt (varS n ++ t) i = (varL n.toNat).getD i 0 := fun i hi => bt_front _ t i hi hby
  have hsize : (varS n ++ t).size = (varS n).size + t.size := ByteArray.size_append
  have hfirst : firsts (varS n ++ t) (varL n.toNat).length = varL n.toNat := by
    apply List.ext_getElem?
    intro i
    by_cases c : i < (varL n.toNat).length
    · simp only [firsts, List.getElem?_map]
      rw [List.getElem?_range c]
      simp only [Option.map_some]
      rw [hbt i c, List.getD_eq_getElem?_getD, List.getElem?_eq_getElem c]
      rfl
    · rw [List.getElem?_eq_none (by rw [firsts_len]; omega), List.getElem?_eq_none (by omega)]
  obtain ⟨k, hk⟩ : ∃ k, (varL n.toNat).length = k + 1 := ⟨(varL n.toNat).length - 1, by omega⟩
  rw [hk] at hsh hbt hfirst hten
  have hpv : pv (varS n ++ t) (k + 1) = n := by
    rw [← dec_firsts, hfirst, hd]; omega
  have hnv : nv (varS n ++ t) (k + 1) = n := by unfold nv; rw [hpv]; omega
  have hm : ∀ j, j < k → 128 ≤ bt (varS n ++ t) j := fun j hj => by rw [hbt j (by omega)]; exact hsh.1 j (by omega)
  have hc : bt (varS n ++ t) k < 128 := by rw [hbt k (by omega)]; exact hsh.2
  have hks : k < (varS n ++ t).size := by omega
  have ho : uvOk (varS n ++ t) k = true := by
    rw [← eq_var _ k (by omega) hks hm hc, hnv]
    apply beq_iff_eq.2
    rw [firsts_str _ (k + 1) (by omega), hfirst, ByteArray.toList_eq]
    exact strOfNums_data _
  unfold unvarP
  rw [uv_reach _ k hks hc ho 10 0 (fun i _ h => hm i h) (by omega) (by omega), hpv, hsz, hk]
theorem back_ord (m : Int) (h0 : -9223372036854775808 ≤ m) (h1 : m ≤ 9223372036854775807) : unordV (ordS m) = m ∧ (ordS m).size = 8 := by
  obtain ⟨u, hu⟩ : ∃ u, u = m + 9223372036854775808 := ⟨_, rfl⟩
  have e : ordS m = strOfNums (h8 u) := by rw [hu]; rfl
  refine ⟨?_, by rw [e, strOfNums_size, h8_length]⟩
  unfold unordV unordZ
  have b : ∀ k, k < 8 → bt (ordS m) k = (h8 u).getD k 0 := fun k hk => by
    rw [e]
    have hx : ∀ x ∈ h8 u, 0 ≤ x ∧ x ≤ 255 := by
      intro x hx
      simp only [h8, List.mem_cons, List.not_mem_nil, or_false] at hx
      omega
    have hl : k < (h8 u).length := by rw [h8_length]; exact hk
    have hm := hx (h8 u)[k] (List.getElem_mem hl)
    have eg : (h8 u).getD k 0 = (h8 u)[k] := by rw [List.getD_eq_getElem?_getD, List.getElem?_eq_getElem hl]; rfl
    exact bt_strOfNums _ k (by rw [eg]; exact hm.1) (by rw [eg]; exact hm.2)
  rw [b 0 (by omega), b 1 (by omega), b 2 (by omega), b 3 (by omega), b 4 (by omega), b 5 (by omega), b 6 (by omega), b 7 (by omega)]
  simp only [h8, n8, List.getD_cons_zero, List.getD_cons_succ]
  omega
theorem bt_fix (n : Int) (z : Int) (h0 : 0 ≤ n) (h1 : n ≤ 18446744073709551615) (k : Nat) (hz0 : 0 ≤ z) (hz : z ≤ 8) : bt (fixS n z) k = if k < z.toNat then (l8 n).getD k 0 else 0 := by
  have e : fixS n z = strOfNums ((l8 n).take z.toNat) := by unfold fixS; rw [show (min (max z 0) 8) = z by omega]
  rw [e]
  have hx : ∀ x ∈ l8 n, 0 ≤ x ∧ x ≤ 255 := by
    intro x hx
    simp only [l8, List.mem_cons, List.not_mem_nil, or_false] at hx
    omega
  have eg : ((l8 n).take z.toNat).getD k 0 = if k < z.toNat then (l8 n).getD k 0 else 0 := by
    simp only [List.getD_eq_getElem?_getD]
    by_cases c : k < z.toNat
    · rw [List.getElem?_take_of_lt c, if_pos c]
    · rw [if_neg c, List.getElem?_eq_none (by rw [List.length_take]; omega)]
      rfl
  have hb : 0 ≤ ((l8 n).take z.toNat).getD k 0 ∧ ((l8 n).take z.toNat).getD k 0 ≤ 255 := by
    by_cases c : k < ((l8 n).take z.toNat).length
    · rw [List.getD_eq_getElem?_getD, List.getElem?_eq_getElem c]
      exact hx _ (List.mem_of_mem_take (List.getElem_mem c))
    · rw [List.getD_eq_getElem?_getD, List.getElem?_eq_none (by omega)]
      exact ⟨Int.le_refl _, by decide⟩
  rw [bt_strOfNums _ k hb.1 hb.2, eg]
theorem back_fix8 (n : Int) (h0 : 0 ≤ n) (h1 : n ≤ 18446744073709551615) : unfixZ (fixS n 8) = n := by
  have b := fun k => bt_fix n 8 h0 h1 k (by omega) (by omega)
  unfold unfixZ
  rw [b 0, b 1, b 2, b 3, b 4, b 5, b 6, b 7]
  have e : (8 : Int).toNat = 8 := rfl
  simp only [e, l8, n8, List.getD_cons_zero, List.getD_cons_succ, Nat.reduceLT, if_true]
  omega
theorem back_fix4 (n : Int) (h0 : 0 ≤ n) (h1 : n ≤ 18446744073709551615) : unfixZ (fixS n 4) = n % 4294967296 := by
  have b := fun k => bt_fix n 4 h0 h1 k (by omega) (by omega)
  unfold unfixZ
  rw [b 0, b 1, b 2, b 3, b 4, b 5, b 6, b 7]
  have e : (4 : Int).toNat = 4 := rfl
  simp only [e, l8, n8, List.getD_cons_zero, List.getD_cons_succ, Nat.reduceLT, if_true, if_false]
  omega
set_option maxHeartbeats 400000 in
theorem walk (a0 : Int) (w0 : (Lit.int .u64 a0).wf = true) (a1 : ByteArray) (s1 : a1.size ≤ 140737488351232) (a2 : Int) (w2 : (Lit.int .i64 a2).wf = true) (w : World) :
    Calls Try.prog 8 #[.int .u64 a0, .string a1, .int .i64 a2] w fun e w' => e = .returned (.bool true) ∧ Below w.heap.size w w' := by
  obtain ⟨b0, c0⟩ := bounds_u64 w0
  have u1 := s1
  clear u1
  obtain ⟨b2, c2⟩ := bounds_i64 w2
  have hv := varS_size a0 (by omega) (by omega)
  have hsm : (varS a0 ++ a1).size ≤ maxLen := by rw [ByteArray.size_append]; unfold maxLen; omega
  have hcat : (varS a0).size + a1.size ≤ 9223372036854775807 := by omega
  have hb1 := back_var a0 a1 (by omega) (by omega)
  obtain ⟨ho1, ho2⟩ := back_ord a2 (by omega) (by omega)
  have hf8 := back_fix8 a0 (by omega) (by omega)
  have hf4 := back_fix4 a0 (by omega) (by omega)
  have HB1 := Lib.hid hb1
  have HO2 := Lib.hid ho2
  clear hb1 ho2
  go_enter Try.func8, Try.ntmps8
  go_wp2_with fail
  refine (var_any a0 (by omega) (by omega) _).mono ?_
  rintro e w1 ⟨rfl, hb1⟩
  go_wp2_with fail
  refine (unvar_any (varS a0 ++ a1) hsm _).mono ?_
  rintro e _ ⟨rfl, rfl⟩
  rw [HB1.out]
  go_wp2_with fail
  refine (ordered_any a2 _ (by omega) (by omega)).mono ?_
  rintro e w2 ⟨rfl, hb2⟩
  go_wp2_with fail
  refine (unordered_any (ordS a2) _ HO2.out).mono ?_
  rintro e w3 ⟨rfl, hb3⟩
  go_wp2_with fail
  refine (var_any a0 (by omega) (by omega) _).mono ?_
  rintro e w4 ⟨rfl, hb4⟩
  go_wp2_with fail
  refine (fixed_any a0 8 _ (by omega) (by omega) (by omega) (by omega)).mono ?_
  rintro e w5 ⟨rfl, hb5⟩
  go_wp2_with fail
  refine (unfixed_any (fixS a0 8) _).mono ?_
  rintro e w6 ⟨rfl, hb6⟩
  go_wp2_with fail
  refine (fixed_any a0 4 _ (by omega) (by omega) (by omega) (by omega)).mono ?_
  rintro e w7 ⟨rfl, hb7⟩
  go_wp2_with fail
  refine (unfixed_any (fixS a0 4) _).mono ?_
  rintro e w8 ⟨rfl, hb8⟩
  go_wp2_with fail
  refine (awake_any _).mono ?_
  rintro e w9 ⟨rfl, hb9⟩
  go_wp2
  go_returns
  exact ⟨rfl, hb1.on (hb2.on (hb3.on (hb4.on (hb5.on (hb6.on (hb7.on (hb8.on hb9)))))))⟩

set_option maxRecDepth 100000 in
theorem lifted (os : Os) (started : os.Started) (H : Type) (enc : TypeId × Value → H) :
    ReturnsInHanded {} Try.checked os 8 .any (Rows.bitsBackSpec.pre6 enc Try.prog Try.f8 Rows.bitsBackRow.domain false) (Rows.bitsBackSpec.post enc Try.prog Try.f8 false true false false) := by
  refine law_lift (C := Try.checked) own started (by kernel_rfl) Try.func8 laidOut (by kernel_rfl) rfl Try.underlying4 rfl
    (fun ds h => match ds, h with | [_, _, _], _ => rfl)
    (ChangeSpec.witness6 (enc := enc) (C := Try.checked) false ⟨#[], #[.int .u64 0, .string ByteArray.empty, .int .i64 0], []⟩ 8 (by kernel_rfl) (by kernel_rfl) (by kernel_rfl) (by kernel_rfl)) ?_
  intro W base args ds ps hval hA hsz
  rw [Try.params8] at hA hval hsz
  obtain ⟨v0, vs0, d0, ds0, p0, q0, hargs, rfl, rfl, h0, r0⟩ := trodAll_cons hA
  obtain ⟨v1, vs1, d1, ds1, p1, q1, rfl, rfl, rfl, h1, r1⟩ := trodAll_cons r0
  obtain ⟨v2, vs2, d2, ds2, p2, q2, rfl, rfl, rfl, h2, r2⟩ := trodAll_cons r1
  obtain ⟨rfl, rfl, rfl⟩ := trodAll_nil r2
  obtain rfl : args = #[v0, v1, v2] := by cases args; simp_all
  obtain ⟨a0, rfl, rfl, rfl, w0⟩ := open_int Try.underlying22 (hval 0 22 v0 rfl rfl) h0
  obtain ⟨a1, rfl, rfl, rfl, _⟩ := open_string Try.underlying9 (hval 1 9 v1 rfl rfl) h1
  have s1 : a1.size ≤ 140737488351232 := by
    have := sized_string hsz (j := 1) rfl rfl
    simpa [reachBytes] using this
  obtain ⟨a2, rfl, rfl, rfl, w2⟩ := open_int Try.underlying3 (hval 2 3 v2 rfl rfl) h2
  exact walk a0 w0 a1 s1 a2 w2 W

theorem over : Rows.bitsBackRow.holds Try.pinned (OpenSpec.ofChange Rows.bitsBackSpec) :=
  OpenClaim.holds_of_wide 8 Try.f8 rfl rfl rfl rfl rfl rfl rfl ⟨rfl, rfl, rfl, rfl, rfl⟩ rfl rfl rfl rfl rfl (by kernel_rfl) Try.func8 (by kernel_rfl)
    (of_decide_eq_true (by kernel_rfl)) (by unfold Func.isWrapper; first | (rw [if_pos (by decide +kernel)]; kernel_rfl) | (rw [if_neg (by decide +kernel)]; exact ⟨rfl, rfl⟩))
    (fun os started H enc _ => lifted os started H enc)

theorem proved : Rows.BitsBackSaid :=
  over
end Go.Proofs.Ythopcgphbajncaa.bitsBack
