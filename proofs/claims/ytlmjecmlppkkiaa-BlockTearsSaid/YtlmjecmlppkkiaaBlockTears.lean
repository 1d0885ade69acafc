/- Of one write that a crash tears the first bytes are there, and then those that were there before; what is too long is not written; and the chapter's example holds: for all texts and cuts. Conditions: none. -/
import Derived.Test.YtlmjecmlppkkiaaBlkG
import Derived.Test.YtlmjecmlppkkiaaActs
import Derived.Test.YtlmjecmlppkkiaaLaw
import Derived.BigQuiet
import Derived.Deep.QuietTactic
import Derived.Lib.QuietBelow
namespace Go.Proofs.Ytlmjecmlppkkiaa.blockTears
open Go.ChangeShapes Go.WideShapes Go.ChangeAt Go.RowKit Go.PlainAid
open Go.ChangeMaps (open_string)
open Go.Sort (grow)

theorem own : ownKnob Try.prog.godebug = none := by kernel_rfl
theorem laidOut : laidOutB Try.prog = true := by kernel_rfl
theorem cut_cat (a b : ByteArray) (n : Nat) (hn : n ≤ 256) (ha : a.size = 256) (hb : b.size = 256) : a.extract 0 n ++ b.extract n 256 = mixed a b n := by
  have e1 : (a.extract 0 n).size = n := by rw [ByteArray.size_extract, ha]; omega
  have e2 : (b.extract n 256).size = 256 - n := by rw [ByteArray.size_extract, hb]; omega
  refine text_ext (by rw [ByteArray.size_append, e1, e2, mixed_size]; omega) fun k hk => ?_
  rw [ByteArray.size_append, e1, e2] at hk
  rw [mixed_bt _ _ _ (by omega), bt_append, e1]
  by_cases c : k < n
  · rw [if_pos c, if_pos c, bt_list, bt_list]
    simp only [ByteArray.data_extract, Array.toList_extract, List.extract_eq_take_drop, List.drop_zero, List.getD_eq_getElem?_getD]
    rw [List.getElem?_take_of_lt (by omega)]
  · rw [if_neg c, if_neg c, bt_list, bt_list]
    simp only [ByteArray.data_extract, Array.toList_extract, List.extract_eq_take_drop, List.getD_eq_getElem?_getD]
    rw [List.getElem?_take_of_lt (by omega), List.getElem?_drop, show n + (k - n) = k by omega]
theorem tears_last (a b : ByteArray) (c : Int) : (D.crash { (D.flushed { newD 6 with late := [(1, a)] }) with late := [(1, b)] } 1 0 c).last 1 = mixed b a (tornTo 0 c 0) := by
  show D.crashTo { (D.flushed { newD 6 with late := [(1, a)] }) with late := [(1, b)] } 1 0 c 1 1 = _
  rw [D.crashTo_kept (x := (1, b)) rfl (by decide), upd_same]
  rfl
theorem long_write {s : ByteArray} (h : 256 < s.size) : writeE (newD 6) 1 s = 21 := by
  unfold writeE
  rw [free_reach (newD_free 6) (by decide) (by decide), if_pos rfl, if_pos h]
theorem ext_zero (a b : ByteArray) : a.extract 0 0 ++ b = b := by
  apply ByteArray.ext
  simp
theorem ext_all {a : ByteArray} (h : a.size = 256) : a.extract 0 256 = a := by
  rw [← h]
  exact ByteArray.extract_zero_size
set_option maxRecDepth 100000 in
set_option maxHeartbeats 400000 in
theorem walk (w : World) (a0 : ByteArray) (s0 : a0.size ≤ 140737488351232) (a1 : ByteArray) (s1 : a1.size ≤ 140737488351232) (a2 : Int) (w2 : (Lit.int .i64 a2).wf = true) :
    Calls Try.prog 6 #[.string a0, .string a1, .int .i64 a2] w fun e w' => e = .returned (.bool true) ∧ Below w.heap.size w w' := by
  have u0 := s0
  clear u0
  have u1 := s1
  clear u1
  obtain ⟨b2, c2⟩ := bounds_i64 w2
  by_cases h0 : a0.size ≤ 256
  · by_cases h1 : a1.size ≤ 256
    · go_enter Try.func6, Try.ntmps6
      go_wp2_with fail
      refine (some_any _).mono ?_
      rintro e w1 ⟨p, rfl, H1⟩
      go_wp2_with fail
      refine (f_write H1 (newD_free 6) 1 a0 (by decide) (by decide) h0 (show 0 < 4294967296 by decide)).mono ?_
      rintro e w2 ⟨rfl, H2⟩
      go_wp2_with fail
      refine (f_flush H2 ⟨rfl, rfl⟩ (show 1 < 4294967296 by decide)).mono ?_
      rintro e w3 ⟨rfl, H3⟩
      go_wp2_with fail
      refine (f_write H3 ⟨rfl, rfl⟩ 1 a1 (by decide) (show (1 : Int) < 6 by decide) h1 (show 0 < 4294967296 by decide)).mono ?_
      rintro e w4 ⟨rfl, H4⟩
      go_wp2_with fail
      refine (o_crash H4 1 0 a2 (show 1 < 4294967296 by decide) (by decide) (by decide) (by decide) (by decide) (by omega) (by omega)).mono ?_
      rintro e w5 ⟨rfl, H5⟩
      have H6 : OwnAt w p (D.crash { (D.flushed { newD 6 with late := [(1, filled a0)] }) with late := [(1, filled a1)] } 1 0 a2) w5 := H5
      clear H5 H4 H3 H2 H1
      rcases Int.lt_or_le a2 0 with c | c
      · go_wp2_with fail
        refine (f_read H6 ⟨rfl, rfl⟩ 1 (by decide) (show (1 : Int) < 6 by decide)).mono ?_
        rintro e _ ⟨rfl, rfl⟩
        rw [show (D.crash _ 1 0 a2).last (Int.toNat 1) = _ from tears_last (filled a0) (filled a1) a2, show tornTo 0 a2 0 = 0 by unfold tornTo; rw [if_pos (by rfl)]; omega]
        have hz := cut_cat (filled a1) (filled a0) 0 (by omega) (filled_size _) (filled_size _)
        have l0 : 256 ≤ (filled a0).size := Nat.le_of_eq (filled_size _).symm
        have l1 : 256 ≤ (filled a1).size := Nat.le_of_eq (filled_size _).symm
        have l2 : (filled a0).size ≤ 256 := Nat.le_of_eq (filled_size _)
        have l3 : (filled a1).size ≤ 256 := Nat.le_of_eq (filled_size _)
        have hb5 := H6.below
        generalize mixed (filled a1) (filled a0) 0 = z at *
        have hq : (z.toList == (filled a0).toList) = true := by rw [← hz, ext_zero, ext_all (filled_size a0)]; simp
        clear H6 hz
        have cF1 : ∀ d os, Calls Try.prog 19 #[.string a1] (grow (redrawn w5 d) os) fun e w'' => e = .returned (.string (filled a1)) ∧ ∃ p : Regrown, w'' = grow (redrawn w5 p.d) p.os := fun d os => Calls.regrown_of (filled_any a1 _ h1)
        have cF0 : ∀ d os, Calls Try.prog 19 #[.string a0] (grow (redrawn w5 d) os) fun e w'' => e = .returned (.string (filled a0)) ∧ ∃ p : Regrown, w'' = grow (redrawn w5 p.d) p.os := fun d os => Calls.regrown_of (filled_any a0 _ h0)
        have cA : ∀ d os, Calls Try.prog 9 #[] (grow (redrawn w5 d) os) fun e w'' => e = .returned (.bool true) ∧ ∃ p : Regrown, w'' = grow (redrawn w5 p.d) p.os := fun d os => Calls.regrown_of (awake_any _)
        go_wp2_with fail
        refine wp_region_quiet_below (by kernel_rfl) (by kernel_rfl) ?_
        repeat (go_big_quiet_step (first | (with_reducible exact cF1 _ _) | (with_reducible exact cF0 _ _) | (with_reducible exact cA _ _)))
        refine wpQuiet_nil ?_
        intro _ hw'
        obtain ⟨⟨dq, osq⟩, hw''⟩ := hw'
        subst hw''
        go_wp2
        go_returns
        exact ⟨rfl, hb5.on (below_regrown w5 dq osq)⟩
      · obtain ⟨n, rfl⟩ := Int.eq_ofNat_of_zero_le c
        rcases Nat.lt_or_ge 256 n with c3 | c3
        · go_wp2_with fail
          refine (f_read H6 ⟨rfl, rfl⟩ 1 (by decide) (show (1 : Int) < 6 by decide)).mono ?_
          rintro e _ ⟨rfl, rfl⟩
          rw [show (D.crash _ 1 0 (n : Int)).last (Int.toNat 1) = _ from tears_last (filled a0) (filled a1) (n : Int), show tornTo 0 (n : Int) 0 = 256 by unfold tornTo; rw [if_pos (by rfl)]; omega]
          have hz := cut_cat (filled a1) (filled a0) 256 (by omega) (filled_size _) (filled_size _)
          have l0 : 256 ≤ (filled a0).size := Nat.le_of_eq (filled_size _).symm
          have l1 : 256 ≤ (filled a1).size := Nat.le_of_eq (filled_size _).symm
          have l2 : (filled a0).size ≤ 256 := Nat.le_of_eq (filled_size _)
          have l3 : (filled a1).size ≤ 256 := Nat.le_of_eq (filled_size _)
          have hb5 := H6.below
          generalize mixed (filled a1) (filled a0) 256 = z at *
          have hq : (z.toList == ((filled a1).extract 0 256 ++ (filled a0).extract 256 (filled a0).size).toList) = true := by rw [filled_size, hz]; simp
          clear H6 hz
          have cF1 : ∀ d os, Calls Try.prog 19 #[.string a1] (grow (redrawn w5 d) os) fun e w'' => e = .returned (.string (filled a1)) ∧ ∃ p : Regrown, w'' = grow (redrawn w5 p.d) p.os := fun d os => Calls.regrown_of (filled_any a1 _ h1)
          have cF0 : ∀ d os, Calls Try.prog 19 #[.string a0] (grow (redrawn w5 d) os) fun e w'' => e = .returned (.string (filled a0)) ∧ ∃ p : Regrown, w'' = grow (redrawn w5 p.d) p.os := fun d os => Calls.regrown_of (filled_any a0 _ h0)
          have cA : ∀ d os, Calls Try.prog 9 #[] (grow (redrawn w5 d) os) fun e w'' => e = .returned (.bool true) ∧ ∃ p : Regrown, w'' = grow (redrawn w5 p.d) p.os := fun d os => Calls.regrown_of (awake_any _)
          go_wp2_with fail
          refine wp_region_quiet_below (by kernel_rfl) (by kernel_rfl) ?_
          repeat (go_big_quiet_step (first | (with_reducible exact cF1 _ _) | (with_reducible exact cF0 _ _) | (with_reducible exact cA _ _)))
          refine wpQuiet_nil ?_
          intro _ hw'
          obtain ⟨⟨dq, osq⟩, hw''⟩ := hw'
          subst hw''
          go_wp2
          go_returns
          exact ⟨rfl, hb5.on (below_regrown w5 dq osq)⟩
        · go_wp2_with fail
          refine (f_read H6 ⟨rfl, rfl⟩ 1 (by decide) (show (1 : Int) < 6 by decide)).mono ?_
          rintro e _ ⟨rfl, rfl⟩
          rw [show (D.crash _ 1 0 (n : Int)).last (Int.toNat 1) = _ from tears_last (filled a0) (filled a1) (n : Int), show tornTo 0 (n : Int) 0 = n by unfold tornTo; rw [if_pos (by rfl)]; omega]
          have hz := cut_cat (filled a1) (filled a0) n (by omega) (filled_size _) (filled_size _)
          have l0 : 256 ≤ (filled a0).size := Nat.le_of_eq (filled_size _).symm
          have l1 : 256 ≤ (filled a1).size := Nat.le_of_eq (filled_size _).symm
          have l2 : (filled a0).size ≤ 256 := Nat.le_of_eq (filled_size _)
          have l3 : (filled a1).size ≤ 256 := Nat.le_of_eq (filled_size _)
          have hb5 := H6.below
          generalize mixed (filled a1) (filled a0) n = z at *
          have hq : (z.toList == ((filled a1).extract 0 n ++ (filled a0).extract n (filled a0).size).toList) = true := by rw [filled_size, hz]; simp
          clear H6 hz
          have cF1 : ∀ d os, Calls Try.prog 19 #[.string a1] (grow (redrawn w5 d) os) fun e w'' => e = .returned (.string (filled a1)) ∧ ∃ p : Regrown, w'' = grow (redrawn w5 p.d) p.os := fun d os => Calls.regrown_of (filled_any a1 _ h1)
          have cF0 : ∀ d os, Calls Try.prog 19 #[.string a0] (grow (redrawn w5 d) os) fun e w'' => e = .returned (.string (filled a0)) ∧ ∃ p : Regrown, w'' = grow (redrawn w5 p.d) p.os := fun d os => Calls.regrown_of (filled_any a0 _ h0)
          have cA : ∀ d os, Calls Try.prog 9 #[] (grow (redrawn w5 d) os) fun e w'' => e = .returned (.bool true) ∧ ∃ p : Regrown, w'' = grow (redrawn w5 p.d) p.os := fun d os => Calls.regrown_of (awake_any _)
          go_wp2_with fail
          refine wp_region_quiet_below (by kernel_rfl) (by kernel_rfl) ?_
          repeat (go_big_quiet_step (first | (with_reducible exact cF1 _ _) | (with_reducible exact cF0 _ _) | (with_reducible exact cA _ _)))
          refine wpQuiet_nil ?_
          intro _ hw'
          obtain ⟨⟨dq, osq⟩, hw''⟩ := hw'
          subst hw''
          go_wp2
          go_returns
          exact ⟨rfl, hb5.on (below_regrown w5 dq osq)⟩
    · go_enter Try.func6, Try.ntmps6
      go_wp2_with fail
      refine (some_any _).mono ?_
      rintro e w1 ⟨p, rfl, H1⟩
      have hE : writeE (newD 6) 1 (a0 ++ a1) = 21 := long_write (by rw [ByteArray.size_append]; omega)
      have HE := Lib.hid hE
      clear hE
      go_wp2_with fail
      refine (o_write H1 1 (a0 ++ a1) (by decide) (by decide) (show 0 < 4294967296 by decide)).mono ?_
      rintro e w2 ⟨rfl, H2⟩
      rw [HE.out]
      go_wp2_with fail
      refine (awake_any _).mono ?_
      rintro e w3 ⟨rfl, hb3⟩
      go_wp2
      go_returns
      exact ⟨rfl, H2.below.on hb3⟩
  · go_enter Try.func6, Try.ntmps6
    go_wp2_with fail
    refine (some_any _).mono ?_
    rintro e w1 ⟨p, rfl, H1⟩
    have hE : writeE (newD 6) 1 (a0 ++ a1) = 21 := long_write (by rw [ByteArray.size_append]; omega)
    have HE := Lib.hid hE
    clear hE
    go_wp2_with fail
    refine (o_write H1 1 (a0 ++ a1) (by decide) (by decide) (show 0 < 4294967296 by decide)).mono ?_
    rintro e w2 ⟨rfl, H2⟩
    rw [HE.out]
    go_wp2_with fail
    refine (awake_any _).mono ?_
    rintro e w3 ⟨rfl, hb3⟩
    go_wp2
    go_returns
    exact ⟨rfl, H2.below.on hb3⟩

set_option maxRecDepth 100000 in
theorem lifted (os : Os) (started : os.Started) (H : Type) (enc : TypeId × Value → H) :
    ReturnsInHanded {} Try.checked os 6 .any (Rows.blockTearsSpec.pre6 enc Try.prog Try.f6 Rows.blockTearsRow.domain false) (Rows.blockTearsSpec.post enc Try.prog Try.f6 false true false false) := by
  refine law_lift (C := Try.checked) own started (by kernel_rfl) Try.func6 laidOut (by kernel_rfl) rfl Try.underlying4 rfl
    (fun ds h => match ds, h with | [_, _, _], _ => rfl)
    (ChangeSpec.witness6 (enc := enc) (C := Try.checked) false ⟨#[], #[.string ByteArray.empty, .string ByteArray.empty, .int .i64 0], []⟩ 8 (by kernel_rfl) (by kernel_rfl) (by kernel_rfl) (by kernel_rfl)) ?_
  intro W base args ds ps hval hA hsz
  rw [Try.params6] at hA hval hsz
  obtain ⟨v0, vs0, d0, ds0, p0, q0, hargs, rfl, rfl, h0, r0⟩ := trodAll_cons hA
  obtain ⟨v1, vs1, d1, ds1, p1, q1, rfl, rfl, rfl, h1, r1⟩ := trodAll_cons r0
  obtain ⟨v2, vs2, d2, ds2, p2, q2, rfl, rfl, rfl, h2, r2⟩ := trodAll_cons r1
  obtain ⟨rfl, rfl, rfl⟩ := trodAll_nil r2
  obtain rfl : args = #[v0, v1, v2] := by cases args; simp_all
  obtain ⟨a0, rfl, rfl, rfl, _⟩ := open_string Try.underlying9 (hval 0 9 v0 rfl rfl) h0
  have s0 : a0.size ≤ 140737488351232 := by
    have := sized_string hsz (j := 0) rfl rfl
    simpa [reachBytes] using this
  obtain ⟨a1, rfl, rfl, rfl, _⟩ := open_string Try.underlying9 (hval 1 9 v1 rfl rfl) h1
  have s1 : a1.size ≤ 140737488351232 := by
    have := sized_string hsz (j := 1) rfl rfl
    simpa [reachBytes] using this
  obtain ⟨a2, rfl, rfl, rfl, w2⟩ := open_int Try.underlying3 (hval 2 3 v2 rfl rfl) h2
  exact walk W a0 s0 a1 s1 a2 w2

theorem over : Rows.blockTearsRow.holds Try.pinned (OpenSpec.ofChange Rows.blockTearsSpec) :=
  OpenClaim.holds_of_wide 6 Try.f6 rfl rfl rfl rfl rfl rfl rfl ⟨rfl, rfl, rfl, rfl, rfl⟩ rfl rfl rfl rfl rfl (by kernel_rfl) Try.func6 (by kernel_rfl)
    (of_decide_eq_true (by kernel_rfl)) (by unfold Func.isWrapper; first | (rw [if_pos (by decide +kernel)]; kernel_rfl) | (rw [if_neg (by decide +kernel)]; exact ⟨rfl, rfl⟩))
    (fun os started H enc _ => lifted os started H enc)

theorem proved : Rows.BlockTearsSaid :=
  over
end Go.Proofs.Ytlmjecmlppkkiaa.blockTears
