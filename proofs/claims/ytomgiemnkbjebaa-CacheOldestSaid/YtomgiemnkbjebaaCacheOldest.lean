/- Of things that were put in order, and never used again, just the last are kept, the last ahead; and the chapter's example holds: for all numbers. Conditions: none. -/
import Derived.Test.YtomgiemnkbjebaaCacO
import Derived.Test.YtomgiemnkbjebaaLaw
import Derived.BigQuiet
import Derived.Deep.QuietTactic
import Derived.Lib.QuietBelow
import Derived.Deep.DeepCutAuto
import Derived.Deep.CutBlock
namespace Go.Proofs.Ytomgiemnkbjebaa.cacheOldest
open Go.ChangeShapes Go.WideShapes Go.ChangeAt Go.RowKit Go.PlainAid
open Go.ChangeMaps (open_string)
open Go.Sort (grow)

theorem own : ownKnob Try.prog.godebug = none := by kernel_rfl
theorem laidOut : laidOutB Try.prog = true := by kernel_rfl
set_option maxRecDepth 100000
/-- What i Puts in order leave. -/
def oldK (i m : Nat) : List KA.E := (List.range (min i m)).map fun j : Nat => ⟨(i : Int) - 1 - (j : Int), ⟨#[118]⟩, 0⟩
theorem oldK_len (i m : Nat) : (oldK i m).length = min i m := by unfold oldK; rw [List.length_map, List.length_range]
theorem oldK_at {i m j : Nat} {e : KA.E} (h : (oldK i m)[j]? = some e) : j < min i m ∧ e = ⟨(i : Int) - 1 - (j : Int), ⟨#[118]⟩, 0⟩ := by
  have hl := (List.getElem?_eq_some_iff.1 h).1
  rw [oldK_len] at hl
  refine ⟨hl, ?_⟩
  unfold oldK at h
  rw [List.getElem?_map, List.getElem?_range hl] at h
  exact (Option.some.inj h).symm
theorem oldK_get {i m j : Nat} (h : j < min i m) : (oldK i m)[j]? = some ⟨(i : Int) - 1 - (j : Int), ⟨#[118]⟩, 0⟩ := by
  unfold oldK
  rw [List.getElem?_map, List.getElem?_range h]
  rfl
theorem oldK_no (i m : Nat) : ¬ posK (i : Int) (oldK i m) < (oldK i m).length := by
  rw [posK_no fun j x hx hk => ?_]
  · omega
  · obtain ⟨hj, rfl⟩ := oldK_at hx
    have : (i : Int) - 1 - (j : Int) = (i : Int) := hk
    omega
theorem oldK_old {i m : Nat} (hm : 1 ≤ m) (h : m ≤ i) : oldL (oldK i m) = 0 := by
  have := oldL_eq (L := oldK i m) (i := m - 1) (oldK_get (by omega)) rfl fun j x hj hx => by
    have := (oldK_at hx).1
    omega
  rw [oldK_len] at this
  omega
theorem oldK_put {i m : Nat} (hm : 1 ≤ m) : putL m (i : Int) ⟨#[118]⟩ (oldK i m) = oldK (i + 1) m := by
  unfold putL
  rw [if_neg (oldK_no i m)]
  have hcons : ∀ n, n < m → n ≤ i → ((⟨(i : Int), ⟨#[118]⟩, 0⟩ : KA.E) :: (List.range n).map fun j : Nat => ⟨(i : Int) - 1 - (j : Int), ⟨#[118]⟩, 0⟩) = (List.range (n + 1)).map fun j : Nat => ⟨((i + 1 : Nat) : Int) - 1 - (j : Int), ⟨#[118]⟩, 0⟩ := fun n _ _ => by
    rw [List.range_succ_eq_map, List.map_cons, List.map_map]
    congr 1
    · congr 1
      omega
    · apply List.map_congr_left
      intro j _
      show (⟨_, _, _⟩ : KA.E) = ⟨_, _, _⟩
      congr 1
      show _ = ((i + 1 : Nat) : Int) - 1 - ((j + 1 : Nat) : Int)
      omega
  by_cases h : i < m
  · rw [if_pos (by rw [oldK_len]; omega)]
    unfold oldK
    rw [Nat.min_eq_left (by omega), Nat.min_eq_left (by omega)]
    exact hcons i h (Nat.le_refl _)
  · rw [if_neg (by rw [oldK_len]; omega), oldK_old hm (by omega), if_pos (by rw [oldK_len]; omega), oldK_len]
    unfold oldK
    rw [Nat.min_eq_right (by omega), Nat.min_eq_right (by omega), Nat.sub_zero]
    obtain ⟨q, rfl⟩ : ∃ q, m = q + 1 := ⟨m - 1, by omega⟩
    rw [← hcons q (by omega) (by omega), Nat.add_sub_cancel, List.range_succ, List.map_append, List.eraseIdx_append_of_length_le (by simp)]
    simp
theorem oldK_key {i m : Nat} (hm : 1 ≤ m) : putK m (i : Int) (oldK i m) = if i < m then none else some ((i : Int) - (m : Int)) := by
  unfold putK
  rw [if_neg (oldK_no i m)]
  by_cases h : i < m
  · rw [if_pos (by rw [oldK_len]; omega), if_pos h]
  · rw [if_neg (by rw [oldK_len]; omega), if_neg h, oldK_old hm (by omega), if_pos (by rw [oldK_len]; omega), oldK_len, Nat.min_eq_right (by omega), oldK_get (by omega)]
    show some _ = some _
    congr 1
    show (i : Int) - 1 - ((m - 1 - 0 : Nat) : Int) = _
    omega
theorem oldK_err {i m : Nat} (hm : 1 ≤ m) : putE m (i : Int) (oldK i m) = 0 := by
  unfold putE
  rw [if_neg (oldK_no i m)]
  by_cases h : i < m
  · rw [if_pos (by rw [oldK_len]; omega)]
  · rw [if_neg (by rw [oldK_len]; omega), oldK_old hm (by omega), if_pos (by rw [oldK_len]; omega)]
theorem oldK_bare (i m : Nat) : KA.bare (oldK i m) = oldK i m := by
  unfold KA.bare oldK
  rw [List.map_map]
  rfl
theorem drew_on {w : World} : Below w.heap.size w w.drew := ⟨rfl, rfl, rfl, Nat.le_refl _, fun _ _ => rfl⟩
theorem under_items : Try.prog.underlying 27 = some (.slice (Try.prog.elem 27)) := by kernel_rfl
theorem like_refl (A : List KA.E) : KA.Like A A := ⟨rfl, fun i a b ha hb => by rw [ha] at hb; cases hb; exact ⟨rfl, rfl⟩⟩
set_option maxRecDepth 100000 in
set_option maxHeartbeats 4000000 in
theorem walk (w : World) (a0 : Int) (w0 : (Lit.int .u8 a0).wf = true) (a1 : Int) (w1 : (Lit.int .u8 a1).wf = true) (a2 : Int) (w2 : (Lit.int .i64 a2).wf = true) :
    Calls Try.prog 6 #[.int .u8 a0, .int .u8 a1, .int .i64 a2] w fun e w' => e = .returned (.bool true) ∧ Below w.heap.size w w' := by
  obtain ⟨b0, c0⟩ := bounds_u8 w0
  obtain ⟨b1, c1⟩ := bounds_u8 w1
  obtain ⟨b2, c2⟩ := bounds_i64 w2
  obtain ⟨m, hm1, hm2, hmod⟩ : ∃ m : Nat, 1 ≤ m ∧ m ≤ 9 ∧ a0 % 9 + 1 = (m : Int) := ⟨(a0 % 9 + 1).toNat, by omega, by omega, by omega⟩
  obtain ⟨k, hk, hmod2⟩ : ∃ k : Nat, k < 40 ∧ a1 % 40 = (k : Int) := ⟨(a1 % 40).toNat, by omega, by omega⟩
  go_enter Try.func6, Try.ntmps6
  go_wp2_with fail
  refine (KA.new_ok m hm1 (by omega) _).mono ?_
  rintro e _ ⟨rfl, rfl⟩
  have H1 := Lib.hid (KA.new_cat w w (m : Int) [] (Below.refl _ _) (fun _ _ h => by cases h))
  generalize w.alloc (.cells #[.int .i64 (m : Int), .slice none 0 0] 65) = w1 at *
  go_wp2_with fail
  go_loopw [11] (fun i wr => ∃ j : Nat, j ≤ k ∧ i = .int .i64 j ∧ KA.CaT w w.heap.size m (oldK j m) [] wr) (fun i _ => k - (intOf i).toNat)
  case atStart => exact ⟨0, Nat.zero_le _, rfl, by unfold oldK; rw [Nat.min_eq_left (Nat.zero_le _)]; exact H1.out⟩
  case round =>
    obtain ⟨j, hj, rfl, hC⟩ := hrel
    have HC := Lib.hid hC
    clear hC H1
    by_cases hlt : j < k
    · by_cases hjm : j < m
      · have HP := Lib.hid (KA.put_is (w0 := w) (p := w.heap.size) (R := []) hm1 (by omega) (by rw [oldK_len]; omega) 0 false 0 (by rw [oldK_key hm1, if_pos hjm]; rfl) (by rw [oldK_key hm1, if_pos hjm]; rfl) (oldK_err hm1) (oldK_put hm1) wr HC.out)
        clear HC
        go_wp2_with fail
        refine HP.out.mono ?_
        rintro e w3 ⟨rfl, h3⟩
        have H3 := Lib.hid h3
        clear h3 HP
        go_wp2_with fail
        go_roundw
        case rel => exact ⟨j + 1, by omega, by go_num, H3.out⟩
        case measure => simp [intOf]; omega
      · have HP := Lib.hid (KA.put_is (w0 := w) (p := w.heap.size) (R := []) hm1 (by omega) (by rw [oldK_len]; omega) ((j : Int) - (m : Int)) true 0 (by rw [oldK_key hm1, if_neg hjm]; rfl) (by rw [oldK_key hm1, if_neg hjm]; rfl) (oldK_err hm1) (oldK_put hm1) wr HC.out)
        clear HC
        go_wp2_with fail
        refine HP.out.mono ?_
        rintro e w3 ⟨rfl, h3⟩
        have H3 := Lib.hid h3
        clear h3 HP
        go_wp2_with fail
        go_roundw
        case rel => exact ⟨j + 1, by omega, by go_num, H3.out⟩
        case measure => simp [intOf]; omega
    · obtain rfl : j = k := by omega
      have HKP := Lib.hid (KA.kept_any HC.out 2000 (by rw [oldK_len]; omega))
      rw [oldK_bare, show (2000 : Int).toNat = 2000 from rfl, List.take_of_length_le (by rw [oldK_len]; omega)] at HKP
      go_wp2_with fail
      refine HKP.out.mono ?_
      rintro e w3 ⟨v, rfl, hrow, hb3⟩
      have H3 := Lib.hid (HC.out.on hb3)
      have hrd := KA.Reads.of_row hrow
      have hform : ∃ ao cap, v = .slice ao (oldK j m).length cap ∧ ((ao = none ∧ (oldK j m).length = 0 ∧ cap = 0) ∨ (∃ g, ao = some ⟨g, 0, none⟩ ∧ (oldK j m).length ≤ cap ∧ cap ≤ maxLen)) := by
        rcases hrow.2 with ⟨rfl, h0⟩ | ⟨g, cap, cur, rfl, _, _, hlc, hcm, _⟩
        · exact ⟨none, 0, by rw [h0], .inl ⟨rfl, h0, rfl⟩⟩
        · exact ⟨_, cap, rfl, .inr ⟨g, rfl, hlc, hcm⟩⟩
      have HRD := Lib.hid hrd
      obtain ⟨ao, cap, rfl, hform⟩ := hform
      have HFO := Lib.hid hform
      obtain ⟨n, hlen⟩ : ∃ n, (oldK j m).length = n := ⟨_, rfl⟩
      have HN1 : Hid (n = min j m) := Lib.hid (by rw [← hlen, oldK_len])
      have HLN := Lib.hid hlen
      have HLE := Lib.hid (KA.len_any H3.out)
      rw [hlen] at HLE HFO ⊢
      clear hform hrd hrow hb3 HC HKP hlen
      go_wp2_with fail
      have HAT : Hid (∀ i, i < n → (oldK j m)[i]? = some ⟨(j : Int) - 1 - (i : Int), ⟨#[118]⟩, 0⟩) := Lib.hid (fun i hi => oldK_get (by rw [← HN1.out]; exact hi))
      have HBA := Lib.hid (oldK_bare j m)
      generalize oldK j m = A at *
      have hways : (j ≤ m ∧ n = j) ∨ (m < j ∧ n = m) := by have := HN1.out; omega
      refine HLE.out.mono ?_
      rintro e _ ⟨rfl, rfl⟩
      clear HLE HN1
      rcases hways with ⟨hjm, rfl⟩ | ⟨hjm, rfl⟩
      all_goals
        go_wp2_with fail
        go_loopw [16] (fun i wr => ∃ t : Nat, t ≤ n ∧ i = .int .i64 t ∧ Below w3.heap.size w3 wr) (fun i _ => n - (intOf i).toNat)
        case atStart => exact ⟨0, Nat.zero_le _, rfl, Below.refl _ _⟩
        case round =>
          obtain ⟨t, ht, rfl, hB⟩ := hrel
          have HB := Lib.hid hB
          clear hB
          by_cases hlt : t < n
          · obtain ⟨_, _, hv1, h1⟩ := HRD.out
            cases hv1
            rcases h1 with h1 | ⟨g, rfl, l1, h1⟩
            · have := HLN.out
              rw [h1] at this
              exact absurd this (by simp; omega)
            · have c0 := (HB.out.cell (p := ⟨g, t * 3, none⟩) l1).trans (h1 t _ (HAT.out t hlt)).1
              simp only at c0
              clear h1
              go_wp2_with fail
              go_roundw
              case rel => exact ⟨t + 1, by omega, by go_num, HB.out⟩
              case measure => simp [intOf]; omega
          · obtain rfl : t = n := by omega
            have hf : a2 < 0 ∨ (0 ≤ a2 ∧ (t : Int) < a2) ∨ (0 ≤ a2 ∧ a2 ≤ (t : Int)) := by omega
            rcases hf with hf | ⟨hf, hf2⟩ | ⟨hf, hf2⟩
            iterate 2
              · go_wp2_with fail
                refine (KA.awake_any _).mono ?_
                rintro e w6 ⟨rfl, hb6⟩
                have HB6 := Lib.hid (H3.out.below.on (HB.out.on hb6))
                clear hb6
                go_wp2
                go_returns
                exact ⟨rfl, HB6.out⟩
            · have H4 := Lib.hid (H3.out.on HB.out)
              have HR4 := Lib.hid (HRD.out.on HB.out)
              clear H3 HRD HB HAT
              obtain ⟨f, rfl⟩ := Int.eq_ofNat_of_zero_le hf
              have hft : f ≤ t := by omega
              obtain ⟨c', hsl⟩ : ∃ c', ∀ w, (Instr.slice 27 (.slice ao t cap) none (some (.int .i64 (f : Int))) none).run Try.prog w = .ok (.slice ao f c') w := by
                rcases HFO.out with ⟨rfl, h0, rfl⟩ | ⟨g, rfl, hc1, hc2⟩
                · obtain rfl : f = 0 := by omega
                  rw [h0]
                  exact ⟨0, fun w => by kernel_rfl⟩
                · refine ⟨cap, fun w => ?_⟩
                  rw [run_slice_h (P := Try.prog) w 27 (some ⟨g, 0, none⟩) t cap under_items .i64 f (by omega) (by unfold maxLen at hc2; omega)]
                  show Result.ok (sliced _ _ _ _ _) w = _
                  unfold sliced
                  rw [Int.toNat_natCast]
                  split <;> rfl
              have HLT := Lib.hid (show (A.take f).length = f by rw [List.length_take, HLN.out]; omega)
              have HK := Lib.hid (KA.kept_any (H4.out.on (drew_on (w := wr))) (f : Int) (by rw [HLN.out]; omega))
              rw [HBA.out, Int.toNat_natCast] at HK
              have HT4 := Lib.hid (HR4.out.take f (by rw [HLN.out]; exact hft) c')
              have HB4 := Lib.hid (show Below w.heap.size w wr from H4.out.below)
              clear HFO hf hf2 H4 HR4
              go_wp2_with fail
              go_region_with (first
                | (go_at_call 14; (with_reducible refine HK.out.mono ?_); rintro e w4 ⟨v4, rfl, hR4, hb4⟩; have HRV := Lib.hid (KA.Reads.of_row hR4); have HBV := Lib.hid hb4; obtain ⟨q4, cb4, rfl, hF4⟩ := HRV.out; rw [HLT.out]; rw [HLT.out] at HRV; clear hF4 hR4 hb4)
                | (go_at_call 13; (with_reducible refine (KA.same_list HRV.out ((HT4.out.on drew_on).on HBV.out) (like_refl _) (by rw [HLT.out]; omega)).mono ?_); rintro e w5 ⟨rfl, hb5⟩)
                | (go_at_call 15; (with_reducible refine (KA.awake_any _).mono ?_); rintro e w6 ⟨rfl, hb6⟩))
              go_wp2
              go_returns
              exact ⟨rfl, HB4.out.on (drew_on.on (HBV.out.on (hb5.on hb6)))⟩

set_option maxRecDepth 100000 in
theorem lifted (os : Os) (started : os.Started) (H : Type) (enc : TypeId × Value → H) :
    ReturnsInHanded {} Try.checked os 6 .any (Rows.cacheOldestSpec.pre6 enc Try.prog Try.f6 Rows.cacheOldestRow.domain false) (Rows.cacheOldestSpec.post enc Try.prog Try.f6 false true false false) := by
  refine law_lift (C := Try.checked) own started (by kernel_rfl) Try.func6 laidOut (by kernel_rfl) rfl Try.underlying4 rfl
    (fun ds h => match ds, h with | [_, _, _], _ => rfl)
    (ChangeSpec.witness6 (enc := enc) (C := Try.checked) false ⟨#[], #[.int .u8 0, .int .u8 0, .int .i64 0], []⟩ 8 (by kernel_rfl) (by kernel_rfl) (by kernel_rfl) (by kernel_rfl)) ?_
  intro W base args ds ps hval hA hsz
  rw [Try.params6] at hA hval hsz
  obtain ⟨v0, vs0, d0, ds0, p0, q0, hargs, rfl, rfl, h0, r0⟩ := trodAll_cons hA
  obtain ⟨v1, vs1, d1, ds1, p1, q1, rfl, rfl, rfl, h1, r1⟩ := trodAll_cons r0
  obtain ⟨v2, vs2, d2, ds2, p2, q2, rfl, rfl, rfl, h2, r2⟩ := trodAll_cons r1
  obtain ⟨rfl, rfl, rfl⟩ := trodAll_nil r2
  obtain rfl : args = #[v0, v1, v2] := by cases args; simp_all
  obtain ⟨a0, rfl, rfl, rfl, w0⟩ := open_int Try.underlying5 (hval 0 5 v0 rfl rfl) h0
  obtain ⟨a1, rfl, rfl, rfl, w1⟩ := open_int Try.underlying5 (hval 1 5 v1 rfl rfl) h1
  obtain ⟨a2, rfl, rfl, rfl, w2⟩ := open_int Try.underlying3 (hval 2 3 v2 rfl rfl) h2
  exact walk W a0 w0 a1 w1 a2 w2

theorem over : Rows.cacheOldestRow.holds Try.pinned (OpenSpec.ofChange Rows.cacheOldestSpec) :=
  OpenClaim.holds_of_wide 6 Try.f6 rfl rfl rfl rfl rfl rfl rfl ⟨rfl, rfl, rfl, rfl, rfl⟩ rfl rfl rfl rfl rfl (by kernel_rfl) Try.func6 (by kernel_rfl)
    (of_decide_eq_true (by kernel_rfl)) (by unfold Func.isWrapper; first | (rw [if_pos (by decide +kernel)]; kernel_rfl) | (rw [if_neg (by decide +kernel)]; exact ⟨rfl, rfl⟩))
    (fun os started H enc _ => lifted os started H enc)

theorem proved : Rows.CacheOldestSaid :=
  over
end Go.Proofs.Ytomgiemnkbjebaa.cacheOldest
