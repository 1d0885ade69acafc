/- Contracts of the reference: Put. -/
import Derived.Test.YtomgiemnkbjebaaCacW
namespace Go.Proofs.Ytomgiemnkbjebaa
set_option maxRecDepth 100000
open Go.ChangeShapes Go.WideShapes Go.ChangeAt Go.RowKit Go.PlainAid

namespace KA
/-- The last one without a pin, of the first j. -/
def LastZ (L : List E) (j : Nat) (a : Int) (fb : Bool) : Prop :=
  (fb = true ∧ ∃ t x, t < j ∧ L[t]? = some x ∧ x.pins = 0 ∧ a = x.key ∧ ∀ t' y, t < t' → t' < j → L[t']? = some y → y.pins ≠ 0) ∨ (fb = false ∧ a = 0 ∧ ∀ t y, t < j → L[t]? = some y → y.pins ≠ 0)
theorem lastZ_zero (L : List E) : LastZ L 0 0 false := .inr ⟨rfl, rfl, fun _ _ h => absurd h (Nat.not_lt_zero _)⟩
theorem lastZ_hit {L : List E} {j : Nat} {x : E} (hx : L[j]? = some x) (h0 : x.pins = 0) : LastZ L (j + 1) x.key true := .inl ⟨rfl, j, x, Nat.lt_succ_self _, hx, h0, rfl, fun t' y h1 h2 => by omega⟩
theorem lastZ_miss {L : List E} {j : Nat} {a : Int} {fb : Bool} {x : E} (h : LastZ L j a fb) (hx : L[j]? = some x) (h0 : x.pins ≠ 0) : LastZ L (j + 1) a fb := by
  rcases h with ⟨h1, t, y, ht, hy, hz, ha, hn⟩ | ⟨h1, h2, hn⟩
  · refine .inl ⟨h1, t, y, by omega, hy, hz, ha, fun t' z h3 h4 h5 => ?_⟩
    by_cases e : t' = j
    · subst e
      rw [hx] at h5
      cases h5
      exact h0
    · exact hn t' z h3 (by omega) h5
  · refine .inr ⟨h1, h2, fun t z h4 h5 => ?_⟩
    by_cases e : t = j
    · subst e
      rw [hx] at h5
      cases h5
      exact h0
    · exact hn t z (by omega) h5
theorem put_found {L : List E} (hO : Once L) {k : Int} (hp : posK k L < L.length) {x : E} (hx : L[posK k L]? = some x) (hk : x.key = k) (most : Nat) (s : ByteArray) : putK most k L = none ∧ putE most k L = 0 ∧ putL most k s L = ⟨k, s, x.pins⟩ :: noK k L := by
  unfold putK putE putL
  rw [if_pos hp, if_pos hp, if_pos hp, hx, noK_some hO hx hk, ← hk]
  exact ⟨rfl, rfl, rfl⟩
theorem put_rooms {L : List E} {k : Int} (hp : ¬ posK k L < L.length) {most : Nat} (hm : L.length < most) (s : ByteArray) : putK most k L = none ∧ putE most k L = 0 ∧ putL most k s L = ⟨k, s, 0⟩ :: noK k L := by
  unfold putK putE putL
  rw [if_neg hp, if_neg hp, if_neg hp, if_pos hm, if_pos hm, if_pos hm, noK_none hp]
  exact ⟨rfl, rfl, rfl⟩
theorem put_full {L : List E} {k : Int} (hp : ¬ posK k L < L.length) {most : Nat} (hm : ¬ L.length < most) {a : Int} (hz : LastZ L L.length a false) (s : ByteArray) : putK most k L = none ∧ putE most k L = 12 ∧ putL most k s L = L := by
  have ho : ¬ oldL L < L.length := by
    rcases hz with ⟨h, _⟩ | ⟨_, _, hn⟩
    · cases h
    · intro h
      obtain ⟨e, he, h0, _⟩ := oldL_at h
      exact hn _ e (List.getElem?_eq_some_iff.1 he).1 he h0
  unfold putK putE putL
  rw [if_neg hp, if_neg hp, if_neg hp, if_neg hm, if_neg hm, if_neg hm, if_neg ho, if_neg ho, if_neg ho]
  exact ⟨rfl, rfl, rfl⟩
theorem put_gone {L : List E} (hO : Once L) {k : Int} (hp : ¬ posK k L < L.length) {most : Nat} (hm : ¬ L.length < most) {a : Int} (hz : LastZ L L.length a true) (s : ByteArray) : putK most k L = some a ∧ putE most k L = 0 ∧ putL most k s L = ⟨k, s, 0⟩ :: noK k (noK a L) := by
  rcases hz with ⟨_, t, x, ht, hx, h0, rfl, hn⟩ | ⟨h, _⟩
  · have ho : oldL L = L.length - 1 - t := oldL_eq hx h0 fun j y hj hy => hn j y hj (List.getElem?_eq_some_iff.1 hy).1 hy
    have hol : oldL L < L.length := by omega
    have e1 : L.length - 1 - oldL L = t := by omega
    have e2 : noK x.key L = L.eraseIdx t := once_filter hO hx
    have e3 : noK k (L.eraseIdx t) = L.eraseIdx t := by
      refine List.filter_eq_self.2 fun y hy => ?_
      have := posK_none hp y ((List.eraseIdx_sublist _ _).subset hy)
      simp [this]
    unfold putK putE putL
    rw [if_neg hp, if_neg hp, if_neg hp, if_neg hm, if_neg hm, if_neg hm, if_pos hol, if_pos hol, if_pos hol, e1, hx, e2, e3]
    exact ⟨rfl, rfl, rfl⟩
  · cases h
attribute [local go_sem ↓ high] store_i app_i build_i store_c
set_option maxHeartbeats 4000000 in
theorem rput_any {n₀ : Nat} {w : World} {v : Value} {L : List E} (h : Items n₀ w v L) (hn : n₀ ≤ w.heap.size) (hO : Once L) (most : Nat) (k : Int) (s : ByteArray) (hl : L.length ≤ 4095) :
    Calls Try.prog 26 #[.agg #[.int .i64 (most : Int), v], .int .i64 k, .string s] w fun e w' => ∃ u, e = .returned (.tuple #[.agg #[.int .i64 (most : Int), u], .int .i64 ((putK most k L).getD 0), .bool (putK most k L).isSome, .int .i64 (putE most k L)]) ∧ Items n₀ w' u (putL most k s L) ∧ Below w.heap.size w w' := by
  have HR := Lib.hid (Reads.of_row h)
  obtain ⟨ao, nn, cap, rfl⟩ := items_slice h
  obtain rfl : nn = L.length := by
    obtain ⟨_, _, hv, _⟩ := HR.out
    cases hv
    rfl
  obtain ⟨W2, hW2, hq, hr, z2, hb2⟩ := two_boxes w (most : Int) (.slice ao L.length cap)
  obtain ⟨q0, q1, _⟩ := hq.read
  go_enter Try.func26, Try.ntmps26
  go_wp2_with fail
  have HF := Lib.hid (rfind_any (HR.out.on hb2) (most : Int) k (Nat.le_succ_of_le hl))
  have HI := Lib.hid h
  clear hW2 q0 q1 h
  by_cases hp : posK k L < L.length
  · obtain ⟨x, hx, hk, hf⟩ := find_some hp
    have HL := Lib.hid (put_found hO hp hx hk most s)
    have hd : decide (posK k L < L.length) = true := decide_eq_true hp
    rw [hf, hd] at HF
    clear hf hd
    subst hk
    refine HF.out.mono ?_
    rintro e w3 ⟨rfl, hb3⟩
    unfold itemV
    have hst := store_newI w3 x #[.int .i64 0, .string ⟨#[]⟩, .int .i64 0] rfl
    obtain ⟨w4, hw4, hx4, z4, hb4⟩ := one_box w3 x
    rw [hw4] at hst
    have hz3 : w.heap.size + 2 ≤ w3.heap.size := by
      have := hb3.size
      omega
    have hb24 := hb3.on hb4
    have hx5 := hx4.val s
    obtain ⟨x0, x1, x2⟩ := hx5.read
    have xc := hx4.read.2.1
    have xf : w4.frozen? ⟨w3.heap.size, 1, none⟩ = false := frozen_of_row _ _ _ _ _ hx4
    have hz5 : (w4.setCell ⟨w3.heap.size, 1, none⟩ (.string s)).heap.size = w4.heap.size := by simp
    have hb45 : Below w3.heap.size w3 (w4.setCell ⟨w3.heap.size, 1, none⟩ (.string s)) := below_set hb4 (Nat.le_refl _) _
    have hb25 := hb3.on hb45
    obtain ⟨q0, q1, _⟩ := (hq.on hb25 (by omega)).read
    have HA := Lib.hid (rahead_any (HR.out.on (hb2.on hb25)) (most : Int) ⟨x.key, s, x.pins⟩ (Nat.le_succ_of_le hl))
    have HB4 := Lib.hid (And.intro hb25 (And.intro hb2 (And.intro hq hr)))
    have hz25 : w.heap.size + 2 ≤ (w4.setCell ⟨w3.heap.size, 1, none⟩ (.string s)).heap.size := by omega
    clear hb3 hb4 hx4 hx5 hq hr hb2 hb24 hb45 hb25
    go_wp2_with fail
    clear hst q0 q1 x0 x1 x2 hw4 xc xf
    generalize w4.setCell ⟨w3.heap.size, 1, none⟩ (.string s) = w5 at *
    refine HA.out.mono ?_
    rintro e w6 ⟨u, rfl, hI5, hb5⟩
    obtain ⟨ao5, nn5, cap5, rfl⟩ := items_slice hI5
    obtain ⟨hb25, hb2, hq, hr⟩ := HB4.out
    have hr5 := (hr.on hb25 (by omega)).on hb5 (by omega)
    obtain ⟨w7, hst6, hbx6, hoth6, hbel6, _⟩ := hr5.store (most : Int) (.slice ao5 nn5 cap5) rfl
    obtain ⟨r0, r1, _⟩ := hbx6.read
    have HI6 := Lib.hid (items_base (items_on hI5 fun k hk _ => hoth6 k (by omega)) (show n₀ ≤ w5.heap.size by omega))
    have HB6 := Lib.hid (hbel6 _ _ ((hb2.on hb25).on hb5) (Nat.le_succ _))
    clear hI5 hb5 hb25 hb2 hq hr hr5 hoth6 hbel6 hbx6
    go_wp2_with fail
    refine bodyPost_ret (v := .tuple #[.agg #[.int .i64 (most : Int), .slice ao5 nn5 cap5], .int .i64 0, .bool false, .int .i64 0]) (by simp [results, Try.results26, go_sem, r0, r1]) rfl ?_
    rw [HL.out.1, HL.out.2.1, HL.out.2.2]
    exact ⟨_, rfl, HI6.out, HB6.out⟩
  · have hf := find_none hp
    have hd : decide (posK k L < L.length) = false := decide_eq_false hp
    rw [hf, hd] at HF
    refine HF.out.mono ?_
    rintro e w3 ⟨rfl, hb3⟩
    unfold itemV
    have hst : (storeS 51 (.pointer (some ⟨w3.heap.size, 0, none⟩)) (.agg #[.int .i64 0, .string ⟨#[]⟩, .int .i64 0])).run Try.prog (w3.alloc (.cells #[.int .i64 0, .string ⟨#[]⟩, .int .i64 0] 51)) = .ok () (w3.alloc (.cells #[.int .i64 0, .string ⟨#[]⟩, .int .i64 0] 51)) := store_newI w3 ⟨0, ⟨#[]⟩, 0⟩ #[.int .i64 0, .string ⟨#[]⟩, .int .i64 0] rfl
    obtain ⟨w4, hw4, hx4, z4, hb4⟩ := one_box w3 ⟨0, ⟨#[]⟩, 0⟩
    replace hw4 : w3.alloc (.cells #[.int .i64 0, .string ⟨#[]⟩, .int .i64 0] 51) = w4 := hw4
    rw [hw4] at hst
    have hz3 : w.heap.size + 2 ≤ w3.heap.size := by
      have := hb3.size
      omega
    have hb24 := hb3.on hb4
    obtain ⟨q0, q1, _⟩ := (hq.on hb24 (by omega)).read
    have hr4 := hr.on hb24 (by omega)
    have hb4w := hb2.on hb24
    clear hb3 hb4 hx4 hq hr hb2 hb24 HF
    have HR4 := Lib.hid (HR.out.on hb4w)
    have HR5 := Lib.hid hr4
    have HB4 := Lib.hid hb4w
    clear hr4 hb4w
    by_cases hml : L.length < most
    · have HL := Lib.hid (put_rooms hp hml s)
      have HA := Lib.hid (rahead_any HR4.out (most : Int) ⟨k, s, 0⟩ (Nat.le_succ_of_le hl))
      have hmi : (L.length : Int) < (most : Int) := by omega
      go_wp2_with fail
      clear hst q0 q1 hw4
      refine HA.out.mono ?_
      rintro e w6 ⟨u, rfl, hI5, hb5⟩
      obtain ⟨ao5, nn5, cap5, rfl⟩ := items_slice hI5
      have hr5 := HR5.out.on hb5 (by omega)
      obtain ⟨w7, hst6, hbx6, hoth6, hbel6, _⟩ := hr5.store (most : Int) (.slice ao5 nn5 cap5) rfl
      obtain ⟨r0, r1, _⟩ := hbx6.read
      have HI6 := Lib.hid (items_base (items_on hI5 fun k hk _ => hoth6 k (by omega)) (show n₀ ≤ w4.heap.size by omega))
      have HB6 := Lib.hid (hbel6 _ _ (HB4.out.on hb5) (Nat.le_succ _))
      clear hI5 hb5 hr5 hoth6 hbel6 hbx6
      go_wp2_with fail
      refine bodyPost_ret (v := .tuple #[.agg #[.int .i64 (most : Int), .slice ao5 nn5 cap5], .int .i64 0, .bool false, .int .i64 0]) (by simp [results, Try.results26, go_sem, r0, r1]) rfl ?_
      rw [HL.out.1, HL.out.2.1, HL.out.2.2]
      exact ⟨_, rfl, HI6.out, HB6.out⟩
    · have hmi : ¬ (L.length : Int) < (most : Int) := by omega
      have HQ := Lib.hid (And.intro q0 q1)
      go_wp2_with fail
      clear hst hw4
      go_loopw [12, 13, 14] (fun l fo i wr => ∃ (j : Nat) (a : Int) (fb : Bool), j ≤ L.length ∧ i = .int .i64 j ∧ l = .int .i64 a ∧ fo = .bool fb ∧ LastZ L j a fb ∧ wr = w4) (fun _ _ i _ => L.length - (intOf i).toNat)
      case atStart => exact ⟨0, 0, false, Nat.zero_le _, rfl, rfl, rfl, lastZ_zero L, rfl⟩
      case round =>
        obtain ⟨j, a, fb, hj, rfl, rfl, rfl, hz, rfl⟩ := hrel
        have HZ := Lib.hid hz
        clear hz
        by_cases hlt : j < L.length
        · obtain ⟨x, hx⟩ : ∃ x, L[j]? = some x := ⟨_, List.getElem?_eq_getElem hlt⟩
          obtain ⟨_, _, hv, h2⟩ := HR4.out
          cases hv
          rcases h2 with h2 | ⟨g, rfl, hg, h2⟩
          · rw [h2] at hx
            cases hx
          · obtain ⟨c0, c1, c2⟩ := h2 j x hx
            have HX := Lib.hid hx
            clear h2 hx hg c1
            by_cases h0 : x.pins = 0
            · rw [h0, show ((0 : Nat) : Int) = 0 from rfl] at c2
              go_wp2_with fail
              go_roundw
              case rel => exact ⟨j + 1, x.key, true, by omega, by go_num, rfl, rfl, lastZ_hit HX.out h0, by first | rfl | trivial⟩
              case measure => simp [intOf]; omega
            · have h0i : ¬ ((x.pins : Int) = 0) := by omega
              go_wp2_with fail
              go_roundw
              case rel => exact ⟨j + 1, a, fb, by omega, by go_num, rfl, rfl, lastZ_miss HZ.out HX.out h0, by first | rfl | trivial⟩
              case measure => simp [intOf]; omega
        · obtain rfl : j = L.length := by omega
          cases fb with
          | false =>
            have HL := Lib.hid (put_full hp hml HZ.out s)
            obtain ⟨w7, hst6, hbx6, hoth6, hbel6, _⟩ := HR5.out.store (most : Int) (.slice ao L.length cap) rfl
            obtain ⟨r0, r1, _⟩ := hbx6.read
            have HI6 := Lib.hid (items_on HI.out fun k hk hlt => (hoth6 k (by omega)).trans (HB4.out.block k hlt))
            have HB6 := Lib.hid (hbel6 _ _ HB4.out (Nat.le_succ _))
            clear hoth6 hbel6 hbx6
            go_wp2_with fail
            refine bodyPost_ret (v := .tuple #[.agg #[.int .i64 (most : Int), .slice ao L.length cap], .int .i64 0, .bool false, .int .i64 12]) (by simp [results, Try.results26, go_sem, r0, r1]) rfl ?_
            rw [HL.out.1, HL.out.2.1, HL.out.2.2]
            exact ⟨_, rfl, HI6.out, HB6.out⟩
          | true =>
            have HL := Lib.hid (put_gone hO hp hml HZ.out s)
            go_wp2_with fail
            refine (rdrop_any HR4.out (most : Int) a (Nat.le_succ_of_le hl)).mono ?_
            rintro e w5 ⟨u, rfl, hI5, hb5⟩
            obtain ⟨ao5, nn5, cap5, rfl⟩ := items_slice hI5
            have HA := Lib.hid (rahead_any (Reads.of_row hI5) (most : Int) ⟨k, s, 0⟩ (Nat.le_trans (noK_len a L) (Nat.le_succ_of_le hl)))
            have HB5 := Lib.hid hb5
            clear hI5 hb5
            go_wp2_with fail
            refine HA.out.mono ?_
            rintro e w6 ⟨u, rfl, hI6, hb6⟩
            obtain ⟨ao6, nn6, cap6, rfl⟩ := items_slice hI6
            have hr6 := (HR5.out.on HB5.out (by omega)).on hb6 (by have := HB5.out.size; omega)
            obtain ⟨w7, hst6, hbx6, hoth6, hbel6, _⟩ := hr6.store (most : Int) (.slice ao6 nn6 cap6) rfl
            obtain ⟨r0, r1, _⟩ := hbx6.read
            have HI6 := Lib.hid (items_base (items_on hI6 fun k hk _ => hoth6 k (by have := HB5.out.size; omega)) (show n₀ ≤ w5.heap.size by have := HB5.out.size; omega))
            have HB6 := Lib.hid (hbel6 _ _ ((HB4.out.on HB5.out).on hb6) (Nat.le_succ _))
            clear hI6 hb6 hr6 hoth6 hbel6 hbx6
            go_wp2_with fail
            refine bodyPost_ret (v := .tuple #[.agg #[.int .i64 (most : Int), .slice ao6 nn6 cap6], .int .i64 a, .bool true, .int .i64 0]) (by simp [results, Try.results26, go_sem, r0, r1]) rfl ?_
            rw [HL.out.1, HL.out.2.1, HL.out.2.2]
            exact ⟨_, rfl, HI6.out, HB6.out⟩
end KA
end Go.Proofs.Ytomgiemnkbjebaa
