/- Package hist: place, Get; the reference's Get. -/
import Derived.Test.YtpjnmokofdldmaaDoorHtA
namespace Go.Proofs.YtpjnmokofdldmaaDoor
set_option maxRecDepth 100000
open Go.ChangeShapes Go.WideShapes Go.ChangeAt Go.RowKit Go.PlainAid Go.Deep

attribute [local go_sem ↓ high] load_op store_o
theorem below_drewN (w : World) (q : Nat) : Below w.heap.size w (w.drewN q) := ⟨rfl, rfl, rfl, Nat.le_refl _, fun _ _ => rfl⟩
theorem cmp_lt {a b : Int} : cmpZ a b < 0 ↔ a < b := by unfold cmpZ; split <;> (try split) <;> omega
theorem cmp_eq {a b : Int} : cmpZ a b = 0 ↔ a = b := by unfold cmpZ; split <;> (try split) <;> omega
theorem rise_le {l : List OpV} (hr : RiseO l) {s t : Nat} {a b : OpV} (h : s ≤ t) (ha : l[s]? = some a) (hb : l[t]? = some b) : a.id ≤ b.id := by
  rcases Nat.lt_or_ge s t with c | c
  · obtain ⟨h1, rfl⟩ := List.getElem?_eq_some_iff.1 ha
    obtain ⟨h2, rfl⟩ := List.getElem?_eq_some_iff.1 hb
    exact Int.le_of_lt (List.pairwise_iff_getElem.1 hr s t h1 h2 c)
  · obtain rfl : s = t := by omega
    rw [ha] at hb
    rw [Option.some.inj hb]
    exact Int.le_refl _
set_option maxHeartbeats 4000000 in
/-- Where an ID stands, and whether it is there. -/
theorem bsearch_any {v : Value} {l : List OpV} (x : Int) {w : World} (h : OpsOf w v l) (hr : RiseO l) (hs : l.length ≤ 1048576) :
    Calls Tryd.prog 36 #[v, .int .i64 x, .func (.func 37) #[] #[]] w fun e w' => e = .returned (.tuple #[.int .i64 (Hs.ahead HL l x : Nat), .bool (Hs.getL HL l x).isSome]) ∧ Below w.heap.size w w' := by
  obtain ⟨ao, ac, rfl⟩ := h.len
  have H := Lib.hid h
  have HR := Lib.hid hr
  clear h hr
  go_enter Tryd.func36, Tryd.ntmps36
  go_wp2_with fail
  go_loopw [9, 10] (fun s9 s10 wr => ∃ lo hi : Nat, s9 = .int .i64 lo ∧ s10 = .int .i64 hi ∧ lo ≤ hi ∧ hi ≤ l.length ∧ Hid (Below w.heap.size w wr ∧ (∀ (t : Nat) (a : OpV), t < lo → l[t]? = some a → a.id < x) ∧ ∀ (t : Nat) (a : OpV), hi ≤ t → l[t]? = some a → x ≤ a.id)) (fun s9 s10 _ => (intOf s10 - intOf s9).toNat)
  case atStart => exact ⟨0, l.length, rfl, rfl, Nat.zero_le _, Nat.le_refl _, Lib.hid ⟨Below.refl _ _, fun t a ht => absurd ht (Nat.not_lt_zero _), fun t a ht ha => absurd (List.getElem?_eq_some_iff.1 ha).1 (by omega)⟩⟩
  case round =>
    obtain ⟨lo, hi, rfl, rfl, hlh, hhi, HI⟩ := hrel
    by_cases hlt : lo < hi
    · obtain ⟨m, hm⟩ : ∃ m, (lo + hi) / 2 = m := ⟨_, rfl⟩
      have hml : lo ≤ m ∧ m < hi := by omega
      have e1 : ((lo : Int) + (hi : Int)) / 2 = (m : Int) := by omega
      obtain ⟨a, ha⟩ : ∃ a, l[m]? = some a := ⟨_, List.getElem?_eq_getElem (by omega)⟩
      obtain ⟨b, p, cap, hv, hblt, hwf, hc⟩ := OpsOf.at (H.out.on HI.out.1) ha
      have e0 : ao = some ⟨b, p, none⟩ := by cases hv; rfl
      subst e0
      have l1 := load_cellsO (p := p + m * 11) hc
      have HA := Lib.hid ha
      have HML := Lib.hid hml
      have q2 : (m : Int) < (l.length : Int) := by omega
      have q3 : IntKind.i64.wrap ((m : Int) + 1) = (m : Int) + 1 := IntWalk.i64_in _ (by omega)
      clear hm hml hv hblt hwf hc ha
      by_cases hax : a.id < x
      · have hx : cmpZ a.id x < 0 := cmp_lt.2 hax
        have HX := Lib.hid hax
        obtain ⟨cz, hcz⟩ : ∃ z, cmpZ a.id x = z := ⟨_, rfl⟩
        rw [hcz] at hx
        have HCZ := Lib.hid hcz
        clear hax hcz
        go_wp2_with fail
        refine (placec_any a x _).mono ?_
        rintro _ w2 ⟨rfl, hb2⟩
        rw [HCZ.out]
        have HB2 := Lib.hid (HI.out.1.on hb2)
        clear hb2
        go_wp2_with fail
        go_roundw
        case measure => have := HML.out; simp [intOf]; omega
        case rel => exact ⟨m + 1, hi, by simp, rfl, by have := HML.out; omega, hhi, Lib.hid ⟨HB2.out, fun t b ht hb => Int.lt_of_le_of_lt (rise_le HR.out (show t ≤ m by omega) hb HA.out) HX.out, HI.out.2.2⟩⟩
      · have hx : ¬ cmpZ a.id x < 0 := fun c => hax (cmp_lt.1 c)
        have HX := Lib.hid hax
        obtain ⟨cz, hcz⟩ : ∃ z, cmpZ a.id x = z := ⟨_, rfl⟩
        rw [hcz] at hx
        have HCZ := Lib.hid hcz
        clear hax hcz
        go_wp2_with fail
        refine (placec_any a x _).mono ?_
        rintro _ w2 ⟨rfl, hb2⟩
        rw [HCZ.out]
        have HB2 := Lib.hid (HI.out.1.on hb2)
        clear hb2
        go_wp2_with fail
        go_roundw
        case measure => have := HML.out; simp [intOf]; omega
        case rel => exact ⟨lo, m, rfl, rfl, HML.out.1, by have := HML.out; omega, Lib.hid ⟨HB2.out, HI.out.2.1, fun t b ht hb => Int.le_trans HX.out (rise_le HR.out ht HA.out hb)⟩⟩
    · obtain rfl : hi = lo := by omega
      have HAH := Lib.hid (show Hs.ahead HL l x = hi from Hs.ahead_is HL hhi HI.out.2.1 HI.out.2.2)
      by_cases hn : hi < l.length
      · obtain ⟨a, ha⟩ : ∃ a, l[hi]? = some a := ⟨_, List.getElem?_eq_getElem hn⟩
        obtain ⟨b, p, cap, hv, hblt, hwf, hc⟩ := OpsOf.at (H.out.on HI.out.1) ha
        have e0 : ao = some ⟨b, p, none⟩ := by cases hv; rfl
        subst e0
        have l1 := load_cellsO (p := p + hi * 11) hc
        have HG := Lib.hid (show Hs.getL HL l x = if a.id = x then some a else none from Hs.get_place HL HR.out (by rw [HAH.out]; exact ha))
        have q2 : (hi : Int) < (l.length : Int) := by omega
        have q1 : decide ((hi : Int) < (l.length : Int)) = true := decide_eq_true q2
        obtain ⟨cz, hcz⟩ : ∃ z, cmpZ a.id x = z := ⟨_, rfl⟩
        have HCZ := Lib.hid hcz
        clear hv hblt hwf hc ha hcz
        by_cases hax : a.id = x
        · have HX := Lib.hid hax
          have hz : cz = 0 := by rw [← HCZ.out]; exact cmp_eq.2 hax
          clear hax
          go_wp2_with fail
          refine (placec_any a x _).mono ?_
          rintro _ w2 ⟨rfl, hb2⟩
          rw [HCZ.out]
          have HB2 := Lib.hid (HI.out.1.on hb2)
          clear hb2
          go_wp2_with fail
          go_returns
          exact ⟨by rw [HAH.out, HG.out, if_pos HX.out]; rfl, HB2.out⟩
        · have HX := Lib.hid hax
          have hz : ¬ cz = 0 := by rw [← HCZ.out]; exact fun c => hax (cmp_eq.1 c)
          have hz2 : (cz == 0) = false := beq_eq_false_iff_ne.2 hz
          clear hax hz
          go_wp2_with fail
          refine (placec_any a x _).mono ?_
          rintro _ w2 ⟨rfl, hb2⟩
          rw [HCZ.out]
          have HB2 := Lib.hid (HI.out.1.on hb2)
          clear hb2
          go_wp2_with fail
          go_returns
          exact ⟨by rw [HAH.out, HG.out, if_neg HX.out]; rfl, HB2.out⟩
      · have q1 : decide ((hi : Int) < (l.length : Int)) = false := decide_eq_false (by omega)
        have q2 : ((hi : Int) < (l.length : Int)) = False := eq_false (by omega)
        have HG := Lib.hid (show Hs.getL HL l x = none from Hs.get_past HL HR.out (by rw [HAH.out]; omega))
        clear hlh hhi hlt hn
        go_wp2_with fail
        go_returns
        exact ⟨by rw [HAH.out, HG.out]; rfl, HI.out.1⟩
theorem place_any {v : Value} {l : List OpV} (x : Int) {w : World} (h : OpsOf w v l) (hr : RiseO l) (hs : l.length ≤ 1048576) :
    Calls Tryd.prog 18 #[v, .int .i64 x] w fun e w' => e = .returned (.tuple #[.int .i64 (Hs.ahead HL l x : Nat), .bool (Hs.getL HL l x).isSome]) ∧ Below w.heap.size w w' := by
  obtain ⟨ao, ac, rfl⟩ := h.len
  have H := Lib.hid h
  have HR := Lib.hid hr
  clear h hr
  go_enter Tryd.func18, Tryd.ntmps18
  go_wp2_with fail
  refine (bsearch_any x H.out HR.out hs).mono ?_
  rintro _ w2 ⟨rfl, hb⟩
  go_wp2_with fail
  go_returns
  exact ⟨rfl, hb⟩
end Go.Proofs.YtpjnmokofdldmaaDoor
