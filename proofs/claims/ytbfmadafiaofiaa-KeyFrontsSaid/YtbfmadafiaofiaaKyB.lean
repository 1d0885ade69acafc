/- Which of two lists of numbers stands ahead: contracts of the reference's Before and Ints. -/
import Derived.Test.YtbfmadafiaofiaaKyA
namespace Go.Proofs.Ytbfmadafiaofiaa
set_option maxRecDepth 100000
open Go.ChangeShapes Go.WideShapes Go.ChangeAt Go.RowKit Go.PlainAid

/-- Does a list stand ahead of another one? -/
def befB : List Int → List Int → Bool
  | [], [] => false
  | [], _ :: _ => true
  | _ :: _, [] => false
  | x :: a, y :: b => if x = y then befB a b else decide (x < y)
/-- Are they the same? -/
def sameB (a b : List Int) : Bool := !befB a b && !befB b a
theorem sameB_eq : ∀ a b : List Int, sameB a b = (a == b)
  | [], [] => rfl
  | [], _ :: _ => rfl
  | _ :: _, [] => rfl
  | x :: a, y :: b => by
    by_cases h : x = y
    · subst h
      have ih := sameB_eq a b
      unfold sameB at ih ⊢
      simp only [befB, if_true]
      rw [ih]
      simp
    · have h' : ¬ y = x := fun e => h e.symm
      unfold sameB
      simp only [befB, if_neg h, if_neg h']
      rw [show ((x :: a) == (y :: b)) = false by simp [h]]
      by_cases c : x < y
      · simp [c]
      · have : y < x := by omega
        simp [this]
theorem befB_end : ∀ a b : List Int, (∀ (i : Nat) (x y : Int), a[i]? = some x → b[i]? = some y → x = y) → befB a b = decide (a.length < b.length)
  | [], [], _ => rfl
  | [], _ :: _, _ => rfl
  | _ :: _, [], _ => by simp [befB]
  | x :: a, y :: b, h => by
    have h0 : x = y := h 0 x y rfl rfl
    rw [befB, if_pos h0, befB_end a b (fun i u v hu hv => h (i + 1) u v hu hv)]
    simp
theorem befB_at : ∀ (a b : List Int) (k : Nat) (x y : Int), (∀ (i : Nat) (u v : Int), i < k → a[i]? = some u → b[i]? = some v → u = v) → a[k]? = some x → b[k]? = some y → x ≠ y → befB a b = decide (x < y)
  | [], _, k, _, _, _, h, _, _ => by simp at h
  | _ :: _, [], k, _, _, _, _, h, _ => by simp at h
  | u :: a, v :: b, 0, x, y, _, hx, hy, hn => by
    obtain rfl : u = x := by simpa using hx
    obtain rfl : v = y := by simpa using hy
    rw [befB, if_neg hn]
  | u :: a, v :: b, k + 1, x, y, h, hx, hy, hn => by
    have h0 : u = v := h 0 u v (by omega) rfl rfl
    rw [befB, if_pos h0]
    exact befB_at a b k x y (fun i u v hi hu hv => h (i + 1) u v (by omega) hu hv) (by simpa using hx) (by simpa using hy) hn

set_option maxHeartbeats 800000 in
theorem rbefore9_any (v u : Value) (a b : List Int) (w : World) (ha : IntsOf w v a) (hb : IntsOf w u b) :
    Calls Try.prog 14 #[v, u] w fun e w' => e = .returned (.bool (befB a b)) ∧ Below w.heap.size w w' := by
  obtain ⟨ao, acap, rfl, hma, hxa⟩ := ha.parts
  obtain ⟨bo, bcap, rfl, hmb, hxb⟩ := hb.parts
  have HXA := Lib.hid hxa
  have HXB := Lib.hid hxb
  clear ha hb hxa hxb
  go_enter Try.func14, Try.ntmps14
  go_wp2_with fail
  go_loopw [5] (fun i wr => ∃ k : Nat, k ≤ a.length ∧ k ≤ b.length ∧ i = .int .i64 k ∧ Hid (∀ (i : Nat) (x y : Int), i < k → a[i]? = some x → b[i]? = some y → x = y) ∧ Below w.heap.size w wr) (fun i _ => a.length - (intOf i).toNat)
  case atStart => exact ⟨0, Nat.zero_le _, Nat.zero_le _, rfl, fun i x y h => by omega, Below.refl _ _⟩
  case round =>
    obtain ⟨k, hka, hkb, rfl, HS, hB⟩ := hrel
    have HB := Lib.hid hB
    clear hB
    by_cases hla : k < a.length
    · by_cases hlb : k < b.length
      · obtain ⟨x, hx⟩ : ∃ x, a[k]? = some x := ⟨a[k], List.getElem?_eq_getElem hla⟩
        obtain ⟨y, hy⟩ : ∃ y, b[k]? = some y := ⟨b[k], List.getElem?_eq_getElem hlb⟩
        obtain ⟨g, o, rfl, hg, ⟨x0, x1⟩, hc⟩ := HXA.out k x hx
        obtain ⟨g', o', rfl, hg', ⟨y0, y1⟩, hc'⟩ := HXB.out k y hy
        have c1 := (HB.out.cell (p := ⟨g, o + k, none⟩) hg).trans hc
        have c2 := (HB.out.cell (p := ⟨g', o' + k, none⟩) hg').trans hc'
        have HX := Lib.hid hx
        have HY := Lib.hid hy
        clear hc hc' hx hy
        by_cases hxy : x = y
        · subst hxy
          go_wp2_with fail
          go_quiet (fail)
          have HB2 : Hid (Below w.heap.size w (wr.drewN nq)) := HB.out.trans ⟨rfl, rfl, rfl, Nat.le_refl _, fun _ _ => rfl⟩
          clear c1 c2
          go_wp2
          go_roundw
          case rel =>
            refine ⟨k + 1, by omega, by omega, by go_num, fun i u v hi hu hv => ?_, HB2.out⟩
            by_cases e : i = k
            · subst e
              rw [HX.out] at hu
              rw [HY.out] at hv
              rw [Option.some.inj hu] at hv
              exact Option.some.inj hv
            · exact HS i u v (by omega) hu hv
          case measure => simp [intOf]; omega
        · have hne : (x == y) = false := beq_eq_false_iff_ne.2 hxy
          have hbef : Hid (befB a b = decide (x < y)) := befB_at a b k x y HS HX.out HY.out hxy
          clear hxy
          go_wp2_with fail
          go_quiet (fail)
          have d1 : (wr.drewN nq).cell? ⟨g, o + k, none⟩ = some (.int .i64 x) := c1
          have d2 : (wr.drewN nq).cell? ⟨g', o' + k, none⟩ = some (.int .i64 y) := c2
          have HB2 : Hid (Below w.heap.size w (wr.drewN nq)) := HB.out.trans ⟨rfl, rfl, rfl, Nat.le_refl _, fun _ _ => rfl⟩
          clear c1 c2
          generalize wr.drewN nq = w2 at *
          go_wp2_with fail
          go_quiet (fail)
          have HB3 : Hid (Below w.heap.size w (w2.drewN nq)) := HB2.out.trans ⟨rfl, rfl, rfl, Nat.le_refl _, fun _ _ => rfl⟩
          clear d1 d2
          go_wp2
          go_returns
          exact ⟨by rw [hbef.out]; rfl, HB3.out⟩
      · obtain rfl : k = b.length := by omega
        have hbef : Hid (befB a b = decide (a.length < b.length)) := befB_end a b (fun i x y hx hy => HS i x y (List.getElem?_eq_some_iff.1 hy).1 hx hy)
        go_wp2
        go_returns
        exact ⟨by rw [hbef.out]; simp, HB.out⟩
    · obtain rfl : k = a.length := by omega
      have hbef : Hid (befB a b = decide (a.length < b.length)) := befB_end a b (fun i x y hx hy => HS i x y (List.getElem?_eq_some_iff.1 hx).1 hx hy)
      go_wp2
      go_returns
      exact ⟨by rw [hbef.out]; simp, HB.out⟩

set_option maxHeartbeats 800000 in
theorem rints9_any (v u : Value) (a b : List Int) (w : World) (ha : IntsOf w v a) (hb : IntsOf w u b) :
    Calls Try.prog 13 #[v, u] w fun e w' => e = .returned (.bool (a == b)) ∧ Below w.heap.size w w' := by
  have he := Lib.hid (sameB_eq a b)
  have HA := Lib.hid ha
  have HB := Lib.hid hb
  clear ha hb
  cases h1 : befB a b
  · cases h2 : befB b a
    · have hr : Hid ((a == b) = true) := by unfold Hid; rw [← he.out, sameB, h1, h2]; rfl
      have H1 := Lib.hid h1
      have H2 := Lib.hid h2
      clear h1 h2
      go_enter Try.func13, Try.ntmps13
      go_wp2_with fail
      refine (rbefore9_any v u a b _ HA.out HB.out).mono ?_
      rintro e w1 ⟨rfl, hb1⟩
      rw [H1.out]
      go_wp2_with fail
      refine (rbefore9_any u v b a _ (HB.out.on hb1) (HA.out.on hb1)).mono ?_
      rintro e w2 ⟨rfl, hb2⟩
      rw [H2.out]
      go_wp2
      go_returns
      exact ⟨by rw [hr.out]; rfl, hb1.on hb2⟩
    · have hr : Hid ((a == b) = false) := by unfold Hid; rw [← he.out, sameB, h1, h2]; rfl
      have H1 := Lib.hid h1
      have H2 := Lib.hid h2
      clear h1 h2
      go_enter Try.func13, Try.ntmps13
      go_wp2_with fail
      refine (rbefore9_any v u a b _ HA.out HB.out).mono ?_
      rintro e w1 ⟨rfl, hb1⟩
      rw [H1.out]
      go_wp2_with fail
      refine (rbefore9_any u v b a _ (HB.out.on hb1) (HA.out.on hb1)).mono ?_
      rintro e w2 ⟨rfl, hb2⟩
      rw [H2.out]
      go_wp2
      go_returns
      exact ⟨by rw [hr.out]; rfl, hb1.on hb2⟩
  · have hr : Hid ((a == b) = false) := by unfold Hid; rw [← he.out, sameB, h1]; rfl
    have H1 := Lib.hid h1
    clear h1
    go_enter Try.func13, Try.ntmps13
    go_wp2_with fail
    refine (rbefore9_any v u a b _ HA.out HB.out).mono ?_
    rintro e w1 ⟨rfl, hb1⟩
    rw [H1.out]
    go_wp2
    go_returns
    exact ⟨by rw [hr.out]; rfl, hb1⟩
end Go.Proofs.Ytbfmadafiaofiaa
