/- The reference's Ints, without, with: contracts, and what they are of rising lists. -/
import Derived.Test.YtpooekmogfkkjaaSMoF
import Derived.Test.YtpooekmogfkkjaaSMoK
namespace Go.Proofs.Ytpooekmogfkkjaa
set_option maxRecDepth 100000
open Go.ChangeShapes Go.WideShapes Go.ChangeAt Go.RowKit Go.PlainAid Go.Deep

attribute [local go_sem ↓ high] app_intI
theorem eq_of_get {a b : List Int} (hl : a.length = b.length) (h : ∀ (i : Nat) (x y : Int), a[i]? = some x → b[i]? = some y → x = y) : a = b := by
  apply List.ext_getElem? 
  intro i
  by_cases c : i < a.length
  · rw [List.getElem?_eq_getElem c, List.getElem?_eq_getElem (by omega)]
    exact congrArg some (h i _ _ (List.getElem?_eq_getElem c) (List.getElem?_eq_getElem (by omega)))
  · rw [List.getElem?_eq_none (by omega), List.getElem?_eq_none (by omega)]
set_option maxHeartbeats 2000000 in
theorem rints_any (va vb : Value) (a b : List Int) (w : World) (ha : IntsOf w va a) (hb : IntsOf w vb b) : Calls Try.prog 30 #[va, vb] w fun e w' => e = .returned (.bool (a == b)) ∧ Below w.heap.size w w' := by
  obtain ⟨ao, ac, rfl, hma, hxa⟩ := ha.parts
  obtain ⟨bo, bc, rfl, hmb, hxb⟩ := hb.parts
  have HA := Lib.hid hxa
  have HB := Lib.hid hxb
  have HM := Lib.hid hma
  clear ha hb hma hmb hxa hxb
  by_cases hl : a.length = b.length
  · have q0 : ((a.length : Int) != (b.length : Int)) = false := by rw [hl]; simp
    have HL := Lib.hid hl
    clear hl
    go_enter Try.func30, Try.ntmps30
    go_wp2
    go_loopw [5] (fun s5 wr => ∃ k : Nat, s5 = .int .i64 k ∧ k ≤ a.length ∧ Below w.heap.size w wr ∧ Hid (∀ (i : Nat) (x y : Int), i < k → a[i]? = some x → b[i]? = some y → x = y)) (fun s5 _ => a.length - (intOf s5).toNat)
    case atStart => exact ⟨0, rfl, Nat.zero_le _, Below.refl _ _, fun i x y hi => absurd hi (by omega)⟩
    case round =>
      obtain ⟨k, rfl, hk, hb, HG⟩ := hrel
      by_cases hkl : k < a.length
      · obtain ⟨ba, oa, rfl, hlta, hra⟩ := HA.out (by omega)
        obtain ⟨bb, ob, rfl, hltb, hrb⟩ := HB.out (by have := HL.out; omega)
        have q1 : decide ((k : Int) < (a.length : Int)) = true := decide_eq_true (by omega)
        have q2 : (k : Int) < (a.length : Int) := by omega
        have q2b : (k : Int) < (b.length : Int) := by have := HL.out; omega
        have q3 : IntKind.i64.wrap ((k : Int) + 1) = (k : Int) + 1 := IntWalk.i64_in _ (by have := HM.out; omega)
        obtain ⟨x, hx⟩ : ∃ x, a[k]? = some x := ⟨_, List.getElem?_eq_getElem hkl⟩
        obtain ⟨y, hy⟩ : ∃ y, b[k]? = some y := ⟨_, List.getElem?_eq_getElem (by have := HL.out; omega)⟩
        have c0 : wr.cell? ⟨ba, oa + k, none⟩ = some (.int .i64 x) := (hb.cell (p := ⟨ba, oa + k, none⟩) hlta).trans (hra k x hx)
        have c1 : wr.cell? ⟨bb, ob + k, none⟩ = some (.int .i64 y) := (hb.cell (p := ⟨bb, ob + k, none⟩) hltb).trans (hrb k y hy)
        have HK := Lib.hid (And.intro hkl (And.intro hx hy))
        have HB' := Lib.hid hb
        clear hk hkl hx hy hb hra hrb
        by_cases hxy : x = y
        · subst hxy
          go_wp2
          go_quiet (fail)
          go_wp2
          go_roundw
          case measure => have := HK.out.1; simp [intOf]; omega
          case rel => exact ⟨k + 1, by simp, HK.out.1, HB'.out.on (below_drewN _ _), fun i u z hi hu hz => by
            by_cases c : i = k
            · subst c
              rw [HK.out.2.1] at hu
              rw [HK.out.2.2] at hz
              rw [← Option.some.inj hu, ← Option.some.inj hz]
            · exact HG.out i u z (by omega) hu hz⟩
        · have qq : (x != y) = true := bne_iff_ne.2 hxy
          have HX := Lib.hid hxy
          clear hxy
          go_wp2
          go_quiet (fail)
          go_wp2
          go_returns
          refine ⟨?_, HB'.out.on (below_drewN _ _)⟩
          rw [show (a == b) = false from beq_eq_false_iff_ne.2 fun e => HX.out (by
            have := HK.out.2.1
            rw [e, HK.out.2.2] at this
            exact (Option.some.inj this).symm)]
          rfl
      · have q1 : decide ((k : Int) < (a.length : Int)) = false := decide_eq_false (by omega)
        have q2 : ((k : Int) < (a.length : Int)) = False := eq_false (by omega)
        have HK := Lib.hid hkl
        have HB' := Lib.hid hb
        clear hk hkl hb
        go_wp2
        go_returns
        refine ⟨?_, HB'.out⟩
        rw [show (a == b) = true from beq_iff_eq.2 (eq_of_get HL.out fun i x y hx hy => HG.out i x y (by have := (List.getElem?_eq_some_iff.1 hx).1; have := HK.out; omega) hx hy)]
        rfl
  · have q0 : ((a.length : Int) != (b.length : Int)) = true := bne_iff_ne.2 (by omega)
    have HL := Lib.hid hl
    clear hl
    go_enter Try.func30, Try.ntmps30
    go_wp2
    go_returns
    exact ⟨by rw [show (a == b) = false from beq_eq_false_iff_ne.2 fun e => HL.out (by rw [e])]; rfl, Below.refl _ _⟩

/-- A list without a number. -/
def woutL (L : List Int) (x : Int) : List Int := L.filter (· != x)
theorem wout_snoc (L : List Int) (x y : Int) : woutL (L ++ [y]) x = if y = x then woutL L x else woutL L x ++ [y] := by
  unfold woutL
  rw [List.filter_append]
  by_cases h : y = x
  · simp [h]
  · simp [h]
theorem wout_len (L : List Int) (x : Int) : (woutL L x).length ≤ L.length := List.length_filter_le _ _
theorem take_snoc {L : List Int} {k : Nat} {y : Int} (h : L[k]? = some y) : L.take (k + 1) = L.take k ++ [y] := by
  rw [List.take_add_one, h]
  rfl
set_option maxHeartbeats 2000000 in
theorem rwithout_any (v : Value) (L : List Int) (x : Int) (w : World) (h : IntsOf w v L) (hs : L.length ≤ 17592186044414) : Calls Try.prog 76 #[v, .int .i64 x] w fun e w' => ∃ v', e = .returned v' ∧ OwnI w.heap.size w' v' (woutL L x) ∧ Below w.heap.size w w' := by
  have hin := h.inI
  obtain ⟨ao, ac, rfl, hma, hxa⟩ := h.parts
  have HA := Lib.hid hxa
  have HS := Lib.hid (And.intro hs hin)
  clear h hma hxa hs hin
  go_enter Try.func76, Try.ntmps76
  go_wp2
  go_loopw [5, 6] (fun s5 s6 wr => ∃ k : Nat, s6 = .int .i64 k ∧ k ≤ L.length ∧ Hid (OwnI w.heap.size wr s5 (woutL (L.take k) x) ∧ Below w.heap.size w wr)) (fun _ s6 _ => L.length - (intOf s6).toNat)
  case atStart => exact ⟨0, rfl, Nat.zero_le _, OwnI.nil _ _ none, Below.refl _ _⟩
  case round =>
    obtain ⟨k, rfl, hk, HR⟩ := hrel
    by_cases hkl : k < L.length
    · obtain ⟨ba, oa, rfl, hlta, hra⟩ := HA.out (by omega)
      have q1 : decide ((k : Int) < (L.length : Int)) = true := decide_eq_true (by omega)
      have q2 : (k : Int) < (L.length : Int) := by omega
      have q3 : IntKind.i64.wrap ((k : Int) + 1) = (k : Int) + 1 := IntWalk.i64_in _ (by have := HS.out.1; omega)
      obtain ⟨y, hy⟩ : ∃ y, L[k]? = some y := ⟨_, List.getElem?_eq_getElem hkl⟩
      have c0 : wr.cell? ⟨ba, oa + k, none⟩ = some (.int .i64 y) := (HR.out.2.cell (p := ⟨ba, oa + k, none⟩) hlta).trans (hra k y hy)
      have HT := Lib.hid (take_snoc hy)
      have HK := Lib.hid hkl
      have HY := Lib.hid (HS.out.2 y (List.mem_of_getElem? hy))
      clear hk hkl hra hy
      by_cases hxy : y = x
      · subst hxy
        go_wp2
        go_roundw
        case measure => have := HK.out; simp [intOf]; omega
        case rel => exact ⟨k + 1, by simp, HK.out, by rw [HT.out, wout_snoc, if_pos rfl]; exact HR.out.1, HR.out.2⟩
      · have qq : (y != x) = true := bne_iff_ne.2 hxy
        have HX := Lib.hid hxy
        obtain ⟨v2, W2, hr2, ho2, hm2⟩ := own_push HR.out.1 HR.out.2.size (by have := wout_len (L.take k) x; rw [List.length_take] at this; have := HS.out.1; omega) y HY.out
        have HO2 := Lib.hid ho2
        have HB2 := Lib.hid (HR.out.2.trans (hm2.below HR.out.1 HR.out.2.size))
        clear hxy ho2 hm2
        go_wp2
        go_roundw
        case measure => have := HK.out; simp [intOf]; omega
        case rel => exact ⟨k + 1, by simp, HK.out, by rw [HT.out, wout_snoc, if_neg HX.out]; exact HO2.out, HB2.out⟩
    · have q1 : decide ((k : Int) < (L.length : Int)) = false := decide_eq_false (by omega)
      have q2 : ((k : Int) < (L.length : Int)) = False := eq_false (by omega)
      have HK := Lib.hid (show woutL (L.take k) x = woutL L x by rw [List.take_of_length_le (by omega)])
      clear hk hkl
      go_wp2
      go_returns
      exact ⟨_, rfl, by rw [← HK.out]; exact HR.out.1, HR.out.2⟩
/-- A list with a number put in: what lies before, and whether it is in. -/
def wstep (x : Int) (M : List Int × Bool) (y : Int) : List Int × Bool := if M.2 = false ∧ x < y then (M.1 ++ [x] ++ [y], true) else (M.1 ++ [y], M.2)
def wst (L : List Int) (x : Int) : List Int × Bool := L.foldl (wstep x) ([], false)
def withL (L : List Int) (x : Int) : List Int := if (wst L x).2 = true then (wst L x).1 else (wst L x).1 ++ [x]
theorem wst_snoc (L : List Int) (x y : Int) : wst (L ++ [y]) x = wstep x (wst L x) y := by
  unfold wst
  rw [List.foldl_append]
  rfl
theorem wst_len : ∀ (n : Nat) (L : List Int) (x : Int), L.length = n → (wst L x).1.length = n + (if (wst L x).2 = true then 1 else 0) := by
  intro n
  induction n with
  | zero => intro L x h; rw [List.length_eq_zero_iff.1 h]; rfl
  | succ n ih =>
    intro L x h
    rcases List.eq_nil_or_concat L with rfl | ⟨r, y, rfl⟩
    · simp at h
    · rw [List.concat_eq_append] at *
      have hr : r.length = n := by simpa using h
      have := ih r x hr
      rw [wst_snoc]
      unfold wstep
      by_cases c : (wst r x).2 = false ∧ x < y
      · rw [if_pos c]
        rw [c.1] at this
        simp at this
        simp [this]
      · rw [if_neg c]
        simp only [List.length_append, List.length_singleton, this]
        omega
set_option maxHeartbeats 4000000 in
theorem rwith_any (v : Value) (L : List Int) (x : Int) (w : World) (h : IntsOf w v L) (hx : -9223372036854775808 ≤ x ∧ x ≤ 9223372036854775807) (hs : L.length ≤ 17592186044413) : Calls Try.prog 77 #[v, .int .i64 x] w fun e w' => ∃ v', e = .returned v' ∧ OwnI w.heap.size w' v' (withL L x) ∧ Below w.heap.size w w' := by
  have hin := h.inI
  obtain ⟨ao, ac, rfl, hma, hxa⟩ := h.parts
  have HA := Lib.hid hxa
  have HS := Lib.hid (And.intro hs (And.intro hin hx))
  clear h hma hxa hs hin hx
  go_enter Try.func77, Try.ntmps77
  go_wp2
  go_loopw [5, 6, 7] (fun s5 s6 s7 wr => ∃ (k : Nat) (d : Bool), s7 = .int .i64 k ∧ s6 = .bool d ∧ k ≤ L.length ∧ Hid ((wst (L.take k) x).2 = d ∧ OwnI w.heap.size wr s5 (wst (L.take k) x).1 ∧ Below w.heap.size w wr)) (fun _ _ s7 _ => L.length - (intOf s7).toNat)
  case atStart => exact ⟨0, false, rfl, rfl, Nat.zero_le _, rfl, OwnI.nil _ _ none, Below.refl _ _⟩
  case round =>
    obtain ⟨k, d, rfl, rfl, hk, HR⟩ := hrel
    have HN := Lib.hid (wst_len (L.take k).length (L.take k) x rfl)
    by_cases hkl : k < L.length
    · obtain ⟨ba, oa, rfl, hlta, hra⟩ := HA.out (by omega)
      have q1 : decide ((k : Int) < (L.length : Int)) = true := decide_eq_true (by omega)
      have q2 : (k : Int) < (L.length : Int) := by omega
      have q3 : IntKind.i64.wrap ((k : Int) + 1) = (k : Int) + 1 := IntWalk.i64_in _ (by have := HS.out.1; omega)
      obtain ⟨y, hy⟩ : ∃ y, L[k]? = some y := ⟨_, List.getElem?_eq_getElem hkl⟩
      have c0 : wr.cell? ⟨ba, oa + k, none⟩ = some (.int .i64 y) := (HR.out.2.2.cell (p := ⟨ba, oa + k, none⟩) hlta).trans (hra k y hy)
      have HC : ∀ wr', Below w.heap.size w wr' → wr'.cell? ⟨ba, oa + k, none⟩ = some (.int .i64 y) := fun wr' hb => (hb.cell (p := ⟨ba, oa + k, none⟩) hlta).trans (hra k y hy)
      have HC := Lib.hid HC
      have HT := Lib.hid (take_snoc hy)
      have HK := Lib.hid hkl
      have HY := Lib.hid (HS.out.2.1 y (List.mem_of_getElem? hy))
      have hml : (wst (L.take k) x).1.length ≤ k + 1 := by
        have := HN.out
        rw [List.length_take] at this
        split at this <;> omega
      have HML := Lib.hid hml
      clear hk hkl hra hy hml HN
      have plain : (wst (L.take k) x).2 = true ∨ ¬ x < y → Hid (wst (L.take (k + 1)) x = ((wst (L.take k) x).1 ++ [y], d)) := fun c => by
        show wst (L.take (k + 1)) x = _
        rw [HT.out, wst_snoc, wstep, if_neg, HR.out.1]
        rintro ⟨c1, c2⟩
        rcases c with c | c
        · rw [c] at c1; cases c1
        · exact c c2
      cases d with
      | true =>
        have HF := plain (.inl HR.out.1)
        obtain ⟨v2, W2, hr2, ho2, hm2⟩ := own_push HR.out.2.1 HR.out.2.2.size (by have := HS.out.1; have := HK.out; have := HML.out; omega) y HY.out
        have HO2 := Lib.hid ho2
        have HB2 := Lib.hid (HR.out.2.2.trans (hm2.below HR.out.2.1 HR.out.2.2.size))
        clear ho2 hm2 plain
        go_wp2
        go_roundw
        case measure => have := HK.out; simp [intOf]; omega
        case rel => exact ⟨k + 1, true, by simp, rfl, HK.out, by rw [HF.out], by rw [HF.out]; exact HO2.out, HB2.out⟩
      | false =>
        by_cases hxy : x < y
        · have qq : decide (x < y) = true := decide_eq_true hxy
          have HF := Lib.hid (show wst (L.take (k + 1)) x = ((wst (L.take k) x).1 ++ [x] ++ [y], true) by rw [HT.out, wst_snoc, wstep, if_pos ⟨HR.out.1, hxy⟩])
          obtain ⟨v2, W2, hr2, ho2, hm2⟩ := own_push HR.out.2.1 HR.out.2.2.size (by have := HS.out.1; have := HK.out; have := HML.out; omega) x HS.out.2.2
          have hb2 := HR.out.2.2.trans (hm2.below HR.out.2.1 HR.out.2.2.size)
          obtain ⟨v3, W3, hr3, ho3, hm3⟩ := own_push ho2 hb2.size (by have := HS.out.1; have := HK.out; have := HML.out; rw [List.length_append, List.length_singleton]; omega) y HY.out
          have c2 := HC.out W2 hb2
          have HO3 := Lib.hid ho3
          have HB3 := Lib.hid (hb2.trans (hm3.below ho2 hb2.size))
          clear ho2 hm2 hb2 ho3 hm3 plain
          go_wp2
          go_roundw
          case measure => have := HK.out; simp [intOf]; omega
          case rel => exact ⟨k + 1, true, by simp, rfl, HK.out, by rw [HF.out], by rw [HF.out]; exact HO3.out, HB3.out⟩
        · have qq : decide (x < y) = false := decide_eq_false hxy
          have qq2 : (x < y) = False := eq_false hxy
          have HF := plain (.inr hxy)
          obtain ⟨v2, W2, hr2, ho2, hm2⟩ := own_push HR.out.2.1 HR.out.2.2.size (by have := HS.out.1; have := HK.out; have := HML.out; omega) y HY.out
          have HO2 := Lib.hid ho2
          have HB2 := Lib.hid (HR.out.2.2.trans (hm2.below HR.out.2.1 HR.out.2.2.size))
          clear ho2 hm2 plain hxy
          go_wp2
          go_roundw
          case measure => have := HK.out; simp [intOf]; omega
          case rel => exact ⟨k + 1, false, by simp, rfl, HK.out, by rw [HF.out], by rw [HF.out]; exact HO2.out, HB2.out⟩
    · have q1 : decide ((k : Int) < (L.length : Int)) = false := decide_eq_false (by omega)
      have q2 : ((k : Int) < (L.length : Int)) = False := eq_false (by omega)
      have HT := Lib.hid (show L.take k = L from List.take_of_length_le (by omega))
      have hml : (wst (L.take k) x).1.length ≤ k + 1 := by
        have := HN.out
        rw [List.length_take] at this
        split at this <;> omega
      have HML := Lib.hid hml
      have HKL := Lib.hid hk
      clear hk hkl hml HN
      cases d with
      | true =>
        go_wp2
        go_returns
        exact ⟨_, rfl, by unfold withL; rw [← HT.out, if_pos HR.out.1]; exact HR.out.2.1, HR.out.2.2⟩
      | false =>
        obtain ⟨v2, W2, hr2, ho2, hm2⟩ := own_push HR.out.2.1 HR.out.2.2.size (by have := HS.out.1; have := HKL.out; have := HML.out; omega) x HS.out.2.2
        have HO2 := Lib.hid ho2
        have HB2 := Lib.hid (HR.out.2.2.trans (hm2.below HR.out.2.1 HR.out.2.2.size))
        clear ho2 hm2
        go_wp2
        go_returns
        exact ⟨_, rfl, by unfold withL; rw [← HT.out, if_neg (by rw [HR.out.1]; simp)]; exact HO2.out, HB2.out⟩
end Go.Proofs.Ytpooekmogfkkjaa
