/- The reference's Ints, without, with: contracts, and what they are of rising lists. States as texts: plain facts; contracts of both Texts. Contract: the reference's Unvar. -/
import Derived.Test.YtppjmmdiglnkfaaQal
import Derived.Test.YtppjmmdiglnkfaaQai
import Derived.Test.YtppjmmdiglnkfaaQah
import Derived.Deep.RegionWith
namespace Go.Proofs.Ytppjmmdiglnkfaa
set_option maxRecDepth 100000
open Go.ChangeShapes Go.WideShapes Go.ChangeAt Go.RowKit Go.PlainAid Go.Deep

attribute [local go_sem ↓ high] app_intI
theorem eq_of_get {a b : List Int} (hl : a.length = b.length) (h : ∀ (i : Nat) (x y : Int), a[i]? = some x → b[i]? = some y → x = y) : a = b := by
  apply List.ext_getElem? 
  intro i
  by_cases c : i < a.length
  · rw [List.getElem?_eq_getElem c, List.getElem?_eq_getElem (by omega)]
    exact congrArg some (h i _ _ (List.getElem?_eq_getElem c) (List.getElem?_eq_getElem (by omega)))
  · rw [List.getElem?_eq_none (by omega), List.getElem?_eq_none (by omega)]
set_option maxHeartbeats 2000000 in
theorem rints_any (va vb : Value) (a b : List Int) (w : World) (ha : IntsOf w va a) (hb : IntsOf w vb b) : Calls Try.prog 15 #[va, vb] w fun e w' => e = .returned (.bool (a == b)) ∧ Below w.heap.size w w' := by
  obtain ⟨ao, ac, rfl, hma, hxa⟩ := ha.parts
  obtain ⟨bo, bc, rfl, hmb, hxb⟩ := hb.parts
  have HA := Lib.hid hxa
  have HB := Lib.hid hxb
  have HM := Lib.hid hma
  clear ha hb hma hmb hxa hxb
  by_cases hl : a.length = b.length
  · have q0 : ((a.length : Int) != (b.length : Int)) = false := by rw [hl]; simp
    have HL := Lib.hid hl
    clear hl
    go_enter Try.func15, Try.ntmps15
    go_wp2
    go_loopw [5] (fun s5 wr => ∃ k : Nat, s5 = .int .i64 k ∧ k ≤ a.length ∧ Below w.heap.size w wr ∧ Hid (∀ (i : Nat) (x y : Int), i < k → a[i]? = some x → b[i]? = some y → x = y)) (fun s5 _ => a.length - (intOf s5).toNat)
    case atStart => exact ⟨0, rfl, Nat.zero_le _, Below.refl _ _, fun i x y hi => absurd hi (by omega)⟩
    case round =>
      obtain ⟨k, rfl, hk, hb, HG⟩ := hrel
      by_cases hkl : k < a.length
      · obtain ⟨ba, oa, rfl, hlta, hra⟩ := HA.out (by omega)
        obtain ⟨bb, ob, rfl, hltb, hrb⟩ := HB.out (by have := HL.out; omega)
        have q1 : decide ((k : Int) < (a.length : Int)) = true := decide_eq_true (by omega)
        have q2 : (k : Int) < (a.length : Int) := by omega
        have q2b : (k : Int) < (b.length : Int) := by have := HL.out; omega
        have q3 : IntKind.i64.wrap ((k : Int) + 1) = (k : Int) + 1 := IntWalk.i64_in _ (by have := HM.out; omega)
        obtain ⟨x, hx⟩ : ∃ x, a[k]? = some x := ⟨_, List.getElem?_eq_getElem hkl⟩
        obtain ⟨y, hy⟩ : ∃ y, b[k]? = some y := ⟨_, List.getElem?_eq_getElem (by have := HL.out; omega)⟩
        have c0 : wr.cell? ⟨ba, oa + k, none⟩ = some (.int .i64 x) := (hb.cell (p := ⟨ba, oa + k, none⟩) hlta).trans (hra k x hx)
        have c1 : wr.cell? ⟨bb, ob + k, none⟩ = some (.int .i64 y) := (hb.cell (p := ⟨bb, ob + k, none⟩) hltb).trans (hrb k y hy)
        have HK := Lib.hid (And.intro hkl (And.intro hx hy))
        have HB' := Lib.hid hb
        clear hk hkl hx hy hb hra hrb
        by_cases hxy : x = y
        · subst hxy
          go_wp2
          go_quiet (fail)
          go_wp2
          go_roundw
          case measure => have := HK.out.1; simp [intOf]; omega
          case rel => exact ⟨k + 1, by simp, HK.out.1, HB'.out.on (below_drewN _ _), fun i u z hi hu hz => by
            by_cases c : i = k
            · subst c
              rw [HK.out.2.1] at hu
              rw [HK.out.2.2] at hz
              rw [← Option.some.inj hu, ← Option.some.inj hz]
            · exact HG.out i u z (by omega) hu hz⟩
        · have qq : (x != y) = true := bne_iff_ne.2 hxy
          have HX := Lib.hid hxy
          clear hxy
          go_wp2
          go_quiet (fail)
          go_wp2
          go_returns
          refine ⟨?_, HB'.out.on (below_drewN _ _)⟩
          rw [show (a == b) = false from beq_eq_false_iff_ne.2 fun e => HX.out (by
            have := HK.out.2.1
            rw [e, HK.out.2.2] at this
            exact (Option.some.inj this).symm)]
          rfl
      · have q1 : decide ((k : Int) < (a.length : Int)) = false := decide_eq_false (by omega)
        have q2 : ((k : Int) < (a.length : Int)) = False := eq_false (by omega)
        have HK := Lib.hid hkl
        have HB' := Lib.hid hb
        clear hk hkl hb
        go_wp2
        go_returns
        refine ⟨?_, HB'.out⟩
        rw [show (a == b) = true from beq_iff_eq.2 (eq_of_get HL.out fun i x y hx hy => HG.out i x y (by have := (List.getElem?_eq_some_iff.1 hx).1; have := HK.out; omega) hx hy)]
        rfl
  · have q0 : ((a.length : Int) != (b.length : Int)) = true := bne_iff_ne.2 (by omega)
    have HL := Lib.hid hl
    clear hl
    go_enter Try.func15, Try.ntmps15
    go_wp2
    go_returns
    exact ⟨by rw [show (a == b) = false from beq_eq_false_iff_ne.2 fun e => HL.out (by rw [e])]; rfl, Below.refl _ _⟩

/-- A list without a number. -/
def woutL (L : List Int) (x : Int) : List Int := L.filter (· != x)
theorem wout_snoc (L : List Int) (x y : Int) : woutL (L ++ [y]) x = if y = x then woutL L x else woutL L x ++ [y] := by
  unfold woutL
  rw [List.filter_append]
  by_cases h : y = x
  · simp [h]
  · simp [h]
theorem wout_len (L : List Int) (x : Int) : (woutL L x).length ≤ L.length := List.length_filter_le _ _
theorem take_snoc {L : List Int} {k : Nat} {y : Int} (h : L[k]? = some y) : L.take (k + 1) = L.take k ++ [y] := by
  rw [List.take_add_one, h]
  rfl
set_option maxHeartbeats 2000000 in
theorem rwithout_any (v : Value) (L : List Int) (x : Int) (w : World) (h : IntsOf w v L) (hs : L.length ≤ 17592186044414) : Calls Try.prog 96 #[v, .int .i64 x] w fun e w' => ∃ v', e = .returned v' ∧ OwnI w.heap.size w' v' (woutL L x) ∧ Below w.heap.size w w' := by
  have hin := h.inI
  obtain ⟨ao, ac, rfl, hma, hxa⟩ := h.parts
  have HA := Lib.hid hxa
  have HS := Lib.hid (And.intro hs hin)
  clear h hma hxa hs hin
  go_enter Try.func96, Try.ntmps96
  go_wp2
  go_loopw [5, 6] (fun s5 s6 wr => ∃ k : Nat, s6 = .int .i64 k ∧ k ≤ L.length ∧ Hid (OwnI w.heap.size wr s5 (woutL (L.take k) x) ∧ Below w.heap.size w wr)) (fun _ s6 _ => L.length - (intOf s6).toNat)
  case atStart => exact ⟨0, rfl, Nat.zero_le _, OwnI.nil _ _ none, Below.refl _ _⟩
  case round =>
    obtain ⟨k, rfl, hk, HR⟩ := hrel
    by_cases hkl : k < L.length
    · obtain ⟨ba, oa, rfl, hlta, hra⟩ := HA.out (by omega)
      have q1 : decide ((k : Int) < (L.length : Int)) = true := decide_eq_true (by omega)
      have q2 : (k : Int) < (L.length : Int) := by omega
      have q3 : IntKind.i64.wrap ((k : Int) + 1) = (k : Int) + 1 := IntWalk.i64_in _ (by have := HS.out.1; omega)
      obtain ⟨y, hy⟩ : ∃ y, L[k]? = some y := ⟨_, List.getElem?_eq_getElem hkl⟩
      have c0 : wr.cell? ⟨ba, oa + k, none⟩ = some (.int .i64 y) := (HR.out.2.cell (p := ⟨ba, oa + k, none⟩) hlta).trans (hra k y hy)
      have HT := Lib.hid (take_snoc hy)
      have HK := Lib.hid hkl
      have HY := Lib.hid (HS.out.2 y (List.mem_of_getElem? hy))
      clear hk hkl hra hy
      by_cases hxy : y = x
      · subst hxy
        go_wp2
        go_roundw
        case measure => have := HK.out; simp [intOf]; omega
        case rel => exact ⟨k + 1, by simp, HK.out, by rw [HT.out, wout_snoc, if_pos rfl]; exact HR.out.1, HR.out.2⟩
      · have qq : (y != x) = true := bne_iff_ne.2 hxy
        have HX := Lib.hid hxy
        obtain ⟨v2, W2, hr2, ho2, hm2⟩ := own_push HR.out.1 HR.out.2.size (by have := wout_len (L.take k) x; rw [List.length_take] at this; have := HS.out.1; omega) y HY.out
        have HO2 := Lib.hid ho2
        have HB2 := Lib.hid (HR.out.2.trans (hm2.below HR.out.1 HR.out.2.size))
        clear hxy ho2 hm2
        go_wp2
        go_roundw
        case measure => have := HK.out; simp [intOf]; omega
        case rel => exact ⟨k + 1, by simp, HK.out, by rw [HT.out, wout_snoc, if_neg HX.out]; exact HO2.out, HB2.out⟩
    · have q1 : decide ((k : Int) < (L.length : Int)) = false := decide_eq_false (by omega)
      have q2 : ((k : Int) < (L.length : Int)) = False := eq_false (by omega)
      have HK := Lib.hid (show woutL (L.take k) x = woutL L x by rw [List.take_of_length_le (by omega)])
      clear hk hkl
      go_wp2
      go_returns
      exact ⟨_, rfl, by rw [← HK.out]; exact HR.out.1, HR.out.2⟩
/-- A list with a number put in: what lies before, and whether it is in. -/
def wstep (x : Int) (M : List Int × Bool) (y : Int) : List Int × Bool := if M.2 = false ∧ x < y then (M.1 ++ [x] ++ [y], true) else (M.1 ++ [y], M.2)
def wst (L : List Int) (x : Int) : List Int × Bool := L.foldl (wstep x) ([], false)
def withL (L : List Int) (x : Int) : List Int := if (wst L x).2 = true then (wst L x).1 else (wst L x).1 ++ [x]
theorem wst_snoc (L : List Int) (x y : Int) : wst (L ++ [y]) x = wstep x (wst L x) y := by
  unfold wst
  rw [List.foldl_append]
  rfl
theorem wst_len : ∀ (n : Nat) (L : List Int) (x : Int), L.length = n → (wst L x).1.length = n + (if (wst L x).2 = true then 1 else 0) := by
  intro n
  induction n with
  | zero => intro L x h; rw [List.length_eq_zero_iff.1 h]; rfl
  | succ n ih =>
    intro L x h
    rcases List.eq_nil_or_concat L with rfl | ⟨r, y, rfl⟩
    · simp at h
    · rw [List.concat_eq_append] at *
      have hr : r.length = n := by simpa using h
      have := ih r x hr
      rw [wst_snoc]
      unfold wstep
      by_cases c : (wst r x).2 = false ∧ x < y
      · rw [if_pos c]
        rw [c.1] at this
        simp at this
        simp [this]
      · rw [if_neg c]
        simp only [List.length_append, List.length_singleton, this]
        omega
set_option maxHeartbeats 4000000 in
theorem rwith_any (v : Value) (L : List Int) (x : Int) (w : World) (h : IntsOf w v L) (hx : -9223372036854775808 ≤ x ∧ x ≤ 9223372036854775807) (hs : L.length ≤ 17592186044413) : Calls Try.prog 97 #[v, .int .i64 x] w fun e w' => ∃ v', e = .returned v' ∧ OwnI w.heap.size w' v' (withL L x) ∧ Below w.heap.size w w' := by
  have hin := h.inI
  obtain ⟨ao, ac, rfl, hma, hxa⟩ := h.parts
  have HA := Lib.hid hxa
  have HS := Lib.hid (And.intro hs (And.intro hin hx))
  clear h hma hxa hs hin hx
  go_enter Try.func97, Try.ntmps97
  go_wp2
  go_loopw [5, 6, 7] (fun s5 s6 s7 wr => ∃ (k : Nat) (d : Bool), s7 = .int .i64 k ∧ s6 = .bool d ∧ k ≤ L.length ∧ Hid ((wst (L.take k) x).2 = d ∧ OwnI w.heap.size wr s5 (wst (L.take k) x).1 ∧ Below w.heap.size w wr)) (fun _ _ s7 _ => L.length - (intOf s7).toNat)
  case atStart => exact ⟨0, false, rfl, rfl, Nat.zero_le _, rfl, OwnI.nil _ _ none, Below.refl _ _⟩
  case round =>
    obtain ⟨k, d, rfl, rfl, hk, HR⟩ := hrel
    have HN := Lib.hid (wst_len (L.take k).length (L.take k) x rfl)
    by_cases hkl : k < L.length
    · obtain ⟨ba, oa, rfl, hlta, hra⟩ := HA.out (by omega)
      have q1 : decide ((k : Int) < (L.length : Int)) = true := decide_eq_true (by omega)
      have q2 : (k : Int) < (L.length : Int) := by omega
      have q3 : IntKind.i64.wrap ((k : Int) + 1) = (k : Int) + 1 := IntWalk.i64_in _ (by have := HS.out.1; omega)
      obtain ⟨y, hy⟩ : ∃ y, L[k]? = some y := ⟨_, List.getElem?_eq_getElem hkl⟩
      have c0 : wr.cell? ⟨ba, oa + k, none⟩ = some (.int .i64 y) := (HR.out.2.2.cell (p := ⟨ba, oa + k, none⟩) hlta).trans (hra k y hy)
      have HC : ∀ wr', Below w.heap.size w wr' → wr'.cell? ⟨ba, oa + k, none⟩ = some (.int .i64 y) := fun wr' hb => (hb.cell (p := ⟨ba, oa + k, none⟩) hlta).trans (hra k y hy)
      have HC := Lib.hid HC
      have HT := Lib.hid (take_snoc hy)
      have HK := Lib.hid hkl
      have HY := Lib.hid (HS.out.2.1 y (List.mem_of_getElem? hy))
      have hml : (wst (L.take k) x).1.length ≤ k + 1 := by
        have := HN.out
        rw [List.length_take] at this
        split at this <;> omega
      have HML := Lib.hid hml
      clear hk hkl hra hy hml HN
      have plain : (wst (L.take k) x).2 = true ∨ ¬ x < y → Hid (wst (L.take (k + 1)) x = ((wst (L.take k) x).1 ++ [y], d)) := fun c => by
        show wst (L.take (k + 1)) x = _
        rw [HT.out, wst_snoc, wstep, if_neg, HR.out.1]
        rintro ⟨c1, c2⟩
        rcases c with c | c
        · rw [c] at c1; cases c1
        · exact c c2
      cases d with
      | true =>
        have HF := plain (.inl HR.out.1)
        obtain ⟨v2, W2, hr2, ho2, hm2⟩ := own_push HR.out.2.1 HR.out.2.2.size (by have := HS.out.1; have := HK.out; have := HML.out; omega) y HY.out
        have HO2 := Lib.hid ho2
        have HB2 := Lib.hid (HR.out.2.2.trans (hm2.below HR.out.2.1 HR.out.2.2.size))
        clear ho2 hm2 plain
        go_wp2
        go_roundw
        case measure => have := HK.out; simp [intOf]; omega
        case rel => exact ⟨k + 1, true, by simp, rfl, HK.out, by rw [HF.out], by rw [HF.out]; exact HO2.out, HB2.out⟩
      | false =>
        by_cases hxy : x < y
        · have qq : decide (x < y) = true := decide_eq_true hxy
          have HF := Lib.hid (show wst (L.take (k + 1)) x = ((wst (L.take k) x).1 ++ [x] ++ [y], true) by rw [HT.out, wst_snoc, wstep, if_pos ⟨HR.out.1, hxy⟩])
          obtain ⟨v2, W2, hr2, ho2, hm2⟩ := own_push HR.out.2.1 HR.out.2.2.size (by have := HS.out.1; have := HK.out; have := HML.out; omega) x HS.out.2.2
          have hb2 := HR.out.2.2.trans (hm2.below HR.out.2.1 HR.out.2.2.size)
          obtain ⟨v3, W3, hr3, ho3, hm3⟩ := own_push ho2 hb2.size (by have := HS.out.1; have := HK.out; have := HML.out; rw [List.length_append, List.length_singleton]; omega) y HY.out
          have c2 := HC.out W2 hb2
          have HO3 := Lib.hid ho3
          have HB3 := Lib.hid (hb2.trans (hm3.below ho2 hb2.size))
          clear ho2 hm2 hb2 ho3 hm3 plain
          go_wp2
          go_roundw
          case measure => have := HK.out; simp [intOf]; omega
          case rel => exact ⟨k + 1, true, by simp, rfl, HK.out, by rw [HF.out], by rw [HF.out]; exact HO3.out, HB3.out⟩
        · have qq : decide (x < y) = false := decide_eq_false hxy
          have qq2 : (x < y) = False := eq_false hxy
          have HF := plain (.inr hxy)
          obtain ⟨v2, W2, hr2, ho2, hm2⟩ := own_push HR.out.2.1 HR.out.2.2.size (by have := HS.out.1; have := HK.out; have := HML.out; omega) y HY.out
          have HO2 := Lib.hid ho2
          have HB2 := Lib.hid (HR.out.2.2.trans (hm2.below HR.out.2.1 HR.out.2.2.size))
          clear ho2 hm2 plain hxy
          go_wp2
          go_roundw
          case measure => have := HK.out; simp [intOf]; omega
          case rel => exact ⟨k + 1, false, by simp, rfl, HK.out, by rw [HF.out], by rw [HF.out]; exact HO2.out, HB2.out⟩
    · have q1 : decide ((k : Int) < (L.length : Int)) = false := decide_eq_false (by omega)
      have q2 : ((k : Int) < (L.length : Int)) = False := eq_false (by omega)
      have HT := Lib.hid (show L.take k = L from List.take_of_length_le (by omega))
      have hml : (wst (L.take k) x).1.length ≤ k + 1 := by
        have := HN.out
        rw [List.length_take] at this
        split at this <;> omega
      have HML := Lib.hid hml
      have HKL := Lib.hid hk
      clear hk hkl hml HN
      cases d with
      | true =>
        go_wp2
        go_returns
        exact ⟨_, rfl, by unfold withL; rw [← HT.out, if_pos HR.out.1]; exact HR.out.2.1, HR.out.2.2⟩
      | false =>
        obtain ⟨v2, W2, hr2, ho2, hm2⟩ := own_push HR.out.2.1 HR.out.2.2.size (by have := HS.out.1; have := HKL.out; have := HML.out; omega) x HS.out.2.2
        have HO2 := Lib.hid ho2
        have HB2 := Lib.hid (HR.out.2.2.trans (hm2.below HR.out.2.1 HR.out.2.2.size))
        clear ho2 hm2
        go_wp2
        go_returns
        exact ⟨_, rfl, by unfold withL; rw [← HT.out, if_neg (by rw [HR.out.1]; simp)]; exact HO2.out, HB2.out⟩
end Go.Proofs.Ytppjmmdiglnkfaa
namespace Go.Proofs.Ytppjmmdiglnkfaa
set_option maxRecDepth 100000
open Go.ChangeShapes Go.WideShapes Go.ChangeAt Go.RowKit Go.PlainAid Go.Deep

/-- Numbers, each folded, in groups. -/
def bodyS : List Int → ByteArray
  | [] => ⟨#[]⟩
  | x :: r => varS (foldZ x) ++ bodyS r
def textS (L : List Int) : ByteArray := varS (L.length : Int) ++ bodyS L
theorem empty_left (s : ByteArray) : (⟨#[]⟩ : ByteArray) ++ s = s := ByteArray.empty_append
theorem empty_right (s : ByteArray) : s ++ (⟨#[]⟩ : ByteArray) = s := ByteArray.append_empty
theorem body_app : ∀ a b : List Int, bodyS (a ++ b) = bodyS a ++ bodyS b
  | [], b => (empty_left _).symm
  | x :: a, b => by rw [List.cons_append, bodyS, bodyS, body_app a b, ByteArray.append_assoc]
theorem body_snoc (a : List Int) (x : Int) : bodyS (a ++ [x]) = bodyS a ++ varS (foldZ x) := by
  rw [body_app]
  show bodyS a ++ (varS (foldZ x) ++ ⟨#[]⟩) = _
  rw [empty_right]
theorem body_size : ∀ (L : List Int), (∀ x ∈ L, -9223372036854775808 ≤ x ∧ x ≤ 9223372036854775807) → (bodyS L).size ≤ 10 * L.length
  | [], _ => Nat.le_refl _
  | x :: r, h => by
    have h1 := varS_size (foldZ x) (foldZ_b x (h x (by simp)).1 (h x (by simp)).2).1 (foldZ_b x (h x (by simp)).1 (h x (by simp)).2).2
    have h2 := body_size r (fun y hy => h y (by simp [hy]))
    rw [bodyS, ByteArray.size_append, List.length_cons]
    omega
theorem heap_ltS {w : World} {q : Nat} {o : Obj} (h : w.heap[q]? = some o) : q < w.heap.size := (Array.getElem?_eq_some_iff.1 h).1
theorem bld_onS {w w' : World} {T e : TypeId} {B b : Nat} {bs : List Value} (h : Lib.IsBuilder T e B b bs w) (k : Below w.heap.size w w') : Lib.IsBuilder T e B b bs w' := by
  rcases h with ⟨h1, v, h2, h3, h4⟩ | ⟨h1, v, h2, h3, h4⟩
  · exact .inl ⟨h1, v, (k.block b (heap_ltS h2)).trans h2, ownsRow_onI h3 k, h4⟩
  · exact .inr ⟨h1, v, (k.block b (heap_ltS h2)).trans h2, ownsRow_onI h3 k, h4⟩
theorem cells_cat (a b : ByteArray) : Lib.byteCells (a ++ b).data.toList = Lib.byteCells a.data.toList ++ Lib.strCells b := by
  rw [ByteArray.data_append, Array.toList_append, Lib.byteCells_append, Lib.strCells_eq]
theorem cells_size (a : ByteArray) : (Lib.byteCells a.data.toList).length = a.size := by rw [Lib.byteCells_length]; rfl
/-- What the builder of a text holds behind some numbers. -/
def TxtAt (w wr : World) (n : Nat) (pre : List Int) : Prop := Below w.heap.size w wr ∧ Lib.IsBuilder 107 5 w.heap.size w.heap.size (Lib.byteCells (varS (n : Int) ++ bodyS pre).data.toList) wr
set_option maxHeartbeats 4000000 in
/-- The code's Text, where the text may be written so: HW. -/
theorem text_any (v : Value) (L : List Int) (w : World) (h : IntsOf w v L)
    (hw : ∀ (B b : Nat) (a s : ByteArray) (w1 : World), Lib.IsBuilder 107 5 B b (Lib.byteCells a.data.toList) w1 → a.size + s.size ≤ 10 * L.length + 10 → B ≤ w1.heap.size →
      Calls Try.prog 64 #[.pointer (some ⟨b, 0, none⟩), .string s] w1 fun e w' => e = .returned (.tuple #[.int .i64 s.size, .nilIface]) ∧ Lib.BuilderAt 107 5 B b (.pointer (some ⟨b, 0, none⟩)) (Lib.byteCells a.data.toList ++ Lib.strCells s) w' ∧ Below B w1 w') :
    Calls Try.prog 34 #[v] w fun e w' => e = .returned (.string (textS L)) ∧ Below w.heap.size w w' := by
  have hin := h.inI
  obtain ⟨ao, ac, rfl, hma, hxa⟩ := h.parts
  have HA := Lib.hid hxa
  have HI := Lib.hid hin
  have HM := Lib.hid hma
  have HW := Lib.hid hw
  have hq : IntKind.u64.wrap (L.length : Int) = (L.length : Int) := by rw [IntKind.wrap_u64]; omega
  have H0 := Lib.hid (Lib.fresh_isBuilder 107 5 w)
  have HB0 := Lib.hid (show Below w.heap.size w (w.alloc (.cells #[.pointer none, .slice none 0 0] 107)) by go_grown)
  have HV := Lib.hid (varS_size (L.length : Int) (by omega) (by omega))
  clear h hma hxa hin hw
  go_enter Try.func34, Try.ntmps34
  go_wp2_with fail
  refine (var_any (L.length : Int) (by omega) (by have := HM.out; omega) _).mono ?_
  rintro _ w1 ⟨rfl, hb1⟩
  have HF1 := Lib.hid (bld_onS H0.out hb1)
  have HB1 := Lib.hid (HB0.out.on hb1)
  clear hb1 H0
  go_wp2_with fail
  refine (HW.out w.heap.size w.heap.size ⟨#[]⟩ (varS (L.length : Int)) w1 HF1.out (by have := HV.out; show 0 + _ ≤ _; omega) HB1.out.size).mono ?_
  rintro _ w2 ⟨rfl, hB2, hbb⟩
  have HT : Hid (TxtAt w w2 L.length []) := ⟨HB1.out.trans hbb, .inr (by
    show Lib.BuilderAt _ _ _ _ _ (Lib.byteCells (varS (L.length : Int) ++ ⟨#[]⟩).data.toList) _
    rw [empty_right]
    exact hB2)⟩
  clear hB2 hbb HF1 HB1 HB0
  go_wp2_with fail
  go_loopw [13] (fun s13 wr => ∃ k : Nat, k ≤ L.length ∧ s13 = .int .i64 k ∧ Hid (TxtAt w wr L.length (L.take k))) (fun s13 _ => L.length - (intOf s13).toNat)
  case atStart => exact ⟨0, Nat.zero_le _, rfl, HT.out⟩
  case round =>
    clear HT
    obtain ⟨k, hk, rfl, HR⟩ := hrel
    by_cases hkl : k < L.length
    · obtain ⟨b, p, rfl, hlt, hr⟩ := HA.out (by omega)
      have q1 : decide ((k : Int) < (L.length : Int)) = true := decide_eq_true (by omega)
      have q2 : (k : Int) < (L.length : Int) := by omega
      have q3 : IntKind.i64.wrap ((k : Int) + 1) = (k : Int) + 1 := IntWalk.i64_in _ (by have := HM.out; omega)
      obtain ⟨x, hx⟩ : ∃ x, L[k]? = some x := ⟨_, List.getElem?_eq_getElem hkl⟩
      have c0 : wr.cell? ⟨b, p + k, none⟩ = some (.int .i64 x) := (HR.out.1.cell (p := ⟨b, p + k, none⟩) hlt).trans (hr k x hx)
      have HX := Lib.hid (HI.out x (List.mem_of_getElem? hx))
      have HZ := Lib.hid (foldZ_b x HX.out.1 HX.out.2)
      have HS := Lib.hid (varS_size (foldZ x) HZ.out.1 HZ.out.2)
      have HK := Lib.hid hkl
      have HTK := Lib.hid (take_snoc hx)
      have HBS := Lib.hid (body_size (L.take k) (fun y hy => HI.out y (List.mem_of_mem_take hy)))
      clear hk hkl hr hx hlt
      go_wp2_with fail
      refine (fold_any x wr HX.out.1 HX.out.2).mono ?_
      rintro _ _ ⟨rfl, rfl⟩
      go_wp2_with fail
      refine (var_any (foldZ x) HZ.out.1 HZ.out.2 _).mono ?_
      rintro _ w3 ⟨rfl, hb3⟩
      have HF3 := Lib.hid (bld_onS HR.out.2 hb3)
      have HB3 := Lib.hid (HR.out.1.on hb3)
      clear hb3 c0
      go_wp2_with fail
      refine (HW.out w.heap.size w.heap.size _ (varS (foldZ x)) w3 HF3.out (by
        have h1 := HBS.out
        have h2 := HS.out
        have h3 := HV.out
        have h4 := HK.out
        rw [List.length_take] at h1
        rw [ByteArray.size_append]
        omega) HB3.out.size).mono ?_
      rintro _ w4 ⟨rfl, hB4, hbb⟩
      have HT4 : Hid (TxtAt w w4 L.length (L.take (k + 1))) := ⟨HB3.out.trans hbb, .inr (by
        rw [HTK.out, body_snoc, ← ByteArray.append_assoc, cells_cat]
        exact hB4)⟩
      clear hB4 hbb
      go_wp2_with fail
      go_roundw
      case measure => have := HK.out; simp [intOf]; omega
      case rel => exact ⟨k + 1, HK.out, by simp, HT4.out⟩
    · have q1 : decide ((k : Int) < (L.length : Int)) = false := decide_eq_false (by omega)
      have q2 : ((k : Int) < (L.length : Int)) = False := eq_false (by omega)
      have HTK := Lib.hid (show L.take k = L from List.take_of_length_le (by omega))
      clear hk hkl
      go_wp2_with fail
      refine (bstr_any w.heap.size w.heap.size _ wr HR.out.2 HR.out.1.size).mono ?_
      rintro _ w5 ⟨rfl, hb5, _⟩
      go_wp2_with fail
      go_returns
      refine ⟨?_, HR.out.1.trans hb5⟩
      rw [HTK.out]
      rfl
set_option maxHeartbeats 4000000 in
theorem rtext_any (v : Value) (L : List Int) (w : World) (h : IntsOf w v L) (hl : L.length ≤ 100000000000000000) :
    Calls Try.prog 54 #[v] w fun e w' => e = .returned (.string (textS L)) ∧ Below w.heap.size w w' := by
  have hin := h.inI
  obtain ⟨ao, ac, rfl, hma, hxa⟩ := h.parts
  have HA := Lib.hid hxa
  have HI := Lib.hid hin
  have HM := Lib.hid hl
  have hq : IntKind.u64.wrap (L.length : Int) = (L.length : Int) := by rw [IntKind.wrap_u64]; omega
  have HV := Lib.hid (varS_size (L.length : Int) (by omega) (by omega))
  clear h hma hxa hin hl
  go_enter Try.func54, Try.ntmps54
  go_wp2_with fail
  refine (rvar_any (L.length : Int) (by omega) (by have := HM.out; omega) _).mono ?_
  rintro _ w1 ⟨rfl, hb1⟩
  have HB1 := Lib.hid hb1
  clear hb1
  go_wp2_with fail
  go_loopw [3, 4] (fun s3 s4 wr => ∃ k : Nat, k ≤ L.length ∧ s4 = .int .i64 k ∧ s3 = .string (varS (L.length : Int) ++ bodyS (L.take k)) ∧ Below w.heap.size w wr) (fun _ s4 _ => L.length - (intOf s4).toNat)
  case atStart => exact ⟨0, Nat.zero_le _, rfl, by show _ = Value.string (varS (L.length : Int) ++ ⟨#[]⟩); rw [empty_right], HB1.out⟩
  case round =>
    obtain ⟨k, hk, rfl, rfl, hb⟩ := hrel
    have HB := Lib.hid hb
    have HBS := Lib.hid (body_size (L.take k) (fun y hy => HI.out y (List.mem_of_mem_take hy)))
    by_cases hkl : k < L.length
    · obtain ⟨b, p, rfl, hlt, hr⟩ := HA.out (by omega)
      have q1 : decide ((k : Int) < (L.length : Int)) = true := decide_eq_true (by omega)
      have q2 : (k : Int) < (L.length : Int) := by omega
      have q3 : IntKind.i64.wrap ((k : Int) + 1) = (k : Int) + 1 := IntWalk.i64_in _ (by have := HM.out; omega)
      obtain ⟨x, hx⟩ : ∃ x, L[k]? = some x := ⟨_, List.getElem?_eq_getElem hkl⟩
      have c0 : wr.cell? ⟨b, p + k, none⟩ = some (.int .i64 x) := (hb.cell (p := ⟨b, p + k, none⟩) hlt).trans (hr k x hx)
      have HX := Lib.hid (HI.out x (List.mem_of_getElem? hx))
      have HZ := Lib.hid (foldZ_b x HX.out.1 HX.out.2)
      have HS := Lib.hid (varS_size (foldZ x) HZ.out.1 HZ.out.2)
      have HK := Lib.hid hkl
      have HTK := Lib.hid (show varS (L.length : Int) ++ bodyS (L.take (k + 1)) = varS (L.length : Int) ++ bodyS (L.take k) ++ varS (foldZ x) by rw [take_snoc hx, body_snoc, ByteArray.append_assoc])
      obtain ⟨T, hT⟩ : ∃ T, varS (L.length : Int) ++ bodyS (L.take k) = T := ⟨_, rfl⟩
      have hTs : T.size ≤ 1000000000000000020 := by
        have h1 := HBS.out
        have h3 := HV.out
        have h4 := HK.out
        have h5 := HM.out
        rw [List.length_take] at h1
        rw [← hT, ByteArray.size_append]
        omega
      rw [hT] at HTK ⊢
      clear hT hk hkl hr hx hlt hb
      go_wp2_with fail
      refine (rfold_any x wr HX.out.1 HX.out.2).mono ?_
      rintro _ _ ⟨rfl, rfl⟩
      go_wp2_with fail
      refine (rvar_any (foldZ x) HZ.out.1 HZ.out.2 _).mono ?_
      rintro _ w3 ⟨rfl, hb3⟩
      have HB3 := Lib.hid (HB.out.on hb3)
      obtain ⟨U, hU⟩ : ∃ U, varS (foldZ x) = U := ⟨_, rfl⟩
      have hUs : U.size ≤ 10 := by rw [← hU]; exact HS.out
      rw [hU] at HTK ⊢
      clear hb3 c0 hU HS
      go_wp2_with fail
      go_roundw
      case measure => have := HK.out; simp [intOf]; omega
      case rel => exact ⟨k + 1, HK.out, by simp, by rw [HTK.out], HB3.out⟩
    · have q1 : decide ((k : Int) < (L.length : Int)) = false := decide_eq_false (by omega)
      have q2 : ((k : Int) < (L.length : Int)) = False := eq_false (by omega)
      have HTK := Lib.hid (show L.take k = L from List.take_of_length_le (by omega))
      clear hk hkl hb
      go_wp2_with fail
      go_returns
      exact ⟨by rw [HTK.out]; rfl, HB.out⟩
end Go.Proofs.Ytppjmmdiglnkfaa
namespace Go.Proofs.Ytppjmmdiglnkfaa
open Go.ChangeShapes Go.WideShapes Go.ChangeAt Go.RowKit Go.PlainAid

/-- 128^k in 64 bits. -/
def uu (k : Nat) : Int := 128 ^ k % 18446744073709551616
theorem nv_step (s : ByteArray) (k : Nat) : IntKind.u64.wrap (nv s k + IntKind.u64.wrap (bt s k % 128 * uu k)) = nv s (k + 1) := by
  unfold nv uu
  simp only [IntKind.wrap_u64, pv]
  rw [Int.emod_add_emod, Int.add_emod_emod, Int.add_emod, Int.mul_emod, Int.emod_emod_of_dvd _ (Int.dvd_refl _), ← Int.mul_emod, ← Int.add_emod]
theorem uu_step (k : Nat) : IntKind.u64.wrap (uu k * 128) = uu (k + 1) := by
  unfold uu
  rw [IntKind.wrap_u64, Int.pow_succ]
  generalize (128 : Int) ^ k = x
  omega

theorem uvOk_nv (s : ByteArray) (k : Nat) (hk : k ≤ 9) (ho : uvOk s k = true) : nv s (k + 1) = pv s (k + 1) := by
  have hp := pv_b s k
  have hb := bt_nonneg s k
  have hpk := p128_le hk
  have h9 := pow9
  have hp1 := pv_b s (k + 1)
  have hpv : pv s (k + 1) = pv s k + bt s k % 128 * 128 ^ k := rfl
  unfold nv
  by_cases e9 : k = 9
  · subst e9
    have h1 : bt s 9 ≤ 1 := by
      by_cases h : 1 < bt s 9
      · simp [uvOk, h] at ho
      · omega
    have : bt s 9 % 128 * 128 ^ 9 ≤ 1 * 128 ^ 9 := Int.mul_le_mul_of_nonneg_right (by omega) (by omega)
    omega
  · have h8 := p128_le (show k ≤ 8 by omega)
    have e8 : (128 : Int) ^ 8 = 72057594037927936 := by decide
    have : bt s k % 128 * 128 ^ k ≤ 127 * 128 ^ k := Int.mul_le_mul_of_nonneg_right (by omega) (by omega)
    omega

end Go.Proofs.Ytppjmmdiglnkfaa
