/- The reference's Orders: one step of its recursion. The reference's Orders. Plain: what LinOrders asks of a small segment. -/
import Derived.Test.YtpooekmogfkkjaaGM
namespace Go.Proofs.Ytpooekmogfkkjaa
set_option maxRecDepth 100000
open Go.ChangeShapes Go.WideShapes Go.ChangeAt Go.RowKit Go.PlainAid Go.Deep
namespace Ln
/-- What Orders answers, if it answers so for what is left. -/
noncomputable def ordG (l : List OpV) (d : List Bool) (s : List Int) (rec : List Bool → List Int → List (List Int)) (i : Nat) : List (List Int) := (if fullB l d = true then [s] else []) ++ (List.range i).flatMap (ord1 l d s rec)
theorem ordG_succ (l : List OpV) (d : List Bool) (s : List Int) (rec : List Bool → List Int → List (List Int)) (i : Nat) : ordG l d s rec (i + 1) = ordG l d s rec i ++ ord1 l d s rec i := by
  unfold ordG
  rw [List.range_succ, List.flatMap_append, List.append_assoc]
  simp
theorem ordG_len {l : List OpV} {d : List Bool} {s : List Int} {rec : List Bool → List Int → List (List Int)} {B : Nat} (hB : B ≤ 100000) (h1 : ∀ i, (ord1 l d s rec i).length ≤ B) (i : Nat) : (ordG l d s rec i).length ≤ 1 + i * 100000 := by
  induction i with
  | zero =>
    unfold ordG
    split <;> simp
  | succ i ih =>
    rw [ordG_succ, List.length_append]
    have := h1 i
    omega
/-- What the calls of itself answer. -/
def RecOk (n : Nat) (l : List OpV) (d : List Bool) (s : List Int) (rec : List Bool → List Int → List (List Int)) (vo : Value) (w : World) : Prop :=
  ∀ (i : Nat) (o : OpV) (W : World) (vd' vs' : Value), l[i]? = some o → mayR l d i o = true → (stepC o s).2 = true → Below w.heap.size w W → Rd W vd' 1 (d.set i true).length ((d.set i true).map Value.bool) → Lie n W vs' (stepC o s).1 →
    Calls Try.prog 17 #[vo, vd', vs'] W fun e w' => ∃ v', e = .returned v' ∧ Out n W.heap.size w' v' (rec (d.set i true) (stepC o s).1) ∧ Below W.heap.size W w'
attribute [local go_sem ↓ high] load_op store_o app_st app_bl
set_option maxHeartbeats 4000000 in
theorem orders_step {n B : Nat} {l : List OpV} {d : List Bool} {s : List Int} {vo vd vs : Value} {w : World} (rec : List Bool → List Int → List (List Int)) (hO : OpsOf w vo l) (hD : Rd w vd 1 d.length (d.map Value.bool)) (hl : d.length = l.length) (hs5 : l.length ≤ 5) (hL : Lie n w vs s) (hn : n ≤ w.heap.size) (hsl : s.length ≤ 17592186044413) (hR : ∀ o ∈ l, o.kind = 5 → risesB s = true) (hB : B ≤ 100000) (h1 : ∀ i, (ord1 l d s rec i).length ≤ B) (hrec : RecOk n l d s rec vo w) :
    Calls Try.prog 17 #[vo, vd, vs] w fun e w' => ∃ v', e = .returned v' ∧ Out n w.heap.size w' v' (ordG l d s rec l.length) ∧ Below w.heap.size w w' := by
  obtain ⟨ao, co, rfl⟩ := hO.len
  obtain ⟨ad, cd, rfl⟩ := hD.len
  obtain ⟨au, cu, rfl, _⟩ := hL.1.ints.parts
  have HF := Lib.hid (rfull_any hO hD hl (by omega))
  have HO := Lib.hid hO
  have HD := Lib.hid hD
  have HE := Lib.hid hl
  have HL := Lib.hid hL
  have HN := Lib.hid hn
  have HSL := Lib.hid hsl
  have HR := Lib.hid hR
  have HB := Lib.hid fun i => ordG_len hB h1 i
  have HC := Lib.hid hrec
  clear hO hD hl hL hn hsl hR hB h1 hrec
  go_enter Try.func17, Try.ntmps17
  go_wp2_with fail
  refine HF.out.mono ?_
  rintro _ w2 ⟨rfl, hb2⟩
  have hone := Out.one (HL.out.on hb2)
  have hal : Below w2.heap.size w2 (w2.alloc (.cells #[.slice au s.length cu] 36)) := by go_grown
  obtain ⟨v3, w3, r3, h3, hb3⟩ := Out.app (Out.nil n w.heap.size (w2.alloc (.cells #[.slice au s.length cu] 36))) hone HN.out (Nat.le_trans hb2.size hal.size) (by simp)
  obtain ⟨a3, c3, rfl⟩ := h3.len
  have HH3 := Lib.hid h3
  have HB3 := Lib.hid (((hb2.on hal).trans hb3 : Below w.heap.size w w3))
  have HB2 := Lib.hid hb2
  clear hone hal h3 hb3 hb2
  have HLP : ∃ (v0 : Value) (w0 : World), Out n w.heap.size w0 v0 (ordG l d s rec 0) ∧ Below w.heap.size w w0 ∧ v0 = (if fullB l d = true then (.slice a3 ([] ++ [s]).length c3 : Value) else .slice none 0 0) ∧ w0 = (if fullB l d = true then w3 else w2) := by
    cases hfu : fullB l d with
    | true =>
      have e : ordG l d s rec 0 = [] ++ [s] := by unfold ordG; rw [hfu]; simp
      exact ⟨_, _, by rw [e]; exact HH3.out, HB3.out, by simp, by simp⟩
    | false =>
      have e : ordG l d s rec 0 = [] := by unfold ordG; rw [hfu]; simp
      exact ⟨.slice none 0 0, w2, by rw [e]; exact Out.nil _ _ _, HB2.out, by simp, by simp⟩
  obtain ⟨v0, w0, ho0, hb0, e0, e1⟩ := HLP
  have H0 := Lib.hid (And.intro ho0 hb0)
  clear ho0 hb0
  cases hfu : fullB l d
  all_goals
    rw [hfu] at e0 e1
    simp only [if_true, Bool.false_eq_true, if_false] at e0 e1
    subst e1
    clear hfu
    go_wp2_with fail
    go_loopw [7, 8] (fun s7 s8 wr => ∃ (i : Nat), s8 = .int .i64 i ∧ i ≤ l.length ∧ Hid (Out n w.heap.size wr s7 (ordG l d s rec i) ∧ Below w.heap.size w wr)) (fun _ s8 _ => l.length - (intOf s8).toNat)
    case atStart => exact ⟨0, rfl, Nat.zero_le _, by subst e0; exact H0⟩
    case round =>
      obtain ⟨i, rfl, hi, HI⟩ := hrel
      by_cases hil : i < l.length
      · obtain ⟨o, ho⟩ : ∃ o, l[i]? = some o := ⟨_, List.getElem?_eq_getElem hil⟩
        have hD1 := HD.out.on HI.out.2
        have hO1 := HO.out.on HI.out.2
        have HM := Lib.hid (rmay_any hO1 hD1 HE.out (by omega) ho)
        have q2 : (i : Int) < (l.length : Int) := by omega
        have q2b : (i : Int) < (d.length : Int) := by have := HE.out; omega
        have q3 : IntKind.i64.wrap ((i : Int) + 1) = (i : Int) + 1 := IntWalk.i64_in _ (by omega)
        have q4 : (0 : Int) ≤ (i : Int) := by omega
        have HO1 := Lib.hid ho
        have HIL := Lib.hid hil
        obtain ⟨a7, c7, rfl⟩ := HI.out.1.len
        clear ho hil hi hD1 hO1
        go_wp2_with fail
        refine HM.out.mono ?_
        rintro _ w4 ⟨rfl, hb4⟩
        have HI4 := Lib.hid (show Out n w.heap.size w4 (.slice a7 (ordG l d s rec i).length c7) (ordG l d s rec i) ∧ Below w.heap.size w w4 from ⟨HI.out.1.on hb4, HI.out.2.on hb4⟩)
        clear hb4 HM
        rw [show (!(d[i]?).getD false && freeB l d o) = mayR l d i o from rfl]
        cases hm : mayR l d i o with
        | false =>
          have HN1 := Lib.hid (show Out n w.heap.size w4 (.slice a7 (ordG l d s rec i).length c7) (ordG l d s rec (i + 1)) ∧ Below w.heap.size w w4 by
            have e : ordG l d s rec (i + 1) = ordG l d s rec i := by rw [ordG_succ]; unfold ord1; rw [HO1.out]; simp [hm]
            rw [e]; exact HI4.out)
          clear hm
          go_wp2_with fail
          go_roundw
          case measure => have := HIL.out; simp [intOf] <;> omega
          case rel => exact ⟨i + 1, by simp, by have := HIL.out; omega, HN1⟩
        | true =>
          obtain ⟨b, p, cap, hv, _, hwf, hcc⟩ := OpsOf.at (HO.out.on HI4.out.2) HO1.out
          obtain rfl : ao = some ⟨b, p, none⟩ := by cases hv; rfl
          have l1 := load_cellsO (p := p + i * 11) hcc
          have HWF := Lib.hid hwf
          have HM := Lib.hid hm
          have HST := Lib.hid (rstep_any o hwf (HL.out.on HI4.out.2).1 (HR.out o (List.mem_of_getElem? HO1.out)) HSL.out)
          clear hv hwf hcc hm
          go_wp2_with fail
          refine HST.out.mono ?_
          rintro _ w5 ⟨v5, rfl, hi5, hb5, hl5⟩
          have HL5 := Lib.hid ((HL.out.on HI4.out.2).step hi5 hb5 hl5)
          have HI5 := Lib.hid (show Out n w.heap.size w5 (.slice a7 (ordG l d s rec i).length c7) (ordG l d s rec i) ∧ Below w.heap.size w w5 from ⟨HI4.out.1.on hb5, HI4.out.2.on hb5⟩)
          clear hi5 hb5 hl5 l1 HST
          cases hst : (stepC o s).2 with
          | false =>
            have HN1 := Lib.hid (show Out n w.heap.size w5 (.slice a7 (ordG l d s rec i).length c7) (ordG l d s rec (i + 1)) ∧ Below w.heap.size w w5 by
              have e : ordG l d s rec (i + 1) = ordG l d s rec i := by rw [ordG_succ]; unfold ord1; rw [HO1.out]; simp [hst]
              rw [e]; exact HI5.out)
            clear hst
            go_wp2_with fail
            go_roundw
            case measure => have := HIL.out; simp [intOf] <;> omega
            case rel => exact ⟨i + 1, by simp, by have := HIL.out; omega, HN1⟩
          | true =>
            have HS2 := Lib.hid hst
            have HOE := Lib.hid (show ord1 l d s rec i = rec (d.set i true) (stepC o s).1 by unfold ord1; rw [HO1.out]; simp [hst, HM.out])
            clear hst
            obtain ⟨g, cg, w6, r6, ho6, hb6⟩ := bools_copy (HD.out.on HI5.out.2) (by have := HE.out; have := HIL.out; omega) (by have := HE.out; omega)
            obtain ⟨hrd, hkp, hge, cur, hcur⟩ := bools_set (i := i) ho6
            have f6 := cells_thaw hcur i
            obtain ⟨ci, hci⟩ : ∃ c, d[i]? = some c := ⟨_, List.getElem?_eq_getElem (by have := HE.out; have := HIL.out; omega)⟩
            obtain ⟨b9, p9, cap9, hv9, _, y6⟩ := bool_at (own_rd ho6) hci
            cases hv9
            rw [Nat.zero_add] at y6
            have h56 : Below w.heap.size w5 w6 := hb6.mono HI5.out.2.size
            have hset : Below w.heap.size w (w6.setCell ⟨g, i, none⟩ (.bool true)) := (HI5.out.2.trans h56).trans (hkp.below (fun k e => by have := HI5.out.2.size; omega) (by have := HI5.out.2.size; have := hb6.size; omega))
            have hint : ∀ k c, k = g → w6.heap[k]? = some (.cells c 3 (0, 0)) → False := fun k c e hk => by
              rw [e, hcur] at hk
              exact absurd (Obj.cells.inj (Option.some.inj hk)).2.1 (by decide)
            have hrow : ∀ k c, k = g → w6.heap[k]? = some (.cells c 36 (0, 0)) → False := fun k c e hk => by
              rw [e, hcur] at hk
              exact absurd (Obj.cells.inj (Option.some.inj hk)).2.1 (by decide)
            have hng : ∀ k, k = g → n ≤ k := fun k e => by have := HN.out; have := HI5.out.2.size; omega
            have hlie := (HL5.out.on hb6).keep hkp hng hint
            have hout := (HI5.out.1.on hb6).keep hkp hng hint hrow
            have HRC := Lib.hid (HC.out i o _ _ _ HO1.out HM.out HS2.out hset hrd hlie)
            have HOUT := Lib.hid (And.intro hout hset)
            clear hrd hkp hge hset hint hrow hng hlie hout h56 hci hb6 ho6 hcur
            go_wp2_with fail
            refine HRC.out.mono ?_
            rintro _ w7 ⟨v7, rfl, h7, hb7⟩
            obtain ⟨v8, w8, r8, h8, hb8⟩ := Out.app (HOUT.out.1.on hb7) h7 HN.out (Nat.le_trans HOUT.out.2.size hb7.size) (by
              have e := HB.out (i + 1)
              rw [ordG_succ, HOE.out, List.length_append] at e
              have := HIL.out
              omega)
            have HN1 := Lib.hid (show Out n w.heap.size w8 v8 (ordG l d s rec (i + 1)) ∧ Below w.heap.size w w8 by
              rw [ordG_succ, HOE.out]; exact ⟨h8, (HOUT.out.2.on hb7).trans hb8⟩)
            clear h7 h8 hb7 hb8
            go_wp2_with fail
            go_roundw
            case measure => have := HIL.out; simp [intOf] <;> omega
            case rel => exact ⟨i + 1, by simp, by have := HIL.out; omega, HN1⟩
      · obtain rfl : i = l.length := by omega
        have q1 : ¬ ((l.length : Int) < (l.length : Int)) := by omega
        go_wp2_with fail
        go_returns
        exact ⟨_, rfl, HI.out.1, HI.out.2⟩
end Ln
end Go.Proofs.Ytpooekmogfkkjaa
namespace Go.Proofs.Ytpooekmogfkkjaa
set_option maxRecDepth 100000
open Go.ChangeShapes Go.WideShapes Go.ChangeAt Go.RowKit Go.PlainAid Go.Deep
namespace Ln
/-- A state that the operations may be done on: where there are sets, it rises. -/
def Fits (l : List OpV) (s : List Int) : Prop := ∀ o ∈ l, o.kind = 5 → risesB s = true
theorem may_free {l : List OpV} {d : List Bool} {i : Nat} {o : OpV} (hl : d.length = l.length) (hi : l[i]? = some o) (h : mayR l d i o = true) : left (d.set i true) + 1 = left d := by
  have hlt := (List.getElem?_eq_some_iff.1 hi).1
  obtain ⟨c, hc⟩ : ∃ c, d[i]? = some c := ⟨_, List.getElem?_eq_getElem (by omega)⟩
  unfold mayR at h
  rw [hc, Bool.and_eq_true] at h
  have : c = false := by simpa using h.1
  subst this
  exact left_set d i hc
theorem ord1_nil (l : List OpV) (d : List Bool) (s : List Int) (i : Nat) : ord1 l d s (fun _ _ => []) i = [] := by
  unfold ord1
  split
  · split <;> rfl
  · rfl
theorem orders_any {n : Nat} {l : List OpV} (h5 : l.length ≤ 5) (hK : ∀ o ∈ l, ∀ s, Fits l s → (stepC o s).2 = true → Fits l (stepC o s).1 ∧ (stepC o s).1.length ≤ s.length + 1) :
    ∀ (f : Nat) (d : List Bool) (s : List Int) (vo vd vs : Value) (w : World), f ≤ 5 → OpsOf w vo l → Rd w vd 1 d.length (d.map Value.bool) → d.length = l.length → left d ≤ f → Lie n w vs s → n ≤ w.heap.size → s.length + f ≤ 17592186044413 → Fits l s →
    Calls Try.prog 17 #[vo, vd, vs] w fun e w' => ∃ v', e = .returned v' ∧ Out n w.heap.size w' v' (ordL l f d s) ∧ Below w.heap.size w w' := by
  intro f
  induction f with
  | zero =>
    intro d s vo vd vs w _ hO hD hl hf hL hn hsl hR
    have e : ordL l 0 d s = ordG l d s (fun _ _ => []) l.length := by
      unfold ordL ordG
      have : (List.range l.length).flatMap (ord1 l d s fun _ _ => []) = [] := List.flatMap_eq_nil_iff.2 fun i _ => ord1_nil l d s i
      rw [this, List.append_nil]
    rw [e]
    refine orders_step (B := 0) (fun _ _ => []) hO hD hl h5 hL hn (by omega) hR (by omega) (fun i => by rw [ord1_nil]; exact Nat.le_refl _) ?_
    intro i o W vd' vs' hi hm
    have := may_free hl hi hm
    omega
  | succ f ih =>
    intro d s vo vd vs w hf5 hO hD hl hf hL hn hsl hR
    have e : ordL l (f + 1) d s = ordG l d s (ordL l f) l.length := rfl
    rw [e]
    have hp : 6 ^ f ≤ 6 ^ 5 := Nat.pow_le_pow_right (by decide) (by omega)
    refine orders_step (B := 6 ^ f) (ordL l f) hO hD hl h5 hL hn (by omega) hR (Nat.le_trans hp (by decide)) (fun i => ?_) ?_
    · unfold ord1
      split
      · split
        · exact ord_len h5 f _ _
        · exact Nat.zero_le _
      · exact Nat.zero_le _
    · intro i o W vd' vs' hi hm hst hb hrd hlie
      have hls := may_free hl hi hm
      have hk := hK o (List.mem_of_getElem? hi) s hR hst
      exact ih (d.set i true) (stepC o s).1 vo vd' vs' W (by omega) (hO.on hb) hrd (by rw [List.length_set]; exact hl) (by omega) hlie (Nat.le_trans hn hb.size) (by have := hk.2; omega) hk.1
end Ln
end Go.Proofs.Ytpooekmogfkkjaa
namespace Go.Proofs.Ytpooekmogfkkjaa
set_option maxRecDepth 100000
open Go.ChangeShapes Go.WideShapes Go.ChangeAt Go.RowKit Go.PlainAid Go.Deep
namespace Ln
theorem step_rises {o : OpV} {s : List Int} (h5 : o.kind = 5) (h : risesB s = true) (hst : (stepC o s).2 = true) : risesB (stepC o s).1 = true := by
  have hd : (stepC o s).1 = (doC o s).1 := by
    unfold stepC at hst ⊢
    split at hst
    · rename_i hc
      first | rfl | rw [if_pos hc]
    · cases hst
  rw [hd]
  unfold doC
  simp only [h5]
  first | exact set_rises h | (simp; exact set_rises h)
theorem fits_step {l : List OpV} {k : Int} (hk : ∀ o ∈ l, o.kind = k) : ∀ o ∈ l, ∀ s, Fits l s → (stepC o s).2 = true → Fits l (stepC o s).1 ∧ (stepC o s).1.length ≤ s.length + 1 := fun o ho s hf hst =>
  ⟨fun o' ho' h5 => step_rises (by rw [hk o ho, ← hk o' ho']; exact h5) (hf o' ho' h5) hst, stepC_len o s⟩
theorem ord_short {l : List OpV} : ∀ (f : Nat) (d : List Bool) (s : List Int), ∀ t ∈ ordL l f d s, t.length ≤ s.length + f := by
  intro f
  induction f with
  | zero =>
    intro d s t ht
    unfold ordL at ht
    split at ht
    · obtain rfl : t = s := by simpa using ht
      exact Nat.le_refl _
    · cases ht
  | succ f ih =>
    intro d s t ht
    unfold ordL at ht
    rcases List.mem_append.1 ht with h | h
    · split at h
      · obtain rfl : t = s := by simpa using h
        omega
      · cases h
    · obtain ⟨i, _, hi⟩ := List.mem_flatMap.1 h
      unfold ord1 at hi
      split at hi
      · rename_i o _
        split at hi
        · have h1 := ih _ _ t hi
          have h2 := stepC_len o s
          omega
        · cases hi
      · cases hi
/-- A search of five operations from one state answers what all orders lead to. -/
theorem ans_orders {l : List OpV} {s : List Int} {P Q : List (List Int)} {n z : Int} (h : Ans l [s] 32768 P Q n z) (hl : l.length ≤ 5) (hx : ∃ r, US [s] r) :
    z = 0 ∧ ∀ B, US (ordL l l.length (List.replicate l.length false) s) B → Q = B := by
  obtain ⟨first, hf⟩ := hx
  have hle : ((bfs l 32768 most 0 (starts first)).length : Int) ≤ 32768 := by have := spots_few hl hf 32768; omega
  obtain ⟨hz, _, hQ, _⟩ := h.good (by omega) first hf hle
  exact ⟨hz, fun B hB => hQ.eq hB fun t => exits_orders (full_of hf hle (by decide)) t⟩
end Ln
end Go.Proofs.Ytpooekmogfkkjaa
