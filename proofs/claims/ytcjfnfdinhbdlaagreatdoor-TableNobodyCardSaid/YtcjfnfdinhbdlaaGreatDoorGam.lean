import Derived.Test.YtcjfnfdinhbdlaaGreatDoorGaj
import Derived.Deep.RegionWith
import Derived.Laws.Cover1
import Derived.Laws.MakeOwn
import Derived.Deep.DeepAppendRoom
import Derived.Deep.AppendLies
import Derived.Deep.RegionLaw
namespace Go.Proofs.YtcjfnfdinhbdlaaGreatDoor
set_option maxRecDepth 100000
open Go.ChangeShapes Go.WideShapes Go.ChangeAt Go.RowKit Go.PlainAid
open Go.Sort (grow)
theorem below_drewN (w : World) (n : Nat) : Below w.heap.size w (w.drewN n) := ⟨rfl, rfl, rfl, Nat.le_refl _, fun _ _ => rfl⟩
theorem text_zero {a : ByteArray} (h : ¬ a.size = 0) : (a.toList == []) = false := by
  rw [ByteArray.toList_eq]
  apply beq_eq_false_iff_ne.2
  intro e
  apply h
  have : a.data.size = 0 := by rw [← Array.length_toList, e]; rfl
  exact this
theorem text_empty {a : ByteArray} (h : a.size = 0) : (a.toList == []) = true := by
  rw [size_zero h, ByteArray.toList_eq]
  rfl
set_option maxHeartbeats 2000000 in
theorem records_any {w : World} {b o : Nat} {x : NdM} (h : NdIs w b o x) :
    Calls Tryz.prog 234 #[.pointer (some ⟨b, o, none⟩)] w fun e w' => e = .returned (.bool (recB x.L)) ∧ Below w.heap.size w w' := by
  have c4 := h.list
  have hsm := h.small
  have H := Lib.hid h
  clear h
  go_enter Tryz.func234, Tryz.ntmps234
  go_wp2
  go_loopw [10] (fun i wr => ∃ k : Nat, k ≤ x.L.length ∧ i = .int .i64 k ∧ Hid (∀ (j : Nat) (p : Pr), j < k → x.L[j]? = some p → p.key.size ≠ 0 ∧ p.val.size ≤ 80) ∧ Below w.heap.size w wr) (fun i _ => x.L.length - (intOf i).toNat)
  case atStart => exact ⟨0, Nat.zero_le _, rfl, Lib.hid (fun j p h _ => by omega), Below.refl _ _⟩
  case round =>
    obtain ⟨k, hk, rfl, HI, hb⟩ := hrel
    have HB := Lib.hid hb
    have HN := Lib.hid (H.out.on hb)
    clear hb H c4
    by_cases hlt : k < x.L.length
    · obtain ⟨p, hp⟩ : ∃ p, x.L[k]? = some p := ⟨_, List.getElem?_eq_getElem hlt⟩
      obtain ⟨g, o', hsl, hg, c1, c2⟩ := HN.out.rd.at hp
      have HP := Lib.hid hp
      clear hp
      have hb1 : Below wr.heap.size wr (wr.alloc (.cells #[.string p.key, .string p.val] 121)) := by go_grown
      have HB1 := Lib.hid (HB.out.on hb1)
      clear hb1
      generalize x.sl = sl at *
      subst hsl
      have HNO : Hid (¬ (p.key.size ≠ 0 ∧ p.val.size ≤ 80) → recB x.L = false) := Lib.hid fun hn => by
        rw [Bool.eq_false_iff]
        intro hr
        exact hn ((recB_iff.1 hr).1 p (List.mem_of_getElem? HP.out))
      by_cases hz : p.key.size = 0
      · have hq := text_empty hz
        have HNO := Lib.hid (HNO.out fun c => c.1 hz)
        clear hz
        go_wp2
        go_returns
        rw [HNO.out]
        exact ⟨rfl, HB1.out⟩
      · have hq := text_zero hz
        by_cases hv : p.val.size ≤ 80
        · have hv1 : decide ((80 : Int) < p.val.size) = false := decide_eq_false (by omega)
          have HK := Lib.hid (And.intro hz hv)
          clear hz hv
          go_wp2
          go_roundw
          case rel => exact ⟨k + 1, by omega, by go_num, Lib.hid (fun j q hj hq => by
            rcases Nat.lt_or_eq_of_le (Nat.le_of_lt_succ hj) with c | c
            · exact HI.out j q c hq
            · subst c
              rw [HP.out] at hq
              cases hq
              exact HK.out), HB1.out⟩
          case measure => simp [intOf]; omega
        · have hv1 : decide ((80 : Int) < p.val.size) = true := decide_eq_true (by omega)
          have HNO := Lib.hid (HNO.out fun c => hv c.2)
          clear hz hv
          go_wp2
          go_returns
          rw [HNO.out]
          exact ⟨rfl, HB1.out⟩
    · obtain rfl : k = x.L.length := by omega
      have HR : Hid (recB x.L = decide (0 < x.L.length)) := by
        refine Lib.hid ?_
        by_cases h0 : 0 < x.L.length
        · rw [decide_eq_true h0]
          refine recB_iff.2 ⟨fun p hp => ?_, h0⟩
          obtain ⟨j, hj⟩ := List.mem_iff_getElem?.1 hp
          exact HI.out j p (List.getElem?_eq_some_iff.1 hj).1 hj
        · rw [decide_eq_false h0, Bool.eq_false_iff]
          intro c
          exact h0 (recB_iff.1 c).2
      have c4 := HN.out.list
      clear hk
      go_wp2
      go_returns
      exact ⟨by rw [HR.out]; rfl, HB.out⟩
set_option maxHeartbeats 2000000 in
theorem links_any {w : World} {b o : Nat} {x : NdM} (h : NdIs w b o x) :
    Calls Tryz.prog 235 #[.pointer (some ⟨b, o, none⟩)] w fun e w' => e = .returned (.bool (lnkB x.low x.L)) ∧ Below w.heap.size w w' := by
  have c4 := h.list
  have hsm := h.small
  have H := Lib.hid h
  clear h
  go_enter Tryz.func235, Tryz.ntmps235
  go_wp2
  go_loopw [10] (fun i wr => ∃ k : Nat, k ≤ x.L.length ∧ i = .int .i64 k ∧ Hid (∀ (j : Nat) (p : Pr), j < k → x.L[j]? = some p → p.val.size = 2) ∧ Below w.heap.size w wr) (fun i _ => x.L.length - (intOf i).toNat)
  case atStart => exact ⟨0, Nat.zero_le _, rfl, Lib.hid (fun j p h _ => by omega), Below.refl _ _⟩
  case round =>
    obtain ⟨k, hk, rfl, HI, hb⟩ := hrel
    have HB := Lib.hid hb
    have HN := Lib.hid (H.out.on hb)
    clear hb H c4
    by_cases hlt : k < x.L.length
    · obtain ⟨p, hp⟩ : ∃ p, x.L[k]? = some p := ⟨_, List.getElem?_eq_getElem hlt⟩
      obtain ⟨g, o', hsl, hg, c1, c2⟩ := HN.out.rd.at hp
      have HP := Lib.hid hp
      clear hp
      have hb1 : Below wr.heap.size wr (wr.alloc (.cells #[.string p.key, .string p.val] 121)) := by go_grown
      have HB1 := Lib.hid (HB.out.on hb1)
      clear hb1
      generalize x.sl = sl at *
      subst hsl
      by_cases hv : p.val.size = 2
      · have hv1 : ((p.val.size : Int) != 2) = false := by rw [hv]; rfl
        have HK := Lib.hid hv
        clear hv
        go_wp2
        go_roundw
        case rel => exact ⟨k + 1, by omega, by go_num, Lib.hid (fun j q hj hq => by
          rcases Nat.lt_or_eq_of_le (Nat.le_of_lt_succ hj) with c | c
          · exact HI.out j q c hq
          · subst c
            rw [HP.out] at hq
            cases hq
            exact HK.out), HB1.out⟩
        case measure => simp [intOf]; omega
      · have hv1 : ((p.val.size : Int) != 2) = true := by simp; omega
        have HNO : Hid (lnkB x.low x.L = false) := Lib.hid (by
          rw [Bool.eq_false_iff]
          intro hr
          exact hv ((lnkB_iff.1 hr).1 p (List.mem_of_getElem? HP.out)))
        clear hv
        go_wp2
        go_returns
        rw [HNO.out]
        exact ⟨rfl, HB1.out⟩
    · obtain rfl : k = x.L.length := by omega
      have c4 := HN.out.list
      have c2 := HN.out.low
      by_cases h1 : 1 < x.L.length
      · obtain ⟨p, hp⟩ : ∃ p, x.L[0]? = some p := ⟨_, List.getElem?_eq_getElem (by omega)⟩
        obtain ⟨g, o', hsl, hg, c1, c3⟩ := HN.out.rd.at hp
        rw [Nat.zero_mul, Nat.add_zero] at c1
        have HR : Hid (lnkB x.low x.L = (p.key.toList == x.low.toList)) := by
          refine Lib.hid ?_
          by_cases e : p.key = x.low
          · rw [e, beq_self_eq_true]
            exact lnkB_iff.2 ⟨fun q hq => by
              obtain ⟨j, hj⟩ := List.mem_iff_getElem?.1 hq
              exact HI.out j q (List.getElem?_eq_some_iff.1 hj).1 hj, h1, p, hp, e⟩
          · rw [beq_eq_false_iff_ne.2 (fun c => e (text_eq c)), Bool.eq_false_iff]
            intro c
            obtain ⟨_, _, q, hq, hk⟩ := lnkB_iff.1 c
            rw [hp] at hq
            cases hq
            exact e hk
        have hd1 : decide ((1 : Int) < x.L.length) = true := decide_eq_true (by omega)
        have hd2 : decide (1 < x.L.length) = true := decide_eq_true h1
        have h0 : 0 < x.L.length := by omega
        clear hp hk c3
        generalize x.sl = sl at *
        subst hsl
        go_wp2
        go_quiet (fail)
        go_wp2
        go_returns
        exact ⟨by rw [HR.out]; rfl, HB.out.on (below_drewN _ nq)⟩
      · have hd2 : decide (1 < x.L.length) = false := decide_eq_false h1
        have hd1 : decide ((1 : Int) < x.L.length) = false := decide_eq_false (by omega)
        have HR : Hid (lnkB x.low x.L = false) := by
          refine Lib.hid ?_
          rw [Bool.eq_false_iff]
          intro c
          exact h1 (lnkB_iff.1 c).2.1
        clear hk
        go_wp2
        go_quiet (fail)
        go_wp2
        go_returns
        exact ⟨by rw [HR.out]; rfl, HB.out.on (below_drewN _ nq)⟩
theorem less_of {a b : ByteArray} {v : Bool} (h : lessB a b = v) : Op.bytesLess a.toList b.toList = v := h
set_option maxHeartbeats 4000000 in
theorem rising_any {w : World} {b o : Nat} {x : NdM} (h : NdIs w b o x) :
    Calls Tryz.prog 233 #[.pointer (some ⟨b, o, none⟩)] w fun e w' => e = .returned (.bool (risB x.low x.high x.L)) ∧ Below w.heap.size w w' := by
  have c4 := h.list
  have hsm := h.small
  have H := Lib.hid h
  clear h
  go_enter Tryz.func233, Tryz.ntmps233
  go_wp2
  go_loopw [10] (fun i wr => ∃ k : Nat, k ≤ x.L.length ∧ i = .int .i64 k ∧ Hid (∀ (j : Nat), j < k → okAt x.low x.high x.L j = true) ∧ Below w.heap.size w wr) (fun i _ => x.L.length - (intOf i).toNat)
  case atStart => exact ⟨0, Nat.zero_le _, rfl, Lib.hid (fun j h => by omega), Below.refl _ _⟩
  case round =>
    obtain ⟨k, hk, rfl, HI, hb⟩ := hrel
    have HB := Lib.hid hb
    have HN := Lib.hid (H.out.on hb)
    clear hb H c4
    by_cases hlt : k < x.L.length
    · obtain ⟨p, hp⟩ : ∃ p, x.L[k]? = some p := ⟨_, List.getElem?_eq_getElem hlt⟩
      obtain ⟨q, hq⟩ : ∃ q, x.L[k - 1]? = some q := ⟨_, List.getElem?_eq_getElem (by omega)⟩
      obtain ⟨g, o', hsl, hg, c1, c2⟩ := HN.out.rd.at hp
      obtain ⟨g2, o2, hsl2, hg2, d1, d2⟩ := HN.out.rd.at hq
      rw [hsl] at hsl2
      cases hsl2
      have HPA := Lib.hid (okAt_parts (low := x.low) (high := x.high) hp)
      have HQ := Lib.hid hq
      clear hp hq d2
      have hb1 : Below wr.heap.size wr (wr.alloc (.cells #[.string p.key, .string p.val] 121)) := by go_grown
      have HB1 := Lib.hid (HB.out.on hb1)
      have e2 := (HN.out.on hb1).low
      have e3 := (HN.out.on hb1).high
      have e4 := (HN.out.on hb1).list
      have e5 := (hb1.cell (p := ⟨g, o' + (k - 1) * 2, none⟩) hg).trans d1
      clear hb1 d1
      rw [hsl] at e4
      generalize x.sl = sl at *
      subst hsl
      have HNO : Hid (¬ (KeyOk x.low x.high p ∧ (k = 0 ∨ ∃ q, x.L[k - 1]? = some q ∧ lessB q.key p.key = true)) → risB x.low x.high x.L = false) := Lib.hid fun hn => by
        refine risB_no hlt ?_
        rw [Bool.eq_false_iff]
        exact fun c => hn (HPA.out.1 c)
      by_cases h1 : p.key.size ≤ 32
      · have f1 : decide ((32 : Int) < p.key.size) = false := decide_eq_false (by omega)
        cases h2 : lessB p.key x.low with
        | true =>
          have f2 := less_of h2
          have HNO := Lib.hid (HNO.out fun c => by have := c.1.low; rw [h2] at this; cases this)
          clear h2
          go_wp2_with fail
          go_quiet (fail)
          go_wp2
          go_returns
          exact ⟨by rw [HNO.out]; rfl, HB1.out.on (below_drewN _ nq)⟩
        | false =>
          have f2 := less_of h2
          by_cases h3 : x.high.size = 0
          · have f3 := text_empty h3
            by_cases hk0 : k = 0
            · have f7 : decide (0 < k) = false := decide_eq_false (by omega)
              have f8 : decide ((0 : Int) < (k : Int)) = false := decide_eq_false (by omega)
              have HY := Lib.hid (HPA.out.2 ⟨⟨h1, h2, .inl h3⟩, .inl hk0⟩)
              clear h1 h2 h3 hk0
              go_wp2_with fail
              go_quiet (fail)
              go_wp2_with fail
              go_quiet (fail)
              go_wp2_with fail
              go_quiet (fail)
              go_wp2
              go_roundw
              case rel => exact ⟨k + 1, by omega, by go_num, Lib.hid (fun j hj => by
                rcases Nat.lt_or_eq_of_le (Nat.le_of_lt_succ hj) with c | c
                · exact HI.out j c
                · subst c; exact HY.out), HB1.out.on ⟨rfl, rfl, rfl, Nat.le_refl _, fun _ _ => rfl⟩⟩
              case measure => simp [intOf]; omega
            · have f7 : decide (0 < k) = true := decide_eq_true (by omega)
              have f8 : decide ((0 : Int) < (k : Int)) = true := decide_eq_true (by omega)
              have f9 : ((k : Int) - 1).toNat = k - 1 := by omega
              have f10 : IntKind.i64.wrap ((k : Int) - 1) = (k : Int) - 1 := IntWalk.i64_in _ (by omega)
              have f11 : (0 : Int) ≤ (k : Int) - 1 := by omega
              have f12 : ((k : Int) - 1) < x.L.length := by omega
              cases h4 : lessB q.key p.key with
              | true =>
                have f5 := less_of (lessB_asymm h4)
                have f6 : (p.key.toList == q.key.toList) = false := beq_eq_false_iff_ne.2 fun c => by rw [text_eq c, lessB_irrefl] at h4; cases h4
                have HY := Lib.hid (HPA.out.2 ⟨⟨h1, h2, .inl h3⟩, .inr ⟨q, HQ.out, h4⟩⟩)
                clear h1 h2 h3 h4 hk0
                go_wp2_with fail
                go_quiet (fail)
                go_wp2_with fail
                go_quiet (fail)
                go_wp2_with fail
                go_quiet (fail)
                clear f9 f10 f11 f12
                go_wp2
                go_roundw
                case rel => exact ⟨k + 1, by omega, by go_num, Lib.hid (fun j hj => by
                  rcases Nat.lt_or_eq_of_le (Nat.le_of_lt_succ hj) with c | c
                  · exact HI.out j c
                  · subst c; exact HY.out), HB1.out.on ⟨rfl, rfl, rfl, Nat.le_refl _, fun _ _ => rfl⟩⟩
                case measure => simp [intOf]; omega
              | false =>
                have f5 : (Op.bytesLess p.key.toList q.key.toList || p.key.toList == q.key.toList) = true := by
                  cases e : lessB p.key q.key with
                  | true => rw [less_of e]; rfl
                  | false => rw [lessB_total e h4, beq_self_eq_true, Bool.or_true]
                have HNO := Lib.hid (HNO.out fun c => by
                  rcases c.2 with e | ⟨r, hr, hl⟩
                  · exact hk0 e
                  · rw [HQ.out] at hr; cases hr; rw [h4] at hl; cases hl)
                clear h1 h2 h3 h4 hk0
                go_wp2_with fail
                go_quiet (fail)
                go_wp2_with fail
                go_quiet (fail)
                go_wp2_with fail
                go_quiet (fail)
                clear f9 f10 f11 f12
                go_wp2
                go_returns
                exact ⟨by rw [HNO.out]; rfl, HB1.out.on ⟨rfl, rfl, rfl, Nat.le_refl _, fun _ _ => rfl⟩⟩
          · have f3 := text_zero h3
            cases h5 : lessB p.key x.high with
            | true =>
              have f4 := less_of h5
              by_cases hk0 : k = 0
              · have f7 : decide (0 < k) = false := decide_eq_false (by omega)
                have f8 : decide ((0 : Int) < (k : Int)) = false := decide_eq_false (by omega)
                have HY := Lib.hid (HPA.out.2 ⟨⟨h1, h2, .inr h5⟩, .inl hk0⟩)
                clear h1 h2 h3 hk0
                go_wp2_with fail
                go_quiet (fail)
                go_wp2_with fail
                go_quiet (fail)
                go_wp2_with fail
                go_quiet (fail)
                go_wp2
                go_roundw
                case rel => exact ⟨k + 1, by omega, by go_num, Lib.hid (fun j hj => by
                  rcases Nat.lt_or_eq_of_le (Nat.le_of_lt_succ hj) with c | c
                  · exact HI.out j c
                  · subst c; exact HY.out), HB1.out.on ⟨rfl, rfl, rfl, Nat.le_refl _, fun _ _ => rfl⟩⟩
                case measure => simp [intOf]; omega
              · have f7 : decide (0 < k) = true := decide_eq_true (by omega)
                have f8 : decide ((0 : Int) < (k : Int)) = true := decide_eq_true (by omega)
                have f9 : ((k : Int) - 1).toNat = k - 1 := by omega
                have f10 : IntKind.i64.wrap ((k : Int) - 1) = (k : Int) - 1 := IntWalk.i64_in _ (by omega)
                have f11 : (0 : Int) ≤ (k : Int) - 1 := by omega
                have f12 : ((k : Int) - 1) < x.L.length := by omega
                cases h4 : lessB q.key p.key with
                | true =>
                  have f5 := less_of (lessB_asymm h4)
                  have f6 : (p.key.toList == q.key.toList) = false := beq_eq_false_iff_ne.2 fun c => by rw [text_eq c, lessB_irrefl] at h4; cases h4
                  have HY := Lib.hid (HPA.out.2 ⟨⟨h1, h2, .inr h5⟩, .inr ⟨q, HQ.out, h4⟩⟩)
                  clear h1 h2 h3 h4 hk0
                  go_wp2_with fail
                  go_quiet (fail)
                  go_wp2_with fail
                  go_quiet (fail)
                  go_wp2_with fail
                  go_quiet (fail)
                  clear f9 f10 f11 f12
                  go_wp2
                  go_roundw
                  case rel => exact ⟨k + 1, by omega, by go_num, Lib.hid (fun j hj => by
                    rcases Nat.lt_or_eq_of_le (Nat.le_of_lt_succ hj) with c | c
                    · exact HI.out j c
                    · subst c; exact HY.out), HB1.out.on ⟨rfl, rfl, rfl, Nat.le_refl _, fun _ _ => rfl⟩⟩
                  case measure => simp [intOf]; omega
                | false =>
                  have f5 : (Op.bytesLess p.key.toList q.key.toList || p.key.toList == q.key.toList) = true := by
                    cases e : lessB p.key q.key with
                    | true => rw [less_of e]; rfl
                    | false => rw [lessB_total e h4, beq_self_eq_true, Bool.or_true]
                  have HNO := Lib.hid (HNO.out fun c => by
                    rcases c.2 with e | ⟨r, hr, hl⟩
                    · exact hk0 e
                    · rw [HQ.out] at hr; cases hr; rw [h4] at hl; cases hl)
                  clear h1 h2 h3 h4 hk0
                  go_wp2_with fail
                  go_quiet (fail)
                  go_wp2_with fail
                  go_quiet (fail)
                  go_wp2_with fail
                  go_quiet (fail)
                  clear f9 f10 f11 f12
                  go_wp2
                  go_returns
                  exact ⟨by rw [HNO.out]; rfl, HB1.out.on ⟨rfl, rfl, rfl, Nat.le_refl _, fun _ _ => rfl⟩⟩
            | false =>
              have f4 := less_of h5
              have HNO := Lib.hid (HNO.out fun c => by
                rcases c.1.high with e | e
                · exact h3 e
                · rw [h5] at e; cases e)
              clear h1 h2 h3 h5
              go_wp2_with fail
              go_quiet (fail)
              go_wp2_with fail
              go_quiet (fail)
              go_wp2
              go_returns
              exact ⟨by rw [HNO.out]; rfl, HB1.out.on ⟨rfl, rfl, rfl, Nat.le_refl _, fun _ _ => rfl⟩⟩
      · have f1 : decide ((32 : Int) < p.key.size) = true := decide_eq_true (by omega)
        have HNO := Lib.hid (HNO.out fun c => h1 c.1.small)
        clear h1
        go_wp2
        go_returns
        exact ⟨by rw [HNO.out]; rfl, HB1.out⟩
    · obtain rfl : k = x.L.length := by omega
      have HR : Hid (risB x.low x.high x.L = true) := Lib.hid (risB_yes HI.out)
      go_wp2
      go_returns
      exact ⟨by rw [HR.out]; rfl, HB.out⟩
set_option maxHeartbeats 2000000 in
theorem lawful_any {w : World} {b o : Nat} {x : NdM} (h : NdIs w b o x) (hm : Mod x.L) :
    Calls Tryz.prog 211 #[.pointer (some ⟨b, o, none⟩)] w fun e w' => e = .returned (.bool (lawB x.level x.low x.high x.L)) ∧ Below w.heap.size w w' := by
  have c1 := h.level
  have hwl := wtP_le x.level hm
  have hsm := h.small
  have H := Lib.hid h
  have HW := Lib.hid (weight_any h hm)
  clear h hm
  by_cases h1 : x.level < 1
  · have HR : Hid (lawB x.level x.low x.high x.L = false) := by
      refine Lib.hid ?_
      rw [Bool.eq_false_iff]
      intro c
      have := (lawB_iff.1 c).pos
      omega
    have f1 : decide (x.level < 1) = true := decide_eq_true h1
    clear h1
    go_enter Tryz.func211, Tryz.ntmps211
    go_wp2
    go_returns
    exact ⟨by rw [HR.out]; rfl, Below.refl _ _⟩
  · have f1 : decide (x.level < 1) = false := decide_eq_false h1
    go_enter Tryz.func211, Tryz.ntmps211
    go_wp2_with fail
    refine HW.out.mono ?_
    rintro e w1 ⟨rfl, hb⟩
    have HB := Lib.hid hb
    have HN := Lib.hid (H.out.on hb)
    have HRI := Lib.hid (rising_any (H.out.on hb))
    clear hb HW H c1
    by_cases h2 : wtP x.level x.L ≤ 254
    · have f2 : decide ((254 : Int) < (wtP x.level x.L : Int)) = false := decide_eq_false (by omega)
      have f3 : decide (254 < wtP x.level x.L) = false := decide_eq_false (by omega)
      cases hr : risB x.low x.high x.L with
      | true =>
        rw [hr] at HRI
        go_wp2_with fail
        refine HRI.out.mono ?_
        rintro e w2 ⟨rfl, hb2⟩
        have HB2 := Lib.hid (HB.out.on hb2)
        have HN2 := Lib.hid (HN.out.on hb2)
        have c1 := (HN.out.on hb2).level
        clear hb2 HRI HB HN
        by_cases h3 : x.level = 1
        · have HRE := Lib.hid (records_any HN2.out)
          have HL : Hid (lawB x.level x.low x.high x.L = recB x.L) := by
            refine Lib.hid ?_
            unfold lawB
            rw [decide_eq_true (by omega), decide_eq_true h2, hr, if_pos h3]
            rfl
          have f4 : (x.level == 1) = true := by simpa using h3
          clear h1 h2 h3 hr
          go_wp2_with fail
          refine HRE.out.mono ?_
          rintro e w3 ⟨rfl, hb3⟩
          have HB3 := Lib.hid (HB2.out.on hb3)
          clear hb3
          go_wp2
          go_returns
          exact ⟨by rw [HL.out]; rfl, HB3.out⟩
        · have HRE := Lib.hid (links_any HN2.out)
          have HL : Hid (lawB x.level x.low x.high x.L = lnkB x.low x.L) := by
            refine Lib.hid ?_
            unfold lawB
            rw [decide_eq_true (by omega), decide_eq_true h2, hr, if_neg h3]
            rfl
          have f4 : (x.level == 1) = false := by simpa using h3
          clear h1 h2 h3 hr
          go_wp2_with fail
          refine HRE.out.mono ?_
          rintro e w3 ⟨rfl, hb3⟩
          have HB3 := Lib.hid (HB2.out.on hb3)
          clear hb3
          go_wp2
          go_returns
          exact ⟨by rw [HL.out]; rfl, HB3.out⟩
      | false =>
        rw [hr] at HRI
        have HL : Hid (lawB x.level x.low x.high x.L = false) := by
          refine Lib.hid ?_
          rw [Bool.eq_false_iff]
          intro c
          have := (lawB_iff.1 c).rise
          rw [hr] at this
          cases this
        clear h1 h2 hr
        go_wp2_with fail
        refine HRI.out.mono ?_
        rintro e w2 ⟨rfl, hb2⟩
        have HB2 := Lib.hid (HB.out.on hb2)
        clear hb2
        go_wp2
        go_returns
        exact ⟨by rw [HL.out]; rfl, HB2.out⟩
    · have f2 : decide ((254 : Int) < (wtP x.level x.L : Int)) = true := decide_eq_true (by omega)
      have f3 : decide (254 < wtP x.level x.L) = true := decide_eq_true (by omega)
      have HL : Hid (lawB x.level x.low x.high x.L = false) := by
        refine Lib.hid ?_
        rw [Bool.eq_false_iff]
        intro c
        have := (lawB_iff.1 c).weight
        omega
      clear h1 h2
      go_wp2
      go_returns
      exact ⟨by rw [HL.out]; rfl, HB.out⟩
end Go.Proofs.YtcjfnfdinhbdlaaGreatDoor
namespace Go.Proofs.YtcjfnfdinhbdlaaGreatDoor
set_option maxRecDepth 100000
open Go.ChangeShapes Go.WideShapes Go.ChangeAt Go.RowKit Go.PlainAid
open Go.Sort (grow)
def flatP (L : List Pr) : List Value := L.flatMap fun p => [.string p.key, .string p.val]
theorem flatP_len (L : List Pr) : (flatP L).length = L.length * 2 := by
  induction L with
  | nil => rfl
  | cons p t ih =>
    have e : flatP (p :: t) = .string p.key :: .string p.val :: flatP t := rfl
    rw [e, List.length_cons, List.length_cons, List.length_cons, ih]
    omega
theorem flatP_app (A B : List Pr) : flatP (A ++ B) = flatP A ++ flatP B := List.flatMap_append
theorem flatP_at : ∀ (L : List Pr) (i : Nat) (p : Pr), L[i]? = some p → (flatP L)[i * 2]? = some (.string p.key) ∧ (flatP L)[i * 2 + 1]? = some (.string p.val)
  | [], i, p, h => by cases h
  | q :: t, 0, p, h => by
    cases h
    exact ⟨rfl, rfl⟩
  | q :: t, i + 1, p, h => by
    have := flatP_at t i p (by simpa using h)
    have e : flatP (q :: t) = .string q.key :: .string q.val :: flatP t := rfl
    rw [e, show (i + 1) * 2 = i * 2 + 1 + 1 by omega]
    exact this
theorem flatP_one (L : List Pr) : ∀ u ∈ flatP L, u.oneCell' = true := by
  intro u hu
  obtain ⟨p, _, hp⟩ := List.mem_flatMap.1 hu
  simp only [List.mem_cons, List.not_mem_nil, or_false] at hp
  rcases hp with rfl | rfl <;> rfl
def rowO (L : List Pr) : Obj := .cells (flatP L).toArray 121 (0, 0)
theorem rdP_of {w : World} {g : Nat} {L : List Pr} (h : w.heap[g]? = some (rowO L)) : RdP w (some ⟨g, 0, none⟩) L := by
  refine .inr ⟨g, 0, rfl, (Array.getElem?_eq_some_iff.1 h).1, fun i p hp => ?_⟩
  obtain ⟨a, b⟩ := flatP_at L i p hp
  unfold rowO at h
  constructor
  · rw [cell_of_row _ _ _ _ _ _ h, Nat.zero_add]
    simpa using a
  · rw [cell_of_row _ _ _ _ _ _ h, Nat.zero_add]
    simpa using b
theorem info_pair : (Tryz.prog.info? 121).map (fun i => (i.zero, i.size, i.bytes)) = some (some (.agg #[.string ⟨#[]⟩, .string ⟨#[]⟩]), 2, 32) := by kernel_rfl
theorem make_pairs (w : World) (c : Nat) (hc : c ≤ 65536) : ∃ w', (Instr.makeSlice 114 (.int .i64 0) (.int .i64 (c : Int))).run Tryz.prog w = .ok (.slice (some ⟨w.heap.size, 0, none⟩) 0 c) w' ∧
    w'.ownsRow w.heap.size 121 2 (.slice (some ⟨w.heap.size, 0, none⟩) 0 c) 0 [] ∧ Below w.heap.size w w' := by
  obtain ⟨i, h1, h2, h3, h4⟩ := info_parts info_pair
  obtain ⟨w', a, b, c⟩ := run_make_own (P := Tryz.prog) w w.heap.size 114 121 i _ 2 Tryz.underlying114 h1 h2 h3 .i64 .i64 c (by rw [h4]; omega) (by unfold maxLen; omega) (Nat.le_refl _)
  exact ⟨w', a, b, ⟨c.os, c.tape, c.output, c.size, fun k hk => c.block k hk (by simp)⟩⟩
section
variable {P : Program} (w : World)
theorem step_append_spare {ops : Array Oper} {o : Oper} {a : Act} {K : Act → World → Prop} {Q : Exit → Act → World → Prop} {E : Prop} (hgd : o.guard = none) (s x : Operand) (t : TypeId)
    (ho : o.op = .call { callee := .builtin .append, args := #[s, x], argTypes := #[t, t] })
    (base : Nat) (e : TypeId) (i : TypeInfo) (size : Nat) (ht : P.underlying t = some (.slice e)) (hi : P.info? e = some i) (hsize : i.size = size)
    (g n cap : Nat) (xs : List Value) (hs : a.eval s = .slice (some ⟨g, 0, none⟩) n cap) (hown : w.ownsRow base e size (.slice (some ⟨g, 0, none⟩) n cap) n xs)
    (ad : Addr) (m c : Nat) (news : List Value) (hx : a.eval x = .slice (some ad) m c) (hl : news.length = m * size) (hnews : ∀ j u, news[j]? = some u → w.cell? (ad.add j) = some u) (h1 : ∀ u ∈ news, u.oneCell' = true)
    (hroom : n + m ≤ cap)
    (h : ∀ w', w'.ownsRow base e size (.slice (some ⟨g, 0, none⟩) (n + m) cap) (n + m) (xs ++ news) → w.grownBy w' (some g) → K (a.put o.dst (.slice (some ⟨g, 0, none⟩) (n + m) cap)) w') :
    if Region.wanted o (yielded ops a.tmps) = true then Oper.wp P o a w K Q else E := by
  have hw : Region.wanted o (yielded ops a.tmps) = true := by simp [Region.wanted, hgd]
  rw [if_pos hw]
  exact wp_append_own_spare w s x t ho base e i size ht hi hsize g n cap xs hs hown ad m c news hx hl hnews h1 hroom h
end
def UnpOk (w : World) (s : ByteArray) (L : List Pr) (e : Ending) (w' : World) : Prop := ∃ g, e = .returned (.tuple #[.int .i64 (bt s 0), .slice (some ⟨g, 0, none⟩) L.length L.length, .bool true]) ∧ w.heap.size ≤ g ∧ w'.heap[g]? = some (rowO L) ∧ Below w.heap.size w w'
theorem unpL_step {k : Nat} {d : ByteArray} {a b : Nat} (ha : bt d 0 = (a : Int)) (hb : bt d 1 = (b : Int)) (h1 : 2 ≤ d.size) (h2 : 2 + a + b ≤ d.size) :
    unpL (k + 1) d = (unpL k (d.extract (2 + a + b) d.size)).map (⟨d.extract 2 (2 + a), d.extract (2 + a) (2 + a + b)⟩ :: ·) := by
  conv => lhs; unfold unpL
  rw [if_neg (by omega), ha, hb, if_neg (by omega)]
  rw [show (2 + (a : Int) + b).toNat = 2 + a + b by omega, show (2 + (a : Int)).toNat = 2 + a by omega]
theorem unpL_short {k : Nat} {d : ByteArray} (h : d.size < 2) : unpL (k + 1) d = none := by
  conv => lhs; unfold unpL
  rw [if_pos h]
theorem unpL_less {k : Nat} {d : ByteArray} {a b : Nat} (ha : bt d 0 = (a : Int)) (hb : bt d 1 = (b : Int)) (h2 : d.size < 2 + a + b) : unpL (k + 1) d = none := by
  by_cases h : d.size < 2
  · exact unpL_short h
  · conv => lhs; unfold unpL
    rw [if_neg h, ha, hb, if_pos (by omega)]
theorem bt_nat (s : ByteArray) (k : Nat) : ∃ a : Nat, bt s k = (a : Int) ∧ a ≤ 255 := by
  have h1 := bt_nonneg s k
  have h2 := bt_le s k
  exact ⟨(bt s k).toNat, by omega, by omega⟩
set_option maxHeartbeats 4000000 in
theorem unpack_any (s : ByteArray) (w : World) (hs : 2 ≤ s.size) (hs2 : s.size ≤ 4096) :
    Calls Tryz.prog 210 #[.string s] w fun e w' => (∃ L, unpP s = some L ∧ UnpOk w s L e w') ∨ (unpP s = none ∧ e = .returned (.tuple #[.int .i64 0, .slice none 0 0, .bool false]) ∧ Below w.heap.size w w') := by
  obtain ⟨lv, hlv, hlv2⟩ := bt_nat s 0
  obtain ⟨c, hc, hc2⟩ := bt_nat s 1
  have HU : Hid (unpP s = unpL c (s.extract 2 s.size)) := by
    refine Lib.hid ?_
    unfold unpP
    rw [hc]
    rfl
  have gb := get_bt s
  have HLV := Lib.hid hlv
  go_enter Tryz.func210, Tryz.ntmps210
  go_wp2_with fail
  go_quiet (fail)
  obtain ⟨w1, hmk, hrow, hb1⟩ := make_pairs (w.drewN nq) c (by omega)
  have HR := Lib.hid hrow
  have HB := Lib.hid (Below.trans (below_drewN w nq) hb1)
  clear hrow hb1
  go_wp2_with fail
  rw [World.heap_drewN] at HR
  have HG := Lib.hid hmk
  clear hmk gb hc
  go_loopw [0, 7, 21] (fun d l i wr => ∃ (k : Nat) (D : ByteArray) (A : List Pr), k ≤ c ∧ A.length = k ∧ D.size ≤ 4096 ∧ d = .string D ∧ l = .slice (some ⟨w.heap.size, 0, none⟩) k c ∧ i = .int .i64 k ∧ Hid (unpP s = (unpL (c - k) D).map (A ++ ·)) ∧
    Hid (wr.ownsRow w.heap.size 121 2 (.slice (some ⟨w.heap.size, 0, none⟩) k c) k (flatP A)) ∧ Below w.heap.size w wr) (fun _ _ i _ => c - (intOf i).toNat)
  case atStart => exact ⟨0, s.extract 2 s.size, [], Nat.zero_le _, rfl, by rw [ByteArray.size_extract]; omega, rfl, rfl, rfl, Lib.hid (by
    rw [HU.out, Nat.sub_zero]
    cases unpL c (s.extract 2 s.size) <;> rfl), HR, HB.out⟩
  case round =>
    obtain ⟨k, D, A, hk, hA, hD, rfl, rfl, rfl, HI, HRk, hbk⟩ := hrel
    have HBk := Lib.hid hbk
    have HA := Lib.hid hA
    clear hbk hA HR HB
    by_cases hlt : k < c
    · obtain ⟨a, ha, ha2⟩ := bt_nat D 0
      obtain ⟨b, hb, hb2⟩ := bt_nat D 1
      have gd := get_bt D
      have hck : c - k = (c - (k + 1)) + 1 := by omega
      by_cases h2 : 2 ≤ D.size
      · have f1 : decide ((D.size : Int) < 2) = false := decide_eq_false (by omega)
        by_cases h3 : 2 + a + b ≤ D.size
        · have f2 : decide ((D.size : Int) < 2 + (a : Int) + b) = false := decide_eq_false (by omega)
          have HI2 : Hid (unpP s = (unpL (c - (k + 1)) (D.extract (2 + a + b) D.size)).map ((A ++ [⟨D.extract 2 (2 + a), D.extract (2 + a) (2 + a + b)⟩]) ++ ·)) := by
            refine Lib.hid ?_
            rw [HI.out, hck, unpL_step ha hb h2 h3, Option.map_map]
            congr 1
            funext x
            simp
          have hs1 : ∀ w, (Instr.slice 9 (.string D) (some (.int .i64 2)) (some (.int .i64 (2 + (a : Int)))) none).run Tryz.prog w = .ok (.string (D.extract 2 (2 + a))) w := fun w => by
            rw [run_slice_string w 9 D .i64 .i64 2 (2 + (a : Int)) Tryz.underlying9 (by omega) (by omega) (by omega)]
            rw [show (2 + (a : Int)).toNat = 2 + a by omega]
            rfl
          have hs2 : ∀ w, (Instr.slice 9 (.string D) (some (.int .i64 (2 + (a : Int)))) (some (.int .i64 (2 + (a : Int) + b))) none).run Tryz.prog w = .ok (.string (D.extract (2 + a) (2 + a + b))) w := fun w => by
            rw [run_slice_string w 9 D .i64 .i64 (2 + (a : Int)) (2 + (a : Int) + b) Tryz.underlying9 (by omega) (by omega) (by omega)]
            rw [show (2 + (a : Int)).toNat = 2 + a by omega, show (2 + (a : Int) + b).toNat = 2 + a + b by omega]
          have hs3 : ∀ w, (Instr.slice 9 (.string D) (some (.int .i64 (2 + (a : Int) + b))) none none).run Tryz.prog w = .ok (.string (D.extract (2 + a + b) D.size)) w := fun w => by
            rw [run_slice_string_from_if w 9 D .i64 (2 + (a : Int) + b) Tryz.underlying9, if_pos (by omega), show (2 + (a : Int) + b).toNat = 2 + a + b by omega]
          have hsz : (D.extract (2 + a + b) D.size).size ≤ 4096 := by rw [ByteArray.size_extract]; omega
          generalize D.extract (2 + a + b) D.size = D2 at *
          generalize D.extract 2 (2 + a) = K2 at *
          generalize D.extract (2 + a) (2 + a + b) = V2 at *
          obtain ⟨i0, hi, hz0, hz1, hz2⟩ := info_parts info_pair
          have HINF := Lib.hid (And.intro hi hz1)
          clear hi hz0 hz1 hz2 hck
          go_wp2_with fail
          go_region_law (refine step_append_spare _ rfl (.tmp 39) (.tmp 48) 114 rfl w.heap.size 121 i0 2 Tryz.underlying114 HINF.out.1 HINF.out.2 w.heap.size k c _ rfl (World.ownsRow.alloc HRk.out _) _ 1 1 [.string K2, .string V2] rfl rfl (World.news_of_block (heap_alloc_new _ _)) (flatP_one [⟨K2, V2⟩]) (by omega) ?_; intro w3 hown hgrow; have HO3 := Lib.hid hown; have HG3 := Lib.hid hgrow; clear hown hgrow)
          all_goals
            have HB3 : Hid (Below w.heap.size w w3) := Lib.hid ((HBk.out.on (by go_grown)).grown HG3.out (by have := HBk.out.size; simp; omega) (fun _ e => by cases e; exact Nat.le_refl _))
            clear HG3
            go_wp2
            go_roundw
            case rel => exact ⟨k + 1, D2, A ++ [⟨K2, V2⟩], by omega, by rw [List.length_append, HA.out]; rfl, hsz, rfl, rfl, by go_num, HI2, Lib.hid (by rw [flatP_app]; exact HO3.out), HB3.out⟩
            case measure => simp [intOf]; omega
        · have f2 : decide ((D.size : Int) < 2 + (a : Int) + b) = true := decide_eq_true (by omega)
          have HN : Hid (unpP s = none) := by
            refine Lib.hid ?_
            rw [HI.out, hck, unpL_less ha hb (by omega)]
            rfl
          clear hck
          go_wp2
          go_returns
          exact .inr ⟨HN.out, rfl, HBk.out⟩
      · have f1 : decide ((D.size : Int) < 2) = true := decide_eq_true (by omega)
        have HN : Hid (unpP s = none) := by
          refine Lib.hid ?_
          rw [HI.out, hck, unpL_short (by omega)]
          rfl
        clear hck ha hb gd
        go_wp2
        go_returns
        exact .inr ⟨HN.out, rfl, HBk.out⟩
    · obtain rfl : k = c := by omega
      have HN : Hid (unpP s = some A) := by
        refine Lib.hid ?_
        rw [HI.out, Nat.sub_self]
        show some (A ++ []) = some A
        rw [List.append_nil]
      have HY : Hid (wr.heap[w.heap.size]? = some (rowO A)) := by
        refine Lib.hid ?_
        obtain ⟨_, h⟩ := HRk.out
        rcases h with ⟨e, _⟩ | ⟨g, cap, cur, e, _, hg, _, _, hcs, ht⟩
        · cases e
        · cases e
          rw [hg]
          unfold rowO
          have : cur.toList = flatP A := by
            rw [← ht, List.take_of_length_le (by rw [Array.length_toList, hcs]; exact Nat.le_refl _)]
          rw [← this]
      clear hk
      go_wp2
      go_returns
      refine .inl ⟨A, HN.out, w.heap.size, ?_, Nat.le_refl _, HY.out, HBk.out⟩
      rw [HLV.out, HA.out]
      rfl
end Go.Proofs.YtcjfnfdinhbdlaaGreatDoor
