/- Package model: what operations do, as plain functions; contracts of the kinds that have few states. Package model: contracts of rises, number, mutex; the reference's Rising, Ints. -/
import Derived.Test.YtppjmmdiglnkfaaQaj
import Derived.BigQuiet
namespace Go.Proofs.Ytppjmmdiglnkfaa
set_option maxRecDepth 100000
open Go.ChangeShapes Go.WideShapes Go.ChangeAt Go.RowKit Go.PlainAid Go.Deep

attribute [local go_sem ↓ high] app_intI
/-- The state behind an operation, its answer, and whether it can be done. -/
abbrev Ans := List Int × Int × Bool
def noA : Ans := ([], 0, false)
def wrapI (x : Int) : Int := IntKind.i64.wrap x
def b2i (b : Bool) : Int := if b then 1 else 0
def regC (o : OpV) : List Int → Ans
  | [x] => if o.meth = 1 then ([x], x, true) else if o.meth = 2 then ([o.arg], 0, true) else if o.meth = 3 then (if x = o.arg then ([o.sec], 1, true) else ([x], 0, true)) else noA
  | _ => noA
def ctrC (o : OpV) : List Int → Ans
  | [x] => if o.meth = 1 then ([x], x, true) else if o.meth = 4 then ([wrapI (x + 1)], 0, true) else if o.meth = 5 then ([wrapI (x - 1)], 0, true) else noA
  | _ => noA
def queC (o : OpV) (L : List Int) : Ans := if o.meth = 6 then (L ++ [o.arg], 0, true) else if o.meth = 7 then (match L with | [] => ([], -1, true) | x :: r => (r, x, true)) else noA
def stkC (o : OpV) (L : List Int) : Ans := if o.meth = 8 then (L ++ [o.arg], 0, true) else if o.meth = 9 then (if L = [] then ([], -1, true) else (L.dropLast, L.getLastD 0, true)) else noA
def mtxC (o : OpV) (L : List Int) : Ans := if o.meth = 13 ∧ L = [] then ([o.proc], 0, true) else if o.meth = 14 ∧ L = [o.proc] then ([], 0, true) else noA
theorem wrapI_in (x : Int) : -9223372036854775808 ≤ wrapI x ∧ wrapI x ≤ 9223372036854775807 := by
  unfold wrapI
  rw [IntKind.wrap_i64]
  omega
/-- What a call that has the state in hand leaves. -/
def AnsC (n₀ : Nat) (v : Value) (w : World) (A : Ans) (e : Ending) (w' : World) : Prop := ∃ v', e = .returned (.tuple #[v', .int .i64 A.2.1, .bool A.2.2]) ∧ OwnI n₀ w' v' A.1 ∧ Mine v w w'
theorem AnsC.eq {n₀ : Nat} {v : Value} {w w' : World} {A : Ans} {L : List Int} {n : Int} {b : Bool} (hA : A = (L, n, b)) {v' : Value} (ho : OwnI n₀ w' v' L) (hm : Mine v w w') : AnsC n₀ v w A (.returned (.tuple #[v', .int .i64 n, .bool b])) w' := by
  subst hA
  exact ⟨v', rfl, ho, hm⟩
theorem OwnI.one {n₀ : Nat} {W : World} {v : Value} {x : Int} (h : OwnI n₀ W v [x]) : ∃ g o cap, v = .slice (some ⟨g, o, none⟩) 1 cap ∧ W.cell? ⟨g, o, none⟩ = some (.int .i64 x) := by
  obtain ⟨g, o, cap, hv, _, hc, _⟩ := OwnI.tail h
  exact ⟨g, o, cap, hv, hc⟩
theorem OwnI.fresh {n₀ : Nat} (W : World) (hn : n₀ ≤ W.heap.size) (x : Int) (hx : -9223372036854775808 ≤ x ∧ x ≤ 9223372036854775807) : OwnI n₀ (W.alloc (.cells #[.int .i64 x] 3)) (.slice (some ⟨W.heap.size, 0, none⟩) 1 1) [x] :=
  OwnI.new W hn [x] (by simp) (fun y hy => by rw [List.mem_singleton.1 hy]; exact hx)
theorem Mine.alloc {v : Value} {W W' : World} (h : Mine v W W') (o : Obj) : Mine v W (W'.alloc o) := h.on ((Below.refl _ _).alloc (Nat.le_refl _) _)
theorem Mine.drew {v : Value} {W W' : World} (h : Mine v W W') : Mine v W W'.drew := h.on (Below.refl _ _).drew
theorem OwnI.drew {n₀ : Nat} {W : World} {v : Value} {L : List Int} (h : OwnI n₀ W v L) : OwnI n₀ W.drew v L := h
set_option maxHeartbeats 2000000 in
theorem register_any (o : OpV) (ho : o.Wf) {n₀ : Nat} {v : Value} {L : List Int} {w : World} (h : OwnI n₀ w v L) (hn : n₀ ≤ w.heap.size) : Calls Try.prog 113 #[v, Value.agg #[Value.int .i64 o.id, Value.int .i64 o.proc, Value.int .i64 o.obj, Value.int .i64 o.kind, Value.int .i64 o.meth, Value.int .i64 o.arg, Value.int .i64 o.sec, Value.bool o.done, Value.int .i64 o.res, Value.int .i64 o.inv, Value.int .i64 o.ret]] w (AnsC n₀ v w (regC o L)) := by
  have HB : Below w.heap.size w (w.alloc (.cells #[Value.int .i64 o.id, Value.int .i64 o.proc, Value.int .i64 o.obj, Value.int .i64 o.kind, Value.int .i64 o.meth, Value.int .i64 o.arg, Value.int .i64 o.sec, Value.bool o.done, Value.int .i64 o.res, Value.int .i64 o.inv, Value.int .i64 o.ret] 43)) := by go_grown
  have hop := (OpAt.box w o).cell
  have h1 := h.on HB
  obtain ⟨W1, hW1⟩ : ∃ W1, w.alloc (.cells #[Value.int .i64 o.id, Value.int .i64 o.proc, Value.int .i64 o.obj, Value.int .i64 o.kind, Value.int .i64 o.meth, Value.int .i64 o.arg, Value.int .i64 o.sec, Value.bool o.done, Value.int .i64 o.res, Value.int .i64 o.inv, Value.int .i64 o.ret] 43) = W1 := ⟨_, rfl⟩
  rw [hW1] at hop HB h1
  have hn1 : n₀ ≤ W1.heap.size := Nat.le_trans hn HB.size
  have HO := Lib.hid h1
  have HM := Lib.hid (Mine.of (v := v) HB)
  have HN := Lib.hid (And.intro hn1 ho)
  obtain ⟨_, k1, _, _, k4, k5, k6, _⟩ := hop
  clear HB h hn hn1 ho
  by_cases hl : L.length = 1
  · obtain ⟨x, rfl⟩ := List.length_eq_one_iff.1 hl
    obtain ⟨g, p, cap, rfl, hx⟩ := h1.one
    clear hl h1
    by_cases m1 : o.meth = 1
    · rw [m1] at k4
      have HA := Lib.hid (show regC o [x] = ([x], x, true) by simp [regC, m1])
      clear m1
      go_enter Try.func113, Try.ntmps113
      go_wp2
      go_region
      go_wp2
      go_returns
      exact AnsC.eq HA.out HO.out.drew HM.out.drew
    · have q1 : (o.meth == 1) = false := beq_eq_false_iff_ne.2 m1
      by_cases m2 : o.meth = 2
      · rw [m2] at k4
        have HA := Lib.hid (show regC o [x] = ([o.arg], 0, true) by simp [regC, m2])
        clear m2
        go_enter Try.func113, Try.ntmps113
        go_wp2
        go_returns
        exact AnsC.eq HA.out (OwnI.fresh _ HN.out.1 _ HN.out.2.arg) (HM.out.alloc _)
      · have q2 : (o.meth == 2) = false := beq_eq_false_iff_ne.2 m2
        by_cases m3 : o.meth = 3
        · rw [m3] at k4
          by_cases e : x = o.arg
          · have HA := Lib.hid (show regC o [x] = ([o.sec], 1, true) by simp [regC, m3, e])
            have q : (x == o.arg) = true := beq_iff_eq.2 e
            clear m3 e
            go_enter Try.func113, Try.ntmps113
            go_wp2
            go_region
            go_wp2
            go_returns
            exact AnsC.eq HA.out (OwnI.fresh _ HN.out.1 _ HN.out.2.sec) (HM.out.drew.alloc _)
          · have HA := Lib.hid (show regC o [x] = ([x], 0, true) by simp [regC, m3, e])
            have q : (x == o.arg) = false := beq_eq_false_iff_ne.2 e
            clear m3 e
            go_enter Try.func113, Try.ntmps113
            go_wp2
            go_region
            go_wp2
            go_returns
            exact AnsC.eq HA.out HO.out.drew HM.out.drew
        · have q3 : (o.meth == 3) = false := beq_eq_false_iff_ne.2 m3
          have HA := Lib.hid (show regC o [x] = ([], 0, false) by simp [regC, noA, m1, m2, m3])
          clear m1 m2 m3
          go_enter Try.func113, Try.ntmps113
          go_wp2
          go_returns
          exact AnsC.eq HA.out (OwnI.nil _ _ none) HM.out
  · have hq : ((L.length : Int) != 1) = true := bne_iff_ne.2 (by omega)
    have HA := Lib.hid (show regC o L = ([], 0, false) by
      match L, hl with
      | [], _ => rfl
      | [x], hl => exact absurd rfl hl
      | _ :: _ :: _, _ => rfl)
    obtain ⟨ao, cap, rfl⟩ := h1.len
    clear hl h1
    go_enter Try.func113, Try.ntmps113
    go_wp2
    go_returns
    exact AnsC.eq HA.out (OwnI.nil _ _ none) HM.out
set_option maxHeartbeats 2000000 in
theorem counter_any (o : OpV) (ho : o.Wf) {n₀ : Nat} {v : Value} {L : List Int} {w : World} (h : OwnI n₀ w v L) (hn : n₀ ≤ w.heap.size) : Calls Try.prog 114 #[v, Value.agg #[Value.int .i64 o.id, Value.int .i64 o.proc, Value.int .i64 o.obj, Value.int .i64 o.kind, Value.int .i64 o.meth, Value.int .i64 o.arg, Value.int .i64 o.sec, Value.bool o.done, Value.int .i64 o.res, Value.int .i64 o.inv, Value.int .i64 o.ret]] w (AnsC n₀ v w (ctrC o L)) := by
  have HB : Below w.heap.size w (w.alloc (.cells #[Value.int .i64 o.id, Value.int .i64 o.proc, Value.int .i64 o.obj, Value.int .i64 o.kind, Value.int .i64 o.meth, Value.int .i64 o.arg, Value.int .i64 o.sec, Value.bool o.done, Value.int .i64 o.res, Value.int .i64 o.inv, Value.int .i64 o.ret] 43)) := by go_grown
  have hop := (OpAt.box w o).cell
  have h1 := h.on HB
  obtain ⟨W1, hW1⟩ : ∃ W1, w.alloc (.cells #[Value.int .i64 o.id, Value.int .i64 o.proc, Value.int .i64 o.obj, Value.int .i64 o.kind, Value.int .i64 o.meth, Value.int .i64 o.arg, Value.int .i64 o.sec, Value.bool o.done, Value.int .i64 o.res, Value.int .i64 o.inv, Value.int .i64 o.ret] 43) = W1 := ⟨_, rfl⟩
  rw [hW1] at hop HB h1
  have hn1 : n₀ ≤ W1.heap.size := Nat.le_trans hn HB.size
  have HO := Lib.hid h1
  have HM := Lib.hid (Mine.of (v := v) HB)
  have HN := Lib.hid (And.intro hn1 ho)
  obtain ⟨_, k1, _, _, k4, k5, k6, _⟩ := hop
  clear HB h hn hn1 ho
  by_cases hl : L.length = 1
  · obtain ⟨x, rfl⟩ := List.length_eq_one_iff.1 hl
    obtain ⟨g, p, cap, rfl, hx⟩ := h1.one
    clear hl h1
    by_cases m1 : o.meth = 1
    · rw [m1] at k4
      have HA := Lib.hid (show ctrC o [x] = ([x], x, true) by simp [ctrC, m1])
      clear m1
      go_enter Try.func114, Try.ntmps114
      go_wp2
      go_region
      go_wp2
      go_returns
      exact AnsC.eq HA.out HO.out.drew HM.out.drew
    · have q1 : (o.meth == 1) = false := beq_eq_false_iff_ne.2 m1
      by_cases m4 : o.meth = 4
      · rw [m4] at k4
        have HA := Lib.hid (show ctrC o [x] = ([wrapI (x + 1)], 0, true) by simp [ctrC, m4])
        have hw : IntKind.i64.wrap (x + 1) = wrapI (x + 1) := rfl
        have hz := wrapI_in (x + 1)
        have HZ := Lib.hid hz
        obtain ⟨y, hy⟩ : ∃ y, wrapI (x + 1) = y := ⟨_, rfl⟩
        rw [hy] at HA hw HZ
        clear m4 hz hy
        go_enter Try.func114, Try.ntmps114
        go_wp2
        go_returns
        exact AnsC.eq HA.out (OwnI.fresh _ HN.out.1 _ HZ.out) (HM.out.alloc _)
      · have q4 : (o.meth == 4) = false := beq_eq_false_iff_ne.2 m4
        by_cases m5 : o.meth = 5
        · rw [m5] at k4
          have HA := Lib.hid (show ctrC o [x] = ([wrapI (x - 1)], 0, true) by simp [ctrC, m5])
          have hw : IntKind.i64.wrap (x - 1) = wrapI (x - 1) := rfl
          have hz := wrapI_in (x - 1)
          have HZ := Lib.hid hz
          obtain ⟨y, hy⟩ : ∃ y, wrapI (x - 1) = y := ⟨_, rfl⟩
          rw [hy] at HA hw HZ
          clear m5 hz hy
          go_enter Try.func114, Try.ntmps114
          go_wp2
          go_returns
          exact AnsC.eq HA.out (OwnI.fresh _ HN.out.1 _ HZ.out) (HM.out.alloc _)
        · have q5 : (o.meth == 5) = false := beq_eq_false_iff_ne.2 m5
          have HA := Lib.hid (show ctrC o [x] = ([], 0, false) by simp [ctrC, noA, m1, m4, m5])
          clear m1 m4 m5
          go_enter Try.func114, Try.ntmps114
          go_wp2
          go_returns
          exact AnsC.eq HA.out (OwnI.nil _ _ none) HM.out
  · have hq : ((L.length : Int) != 1) = true := bne_iff_ne.2 (by omega)
    have HA := Lib.hid (show ctrC o L = ([], 0, false) by
      match L, hl with
      | [], _ => rfl
      | [x], hl => exact absurd rfl hl
      | _ :: _ :: _, _ => rfl)
    obtain ⟨ao, cap, rfl⟩ := h1.len
    clear hl h1
    go_enter Try.func114, Try.ntmps114
    go_wp2
    go_returns
    exact AnsC.eq HA.out (OwnI.nil _ _ none) HM.out
end Go.Proofs.Ytppjmmdiglnkfaa
namespace Go.Proofs.Ytppjmmdiglnkfaa
set_option maxRecDepth 100000
open Go.ChangeShapes Go.WideShapes Go.ChangeAt Go.RowKit Go.PlainAid Go.Deep

/-- Each number is above the one ahead. -/
def Rise (L : List Int) : Prop := ∀ (i : Nat) (x y : Int), L[i]? = some x → L[i + 1]? = some y → x < y
open Classical in
noncomputable def risesB (L : List Int) : Bool := decide (Rise L)
open Classical in
theorem risesB_yes {L : List Int} (h : Rise L) : risesB L = true := by unfold risesB; exact decide_eq_true h
open Classical in
theorem risesB_no {L : List Int} (h : ¬ Rise L) : risesB L = false := by unfold risesB; exact decide_eq_false h
theorem rise_far {L : List Int} (h : Rise L) : ∀ (d i : Nat) (x y : Int), L[i]? = some x → L[i + 1 + d]? = some y → x < y
  | 0, i, x, y, hx, hy => h i x y hx hy
  | d + 1, i, x, y, hx, hy => by
    have hl : i + 1 + d < L.length := by have := (List.getElem?_eq_some_iff.1 hy).1; omega
    have hz : L[i + 1 + d]? = some L[i + 1 + d] := List.getElem?_eq_getElem hl
    exact Int.lt_trans (rise_far h d i x _ hx hz) (h (i + 1 + d) _ y hz hy)
theorem rise_pair {L : List Int} (h : Rise L) : L.Pairwise (· < ·) := by
  rw [List.pairwise_iff_getElem]
  intro i j hi hj hij
  exact rise_far h (j - i - 1) i _ _ (List.getElem?_eq_getElem hi) (by rw [show i + 1 + (j - i - 1) = j by omega]; exact List.getElem?_eq_getElem hj)
theorem pair_rise {L : List Int} (h : L.Pairwise (· < ·)) : Rise L := fun i x y hx hy => by
  obtain ⟨hi, rfl⟩ := List.getElem?_eq_some_iff.1 hx
  obtain ⟨hj, rfl⟩ := List.getElem?_eq_some_iff.1 hy
  exact List.pairwise_iff_getElem.1 h i (i + 1) hi hj (by omega)
theorem below_grown {w : World} : Below w.heap.size w w := Below.refl _ _
theorem IntsOf.parts {w : World} {v : Value} {l : List Int} (h : IntsOf w v l) : ∃ ao cap, v = .slice ao l.length cap ∧ (l.length : Int) ≤ 9223372036854775807 ∧ (0 < l.length → ∃ b o, ao = some ⟨b, o, none⟩ ∧ b < w.heap.size ∧ ∀ (i : Nat) (x : Int), l[i]? = some x → w.cell? ⟨b, o + i, none⟩ = some (.int .i64 x)) := by
  rcases h with ⟨rfl, ao, cap, rfl⟩ | ⟨b, o, cap, rfl, hlt, h0, hm, hr⟩
  · exact ⟨ao, cap, rfl, by simp, fun h => by simp at h⟩
  · exact ⟨_, cap, rfl, hm, fun _ => ⟨b, o, rfl, hlt, fun i x hx => (hr i x hx).2⟩⟩
set_option maxHeartbeats 2000000 in
theorem rises_any (v : Value) (L : List Int) (w : World) (h : IntsOf w v L) : Calls Try.prog 126 #[v] w fun e w' => e = .returned (.bool (risesB L)) ∧ Below w.heap.size w w' := by
  obtain ⟨ao, cap, rfl, hm, hc⟩ := h.parts
  have HC := Lib.hid hc
  have HM := Lib.hid hm
  clear h hc hm
  go_enter Try.func126, Try.ntmps126
  go_wp2
  go_loopw [3] (fun s3 wr => ∃ j : Nat, s3 = .int .i64 ((j : Int) + 1) ∧ (j = 0 ∨ j < L.length) ∧ Below w.heap.size w wr ∧ Hid (∀ (i : Nat) (x y : Int), i < j → L[i]? = some x → L[i + 1]? = some y → x < y)) (fun s3 _ => L.length + 1 - (intOf s3).toNat)
  case atStart => exact ⟨0, rfl, .inl rfl, Below.refl _ _, fun i x y hi => absurd hi (by omega)⟩
  case round =>
    obtain ⟨j, rfl, hj, hb, HG⟩ := hrel
    by_cases hl : j + 1 < L.length
    · obtain ⟨b, o, rfl, hlt, hr⟩ := HC.out (by omega)
      have q1 : ((j : Int) + 1 < (L.length : Int)) = True := eq_true (by omega)
      have q1d : decide ((j : Int) + 1 < (L.length : Int)) = true := decide_eq_true (by omega)
      have q2 : IntKind.i64.wrap ((j : Int) + 1 + 1) = (j : Int) + 1 + 1 := IntWalk.i64_in _ (by have := HM.out; omega)
      have q3 : (0 : Int) ≤ (j : Int) + 1 := by omega
      have q4 : (j : Int) < (L.length : Int) := by omega
      have q5 : ((j : Int) + 1).toNat = j + 1 := by omega
      have q6 : IntKind.i64.wrap (j : Int) = (j : Int) := IntWalk.i64_in _ (by have := HM.out; omega)
      obtain ⟨x, hx⟩ : ∃ x, L[j]? = some x := ⟨_, List.getElem?_eq_getElem (by omega)⟩
      obtain ⟨y, hy⟩ : ∃ y, L[j + 1]? = some y := ⟨_, List.getElem?_eq_getElem hl⟩
      have c0 : wr.cell? ⟨b, o + j, none⟩ = some (.int .i64 x) := (hb.cell (p := ⟨b, o + j, none⟩) hlt).trans (hr j x hx)
      have c1 : wr.cell? ⟨b, o + (j + 1), none⟩ = some (.int .i64 y) := (hb.cell (p := ⟨b, o + (j + 1), none⟩) hlt).trans (hr (j + 1) y hy)
      have HL := Lib.hid (And.intro hl (And.intro hx hy))
      have HB := Lib.hid hb
      clear hl hj hx hy hb hr
      by_cases hxy : x < y
      · have qq : decide (x ≥ y) = false := decide_eq_false (by omega)
        have qq2 : (y ≤ x) = False := eq_false (by omega)
        have HX := Lib.hid hxy
        clear hxy
        go_wp2
        go_quiet (fail)
        go_wp2
        go_roundw
        case measure => have := HL.out.1; simp [intOf]; omega
        case rel => exact ⟨j + 1, by simp, .inr HL.out.1, HB.out.on (below_drewN _ _), fun i u z hi hu hz => by
          by_cases c : i = j
          · subst c
            rw [HL.out.2.1] at hu
            rw [HL.out.2.2] at hz
            rw [← Option.some.inj hu, ← Option.some.inj hz]
            exact HX.out
          · exact HG.out i u z (by omega) hu hz⟩
      · have qq : decide (x ≥ y) = true := decide_eq_true (by omega)
        have qq2 : (y ≤ x) = True := eq_true (by omega)
        have HX := Lib.hid hxy
        clear hxy
        go_wp2
        go_quiet (fail)
        go_wp2
        go_returns
        exact ⟨by rw [risesB_no fun hr => absurd (hr j x y HL.out.2.1 HL.out.2.2) (by have := HX.out; omega)]; rfl, HB.out.on (below_drewN _ _)⟩
    · have q1 : ((j : Int) + 1 < (L.length : Int)) = False := eq_false (by omega)
      have q1d : decide ((j : Int) + 1 < (L.length : Int)) = false := decide_eq_false (by omega)
      have HL := Lib.hid hl
      have HB := Lib.hid hb
      clear hl hj hb
      go_wp2
      go_returns
      exact ⟨by rw [risesB_yes fun i x y hx hy => HG.out i x y (by have := (List.getElem?_eq_some_iff.1 hy).1; have := HL.out; omega) hx hy]; rfl, HB.out⟩
set_option maxHeartbeats 2000000 in
theorem rrising_any (v : Value) (L : List Int) (w : World) (h : IntsOf w v L) : Calls Try.prog 74 #[v] w fun e w' => e = .returned (.bool (risesB L)) ∧ Below w.heap.size w w' := by
  obtain ⟨ao, cap, rfl, hm, hc⟩ := h.parts
  have HC := Lib.hid hc
  have HM := Lib.hid hm
  clear h hc hm
  go_enter Try.func74, Try.ntmps74
  go_wp2
  go_loopw [3] (fun s3 wr => ∃ j : Nat, s3 = .int .i64 ((j : Int) + 1) ∧ (j = 0 ∨ j < L.length) ∧ Below w.heap.size w wr ∧ Hid (∀ (i : Nat) (x y : Int), i < j → L[i]? = some x → L[i + 1]? = some y → x < y)) (fun s3 _ => L.length + 1 - (intOf s3).toNat)
  case atStart => exact ⟨0, rfl, .inl rfl, Below.refl _ _, fun i x y hi => absurd hi (by omega)⟩
  case round =>
    obtain ⟨j, rfl, hj, hb, HG⟩ := hrel
    by_cases hl : j + 1 < L.length
    · obtain ⟨b, o, rfl, hlt, hr⟩ := HC.out (by omega)
      have q1 : ((j : Int) + 1 < (L.length : Int)) = True := eq_true (by omega)
      have q1d : decide ((j : Int) + 1 < (L.length : Int)) = true := decide_eq_true (by omega)
      have q2 : IntKind.i64.wrap ((j : Int) + 1 + 1) = (j : Int) + 1 + 1 := IntWalk.i64_in _ (by have := HM.out; omega)
      have q3 : (0 : Int) ≤ (j : Int) + 1 := by omega
      have q4 : (j : Int) < (L.length : Int) := by omega
      have q5 : ((j : Int) + 1).toNat = j + 1 := by omega
      have q6 : IntKind.i64.wrap (j : Int) = (j : Int) := IntWalk.i64_in _ (by have := HM.out; omega)
      obtain ⟨x, hx⟩ : ∃ x, L[j]? = some x := ⟨_, List.getElem?_eq_getElem (by omega)⟩
      obtain ⟨y, hy⟩ : ∃ y, L[j + 1]? = some y := ⟨_, List.getElem?_eq_getElem hl⟩
      have c0 : wr.cell? ⟨b, o + j, none⟩ = some (.int .i64 x) := (hb.cell (p := ⟨b, o + j, none⟩) hlt).trans (hr j x hx)
      have c1 : wr.cell? ⟨b, o + (j + 1), none⟩ = some (.int .i64 y) := (hb.cell (p := ⟨b, o + (j + 1), none⟩) hlt).trans (hr (j + 1) y hy)
      have HL := Lib.hid (And.intro hl (And.intro hx hy))
      have HB := Lib.hid hb
      clear hl hj hx hy hb hr
      by_cases hxy : x < y
      · have qq : decide (x ≥ y) = false := decide_eq_false (by omega)
        have qq2 : (y ≤ x) = False := eq_false (by omega)
        have HX := Lib.hid hxy
        clear hxy
        go_wp2
        go_quiet (fail)
        go_wp2
        go_roundw
        case measure => have := HL.out.1; simp [intOf]; omega
        case rel => exact ⟨j + 1, by simp, .inr HL.out.1, HB.out.on (below_drewN _ _), fun i u z hi hu hz => by
          by_cases c : i = j
          · subst c
            rw [HL.out.2.1] at hu
            rw [HL.out.2.2] at hz
            rw [← Option.some.inj hu, ← Option.some.inj hz]
            exact HX.out
          · exact HG.out i u z (by omega) hu hz⟩
      · have qq : decide (x ≥ y) = true := decide_eq_true (by omega)
        have qq2 : (y ≤ x) = True := eq_true (by omega)
        have HX := Lib.hid hxy
        clear hxy
        go_wp2
        go_quiet (fail)
        go_wp2
        go_returns
        exact ⟨by rw [risesB_no fun hr => absurd (hr j x y HL.out.2.1 HL.out.2.2) (by have := HX.out; omega)]; rfl, HB.out.on (below_drewN _ _)⟩
    · have q1 : ((j : Int) + 1 < (L.length : Int)) = False := eq_false (by omega)
      have q1d : decide ((j : Int) + 1 < (L.length : Int)) = false := decide_eq_false (by omega)
      have HL := Lib.hid hl
      have HB := Lib.hid hb
      clear hl hj hb
      go_wp2
      go_returns
      exact ⟨by rw [risesB_yes fun i x y hx hy => HG.out i x y (by have := (List.getElem?_eq_some_iff.1 hy).1; have := HL.out; omega) hx hy]; rfl, HB.out⟩
end Go.Proofs.Ytppjmmdiglnkfaa
