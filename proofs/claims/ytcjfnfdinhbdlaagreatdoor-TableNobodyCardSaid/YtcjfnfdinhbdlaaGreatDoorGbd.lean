import Derived.Test.YtcjfnfdinhbdlaaGreatDoorGba
import Derived.Test.YtcjfnfdinhbdlaaGreatDoorGau
import Derived.Deep.RegionLaw
import Derived.Deep.RegionHeld3
namespace Go.Proofs.YtcjfnfdinhbdlaaGreatDoor
set_option maxRecDepth 100000
open Go.ChangeShapes Go.WideShapes Go.ChangeAt Go.RowKit Go.PlainAid
attribute [local go_sem ↓ high] load_op
def opO (o : OpV) : Obj := .cells #[Value.int .i64 o.id, Value.int .i64 o.proc, Value.int .i64 o.obj, Value.int .i64 o.kind, Value.int .i64 o.meth, Value.int .i64 o.arg, Value.int .i64 o.sec, Value.bool o.done, Value.int .i64 o.res, Value.int .i64 o.inv, Value.int .i64 o.ret] 32 (0, 0)
theorem ints_row {w : World} {b : Nat} {cs : Array Value} {l : List Int} {cap : Nat} (h : w.heap[b]? = some (.cells cs 3 (0, 0))) (hl : l.length ≤ 1000) (hi : InI l) (hc : ∀ (i : Nat) (x : Int), l[i]? = some x → cs[i]? = some (.int .i64 x)) : IntsOf w (.slice (some ⟨b, 0, none⟩) l.length cap) l := by
  by_cases h0 : l.length = 0
  · have : l = [] := List.length_eq_zero_iff.1 h0
    subst this
    exact .inl ⟨rfl, _, _, rfl⟩
  · exact .inr ⟨b, 0, cap, rfl, (Array.getElem?_eq_some_iff.1 h).1, by omega, by omega, fun i x hx => ⟨hi x (List.mem_of_getElem? hx), by rw [cell_of_row _ _ _ _ _ _ h, Nat.zero_add]; exact hc i x hx⟩⟩
theorem ints_one (w : World) (a : Int) (hi : InI [a]) : IntsOf (w.alloc (.cells #[.int .i64 a] 3)) (.slice (some ⟨w.heap.size, 0, none⟩) 1 1) [a] := ints_row (l := [a]) (heap_alloc_new _ _) (by simp) hi fun i x hx => by
  match i, hx with
  | 0, hx => cases hx; rfl
theorem ints_two (w : World) (a b : Int) (hi : InI [a, b]) : IntsOf (w.alloc (.cells #[.int .i64 a, .int .i64 b] 3)) (.slice (some ⟨w.heap.size, 0, none⟩) 2 2) [a, b] := ints_row (l := [a, b]) (heap_alloc_new _ _) (by simp) hi fun i x hx => by
  match i, hx with
  | 0, hx => cases hx; rfl
  | 1, hx => cases hx; rfl
theorem ints_three (w : World) (a b c : Int) (hi : InI [a, b, c]) : IntsOf (w.alloc (.cells #[.int .i64 a, .int .i64 b, .int .i64 c] 3)) (.slice (some ⟨w.heap.size, 0, none⟩) 3 3) [a, b, c] := ints_row (l := [a, b, c]) (heap_alloc_new _ _) (by simp) hi fun i x hx => by
  match i, hx with
  | 0, hx => cases hx; rfl
  | 1, hx => cases hx; rfl
  | 2, hx => cases hx; rfl
theorem ofV_key {l : List Int} (h : l.length ≤ 4) : ofV l = .tuple #[.string (keyS l), .int .i64 0] := by unfold ofV; rw [if_neg (by omega)]
theorem over_any (o : OpV) (w : World) : Calls Tryz.prog 127 #[Value.agg #[Value.int .i64 o.id, Value.int .i64 o.proc, Value.int .i64 o.obj, Value.int .i64 o.kind, Value.int .i64 o.meth, Value.int .i64 o.arg, Value.int .i64 o.sec, Value.bool o.done, Value.int .i64 o.res, Value.int .i64 o.inv, Value.int .i64 o.ret]] w fun e w' => e = .returned (.int .i64 (overZ o)) ∧ Below w.heap.size w w' := by
  have hb : Below w.heap.size w (w.alloc (.cells #[Value.int .i64 o.id, Value.int .i64 o.proc, Value.int .i64 o.obj, Value.int .i64 o.kind, Value.int .i64 o.meth, Value.int .i64 o.arg, Value.int .i64 o.sec, Value.bool o.done, Value.int .i64 o.res, Value.int .i64 o.inv, Value.int .i64 o.ret] 32)) := by go_grown
  obtain ⟨_, _, _, _, _, _, _, c7, _, _, c10⟩ := (OpAt.box w o).cell
  have HB := Lib.hid hb
  clear hb
  rcases Bool.eq_false_or_eq_true o.done with hd | hd
  rotate_left
  · have HE := Lib.hid (show overZ o = 1099511627777 by unfold overZ; rw [hd]; rfl)
    have c7' := c7.trans (congrArg (fun b => some (Value.bool b)) hd)
    clear hd c7
    go_enter Tryz.func127, Tryz.ntmps127
    go_wp2
    go_returns
    exact ⟨by rw [HE.out]; rfl, HB.out⟩
  · have HE := Lib.hid (show overZ o = o.ret by unfold overZ; rw [hd]; rfl)
    have c7' := c7.trans (congrArg (fun b => some (Value.bool b)) hd)
    clear hd c7
    go_enter Tryz.func127, Tryz.ntmps127
    go_wp2
    go_returns
    exact ⟨by rw [HE.out]; rfl, HB.out⟩
set_option maxHeartbeats 2000000 in
theorem wayKey_any (way : Int) (o : OpV) (w : World) (hi : InI (wayI way o)) : Calls Tryz.prog 72 #[.int .i64 way, Value.agg #[Value.int .i64 o.id, Value.int .i64 o.proc, Value.int .i64 o.obj, Value.int .i64 o.kind, Value.int .i64 o.meth, Value.int .i64 o.arg, Value.int .i64 o.sec, Value.bool o.done, Value.int .i64 o.res, Value.int .i64 o.inv, Value.int .i64 o.ret]] w fun e w' => e = .returned (.string (wayS way o)) ∧ Below w.heap.size w w' := by
  have hb : Below w.heap.size w (w.alloc (.cells #[Value.int .i64 o.id, Value.int .i64 o.proc, Value.int .i64 o.obj, Value.int .i64 o.kind, Value.int .i64 o.meth, Value.int .i64 o.arg, Value.int .i64 o.sec, Value.bool o.done, Value.int .i64 o.res, Value.int .i64 o.inv, Value.int .i64 o.ret] 32)) := by go_grown
  have HO := Lib.hid (OpAt.box w o)
  have HB := Lib.hid hb
  clear hb
  obtain ⟨W0, hW0⟩ : ∃ W0, w.alloc (.cells #[Value.int .i64 o.id, Value.int .i64 o.proc, Value.int .i64 o.obj, Value.int .i64 o.kind, Value.int .i64 o.meth, Value.int .i64 o.arg, Value.int .i64 o.sec, Value.bool o.done, Value.int .i64 o.res, Value.int .i64 o.inv, Value.int .i64 o.ret] 32) = W0 := ⟨_, rfl⟩
  rw [hW0] at HO HB
  have H1b : Below W0.heap.size W0 (W0.alloc (.cells #[.int .i64 o.id] 3)) := by go_grown
  have O1 := HO.out.on H1b
  have HB1 := Lib.hid (HB.out.on H1b)
  have HI1 := Lib.hid (ints_one W0 o.id)
  obtain ⟨W1, hW1⟩ : ∃ W1, W0.alloc (.cells #[.int .i64 o.id] 3) = W1 := ⟨_, rfl⟩
  rw [hW1] at O1 HB1 HI1
  obtain ⟨a0, a1, a2, a3, a4, a5, a6, a7, a8, a9, a10⟩ := O1.cell
  obtain ⟨z0, _⟩ := HO.out.cell
  have HO1 := Lib.hid O1
  have hw0 : W0.heap.size = W0.heap.size := rfl
  clear H1b O1 hw0 a3 a5 a6 a7 a8 a10
  have e0 : w.heap.size < W0.heap.size := by rw [← hW0, World.size_alloc]; omega
  have fin : ∀ (W2 : World) (v : Value) (l : List Int), wayI way o = l → l.length ≤ 4 → IntsOf W2 v l → Calls Tryz.prog 49 #[v] W2 fun e w' => e = .returned (.tuple #[.string (wayS way o), .int .i64 0]) ∧ Below W2.heap.size W2 w' := fun W2 v l hl hl4 hI => by
    have := keyOf_any v l W2 hI
    rw [ofV_key hl4] at this
    unfold wayS
    rw [hl]
    exact this
  have HF := Lib.hid fin
  clear fin
  have HI := Lib.hid hi
  clear hi
  by_cases h1 : way = 1
  · subst h1
    have HL := Lib.hid (show wayI 1 o = [o.obj, o.inv, o.id] from rfl)
    have H3 := Lib.hid (ints_three W1 o.obj o.inv o.id (by have := HI.out; rwa [HL.out] at this))
    have HC := Lib.hid (HF.out _ _ _ HL.out (by simp) H3.out)
    have HB2 := Lib.hid (HB1.out.on (show Below W1.heap.size W1 (W1.alloc (.cells #[.int .i64 o.obj, .int .i64 o.inv, .int .i64 o.id] 3)) by go_grown))
    go_enter Tryz.func72, Tryz.ntmps72
    go_wp2_with fail
    refine HC.out.mono ?_
    rintro e w5 ⟨rfl, hb5⟩
    have HZ := Lib.hid (HB2.out.on hb5)
    clear hb5
    go_wp2
    go_returns
    exact ⟨rfl, HZ.out⟩
  · have f1 : (way == 1) = false := by simpa using h1
    by_cases h2 : way = 2
    · subst h2
      have HL := Lib.hid (show wayI 2 o = [o.obj, overZ o, o.id] from rfl)
      have hd : Below W1.heap.size W1 W1.drew := ⟨rfl, rfl, rfl, Nat.le_refl _, fun _ _ => rfl⟩
      have O1 := HO1.out.on hd
      have l1 := O1.load
      have l0 := HO1.out.load
      obtain ⟨b0, b1, b2, _⟩ := O1.cell
      have HV := Lib.hid (over_any o W1.drew)
      have HO2 := Lib.hid O1
      have HB2 := Lib.hid (HB1.out.on hd)
      clear O1 hd
      go_enter Tryz.func72, Tryz.ntmps72
      go_wp2_with fail
      go_region_law (first
        | (go_simp; (with_reducible refine HV.out.mono ?_); rintro e w5 ⟨rfl, hb5⟩; have O5 := HO2.out.on hb5; obtain ⟨y0, y1, y2, _⟩ := O5.cell; have HB5 := Lib.hid (HB2.out.on hb5); clear hb5)
        | fail)
      all_goals
        have H3 := Lib.hid (ints_three w5 o.obj (overZ o) o.id (by have := HI.out; rwa [HL.out] at this))
        have HC := Lib.hid (HF.out _ _ _ HL.out (by simp) H3.out)
        have HB6 := Lib.hid (HB5.out.on (show Below w5.heap.size w5 (w5.alloc (.cells #[.int .i64 o.obj, .int .i64 (overZ o), .int .i64 o.id] 3)) by go_grown))
        go_wp2_with fail
        refine HC.out.mono ?_
        rintro e w6 ⟨rfl, hb6⟩
        have HZ := Lib.hid (HB6.out.on hb6)
        clear hb6
        go_wp2
        go_returns
        exact ⟨rfl, HZ.out⟩
    · have f2 : (way == 2) = false := by simpa using h2
      by_cases h3 : way = 3
      · subst h3
        have HL := Lib.hid (show wayI 3 o = [o.proc, o.inv, o.id] from rfl)
        have H3 := Lib.hid (ints_three W1 o.proc o.inv o.id (by have := HI.out; rwa [HL.out] at this))
        have HC := Lib.hid (HF.out _ _ _ HL.out (by simp) H3.out)
        have HB2 := Lib.hid (HB1.out.on (show Below W1.heap.size W1 (W1.alloc (.cells #[.int .i64 o.proc, .int .i64 o.inv, .int .i64 o.id] 3)) by go_grown))
        go_enter Tryz.func72, Tryz.ntmps72
        go_wp2_with fail
        refine HC.out.mono ?_
        rintro e w5 ⟨rfl, hb5⟩
        have HZ := Lib.hid (HB2.out.on hb5)
        clear hb5
        go_wp2
        go_returns
        exact ⟨rfl, HZ.out⟩
      · have f3 : (way == 3) = false := by simpa using h3
        by_cases h4 : way = 4
        · subst h4
          have HL := Lib.hid (show wayI 4 o = [o.meth, o.id] from rfl)
          have H3 := Lib.hid (ints_two W1 o.meth o.id (by have := HI.out; rwa [HL.out] at this))
          have HC := Lib.hid (HF.out _ _ _ HL.out (by simp) H3.out)
          have HB2 := Lib.hid (HB1.out.on (show Below W1.heap.size W1 (W1.alloc (.cells #[.int .i64 o.meth, .int .i64 o.id] 3)) by go_grown))
          go_enter Tryz.func72, Tryz.ntmps72
          go_wp2_with fail
          refine HC.out.mono ?_
          rintro e w5 ⟨rfl, hb5⟩
          have HZ := Lib.hid (HB2.out.on hb5)
          clear hb5
          go_wp2
          go_returns
          exact ⟨rfl, HZ.out⟩
        · have f4 : (way == 4) = false := by simpa using h4
          have HL := Lib.hid (show wayI way o = [o.id] by unfold wayI; rw [if_neg h1, if_neg h2, if_neg h3, if_neg h4])
          have HC := Lib.hid (HF.out _ _ _ HL.out (by simp) (HI1.out (by have := HI.out; rwa [HL.out] at this)))
          clear h1 h2 h3 h4
          go_enter Tryz.func72, Tryz.ntmps72
          go_wp2_with fail
          refine HC.out.mono ?_
          rintro e w5 ⟨rfl, hb5⟩
          have HZ := Lib.hid (HB1.out.on hb5)
          clear hb5
          go_wp2
          go_returns
          exact ⟨rfl, HZ.out⟩
set_option maxHeartbeats 1000000 in
theorem wayRecord_any (way : Int) (o : OpV) (w : World) (hR : RulesAt w) (hc : checkZ o = 0) : Calls Tryz.prog 78 #[.int .i64 way, Value.agg #[Value.int .i64 o.id, Value.int .i64 o.proc, Value.int .i64 o.obj, Value.int .i64 o.kind, Value.int .i64 o.meth, Value.int .i64 o.arg, Value.int .i64 o.sec, Value.bool o.done, Value.int .i64 o.res, Value.int .i64 o.inv, Value.int .i64 o.ret]] w fun e w' => e = .returned (.string (recW way o)) ∧ Below w.heap.size w w' := by
  have hb : Below w.heap.size w (w.alloc (.cells #[Value.int .i64 o.id, Value.int .i64 o.proc, Value.int .i64 o.obj, Value.int .i64 o.kind, Value.int .i64 o.meth, Value.int .i64 o.arg, Value.int .i64 o.sec, Value.bool o.done, Value.int .i64 o.res, Value.int .i64 o.inv, Value.int .i64 o.ret] 32)) := by go_grown
  have l0 := (OpAt.box w o).load
  have HB := Lib.hid hb
  clear hb
  by_cases h0 : way = 0
  · subst h0
    have HE := Lib.hid (encode_ok o _ (hR.on HB.out) hc)
    go_enter Tryz.func78, Tryz.ntmps78
    go_wp2_with fail
    refine HE.out.mono ?_
    rintro e w5 ⟨rfl, hb5⟩
    have HZ := Lib.hid (HB.out.on hb5)
    clear hb5
    go_wp2
    go_returns
    exact ⟨rfl, HZ.out⟩
  · have f0 : (way != 0) = true := by simpa using h0
    have HW := Lib.hid (show recW way o = ⟨#[]⟩ by unfold recW; rw [if_neg h0])
    clear h0
    go_enter Tryz.func78, Tryz.ntmps78
    go_wp2
    go_returns
    exact ⟨by rw [HW.out]; rfl, HB.out⟩
end Go.Proofs.YtcjfnfdinhbdlaaGreatDoor
