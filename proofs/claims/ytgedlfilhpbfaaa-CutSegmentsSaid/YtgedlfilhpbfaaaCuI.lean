/- Package cut: its comparisons, sorted, endsLater. -/
import Derived.Test.YtgedlfilhpbfaaaCuF
import Derived.Test.YtgedlfilhpbfaaaHtC
import Derived.Lib.QuietBelow
import Derived.Shelf.RegionOpenPlain
import Derived.Deep.RegionLaw
namespace Go.Proofs.Ytgedlfilhpbfaaa
set_option maxRecDepth 100000
open Go.ChangeShapes Go.WideShapes Go.ChangeAt Go.RowKit Go.PlainAid Go.Deep Go.Shelf Go.Sort
namespace Cu
attribute [local go_sem ↓ high] load_op store_o
def cfInv (a b : OpV) : Int := if a.inv = b.inv then cmpZ a.id b.id else cmpZ a.inv b.inv
def cfObj (a b : OpV) : Int := if a.obj = b.obj then cfInv a b else cmpZ a.obj b.obj
theorem inv_lt {a b : OpV} : cfInv a b < 0 ↔ (a.inv < b.inv ∨ (a.inv = b.inv ∧ a.id < b.id)) := by
  unfold cfInv
  split <;> rw [cmp_lt] <;> omega
theorem obj_lt {a b : OpV} : cfObj a b < 0 ↔ (a.obj < b.obj ∨ (a.obj = b.obj ∧ (a.inv < b.inv ∨ (a.inv = b.inv ∧ a.id < b.id)))) := by
  unfold cfObj
  split
  · rw [inv_lt]; omega
  · rw [cmp_lt]; omega
theorem lt_no {cf : OpV → OpV → Int} {x y : OpV} : ltO cf x y = false ↔ ¬ cf x y < 0 := by unfold ltO; exact decide_eq_false_iff_not
theorem lt_yes {cf : OpV → OpV → Int} {x y : OpV} : ltO cf x y = true ↔ cf x y < 0 := by unfold ltO; exact decide_eq_true_iff
theorem ord_inv : Ord3 (ltO cfInv) := ⟨fun x y z h1 h2 => by
  rw [lt_no, inv_lt] at *
  omega, fun x y h => by
  rw [lt_yes, inv_lt] at h
  rw [lt_no, inv_lt]
  omega⟩
theorem ord_obj : Ord3 (ltO cfObj) := ⟨fun x y z h1 h2 => by
  rw [lt_no, obj_lt] at *
  omega, fun x y h => by
  rw [lt_yes, obj_lt] at h
  rw [lt_no, obj_lt]
  omega⟩
set_option maxHeartbeats 1000000 in
theorem byInv_any (a b : OpV) (w : World) : Calls Try.prog 22 #[Value.agg #[Value.int .i64 a.id, Value.int .i64 a.proc, Value.int .i64 a.obj, Value.int .i64 a.kind, Value.int .i64 a.meth, Value.int .i64 a.arg, Value.int .i64 a.sec, Value.bool a.done, Value.int .i64 a.res, Value.int .i64 a.inv, Value.int .i64 a.ret], Value.agg #[Value.int .i64 b.id, Value.int .i64 b.proc, Value.int .i64 b.obj, Value.int .i64 b.kind, Value.int .i64 b.meth, Value.int .i64 b.arg, Value.int .i64 b.sec, Value.bool b.done, Value.int .i64 b.res, Value.int .i64 b.inv, Value.int .i64 b.ret]] w fun e w' => e = .returned (.int .i64 (cfInv a b)) ∧ Below w.heap.size w w' := by
  by_cases h : a.inv = b.inv
  · have hn := Lib.hid (show cfInv a b = cmpZ a.id b.id by unfold cfInv; rw [if_pos h])
    have e1 : (a.inv != b.inv) = false := by rw [h]; simp
    clear h
    go_enter Try.func22, Try.ntmps22
    go_wp2_with fail
    refine (compare_any a.id b.id _).mono ?_
    rintro _ _ ⟨rfl, rfl⟩
    go_wp2_with fail
    go_returns
    exact ⟨by rw [hn.out]; rfl, by go_grown⟩
  · have hn := Lib.hid (show cfInv a b = cmpZ a.inv b.inv by unfold cfInv; rw [if_neg h])
    have e1 : (a.inv != b.inv) = true := bne_iff_ne.2 h
    clear h
    go_enter Try.func22, Try.ntmps22
    go_wp2_with fail
    refine (compare_any a.inv b.inv _).mono ?_
    rintro _ _ ⟨rfl, rfl⟩
    go_wp2_with fail
    go_returns
    exact ⟨by rw [hn.out]; rfl, by go_grown⟩
set_option maxHeartbeats 1000000 in
theorem byObj_any (a b : OpV) (w : World) : Calls Try.prog 19 #[Value.agg #[Value.int .i64 a.id, Value.int .i64 a.proc, Value.int .i64 a.obj, Value.int .i64 a.kind, Value.int .i64 a.meth, Value.int .i64 a.arg, Value.int .i64 a.sec, Value.bool a.done, Value.int .i64 a.res, Value.int .i64 a.inv, Value.int .i64 a.ret], Value.agg #[Value.int .i64 b.id, Value.int .i64 b.proc, Value.int .i64 b.obj, Value.int .i64 b.kind, Value.int .i64 b.meth, Value.int .i64 b.arg, Value.int .i64 b.sec, Value.bool b.done, Value.int .i64 b.res, Value.int .i64 b.inv, Value.int .i64 b.ret]] w fun e w' => e = .returned (.int .i64 (cfObj a b)) ∧ Below w.heap.size w w' := by
  by_cases h : a.obj = b.obj
  · have hn := Lib.hid (show cfObj a b = cfInv a b by unfold cfObj; rw [if_pos h])
    have e1 : (a.obj != b.obj) = false := by rw [h]; simp
    have q1 : OpAt (w.alloc (.cells #[Value.int .i64 a.id, Value.int .i64 a.proc, Value.int .i64 a.obj, Value.int .i64 a.kind, Value.int .i64 a.meth, Value.int .i64 a.arg, Value.int .i64 a.sec, Value.bool a.done, Value.int .i64 a.res, Value.int .i64 a.inv, Value.int .i64 a.ret] 35)) w.heap.size a := heap_alloc_new w _
    have hb : Below (w.alloc (.cells #[Value.int .i64 a.id, Value.int .i64 a.proc, Value.int .i64 a.obj, Value.int .i64 a.kind, Value.int .i64 a.meth, Value.int .i64 a.arg, Value.int .i64 a.sec, Value.bool a.done, Value.int .i64 a.res, Value.int .i64 a.inv, Value.int .i64 a.ret] 35)).heap.size (w.alloc (.cells #[Value.int .i64 a.id, Value.int .i64 a.proc, Value.int .i64 a.obj, Value.int .i64 a.kind, Value.int .i64 a.meth, Value.int .i64 a.arg, Value.int .i64 a.sec, Value.bool a.done, Value.int .i64 a.res, Value.int .i64 a.inv, Value.int .i64 a.ret] 35)) ((w.alloc (.cells #[Value.int .i64 a.id, Value.int .i64 a.proc, Value.int .i64 a.obj, Value.int .i64 a.kind, Value.int .i64 a.meth, Value.int .i64 a.arg, Value.int .i64 a.sec, Value.bool a.done, Value.int .i64 a.res, Value.int .i64 a.inv, Value.int .i64 a.ret] 35)).alloc (.cells #[Value.int .i64 b.id, Value.int .i64 b.proc, Value.int .i64 b.obj, Value.int .i64 b.kind, Value.int .i64 b.meth, Value.int .i64 b.arg, Value.int .i64 b.sec, Value.bool b.done, Value.int .i64 b.res, Value.int .i64 b.inv, Value.int .i64 b.ret] 35)) := by go_grown
    have l1 := (q1.on hb).load
    have q2 : OpAt ((w.alloc (.cells #[Value.int .i64 a.id, Value.int .i64 a.proc, Value.int .i64 a.obj, Value.int .i64 a.kind, Value.int .i64 a.meth, Value.int .i64 a.arg, Value.int .i64 a.sec, Value.bool a.done, Value.int .i64 a.res, Value.int .i64 a.inv, Value.int .i64 a.ret] 35)).alloc (.cells #[Value.int .i64 b.id, Value.int .i64 b.proc, Value.int .i64 b.obj, Value.int .i64 b.kind, Value.int .i64 b.meth, Value.int .i64 b.arg, Value.int .i64 b.sec, Value.bool b.done, Value.int .i64 b.res, Value.int .i64 b.inv, Value.int .i64 b.ret] 35)) (w.heap.size + 1) b := by
      have := heap_alloc_new (w.alloc (.cells #[Value.int .i64 a.id, Value.int .i64 a.proc, Value.int .i64 a.obj, Value.int .i64 a.kind, Value.int .i64 a.meth, Value.int .i64 a.arg, Value.int .i64 a.sec, Value.bool a.done, Value.int .i64 a.res, Value.int .i64 a.inv, Value.int .i64 a.ret] 35)) (.cells #[Value.int .i64 b.id, Value.int .i64 b.proc, Value.int .i64 b.obj, Value.int .i64 b.kind, Value.int .i64 b.meth, Value.int .i64 b.arg, Value.int .i64 b.sec, Value.bool b.done, Value.int .i64 b.res, Value.int .i64 b.inv, Value.int .i64 b.ret] 35)
      rwa [World.size_alloc] at this
    have l2 := q2.load
    clear h q1 q2 hb
    go_enter Try.func19, Try.ntmps19
    go_wp2_with fail
    refine (byInv_any a b _).mono ?_
    rintro _ w3 ⟨rfl, hb3⟩
    have HB := Lib.hid ((show Below w.heap.size w ((w.alloc (.cells #[Value.int .i64 a.id, Value.int .i64 a.proc, Value.int .i64 a.obj, Value.int .i64 a.kind, Value.int .i64 a.meth, Value.int .i64 a.arg, Value.int .i64 a.sec, Value.bool a.done, Value.int .i64 a.res, Value.int .i64 a.inv, Value.int .i64 a.ret] 35)).alloc (.cells #[Value.int .i64 b.id, Value.int .i64 b.proc, Value.int .i64 b.obj, Value.int .i64 b.kind, Value.int .i64 b.meth, Value.int .i64 b.arg, Value.int .i64 b.sec, Value.bool b.done, Value.int .i64 b.res, Value.int .i64 b.inv, Value.int .i64 b.ret] 35)) by go_grown).on hb3)
    go_wp2_with fail
    go_returns
    exact ⟨by rw [hn.out]; rfl, HB.out⟩
  · have hn := Lib.hid (show cfObj a b = cmpZ a.obj b.obj by unfold cfObj; rw [if_neg h])
    have e1 : (a.obj != b.obj) = true := bne_iff_ne.2 h
    clear h
    go_enter Try.func19, Try.ntmps19
    go_wp2_with fail
    refine (compare_any a.obj b.obj _).mono ?_
    rintro _ _ ⟨rfl, rfl⟩
    go_wp2_with fail
    go_returns
    exact ⟨by rw [hn.out]; rfl, by go_grown⟩
theorem cmp_inv : Cmp 22 cfInv := ⟨fun args w => by simp [go_sem], byInv_any, ord_inv⟩
theorem cmp_obj : Cmp 19 cfObj := ⟨fun args w => by simp [go_sem], byObj_any, ord_obj⟩
/-! ### Nothing put in order -/
theorem insertion_nil (f : Value) (c : Nat) (w : World) : Calls Try.prog 36 #[.slice none 0 c, .int .i64 0, .int .i64 0, f] w fun e w' => e = .returned (.tuple #[]) ∧ w = w' := by
  go_enter Try.func36, Try.ntmps36
  go_wp2_with fail
  go_loopw [8] (fun s8 wr => s8 = .int .i64 1 ∧ w = wr) (fun _ _ => 0)
  case atStart => exact ⟨rfl, rfl⟩
  case round =>
    obtain ⟨rfl, rfl⟩ := hrel
    go_wp2_with fail
    go_returns
    exact ⟨rfl, rfl⟩
theorem stable_nil (f : Value) (c : Nat) (w : World) : Calls Try.prog 33 #[.slice none 0 c, .int .i64 0, f] w fun e w' => e = .returned (.tuple #[]) ∧ w = w' := by
  go_enter Try.func33, Try.ntmps33
  go_wp2_with fail
  go_loopw [7, 8] (fun s7 s8 wr => s7 = .int .i64 0 ∧ s8 = .int .i64 20 ∧ w = wr) (fun _ _ _ => 0)
  case atStart => exact ⟨rfl, rfl, rfl⟩
  case round =>
    obtain ⟨rfl, rfl, rfl⟩ := hrel
    go_wp2_with fail
    refine (insertion_nil f c _).mono ?_
    rintro _ _ ⟨rfl, rfl⟩
    go_wp2_with fail
    go_loopw [6] (fun s6 wr => s6 = .int .i64 20 ∧ w = wr) (fun _ _ => 0)
    case atStart => exact ⟨rfl, rfl⟩
    case round =>
      obtain ⟨rfl, rfl⟩ := hrel
      go_wp2_with fail
      go_returns
      exact ⟨rfl, rfl⟩
theorem sort_nil (f : Value) (c : Nat) (w : World) : Calls Try.prog 28 #[.slice none 0 c, f] w fun e w' => e = .returned (.tuple #[]) ∧ w = w' := by
  go_enter Try.func28, Try.ntmps28
  go_wp2_with fail
  refine (stable_nil f c _).mono ?_
  rintro _ _ ⟨rfl, rfl⟩
  go_wp2_with fail
  go_returns
  exact ⟨rfl, rfl⟩
/-- What sorted gives. -/
def Sorted (cf : OpV → OpV → Int) (L S : List OpV) : Prop := S.Perm L ∧ S.Pairwise fun x y => ltO cf y x = false
theorem own_of {n₀ g cap : Nat} {W : World} {L : List OpV} (h : InRow W g cap L) (hn : n₀ ≤ g) (hc : cap ≤ maxLen) : OpsOwn n₀ W (.slice (some ⟨g, 0, none⟩) L.length cap) L := by
  obtain ⟨⟨cur, hg, hs, hr⟩, hl⟩ := h
  exact ⟨flatO_len L, .inr ⟨g, cap, cur, rfl, hn, hg, hl, hc, hs, hr⟩⟩
set_option maxHeartbeats 1000000 in
theorem sorted_any {f : Nat} {cf : OpV → OpV → Int} (hf : Cmp f cf) {v : Value} {L : List OpV} {w : World} (h : OpsOf w v L) (hl : L.length ≤ 1048576) :
    Calls Try.prog 18 #[v, .func (.func f) #[] #[]] w fun e w' => ∃ v' S, e = .returned v' ∧ OpsOwn w.heap.size w' v' S ∧ Sorted cf L S ∧ Below w.heap.size w w' := by
  have HF := Lib.hid hf
  have HC := Lib.hid (clone_any h hl)
  clear hf h
  go_enter Try.func18, Try.ntmps18
  go_wp2_with fail
  refine HC.out.mono ?_
  rintro _ w1 ⟨v1, rfl, ho, hb⟩
  have HB := Lib.hid hb
  rcases ho.2 with ⟨rfl, h0⟩ | ⟨g, cap, cur, rfl, hng, hg, hlc, hcm, hsz, hrow⟩
  · obtain rfl : L = [] := List.length_eq_zero_iff.1 h0
    have HO := Lib.hid ho
    clear h0 ho hb HC
    go_wp2_with fail
    refine (sort_nil _ _ _).mono ?_
    rintro _ _ ⟨rfl, rfl⟩
    go_wp2_with fail
    go_returns
    exact ⟨_, [], rfl, HO.out, ⟨List.Perm.refl _, List.Pairwise.nil⟩, HB.out⟩
  · have HS := Lib.hid (sortStable_any HF.out (⟨⟨cur, hg, hsz, hrow⟩, hlc⟩ : InRow w1 g cap L) rfl hl)
    have HG := Lib.hid (And.intro hng hcm)
    clear ho hb HC hng hg hlc hcm hsz hrow
    go_wp2_with fail
    refine HS.out.mono ?_
    rintro _ w2 ⟨rfl, S, hr, hn, ⟨hp, hs⟩, hk⟩
    have HE := Lib.hid (show OpsOwn w.heap.size w2 (.slice (some ⟨g, 0, none⟩) L.length cap) S ∧ Sorted cf L S ∧ Below w.heap.size w w2 from by
      refine ⟨by rw [← hn]; exact own_of hr HG.out.1 HG.out.2, ⟨hp, sr_pair hs (by omega)⟩, HB.out.trans (hk.below (fun i e => by rw [e]; exact HG.out.1) HB.out.size)⟩)
    clear hr hn hp hs hk
    go_wp2_with fail
    go_returns
    exact ⟨_, S, rfl, HE.out⟩
/-- Does an operation end behind another one? -/
def endB (a b : OpV) : Bool := b.done && (!a.done || decide (a.ret > b.ret))
set_option maxHeartbeats 1000000 in
theorem ends_any (a b : OpV) (w : World) : Calls Try.prog 24 #[Value.agg #[Value.int .i64 a.id, Value.int .i64 a.proc, Value.int .i64 a.obj, Value.int .i64 a.kind, Value.int .i64 a.meth, Value.int .i64 a.arg, Value.int .i64 a.sec, Value.bool a.done, Value.int .i64 a.res, Value.int .i64 a.inv, Value.int .i64 a.ret], Value.agg #[Value.int .i64 b.id, Value.int .i64 b.proc, Value.int .i64 b.obj, Value.int .i64 b.kind, Value.int .i64 b.meth, Value.int .i64 b.arg, Value.int .i64 b.sec, Value.bool b.done, Value.int .i64 b.res, Value.int .i64 b.inv, Value.int .i64 b.ret]] w fun e w' => e = .returned (.bool (endB a b)) ∧ Below w.heap.size w w' := by
  rcases Bool.eq_false_or_eq_true b.done with h | h
  · rcases Bool.eq_false_or_eq_true a.done with h2 | h2
    · have hn := Lib.hid (show endB a b = decide (a.ret > b.ret) by unfold endB; rw [h, h2]; rfl)
      have hn2 : (!a.done) = false := by rw [h2]; rfl
      go_enter Try.func24, Try.ntmps24
      go_wp2_with fail
      go_returns
      exact ⟨by rw [hn.out]; rfl, by go_grown⟩
    · have hn := Lib.hid (show endB a b = true by unfold endB; rw [h, h2]; rfl)
      go_enter Try.func24, Try.ntmps24
      go_wp2_with fail
      go_returns
      exact ⟨by rw [hn.out]; rfl, by go_grown⟩
  · have hn := Lib.hid (show endB a b = false by unfold endB; rw [h]; rfl)
    go_enter Try.func24, Try.ntmps24
    go_wp2_with fail
    go_returns
    exact ⟨by rw [hn.out]; rfl, by go_grown⟩
end Cu
end Go.Proofs.Ytgedlfilhpbfaaa
