/- Package hist: beside, and its closures. -/
import Derived.Test.YtpjnmokofdldmaaDoorHtC
namespace Go.Proofs.YtpjnmokofdldmaaDoor
set_option maxRecDepth 100000
open Go.ChangeShapes Go.WideShapes Go.ChangeAt Go.RowKit Go.PlainAid Go.Deep

attribute [local go_sem ↓ high] load_op store_o
/-- Of one object, and of other kinds. -/
def kindC (o x : OpV) : Bool := x.obj == o.obj && x.kind != o.kind
/-- Of one process, and they overlap. -/
def busyC (o x : OpV) : Bool := x.proc == o.proc && overB x o
/-- Another operation, of which that is so. -/
def otherC (p : OpV → Bool) (o x : OpV) : Bool := x.id != o.id && p x
theorem other_no {p : OpV → Bool} {o x : OpV} (h : x.id = o.id) : otherC p o x = false := by unfold otherC; rw [h]; simp
theorem other_yes {p : OpV → Bool} {o x : OpV} (h : ¬ x.id = o.id) : otherC p o x = p x := by unfold otherC; simp [h]
theorem kind_yes {o x : OpV} (h : x.obj = o.obj) : kindC o x = (x.kind != o.kind) := by unfold kindC; simp [h]
theorem kind_no {o x : OpV} (h : ¬ x.obj = o.obj) : kindC o x = false := by unfold kindC; simp [h]
theorem busy_yes {o x : OpV} (h : x.proc = o.proc) : busyC o x = overB x o := by unfold busyC; simp [h]
theorem busy_no {o x : OpV} (h : ¬ x.proc = o.proc) : busyC o x = false := by unfold busyC; simp [h]
set_option maxHeartbeats 1000000 in
theorem beside2_any (o x : OpV) (ob : Nat) (w : World) (ho : OpAt w ob o) : Calls Tryd.prog 29 #[Value.agg #[Value.int .i64 x.id, Value.int .i64 x.proc, Value.int .i64 x.obj, Value.int .i64 x.kind, Value.int .i64 x.meth, Value.int .i64 x.arg, Value.int .i64 x.sec, Value.bool x.done, Value.int .i64 x.res, Value.int .i64 x.inv, Value.int .i64 x.ret], .pointer (some ⟨ob, 0, none⟩)] w fun e w' => e = .returned (.bool (kindC o x)) ∧ Below w.heap.size w w' := by
  have hb : Below w.heap.size w (w.alloc (.cells #[Value.int .i64 x.id, Value.int .i64 x.proc, Value.int .i64 x.obj, Value.int .i64 x.kind, Value.int .i64 x.meth, Value.int .i64 x.arg, Value.int .i64 x.sec, Value.bool x.done, Value.int .i64 x.res, Value.int .i64 x.inv, Value.int .i64 x.ret] 28)) := by go_grown
  obtain ⟨_, _, x2, x3, _⟩ := (OpAt.box w x).cell
  obtain ⟨_, _, o2, o3, _⟩ := (ho.on hb).cell
  obtain ⟨W0, hW0⟩ : ∃ W, w.alloc (.cells #[Value.int .i64 x.id, Value.int .i64 x.proc, Value.int .i64 x.obj, Value.int .i64 x.kind, Value.int .i64 x.meth, Value.int .i64 x.arg, Value.int .i64 x.sec, Value.bool x.done, Value.int .i64 x.res, Value.int .i64 x.inv, Value.int .i64 x.ret] 28) = W := ⟨_, rfl⟩
  rw [hW0] at hb x2 x3 o2 o3
  have HB := Lib.hid hb
  clear hb ho
  by_cases c : x.obj = o.obj
  · have HK := Lib.hid (kind_yes c)
    have q : (x.obj == o.obj) = true := beq_iff_eq.2 c
    clear c
    go_enter Tryd.func29, Tryd.ntmps29
    go_wp2_with fail
    go_returns
    exact ⟨by rw [HK.out]; rfl, HB.out⟩
  · have HK := Lib.hid (kind_no c)
    have q : (x.obj == o.obj) = false := beq_eq_false_iff_ne.2 c
    clear c
    go_enter Tryd.func29, Tryd.ntmps29
    go_wp2_with fail
    go_returns
    exact ⟨by rw [HK.out]; rfl, HB.out⟩
set_option maxHeartbeats 1000000 in
theorem beside3_any (o x : OpV) (ob : Nat) (w : World) (ho : OpAt w ob o) : Calls Tryd.prog 30 #[Value.agg #[Value.int .i64 x.id, Value.int .i64 x.proc, Value.int .i64 x.obj, Value.int .i64 x.kind, Value.int .i64 x.meth, Value.int .i64 x.arg, Value.int .i64 x.sec, Value.bool x.done, Value.int .i64 x.res, Value.int .i64 x.inv, Value.int .i64 x.ret], .pointer (some ⟨ob, 0, none⟩)] w fun e w' => e = .returned (.bool (busyC o x)) ∧ Below w.heap.size w w' := by
  have hb : Below w.heap.size w (w.alloc (.cells #[Value.int .i64 x.id, Value.int .i64 x.proc, Value.int .i64 x.obj, Value.int .i64 x.kind, Value.int .i64 x.meth, Value.int .i64 x.arg, Value.int .i64 x.sec, Value.bool x.done, Value.int .i64 x.res, Value.int .i64 x.inv, Value.int .i64 x.ret] 28)) := by go_grown
  have hx := OpAt.box w x
  have ho' := ho.on hb
  obtain ⟨W0, hW0⟩ : ∃ W, w.alloc (.cells #[Value.int .i64 x.id, Value.int .i64 x.proc, Value.int .i64 x.obj, Value.int .i64 x.kind, Value.int .i64 x.meth, Value.int .i64 x.arg, Value.int .i64 x.sec, Value.bool x.done, Value.int .i64 x.res, Value.int .i64 x.inv, Value.int .i64 x.ret] 28) = W := ⟨_, rfl⟩
  rw [hW0] at hb hx ho'
  obtain ⟨_, x1, _⟩ := hx.cell
  obtain ⟨_, o1, _⟩ := ho'.cell
  have lx := hx.load
  have lo := ho'.load
  have HB := Lib.hid hb
  clear hb ho hx ho'
  by_cases c : x.proc = o.proc
  · have HK := Lib.hid (busy_yes c)
    have q : (x.proc == o.proc) = true := beq_iff_eq.2 c
    clear c
    go_enter Tryd.func30, Tryd.ntmps30
    go_wp2_with fail
    refine (overlap_any x o _).mono ?_
    rintro _ w2 ⟨rfl, hb2⟩
    have HB2 := Lib.hid (HB.out.on hb2)
    clear hb2
    go_wp2_with fail
    go_returns
    exact ⟨by rw [HK.out]; rfl, HB2.out⟩
  · have HK := Lib.hid (busy_no c)
    have q : (x.proc == o.proc) = false := beq_eq_false_iff_ne.2 c
    clear c
    go_enter Tryd.func30, Tryd.ntmps30
    go_wp2_with fail
    go_returns
    exact ⟨by rw [HK.out]; rfl, HB.out⟩
/-- A function value in a box. -/
def FnAt (w : World) (b : Nat) (f : Value) : Prop := w.heap[b]? = some (.cells #[f] 50 (0, 0))
theorem FnAt.on {w w' : World} {b : Nat} {f : Value} (h : FnAt w b f) (hb : Below w.heap.size w w') : FnAt w' b f := (hb.block b (heap_inO h)).trans h
theorem FnAt.cell {w : World} {b : Nat} {f : Value} (h : FnAt w b f) : w.cell? ⟨b, 0, none⟩ = some f := by unfold FnAt at h; rw [cell_of_row _ _ _ _ _ _ h]; rfl
/-- A list in a box. -/
def SlAt (w : World) (b : Nat) (v : Value) : Prop := w.heap[b]? = some (.cells #[v] 22 (0, 0))
theorem SlAt.on {w w' : World} {b : Nat} {f : Value} (h : SlAt w b f) (hb : Below w.heap.size w w') : SlAt w' b f := (hb.block b (heap_inO h)).trans h
theorem SlAt.cell {w : World} {b : Nat} {f : Value} (h : SlAt w b f) : w.cell? ⟨b, 0, none⟩ = some f := by unfold SlAt at h; rw [cell_of_row _ _ _ _ _ _ h]; rfl
theorem any_snoc {p : OpV → Bool} {l : List OpV} {k : Nat} {x : OpV} (hk : l[k]? = some x) (e : p x = true) : l.any p = true := List.any_eq_true.2 ⟨x, List.mem_of_getElem? hk, e⟩
theorem any_none {p : OpV → Bool} {l : List OpV} {k : Nat} (h : ∀ (t : Nat) (a : OpV), t < k → l[t]? = some a → p a = false) (hk : l.length ≤ k) : l.any p = false := by
  rw [List.any_eq_false]
  intro a ha
  obtain ⟨t, ht, rfl⟩ := List.mem_iff_getElem.1 ha
  rw [h t _ (by omega) (List.getElem?_eq_getElem ht)]
  decide
set_option maxHeartbeats 1000000 in
theorem inner2_any (o x : OpV) (ob fb : Nat) (w : World) (ho : OpAt w ob o) (hf : FnAt w fb (.func (.func 29) #[] #[.pointer (some ⟨ob, 0, none⟩)])) :
    Calls Tryd.prog 28 #[Value.agg #[Value.int .i64 x.id, Value.int .i64 x.proc, Value.int .i64 x.obj, Value.int .i64 x.kind, Value.int .i64 x.meth, Value.int .i64 x.arg, Value.int .i64 x.sec, Value.bool x.done, Value.int .i64 x.res, Value.int .i64 x.inv, Value.int .i64 x.ret], .pointer (some ⟨ob, 0, none⟩), .pointer (some ⟨fb, 0, none⟩)] w fun e w' => e = .returned (.bool (otherC (kindC o) o x)) ∧ Below w.heap.size w w' := by
  have hb : Below w.heap.size w (w.alloc (.cells #[Value.int .i64 x.id, Value.int .i64 x.proc, Value.int .i64 x.obj, Value.int .i64 x.kind, Value.int .i64 x.meth, Value.int .i64 x.arg, Value.int .i64 x.sec, Value.bool x.done, Value.int .i64 x.res, Value.int .i64 x.inv, Value.int .i64 x.ret] 28)) := by go_grown
  have hx := OpAt.box w x
  have ho' := ho.on hb
  have hf' := hf.on hb
  obtain ⟨W0, hW0⟩ : ∃ W, w.alloc (.cells #[Value.int .i64 x.id, Value.int .i64 x.proc, Value.int .i64 x.obj, Value.int .i64 x.kind, Value.int .i64 x.meth, Value.int .i64 x.arg, Value.int .i64 x.sec, Value.bool x.done, Value.int .i64 x.res, Value.int .i64 x.inv, Value.int .i64 x.ret] 28) = W := ⟨_, rfl⟩
  rw [hW0] at hb hx ho' hf'
  obtain ⟨x0, _⟩ := hx.cell
  obtain ⟨o0, _⟩ := ho'.cell
  have f0 := hf'.cell
  have lx := hx.load
  have HO := Lib.hid ho'
  have HB := Lib.hid hb
  clear hb ho hf hx ho' hf'
  by_cases c : x.id = o.id
  · have HK := Lib.hid (other_no (p := kindC o) c)
    have q : (x.id != o.id) = false := by rw [c]; simp
    clear c
    go_enter Tryd.func28, Tryd.ntmps28
    go_wp2_with fail
    go_returns
    exact ⟨by rw [HK.out]; rfl, HB.out⟩
  · have HK := Lib.hid (other_yes (p := kindC o) c)
    have q : (x.id != o.id) = true := bne_iff_ne.2 c
    clear c
    go_enter Tryd.func28, Tryd.ntmps28
    go_wp2_with fail
    refine (beside2_any o x ob _ HO.out).mono ?_
    rintro _ w2 ⟨rfl, hb2⟩
    have HB2 := Lib.hid (HB.out.on hb2)
    clear hb2
    go_wp2_with fail
    go_returns
    exact ⟨by rw [HK.out]; rfl, HB2.out⟩
set_option maxHeartbeats 2000000 in
theorem index2_any {v : Value} {l : List OpV} (o : OpV) (ob fb : Nat) (w : World) (h : OpsOf w v l) (hs : l.length ≤ 1048576) (ho : OpAt w ob o) (hf : FnAt w fb (.func (.func 29) #[] #[.pointer (some ⟨ob, 0, none⟩)])) :
    Calls Tryd.prog 46 #[v, .func (.func 28) #[] #[.pointer (some ⟨ob, 0, none⟩), .pointer (some ⟨fb, 0, none⟩)]] w fun e w' => (∃ r : Int, e = .returned (.int .i64 r) ∧ decide (0 ≤ r) = l.any (otherC (kindC o) o)) ∧ Below w.heap.size w w' := by
  obtain ⟨ao, ac, rfl⟩ := h.len
  have H := Lib.hid h
  have HO := Lib.hid ho
  have HF := Lib.hid hf
  clear h ho hf
  go_enter Tryd.func46, Tryd.ntmps46
  go_wp2_with fail
  go_loopw [8] (fun s8 wr => ∃ k : Nat, s8 = .int .i64 k ∧ k ≤ l.length ∧ Hid (Below w.heap.size w wr ∧ ∀ (t : Nat) (a : OpV), t < k → l[t]? = some a → otherC (kindC o) o a = false)) (fun s8 _ => l.length - (intOf s8).toNat)
  case atStart => exact ⟨0, rfl, Nat.zero_le _, Lib.hid ⟨Below.refl _ _, fun t a ht => absurd ht (Nat.not_lt_zero _)⟩⟩
  case round =>
    obtain ⟨k, rfl, hk, HI⟩ := hrel
    by_cases hkl : k < l.length
    · obtain ⟨x, hx⟩ : ∃ x, l[k]? = some x := ⟨_, List.getElem?_eq_getElem hkl⟩
      obtain ⟨b, p, cap, hv, hblt, hwf, hcc⟩ := OpsOf.at (H.out.on HI.out.1) hx
      have e0 : ao = some ⟨b, p, none⟩ := by cases hv; rfl
      subst e0
      have l1 := load_cellsO (p := p + k * 11) hcc
      have q1 : decide ((k : Int) < (l.length : Int)) = true := decide_eq_true (by omega)
      have q2 : (k : Int) < (l.length : Int) := by omega
      have q3 : IntKind.i64.wrap ((k : Int) + 1) = (k : Int) + 1 := IntWalk.i64_in _ (by omega)
      have q4 : (0 : Int) ≤ (k : Int) := by omega
      have HX := Lib.hid hx
      have HK := Lib.hid hkl
      clear hv hblt hwf hcc hx hk hkl
      obtain ⟨r, hr⟩ : ∃ r, otherC (kindC o) o x = r := ⟨_, rfl⟩
      have HP := Lib.hid hr
      clear hr
      go_wp2_with fail
      refine (inner2_any o x ob fb _ (HO.out.on HI.out.1) (HF.out.on HI.out.1)).mono ?_
      rintro _ w2 ⟨rfl, hb2⟩
      rw [HP.out]
      have HB2 := Lib.hid (HI.out.1.on hb2)
      clear hb2
      cases r
      · go_wp2_with fail
        go_roundw
        case measure => have := HK.out; simp [intOf]; omega
        case rel => exact ⟨k + 1, by simp, HK.out, Lib.hid ⟨HB2.out, fun t a ht hta => by
          by_cases c : t = k
          · subst c
            rw [HX.out] at hta
            rw [← Option.some.inj hta]
            exact HP.out
          · exact HI.out.2 t a (by omega) hta⟩⟩
      · go_wp2_with fail
        go_returns
        exact ⟨⟨_, rfl, by rw [any_snoc HX.out HP.out]; exact decide_eq_true q4⟩, HB2.out⟩
    · have q1 : decide ((k : Int) < (l.length : Int)) = false := decide_eq_false (by omega)
      have q2 : ((k : Int) < (l.length : Int)) = False := eq_false (by omega)
      have HA := Lib.hid (any_none HI.out.2 (show l.length ≤ k by omega))
      clear hk hkl
      go_wp2_with fail
      go_returns
      exact ⟨⟨_, rfl, by rw [HA.out]; rfl⟩, HI.out.1⟩
set_option maxHeartbeats 1000000 in
theorem contains2_any {v : Value} {l : List OpV} (o : OpV) (ob fb : Nat) (w : World) (h : OpsOf w v l) (hs : l.length ≤ 1048576) (ho : OpAt w ob o) (hf : FnAt w fb (.func (.func 29) #[] #[.pointer (some ⟨ob, 0, none⟩)])) :
    Calls Tryd.prog 27 #[v, .func (.func 28) #[] #[.pointer (some ⟨ob, 0, none⟩), .pointer (some ⟨fb, 0, none⟩)]] w fun e w' => e = .returned (.bool (l.any (otherC (kindC o) o))) ∧ Below w.heap.size w w' := by
  obtain ⟨ao, ac, rfl⟩ := h.len
  have H := Lib.hid h
  clear h
  go_enter Tryd.func27, Tryd.ntmps27
  go_wp2_with fail
  refine (index2_any o ob fb _ H.out hs ho hf).mono ?_
  rintro _ w2 ⟨⟨r, rfl, hr⟩, hb2⟩
  have HR := Lib.hid hr
  have HB2 := Lib.hid hb2
  clear hr hb2
  go_wp2_with fail
  go_returns
  exact ⟨by rw [← HR.out]; rfl, HB2.out⟩
set_option maxHeartbeats 1000000 in
theorem outer2_any {v : Value} {l : List OpV} (o : OpV) (ob lb : Nat) (w : World) (h : OpsOf w v l) (hs : l.length ≤ 1048576) (hl : SlAt w lb v) (ho : OpAt w ob o) :
    Calls Tryd.prog 26 #[.func (.func 29) #[] #[.pointer (some ⟨ob, 0, none⟩)], .pointer (some ⟨lb, 0, none⟩), .pointer (some ⟨ob, 0, none⟩)] w fun e w' => e = .returned (.bool (l.any (otherC (kindC o) o))) ∧ Below w.heap.size w w' := by
  have hb : Below w.heap.size w (w.alloc (.cells #[.func (.func 29) #[] #[.pointer (some ⟨ob, 0, none⟩)]] 50)) := by go_grown
  have hf : FnAt (w.alloc (.cells #[.func (.func 29) #[] #[.pointer (some ⟨ob, 0, none⟩)]] 50)) w.heap.size (.func (.func 29) #[] #[.pointer (some ⟨ob, 0, none⟩)]) := heap_alloc_new w _
  obtain ⟨W0, hW0⟩ : ∃ W, w.alloc (.cells #[.func (.func 29) #[] #[.pointer (some ⟨ob, 0, none⟩)]] 50) = W := ⟨_, rfl⟩
  rw [hW0] at hb hf
  have c0 := (hl.on hb).cell
  have HO := Lib.hid (ho.on hb)
  have H := Lib.hid (h.on hb)
  have HF := Lib.hid hf
  have HB := Lib.hid hb
  clear h hl ho hf hb
  obtain ⟨r, hr⟩ : ∃ r, l.any (otherC (kindC o) o) = r := ⟨_, rfl⟩
  have HR := Lib.hid hr
  rw [hr]
  clear hr
  go_enter Tryd.func26, Tryd.ntmps26
  go_wp2_with fail
  refine (contains2_any o ob w.heap.size _ H.out hs HO.out HF.out).mono ?_
  rintro _ w2 ⟨rfl, hb2⟩
  rw [HR.out]
  have HB2 := Lib.hid (HB.out.on hb2)
  clear hb2
  go_wp2_with fail
  go_returns
  exact ⟨rfl, HB2.out⟩
set_option maxHeartbeats 1000000 in
theorem inner3_any (o x : OpV) (ob fb : Nat) (w : World) (ho : OpAt w ob o) (hf : FnAt w fb (.func (.func 30) #[] #[.pointer (some ⟨ob, 0, none⟩)])) :
    Calls Tryd.prog 28 #[Value.agg #[Value.int .i64 x.id, Value.int .i64 x.proc, Value.int .i64 x.obj, Value.int .i64 x.kind, Value.int .i64 x.meth, Value.int .i64 x.arg, Value.int .i64 x.sec, Value.bool x.done, Value.int .i64 x.res, Value.int .i64 x.inv, Value.int .i64 x.ret], .pointer (some ⟨ob, 0, none⟩), .pointer (some ⟨fb, 0, none⟩)] w fun e w' => e = .returned (.bool (otherC (busyC o) o x)) ∧ Below w.heap.size w w' := by
  have hb : Below w.heap.size w (w.alloc (.cells #[Value.int .i64 x.id, Value.int .i64 x.proc, Value.int .i64 x.obj, Value.int .i64 x.kind, Value.int .i64 x.meth, Value.int .i64 x.arg, Value.int .i64 x.sec, Value.bool x.done, Value.int .i64 x.res, Value.int .i64 x.inv, Value.int .i64 x.ret] 28)) := by go_grown
  have hx := OpAt.box w x
  have ho' := ho.on hb
  have hf' := hf.on hb
  obtain ⟨W0, hW0⟩ : ∃ W, w.alloc (.cells #[Value.int .i64 x.id, Value.int .i64 x.proc, Value.int .i64 x.obj, Value.int .i64 x.kind, Value.int .i64 x.meth, Value.int .i64 x.arg, Value.int .i64 x.sec, Value.bool x.done, Value.int .i64 x.res, Value.int .i64 x.inv, Value.int .i64 x.ret] 28) = W := ⟨_, rfl⟩
  rw [hW0] at hb hx ho' hf'
  obtain ⟨x0, _⟩ := hx.cell
  obtain ⟨o0, _⟩ := ho'.cell
  have f0 := hf'.cell
  have lx := hx.load
  have HO := Lib.hid ho'
  have HB := Lib.hid hb
  clear hb ho hf hx ho' hf'
  by_cases c : x.id = o.id
  · have HK := Lib.hid (other_no (p := busyC o) c)
    have q : (x.id != o.id) = false := by rw [c]; simp
    clear c
    go_enter Tryd.func28, Tryd.ntmps28
    go_wp2_with fail
    go_returns
    exact ⟨by rw [HK.out]; rfl, HB.out⟩
  · have HK := Lib.hid (other_yes (p := busyC o) c)
    have q : (x.id != o.id) = true := bne_iff_ne.2 c
    clear c
    go_enter Tryd.func28, Tryd.ntmps28
    go_wp2_with fail
    refine (beside3_any o x ob _ HO.out).mono ?_
    rintro _ w2 ⟨rfl, hb2⟩
    have HB2 := Lib.hid (HB.out.on hb2)
    clear hb2
    go_wp2_with fail
    go_returns
    exact ⟨by rw [HK.out]; rfl, HB2.out⟩
set_option maxHeartbeats 2000000 in
theorem index3_any {v : Value} {l : List OpV} (o : OpV) (ob fb : Nat) (w : World) (h : OpsOf w v l) (hs : l.length ≤ 1048576) (ho : OpAt w ob o) (hf : FnAt w fb (.func (.func 30) #[] #[.pointer (some ⟨ob, 0, none⟩)])) :
    Calls Tryd.prog 46 #[v, .func (.func 28) #[] #[.pointer (some ⟨ob, 0, none⟩), .pointer (some ⟨fb, 0, none⟩)]] w fun e w' => (∃ r : Int, e = .returned (.int .i64 r) ∧ decide (0 ≤ r) = l.any (otherC (busyC o) o)) ∧ Below w.heap.size w w' := by
  obtain ⟨ao, ac, rfl⟩ := h.len
  have H := Lib.hid h
  have HO := Lib.hid ho
  have HF := Lib.hid hf
  clear h ho hf
  go_enter Tryd.func46, Tryd.ntmps46
  go_wp2_with fail
  go_loopw [8] (fun s8 wr => ∃ k : Nat, s8 = .int .i64 k ∧ k ≤ l.length ∧ Hid (Below w.heap.size w wr ∧ ∀ (t : Nat) (a : OpV), t < k → l[t]? = some a → otherC (busyC o) o a = false)) (fun s8 _ => l.length - (intOf s8).toNat)
  case atStart => exact ⟨0, rfl, Nat.zero_le _, Lib.hid ⟨Below.refl _ _, fun t a ht => absurd ht (Nat.not_lt_zero _)⟩⟩
  case round =>
    obtain ⟨k, rfl, hk, HI⟩ := hrel
    by_cases hkl : k < l.length
    · obtain ⟨x, hx⟩ : ∃ x, l[k]? = some x := ⟨_, List.getElem?_eq_getElem hkl⟩
      obtain ⟨b, p, cap, hv, hblt, hwf, hcc⟩ := OpsOf.at (H.out.on HI.out.1) hx
      have e0 : ao = some ⟨b, p, none⟩ := by cases hv; rfl
      subst e0
      have l1 := load_cellsO (p := p + k * 11) hcc
      have q1 : decide ((k : Int) < (l.length : Int)) = true := decide_eq_true (by omega)
      have q2 : (k : Int) < (l.length : Int) := by omega
      have q3 : IntKind.i64.wrap ((k : Int) + 1) = (k : Int) + 1 := IntWalk.i64_in _ (by omega)
      have q4 : (0 : Int) ≤ (k : Int) := by omega
      have HX := Lib.hid hx
      have HK := Lib.hid hkl
      clear hv hblt hwf hcc hx hk hkl
      obtain ⟨r, hr⟩ : ∃ r, otherC (busyC o) o x = r := ⟨_, rfl⟩
      have HP := Lib.hid hr
      clear hr
      go_wp2_with fail
      refine (inner3_any o x ob fb _ (HO.out.on HI.out.1) (HF.out.on HI.out.1)).mono ?_
      rintro _ w2 ⟨rfl, hb2⟩
      rw [HP.out]
      have HB2 := Lib.hid (HI.out.1.on hb2)
      clear hb2
      cases r
      · go_wp2_with fail
        go_roundw
        case measure => have := HK.out; simp [intOf]; omega
        case rel => exact ⟨k + 1, by simp, HK.out, Lib.hid ⟨HB2.out, fun t a ht hta => by
          by_cases c : t = k
          · subst c
            rw [HX.out] at hta
            rw [← Option.some.inj hta]
            exact HP.out
          · exact HI.out.2 t a (by omega) hta⟩⟩
      · go_wp2_with fail
        go_returns
        exact ⟨⟨_, rfl, by rw [any_snoc HX.out HP.out]; exact decide_eq_true q4⟩, HB2.out⟩
    · have q1 : decide ((k : Int) < (l.length : Int)) = false := decide_eq_false (by omega)
      have q2 : ((k : Int) < (l.length : Int)) = False := eq_false (by omega)
      have HA := Lib.hid (any_none HI.out.2 (show l.length ≤ k by omega))
      clear hk hkl
      go_wp2_with fail
      go_returns
      exact ⟨⟨_, rfl, by rw [HA.out]; rfl⟩, HI.out.1⟩
set_option maxHeartbeats 1000000 in
theorem contains3_any {v : Value} {l : List OpV} (o : OpV) (ob fb : Nat) (w : World) (h : OpsOf w v l) (hs : l.length ≤ 1048576) (ho : OpAt w ob o) (hf : FnAt w fb (.func (.func 30) #[] #[.pointer (some ⟨ob, 0, none⟩)])) :
    Calls Tryd.prog 27 #[v, .func (.func 28) #[] #[.pointer (some ⟨ob, 0, none⟩), .pointer (some ⟨fb, 0, none⟩)]] w fun e w' => e = .returned (.bool (l.any (otherC (busyC o) o))) ∧ Below w.heap.size w w' := by
  obtain ⟨ao, ac, rfl⟩ := h.len
  have H := Lib.hid h
  clear h
  go_enter Tryd.func27, Tryd.ntmps27
  go_wp2_with fail
  refine (index3_any o ob fb _ H.out hs ho hf).mono ?_
  rintro _ w2 ⟨⟨r, rfl, hr⟩, hb2⟩
  have HR := Lib.hid hr
  have HB2 := Lib.hid hb2
  clear hr hb2
  go_wp2_with fail
  go_returns
  exact ⟨by rw [← HR.out]; rfl, HB2.out⟩
set_option maxHeartbeats 1000000 in
theorem outer3_any {v : Value} {l : List OpV} (o : OpV) (ob lb : Nat) (w : World) (h : OpsOf w v l) (hs : l.length ≤ 1048576) (hl : SlAt w lb v) (ho : OpAt w ob o) :
    Calls Tryd.prog 26 #[.func (.func 30) #[] #[.pointer (some ⟨ob, 0, none⟩)], .pointer (some ⟨lb, 0, none⟩), .pointer (some ⟨ob, 0, none⟩)] w fun e w' => e = .returned (.bool (l.any (otherC (busyC o) o))) ∧ Below w.heap.size w w' := by
  have hb : Below w.heap.size w (w.alloc (.cells #[.func (.func 30) #[] #[.pointer (some ⟨ob, 0, none⟩)]] 50)) := by go_grown
  have hf : FnAt (w.alloc (.cells #[.func (.func 30) #[] #[.pointer (some ⟨ob, 0, none⟩)]] 50)) w.heap.size (.func (.func 30) #[] #[.pointer (some ⟨ob, 0, none⟩)]) := heap_alloc_new w _
  obtain ⟨W0, hW0⟩ : ∃ W, w.alloc (.cells #[.func (.func 30) #[] #[.pointer (some ⟨ob, 0, none⟩)]] 50) = W := ⟨_, rfl⟩
  rw [hW0] at hb hf
  have c0 := (hl.on hb).cell
  have HO := Lib.hid (ho.on hb)
  have H := Lib.hid (h.on hb)
  have HF := Lib.hid hf
  have HB := Lib.hid hb
  clear h hl ho hf hb
  obtain ⟨r, hr⟩ : ∃ r, l.any (otherC (busyC o) o) = r := ⟨_, rfl⟩
  have HR := Lib.hid hr
  rw [hr]
  clear hr
  go_enter Tryd.func26, Tryd.ntmps26
  go_wp2_with fail
  refine (contains3_any o ob w.heap.size _ H.out hs HO.out HF.out).mono ?_
  rintro _ w2 ⟨rfl, hb2⟩
  rw [HR.out]
  have HB2 := Lib.hid (HB.out.on hb2)
  clear hb2
  go_wp2_with fail
  go_returns
  exact ⟨rfl, HB2.out⟩
/-- What is wrong with an operation beside others. -/
theorem side_kind {l : List OpV} {o : OpV} (h : l.any (otherC (kindC o) o) = true) : Hs.besideZ HL l o = 33 := by
  unfold Hs.besideZ
  rw [if_pos]
  obtain ⟨x, hx, hc⟩ := List.any_eq_true.1 h
  unfold otherC kindC at hc
  simp only [Bool.and_eq_true, bne_iff_ne, beq_iff_eq] at hc
  exact ⟨x, hx, hc.1, hc.2.1, hc.2.2⟩
theorem side_nokind {l : List OpV} {o : OpV} (h : l.any (otherC (kindC o) o) = false) : ¬ ∃ a ∈ l, Hs.otherKind HL a o := by
  rintro ⟨x, hx, h1, h2, h3⟩
  have := List.any_eq_false.1 h x hx
  apply this
  unfold otherC kindC
  simp only [Bool.and_eq_true, bne_iff_ne, beq_iff_eq]
  exact ⟨h1, h2, h3⟩
theorem side_busy {l : List OpV} {o : OpV} (h : l.any (otherC (kindC o) o) = false) (h2 : l.any (otherC (busyC o) o) = true) : Hs.besideZ HL l o = 32 := by
  unfold Hs.besideZ
  rw [if_neg (side_nokind h), if_pos]
  obtain ⟨x, hx, hc⟩ := List.any_eq_true.1 h2
  unfold otherC busyC overB at hc
  simp only [Bool.and_eq_true, bne_iff_ne, beq_iff_eq, Bool.not_eq_true'] at hc
  exact ⟨x, hx, hc.1, hc.2.1, hc.2.2.1, hc.2.2.2⟩
theorem side_none {l : List OpV} {o : OpV} (h : l.any (otherC (kindC o) o) = false) (h2 : l.any (otherC (busyC o) o) = false) : Hs.besideZ HL l o = 0 := by
  unfold Hs.besideZ
  rw [if_neg (side_nokind h), if_neg]
  rintro ⟨x, hx, h1, h3, h4, h5⟩
  have := List.any_eq_false.1 h2 x hx
  apply this
  unfold otherC busyC overB
  simp only [Bool.and_eq_true, bne_iff_ne, beq_iff_eq, Bool.not_eq_true']
  exact ⟨h1, h3, h4, h5⟩
set_option maxHeartbeats 2000000 in
theorem beside_any {v : Value} {l : List OpV} (o : OpV) {w : World} (h : OpsOf w v l) (hs : l.length ≤ 1048576) :
    Calls Tryd.prog 15 #[v, Value.agg #[Value.int .i64 o.id, Value.int .i64 o.proc, Value.int .i64 o.obj, Value.int .i64 o.kind, Value.int .i64 o.meth, Value.int .i64 o.arg, Value.int .i64 o.sec, Value.bool o.done, Value.int .i64 o.res, Value.int .i64 o.inv, Value.int .i64 o.ret]] w fun e w' => e = .returned (.int .i64 (Hs.besideZ HL l o)) ∧ Below w.heap.size w w' := by
  obtain ⟨ao, ac, rfl⟩ := h.len
  obtain ⟨v, hv⟩ : ∃ v, Value.slice ao l.length ac = v := ⟨_, rfl⟩
  have h1 : v.oneCell' = true := by rw [← hv]; rfl
  have hb0 : Below w.heap.size w (w.alloc (.cells #[.slice ao l.length ac] 22)) := by go_grown
  have hl : SlAt (w.alloc (.cells #[.slice ao l.length ac] 22)) w.heap.size (.slice ao l.length ac) := heap_alloc_new w _
  have z0 : (w.alloc (.cells #[.slice ao l.length ac] 22)).heap.size = w.heap.size + 1 := World.size_alloc _ _
  obtain ⟨W0, hW0⟩ : ∃ W, w.alloc (.cells #[.slice ao l.length ac] 22) = W := ⟨_, rfl⟩
  rw [hW0] at hb0 hl z0
  have hb1 : Below W0.heap.size W0 (W0.alloc (.cells #[Value.int .i64 o.id, Value.int .i64 o.proc, Value.int .i64 o.obj, Value.int .i64 o.kind, Value.int .i64 o.meth, Value.int .i64 o.arg, Value.int .i64 o.sec, Value.bool o.done, Value.int .i64 o.res, Value.int .i64 o.inv, Value.int .i64 o.ret] 28)) := by go_grown
  have ho := OpAt.box W0 o
  obtain ⟨W1, hW1⟩ : ∃ W, W0.alloc (.cells #[Value.int .i64 o.id, Value.int .i64 o.proc, Value.int .i64 o.obj, Value.int .i64 o.kind, Value.int .i64 o.meth, Value.int .i64 o.arg, Value.int .i64 o.sec, Value.bool o.done, Value.int .i64 o.res, Value.int .i64 o.inv, Value.int .i64 o.ret] 28) = W := ⟨_, rfl⟩
  rw [hW1] at hb1 ho
  rw [z0] at ho
  have HO := Lib.hid ho
  have HLb := Lib.hid (hl.on hb1)
  have HB := Lib.hid (hb0.on hb1)
  have H := Lib.hid (h.on HB.out)
  clear h ho hl hb0 hb1 h1 hv
  cases hk : l.any (otherC (kindC o) o) with
  | true =>
    have HK := Lib.hid hk
    have HE := Lib.hid (side_kind hk)
    clear hk
    go_enter Tryd.func15, Tryd.ntmps15
    go_wp2_with fail
    refine (outer2_any o (w.heap.size + 1) w.heap.size _ H.out hs HLb.out HO.out).mono ?_
    rintro _ w2 ⟨rfl, hb2⟩
    rw [HK.out]
    have HB2 := Lib.hid (HB.out.on hb2)
    clear hb2
    go_wp2_with fail
    go_returns
    exact ⟨by rw [HE.out]; rfl, HB2.out⟩
  | false =>
    have HK := Lib.hid hk
    clear hk
    cases hq : l.any (otherC (busyC o) o) with
    | true =>
      have HQ := Lib.hid hq
      have HE := Lib.hid (side_busy HK.out hq)
      clear hq
      go_enter Tryd.func15, Tryd.ntmps15
      go_wp2_with fail
      refine (outer2_any o (w.heap.size + 1) w.heap.size _ H.out hs HLb.out HO.out).mono ?_
      rintro _ w2 ⟨rfl, hb2⟩
      rw [HK.out]
      have HB2 := Lib.hid (HB.out.on hb2)
      have HO2 := Lib.hid (HO.out.on hb2)
      have HL2 := Lib.hid (HLb.out.on hb2)
      have H2 := Lib.hid (H.out.on hb2)
      clear hb2
      go_wp2_with fail
      refine (outer3_any o (w.heap.size + 1) w.heap.size _ H2.out hs HL2.out HO2.out).mono ?_
      rintro _ w3 ⟨rfl, hb3⟩
      rw [HQ.out]
      have HB3 := Lib.hid (HB2.out.on hb3)
      clear hb3
      go_wp2_with fail
      go_returns
      exact ⟨by rw [HE.out]; rfl, HB3.out⟩
    | false =>
      have HQ := Lib.hid hq
      have HE := Lib.hid (side_none HK.out hq)
      clear hq
      go_enter Tryd.func15, Tryd.ntmps15
      go_wp2_with fail
      refine (outer2_any o (w.heap.size + 1) w.heap.size _ H.out hs HLb.out HO.out).mono ?_
      rintro _ w2 ⟨rfl, hb2⟩
      rw [HK.out]
      have HB2 := Lib.hid (HB.out.on hb2)
      have HO2 := Lib.hid (HO.out.on hb2)
      have HL2 := Lib.hid (HLb.out.on hb2)
      have H2 := Lib.hid (H.out.on hb2)
      clear hb2
      go_wp2_with fail
      refine (outer3_any o (w.heap.size + 1) w.heap.size _ H2.out hs HL2.out HO2.out).mono ?_
      rintro _ w3 ⟨rfl, hb3⟩
      rw [HQ.out]
      have HB3 := Lib.hid (HB2.out.on hb3)
      clear hb3
      go_wp2_with fail
      go_returns
      exact ⟨by rw [HE.out]; rfl, HB3.out⟩
end Go.Proofs.YtpjnmokofdldmaaDoor
