/- Package hist: edited. -/
import Derived.Test.YtpjnmokofdldmaaDoorHtJ
namespace Go.Proofs.YtpjnmokofdldmaaDoor
set_option maxRecDepth 100000
open Go.ChangeShapes Go.WideShapes Go.ChangeAt Go.RowKit Go.PlainAid Go.Deep

attribute [local go_sem ↓ high] load_op store_o load_ed
theorem cell_set_off (w : World) (b i j : Nat) (v : Value) (h : i ≠ j) : (w.setCell ⟨b, i, none⟩ v).cell? ⟨b, j, none⟩ = w.cell? ⟨b, j, none⟩ := by
  unfold World.setCell World.cell?
  simp only [Array.getElem?_modify, if_true]
  cases hb : w.heap[b]? with
  | none => rfl
  | some o => cases o <;> simp [h]
/-- Single cells of an operation's box, stored into. -/
theorem OpAt.set {W : World} {b i : Nat} {o o' : OpV} {u : Value} (h : OpAt W b o) (e : (#[Value.int .i64 o.id, Value.int .i64 o.proc, Value.int .i64 o.obj, Value.int .i64 o.kind, Value.int .i64 o.meth, Value.int .i64 o.arg, Value.int .i64 o.sec, Value.bool o.done, Value.int .i64 o.res, Value.int .i64 o.inv, Value.int .i64 o.ret]).setIfInBounds i u = #[Value.int .i64 o'.id, Value.int .i64 o'.proc, Value.int .i64 o'.obj, Value.int .i64 o'.kind, Value.int .i64 o'.meth, Value.int .i64 o'.arg, Value.int .i64 o'.sec, Value.bool o'.done, Value.int .i64 o'.res, Value.int .i64 o'.inv, Value.int .i64 o'.ret]) : OpAt (W.setCell ⟨b, i, none⟩ u) b o' := by
  unfold OpAt
  rw [← e]
  exact heap_setCell_same _ b i _ _ u h
/-- What edited leaves on its way: the boxes of its operation, of its edit, and of its answer. -/
structure EdB (w W : World) (o : OpV) (k : Int) (e : OpV) : Prop where
  below : Below w.heap.size w W
  op : OpAt W w.heap.size o
  ed : EdAt W (w.heap.size + 1) k e
  res : OpAt W (w.heap.size + 2) zeroV
theorem EdB.drew {w W : World} {o e : OpV} {k : Int} (h : EdB w W o k e) (n : Nat) : EdB w (W.drewN n) o k e := ⟨h.below.on (below_drewN W n), h.op, h.ed, h.res⟩
theorem EdB.set {w W : World} {o o' e : OpV} {k : Int} (h : EdB w W o k e) {i : Nat} {u : Value} (hu : (#[Value.int .i64 o.id, Value.int .i64 o.proc, Value.int .i64 o.obj, Value.int .i64 o.kind, Value.int .i64 o.meth, Value.int .i64 o.arg, Value.int .i64 o.sec, Value.bool o.done, Value.int .i64 o.res, Value.int .i64 o.inv, Value.int .i64 o.ret]).setIfInBounds i u = #[Value.int .i64 o'.id, Value.int .i64 o'.proc, Value.int .i64 o'.obj, Value.int .i64 o'.kind, Value.int .i64 o'.meth, Value.int .i64 o'.arg, Value.int .i64 o'.sec, Value.bool o'.done, Value.int .i64 o'.res, Value.int .i64 o'.inv, Value.int .i64 o'.ret]) : EdB w (W.setCell ⟨w.heap.size, i, none⟩ u) o' k e :=
  ⟨h.below.setCell (Nat.le_refl _) _, h.op.set hu, (heap_setCell_other _ _ _ _ (by simp)).trans h.ed, (heap_setCell_other _ _ _ _ (by simp)).trans h.res⟩
theorem edited_start (w : World) (o e : OpV) (k : Int) : ∃ W0 W1 W, w.alloc (.cells #[Value.int .i64 o.id, Value.int .i64 o.proc, Value.int .i64 o.obj, Value.int .i64 o.kind, Value.int .i64 o.meth, Value.int .i64 o.arg, Value.int .i64 o.sec, Value.bool o.done, Value.int .i64 o.res, Value.int .i64 o.inv, Value.int .i64 o.ret] 28) = W0 ∧ W0.heap.size = w.heap.size + 1 ∧ W0.alloc (.cells #[Value.int .i64 k, Value.int .i64 e.id, Value.int .i64 e.proc, Value.int .i64 e.obj, Value.int .i64 e.kind, Value.int .i64 e.meth, Value.int .i64 e.arg, Value.int .i64 e.sec, Value.bool e.done, Value.int .i64 e.res, Value.int .i64 e.inv, Value.int .i64 e.ret] 36) = W1 ∧ W1.heap.size = w.heap.size + 1 + 1 ∧ W1.alloc (.cells #[Value.int .i64 0, Value.int .i64 0, Value.int .i64 0, Value.int .i64 0, Value.int .i64 0, Value.int .i64 0, Value.int .i64 0, Value.bool false, Value.int .i64 0, Value.int .i64 0, Value.int .i64 0] 28) = W ∧ EdB w W o k e := by
  have hb0 : Below w.heap.size w (w.alloc (.cells #[Value.int .i64 o.id, Value.int .i64 o.proc, Value.int .i64 o.obj, Value.int .i64 o.kind, Value.int .i64 o.meth, Value.int .i64 o.arg, Value.int .i64 o.sec, Value.bool o.done, Value.int .i64 o.res, Value.int .i64 o.inv, Value.int .i64 o.ret] 28)) := by go_grown
  have z0 : (w.alloc (.cells #[Value.int .i64 o.id, Value.int .i64 o.proc, Value.int .i64 o.obj, Value.int .i64 o.kind, Value.int .i64 o.meth, Value.int .i64 o.arg, Value.int .i64 o.sec, Value.bool o.done, Value.int .i64 o.res, Value.int .i64 o.inv, Value.int .i64 o.ret] 28)).heap.size = w.heap.size + 1 := World.size_alloc _ _
  have q0 := OpAt.box w o
  obtain ⟨W0, hW0⟩ : ∃ W, w.alloc (.cells #[Value.int .i64 o.id, Value.int .i64 o.proc, Value.int .i64 o.obj, Value.int .i64 o.kind, Value.int .i64 o.meth, Value.int .i64 o.arg, Value.int .i64 o.sec, Value.bool o.done, Value.int .i64 o.res, Value.int .i64 o.inv, Value.int .i64 o.ret] 28) = W := ⟨_, rfl⟩
  rw [hW0] at hb0 q0 z0
  have hb1 : Below W0.heap.size W0 (W0.alloc (.cells #[Value.int .i64 k, Value.int .i64 e.id, Value.int .i64 e.proc, Value.int .i64 e.obj, Value.int .i64 e.kind, Value.int .i64 e.meth, Value.int .i64 e.arg, Value.int .i64 e.sec, Value.bool e.done, Value.int .i64 e.res, Value.int .i64 e.inv, Value.int .i64 e.ret] 36)) := by go_grown
  have z1 : (W0.alloc (.cells #[Value.int .i64 k, Value.int .i64 e.id, Value.int .i64 e.proc, Value.int .i64 e.obj, Value.int .i64 e.kind, Value.int .i64 e.meth, Value.int .i64 e.arg, Value.int .i64 e.sec, Value.bool e.done, Value.int .i64 e.res, Value.int .i64 e.inv, Value.int .i64 e.ret] 36)).heap.size = w.heap.size + 1 + 1 := by rw [World.size_alloc, z0]
  have q1 := EdAt.box W0 k e
  obtain ⟨W1, hW1⟩ : ∃ W, W0.alloc (.cells #[Value.int .i64 k, Value.int .i64 e.id, Value.int .i64 e.proc, Value.int .i64 e.obj, Value.int .i64 e.kind, Value.int .i64 e.meth, Value.int .i64 e.arg, Value.int .i64 e.sec, Value.bool e.done, Value.int .i64 e.res, Value.int .i64 e.inv, Value.int .i64 e.ret] 36) = W := ⟨_, rfl⟩
  rw [hW1] at hb1 q1 z1
  have hb2 : Below W1.heap.size W1 (W1.alloc (.cells #[Value.int .i64 0, Value.int .i64 0, Value.int .i64 0, Value.int .i64 0, Value.int .i64 0, Value.int .i64 0, Value.int .i64 0, Value.bool false, Value.int .i64 0, Value.int .i64 0, Value.int .i64 0] 28)) := by go_grown
  have q2 : OpAt (W1.alloc (.cells #[Value.int .i64 0, Value.int .i64 0, Value.int .i64 0, Value.int .i64 0, Value.int .i64 0, Value.int .i64 0, Value.int .i64 0, Value.bool false, Value.int .i64 0, Value.int .i64 0, Value.int .i64 0] 28)) W1.heap.size zeroV := heap_alloc_new W1 _
  rw [z0] at q1
  rw [z1] at q2
  exact ⟨W0, W1, _, hW0, z0, hW1, z1, rfl, hb0.on (hb1.on hb2), (q0.on hb1).on hb2, q1.on hb2, q2⟩
def edPost (w : World) (r : OpV × Int) (x : Ending) (w' : World) : Prop := x = .returned (.tuple #[Value.agg #[Value.int .i64 r.1.id, Value.int .i64 r.1.proc, Value.int .i64 r.1.obj, Value.int .i64 r.1.kind, Value.int .i64 r.1.meth, Value.int .i64 r.1.arg, Value.int .i64 r.1.sec, Value.bool r.1.done, Value.int .i64 r.1.res, Value.int .i64 r.1.inv, Value.int .i64 r.1.ret], .int .i64 r.2]) ∧ Below w.heap.size w w'
set_option maxHeartbeats 2000000 in
theorem edited3_any (o e : OpV) (w : World) : Calls Tryd.prog 42 #[Value.agg #[Value.int .i64 o.id, Value.int .i64 o.proc, Value.int .i64 o.obj, Value.int .i64 o.kind, Value.int .i64 o.meth, Value.int .i64 o.arg, Value.int .i64 o.sec, Value.bool o.done, Value.int .i64 o.res, Value.int .i64 o.inv, Value.int .i64 o.ret], Value.agg #[Value.int .i64 3, Value.int .i64 e.id, Value.int .i64 e.proc, Value.int .i64 e.obj, Value.int .i64 e.kind, Value.int .i64 e.meth, Value.int .i64 e.arg, Value.int .i64 e.sec, Value.bool e.done, Value.int .i64 e.res, Value.int .i64 e.inv, Value.int .i64 e.ret]] w (edPost w (editC 3 o e)) := by
  obtain ⟨W0, W1, W, hW0, z0, hW1, z1, hW, h⟩ := edited_start w o e 3
  have H := Lib.hid h
  obtain ⟨k0, _, k5, k6, k7, k9, k10, k11⟩ := h.ed.cell
  have f0 : ∀ i, W.frozen? ⟨w.heap.size, i, none⟩ = false := fun _ => frozen_of_row _ _ _ _ _ h.op
  have f1 : ∀ i, W.drew.frozen? ⟨w.heap.size, i, none⟩ = false := fun _ => frozen_of_row _ _ _ _ _ (show W.drew.heap[w.heap.size]? = _ from h.op)
  clear h
  have HE := Lib.hid (show editC 3 o e = ((⟨o.id, o.proc, o.obj, o.kind, o.meth, o.arg, o.sec, o.done, o.res, e.inv, e.ret⟩ : OpV), 0) from rfl)
  have hd := H.out.op.cell
  obtain ⟨_, _, _, _, m4, m5, m6, m7, m8, m9, m10⟩ := hd
  go_enter Tryd.func42, Tryd.ntmps42
  go_wp2_with fail
  go_region_held3 (fun w' => w'.cell? ⟨w.heap.size + 1, 10, none⟩ = some (.int .i64 e.inv) ∧ w'.cell? ⟨w.heap.size + 1, 11, none⟩ = some (.int .i64 e.ret)) (simp [*, World.cell?_setCell_far]) (fail)
  all_goals
    have HS : Hid (EdB w ((((W).setCell ⟨w.heap.size, 9, none⟩ (Value.int .i64 e.inv)).setCell ⟨w.heap.size, 10, none⟩ (Value.int .i64 e.ret)).drew) ⟨o.id, o.proc, o.obj, o.kind, o.meth, o.arg, o.sec, o.done, o.res, e.inv, e.ret⟩ 3 e) := Lib.hid ((((H.out).set (i := 9) (u := Value.int .i64 e.inv) (o' := ⟨o.id, o.proc, o.obj, o.kind, o.meth, o.arg, o.sec, o.done, o.res, e.inv, o.ret⟩) rfl).set (i := 10) (u := Value.int .i64 e.ret) (o' := ⟨o.id, o.proc, o.obj, o.kind, o.meth, o.arg, o.sec, o.done, o.res, e.inv, e.ret⟩) rfl).drew 1)
    obtain ⟨W3, hW3⟩ : ∃ X, (((W).setCell ⟨w.heap.size, 9, none⟩ (Value.int .i64 e.inv)).setCell ⟨w.heap.size, 10, none⟩ (Value.int .i64 e.ret)).drew = X := ⟨_, rfl⟩
    rw [hW3] at HS
    rw [hW3]
    clear hW3
    obtain ⟨V, hs, hq, hb, _, _⟩ := put_box (w := w) HS.out.res (Nat.le_add_right _ 2) HS.out.below (Nat.le_refl _) ⟨o.id, o.proc, o.obj, o.kind, o.meth, o.arg, o.sec, o.done, o.res, e.inv, e.ret⟩
    have l9 := HS.out.op.load
    try dsimp only at hs
    have HQ := Lib.hid hq
    have HB := Lib.hid hb
    clear hq hb
    go_wp2_with fail
    have r5 := cells11 HQ.out
    refine bodyPost_ret (v := .tuple #[Value.agg #[Value.int .i64 (⟨o.id, o.proc, o.obj, o.kind, o.meth, o.arg, o.sec, o.done, o.res, e.inv, e.ret⟩ : OpV).id, Value.int .i64 (⟨o.id, o.proc, o.obj, o.kind, o.meth, o.arg, o.sec, o.done, o.res, e.inv, e.ret⟩ : OpV).proc, Value.int .i64 (⟨o.id, o.proc, o.obj, o.kind, o.meth, o.arg, o.sec, o.done, o.res, e.inv, e.ret⟩ : OpV).obj, Value.int .i64 (⟨o.id, o.proc, o.obj, o.kind, o.meth, o.arg, o.sec, o.done, o.res, e.inv, e.ret⟩ : OpV).kind, Value.int .i64 (⟨o.id, o.proc, o.obj, o.kind, o.meth, o.arg, o.sec, o.done, o.res, e.inv, e.ret⟩ : OpV).meth, Value.int .i64 (⟨o.id, o.proc, o.obj, o.kind, o.meth, o.arg, o.sec, o.done, o.res, e.inv, e.ret⟩ : OpV).arg, Value.int .i64 (⟨o.id, o.proc, o.obj, o.kind, o.meth, o.arg, o.sec, o.done, o.res, e.inv, e.ret⟩ : OpV).sec, Value.bool (⟨o.id, o.proc, o.obj, o.kind, o.meth, o.arg, o.sec, o.done, o.res, e.inv, e.ret⟩ : OpV).done, Value.int .i64 (⟨o.id, o.proc, o.obj, o.kind, o.meth, o.arg, o.sec, o.done, o.res, e.inv, e.ret⟩ : OpV).res, Value.int .i64 (⟨o.id, o.proc, o.obj, o.kind, o.meth, o.arg, o.sec, o.done, o.res, e.inv, e.ret⟩ : OpV).inv, Value.int .i64 (⟨o.id, o.proc, o.obj, o.kind, o.meth, o.arg, o.sec, o.done, o.res, e.inv, e.ret⟩ : OpV).ret], .int .i64 0]) (by simp [results, Tryd.results42, go_sem, r5]) rfl ?_
    exact ⟨by rw [HE.out], HB.out⟩
set_option maxHeartbeats 2000000 in
theorem edited4_any (o e : OpV) (w : World) : Calls Tryd.prog 42 #[Value.agg #[Value.int .i64 o.id, Value.int .i64 o.proc, Value.int .i64 o.obj, Value.int .i64 o.kind, Value.int .i64 o.meth, Value.int .i64 o.arg, Value.int .i64 o.sec, Value.bool o.done, Value.int .i64 o.res, Value.int .i64 o.inv, Value.int .i64 o.ret], Value.agg #[Value.int .i64 4, Value.int .i64 e.id, Value.int .i64 e.proc, Value.int .i64 e.obj, Value.int .i64 e.kind, Value.int .i64 e.meth, Value.int .i64 e.arg, Value.int .i64 e.sec, Value.bool e.done, Value.int .i64 e.res, Value.int .i64 e.inv, Value.int .i64 e.ret]] w (edPost w (editC 4 o e)) := by
  obtain ⟨W0, W1, W, hW0, z0, hW1, z1, hW, h⟩ := edited_start w o e 4
  have H := Lib.hid h
  obtain ⟨k0, _, k5, k6, k7, k9, k10, k11⟩ := h.ed.cell
  have f0 : ∀ i, W.frozen? ⟨w.heap.size, i, none⟩ = false := fun _ => frozen_of_row _ _ _ _ _ h.op
  have f1 : ∀ i, W.drew.frozen? ⟨w.heap.size, i, none⟩ = false := fun _ => frozen_of_row _ _ _ _ _ (show W.drew.heap[w.heap.size]? = _ from h.op)
  clear h
  have HE := Lib.hid (show editC 4 o e = ((⟨o.id, o.proc, o.obj, o.kind, e.meth, e.arg, e.sec, o.done, e.res, o.inv, o.ret⟩ : OpV), 0) from rfl)
  have hd := H.out.op.cell
  obtain ⟨_, _, _, _, m4, m5, m6, m7, m8, m9, m10⟩ := hd
  go_enter Tryd.func42, Tryd.ntmps42
  go_wp2_with fail
  go_region_held3 (fun w' => w'.cell? ⟨w.heap.size + 1, 5, none⟩ = some (.int .i64 e.meth) ∧ w'.cell? ⟨w.heap.size + 1, 6, none⟩ = some (.int .i64 e.arg) ∧ w'.cell? ⟨w.heap.size + 1, 7, none⟩ = some (.int .i64 e.sec) ∧ w'.cell? ⟨w.heap.size + 1, 9, none⟩ = some (.int .i64 e.res)) (simp [*, World.cell?_setCell_far]) (fail)
  all_goals
    have HS : Hid (EdB w ((((((W).setCell ⟨w.heap.size, 4, none⟩ (Value.int .i64 e.meth)).setCell ⟨w.heap.size, 5, none⟩ (Value.int .i64 e.arg)).setCell ⟨w.heap.size, 6, none⟩ (Value.int .i64 e.sec)).setCell ⟨w.heap.size, 8, none⟩ (Value.int .i64 e.res)).drew) ⟨o.id, o.proc, o.obj, o.kind, e.meth, e.arg, e.sec, o.done, e.res, o.inv, o.ret⟩ 4 e) := Lib.hid ((((((H.out).set (i := 4) (u := Value.int .i64 e.meth) (o' := ⟨o.id, o.proc, o.obj, o.kind, e.meth, o.arg, o.sec, o.done, o.res, o.inv, o.ret⟩) rfl).set (i := 5) (u := Value.int .i64 e.arg) (o' := ⟨o.id, o.proc, o.obj, o.kind, e.meth, e.arg, o.sec, o.done, o.res, o.inv, o.ret⟩) rfl).set (i := 6) (u := Value.int .i64 e.sec) (o' := ⟨o.id, o.proc, o.obj, o.kind, e.meth, e.arg, e.sec, o.done, o.res, o.inv, o.ret⟩) rfl).set (i := 8) (u := Value.int .i64 e.res) (o' := ⟨o.id, o.proc, o.obj, o.kind, e.meth, e.arg, e.sec, o.done, e.res, o.inv, o.ret⟩) rfl).drew 1)
    obtain ⟨W3, hW3⟩ : ∃ X, (((((W).setCell ⟨w.heap.size, 4, none⟩ (Value.int .i64 e.meth)).setCell ⟨w.heap.size, 5, none⟩ (Value.int .i64 e.arg)).setCell ⟨w.heap.size, 6, none⟩ (Value.int .i64 e.sec)).setCell ⟨w.heap.size, 8, none⟩ (Value.int .i64 e.res)).drew = X := ⟨_, rfl⟩
    rw [hW3] at HS
    rw [hW3]
    clear hW3
    obtain ⟨V, hs, hq, hb, _, _⟩ := put_box (w := w) HS.out.res (Nat.le_add_right _ 2) HS.out.below (Nat.le_refl _) ⟨o.id, o.proc, o.obj, o.kind, e.meth, e.arg, e.sec, o.done, e.res, o.inv, o.ret⟩
    have l9 := HS.out.op.load
    try dsimp only at hs
    have HQ := Lib.hid hq
    have HB := Lib.hid hb
    clear hq hb
    go_wp2_with fail
    have r5 := cells11 HQ.out
    refine bodyPost_ret (v := .tuple #[Value.agg #[Value.int .i64 (⟨o.id, o.proc, o.obj, o.kind, e.meth, e.arg, e.sec, o.done, e.res, o.inv, o.ret⟩ : OpV).id, Value.int .i64 (⟨o.id, o.proc, o.obj, o.kind, e.meth, e.arg, e.sec, o.done, e.res, o.inv, o.ret⟩ : OpV).proc, Value.int .i64 (⟨o.id, o.proc, o.obj, o.kind, e.meth, e.arg, e.sec, o.done, e.res, o.inv, o.ret⟩ : OpV).obj, Value.int .i64 (⟨o.id, o.proc, o.obj, o.kind, e.meth, e.arg, e.sec, o.done, e.res, o.inv, o.ret⟩ : OpV).kind, Value.int .i64 (⟨o.id, o.proc, o.obj, o.kind, e.meth, e.arg, e.sec, o.done, e.res, o.inv, o.ret⟩ : OpV).meth, Value.int .i64 (⟨o.id, o.proc, o.obj, o.kind, e.meth, e.arg, e.sec, o.done, e.res, o.inv, o.ret⟩ : OpV).arg, Value.int .i64 (⟨o.id, o.proc, o.obj, o.kind, e.meth, e.arg, e.sec, o.done, e.res, o.inv, o.ret⟩ : OpV).sec, Value.bool (⟨o.id, o.proc, o.obj, o.kind, e.meth, e.arg, e.sec, o.done, e.res, o.inv, o.ret⟩ : OpV).done, Value.int .i64 (⟨o.id, o.proc, o.obj, o.kind, e.meth, e.arg, e.sec, o.done, e.res, o.inv, o.ret⟩ : OpV).res, Value.int .i64 (⟨o.id, o.proc, o.obj, o.kind, e.meth, e.arg, e.sec, o.done, e.res, o.inv, o.ret⟩ : OpV).inv, Value.int .i64 (⟨o.id, o.proc, o.obj, o.kind, e.meth, e.arg, e.sec, o.done, e.res, o.inv, o.ret⟩ : OpV).ret], .int .i64 0]) (by simp [results, Tryd.results42, go_sem, r5]) rfl ?_
    exact ⟨by rw [HE.out], HB.out⟩
set_option maxHeartbeats 2000000 in
theorem edited5_any (o e : OpV) (w : World) : Calls Tryd.prog 42 #[Value.agg #[Value.int .i64 o.id, Value.int .i64 o.proc, Value.int .i64 o.obj, Value.int .i64 o.kind, Value.int .i64 o.meth, Value.int .i64 o.arg, Value.int .i64 o.sec, Value.bool o.done, Value.int .i64 o.res, Value.int .i64 o.inv, Value.int .i64 o.ret], Value.agg #[Value.int .i64 5, Value.int .i64 e.id, Value.int .i64 e.proc, Value.int .i64 e.obj, Value.int .i64 e.kind, Value.int .i64 e.meth, Value.int .i64 e.arg, Value.int .i64 e.sec, Value.bool e.done, Value.int .i64 e.res, Value.int .i64 e.inv, Value.int .i64 e.ret]] w (edPost w (editC 5 o e)) := by
  obtain ⟨W0, W1, W, hW0, z0, hW1, z1, hW, h⟩ := edited_start w o e 5
  have H := Lib.hid h
  obtain ⟨k0, _, k5, k6, k7, k9, k10, k11⟩ := h.ed.cell
  have f0 : ∀ i, W.frozen? ⟨w.heap.size, i, none⟩ = false := fun _ => frozen_of_row _ _ _ _ _ h.op
  have f1 : ∀ i, W.drew.frozen? ⟨w.heap.size, i, none⟩ = false := fun _ => frozen_of_row _ _ _ _ _ (show W.drew.heap[w.heap.size]? = _ from h.op)
  clear h
  obtain ⟨_, _, _, _, m4, m5, m6, m7, m8, m9, m10⟩ := H.out.op.cell
  by_cases hd : o.done = true
  · have HE := Lib.hid (show editC 5 o e = (zeroV, 8) by unfold editC; rw [if_pos (by unfold Hs.stateB HL; simp [hd])])
    rw [hd] at m7
    clear hd
    obtain ⟨V, hs, hq, hb, _, _⟩ := put_box (w := w) H.out.res (Nat.le_add_right _ 2) H.out.below (Nat.le_refl _) zeroV
    dsimp only [zeroV] at hs
    have HQ := Lib.hid hq
    have HB := Lib.hid hb
    clear hq hb
    go_enter Tryd.func42, Tryd.ntmps42
    go_wp2_with fail
    have r5 := cells11 HQ.out
    refine bodyPost_ret (v := .tuple #[Value.agg #[Value.int .i64 zeroV.id, Value.int .i64 zeroV.proc, Value.int .i64 zeroV.obj, Value.int .i64 zeroV.kind, Value.int .i64 zeroV.meth, Value.int .i64 zeroV.arg, Value.int .i64 zeroV.sec, Value.bool zeroV.done, Value.int .i64 zeroV.res, Value.int .i64 zeroV.inv, Value.int .i64 zeroV.ret], .int .i64 8]) (by simp [results, Tryd.results42, go_sem, r5]) rfl ?_
    exact ⟨by rw [HE.out], HB.out⟩
  · have hd2 : o.done = false := by cases h : o.done <;> simp_all
    have HE := Lib.hid (show editC 5 o e = ((⟨o.id, o.proc, o.obj, o.kind, o.meth, o.arg, o.sec, true, e.res, o.inv, e.ret⟩ : OpV), 0) by unfold editC; rw [if_neg (by unfold Hs.stateB HL; simp [hd2])]; rfl)
    rw [hd2] at m7
    clear hd hd2
    go_enter Tryd.func42, Tryd.ntmps42
    go_wp2_with fail
    go_region_held3 (fun w' => w'.cell? ⟨w.heap.size + 1, 9, none⟩ = some (.int .i64 e.res) ∧ w'.cell? ⟨w.heap.size + 1, 11, none⟩ = some (.int .i64 e.ret)) (simp [*, World.cell?_setCell_far]) (fail)
    all_goals
      have HS : Hid (EdB w (((((W).setCell ⟨w.heap.size, 7, none⟩ (Value.bool true)).setCell ⟨w.heap.size, 8, none⟩ (Value.int .i64 e.res)).setCell ⟨w.heap.size, 10, none⟩ (Value.int .i64 e.ret)).drew) ⟨o.id, o.proc, o.obj, o.kind, o.meth, o.arg, o.sec, true, e.res, o.inv, e.ret⟩ 5 e) := Lib.hid (((((H.out).set (i := 7) (u := Value.bool true) (o' := ⟨o.id, o.proc, o.obj, o.kind, o.meth, o.arg, o.sec, true, o.res, o.inv, o.ret⟩) rfl).set (i := 8) (u := Value.int .i64 e.res) (o' := ⟨o.id, o.proc, o.obj, o.kind, o.meth, o.arg, o.sec, true, e.res, o.inv, o.ret⟩) rfl).set (i := 10) (u := Value.int .i64 e.ret) (o' := ⟨o.id, o.proc, o.obj, o.kind, o.meth, o.arg, o.sec, true, e.res, o.inv, e.ret⟩) rfl).drew 1)
      obtain ⟨W3, hW3⟩ : ∃ X, ((((W).setCell ⟨w.heap.size, 7, none⟩ (Value.bool true)).setCell ⟨w.heap.size, 8, none⟩ (Value.int .i64 e.res)).setCell ⟨w.heap.size, 10, none⟩ (Value.int .i64 e.ret)).drew = X := ⟨_, rfl⟩
      rw [hW3] at HS
      rw [hW3]
      clear hW3
      obtain ⟨V, hs, hq, hb, _, _⟩ := put_box (w := w) HS.out.res (Nat.le_add_right _ 2) HS.out.below (Nat.le_refl _) ⟨o.id, o.proc, o.obj, o.kind, o.meth, o.arg, o.sec, true, e.res, o.inv, e.ret⟩
      have l9 := HS.out.op.load
      try dsimp only at hs
      have HQ := Lib.hid hq
      have HB := Lib.hid hb
      clear hq hb
      go_wp2_with fail
      have r5 := cells11 HQ.out
      refine bodyPost_ret (v := .tuple #[Value.agg #[Value.int .i64 (⟨o.id, o.proc, o.obj, o.kind, o.meth, o.arg, o.sec, true, e.res, o.inv, e.ret⟩ : OpV).id, Value.int .i64 (⟨o.id, o.proc, o.obj, o.kind, o.meth, o.arg, o.sec, true, e.res, o.inv, e.ret⟩ : OpV).proc, Value.int .i64 (⟨o.id, o.proc, o.obj, o.kind, o.meth, o.arg, o.sec, true, e.res, o.inv, e.ret⟩ : OpV).obj, Value.int .i64 (⟨o.id, o.proc, o.obj, o.kind, o.meth, o.arg, o.sec, true, e.res, o.inv, e.ret⟩ : OpV).kind, Value.int .i64 (⟨o.id, o.proc, o.obj, o.kind, o.meth, o.arg, o.sec, true, e.res, o.inv, e.ret⟩ : OpV).meth, Value.int .i64 (⟨o.id, o.proc, o.obj, o.kind, o.meth, o.arg, o.sec, true, e.res, o.inv, e.ret⟩ : OpV).arg, Value.int .i64 (⟨o.id, o.proc, o.obj, o.kind, o.meth, o.arg, o.sec, true, e.res, o.inv, e.ret⟩ : OpV).sec, Value.bool (⟨o.id, o.proc, o.obj, o.kind, o.meth, o.arg, o.sec, true, e.res, o.inv, e.ret⟩ : OpV).done, Value.int .i64 (⟨o.id, o.proc, o.obj, o.kind, o.meth, o.arg, o.sec, true, e.res, o.inv, e.ret⟩ : OpV).res, Value.int .i64 (⟨o.id, o.proc, o.obj, o.kind, o.meth, o.arg, o.sec, true, e.res, o.inv, e.ret⟩ : OpV).inv, Value.int .i64 (⟨o.id, o.proc, o.obj, o.kind, o.meth, o.arg, o.sec, true, e.res, o.inv, e.ret⟩ : OpV).ret], .int .i64 0]) (by simp [results, Tryd.results42, go_sem, r5]) rfl ?_
      exact ⟨by rw [HE.out], HB.out⟩
set_option maxHeartbeats 2000000 in
theorem edited6_any (o e : OpV) (w : World) : Calls Tryd.prog 42 #[Value.agg #[Value.int .i64 o.id, Value.int .i64 o.proc, Value.int .i64 o.obj, Value.int .i64 o.kind, Value.int .i64 o.meth, Value.int .i64 o.arg, Value.int .i64 o.sec, Value.bool o.done, Value.int .i64 o.res, Value.int .i64 o.inv, Value.int .i64 o.ret], Value.agg #[Value.int .i64 6, Value.int .i64 e.id, Value.int .i64 e.proc, Value.int .i64 e.obj, Value.int .i64 e.kind, Value.int .i64 e.meth, Value.int .i64 e.arg, Value.int .i64 e.sec, Value.bool e.done, Value.int .i64 e.res, Value.int .i64 e.inv, Value.int .i64 e.ret]] w (edPost w (editC 6 o e)) := by
  obtain ⟨W0, W1, W, hW0, z0, hW1, z1, hW, h⟩ := edited_start w o e 6
  have H := Lib.hid h
  obtain ⟨k0, _, k5, k6, k7, k9, k10, k11⟩ := h.ed.cell
  have f0 : ∀ i, W.frozen? ⟨w.heap.size, i, none⟩ = false := fun _ => frozen_of_row _ _ _ _ _ h.op
  have f1 : ∀ i, W.drew.frozen? ⟨w.heap.size, i, none⟩ = false := fun _ => frozen_of_row _ _ _ _ _ (show W.drew.heap[w.heap.size]? = _ from h.op)
  clear h
  obtain ⟨_, _, _, _, m4, m5, m6, m7, m8, m9, m10⟩ := H.out.op.cell
  by_cases hd : o.done = false
  · have HE := Lib.hid (show editC 6 o e = (zeroV, 8) by unfold editC; rw [if_pos (by unfold Hs.stateB HL; simp [hd])])
    rw [hd] at m7
    clear hd
    obtain ⟨V, hs, hq, hb, _, _⟩ := put_box (w := w) H.out.res (Nat.le_add_right _ 2) H.out.below (Nat.le_refl _) zeroV
    dsimp only [zeroV] at hs
    have HQ := Lib.hid hq
    have HB := Lib.hid hb
    clear hq hb
    go_enter Tryd.func42, Tryd.ntmps42
    go_wp2_with fail
    have r5 := cells11 HQ.out
    refine bodyPost_ret (v := .tuple #[Value.agg #[Value.int .i64 zeroV.id, Value.int .i64 zeroV.proc, Value.int .i64 zeroV.obj, Value.int .i64 zeroV.kind, Value.int .i64 zeroV.meth, Value.int .i64 zeroV.arg, Value.int .i64 zeroV.sec, Value.bool zeroV.done, Value.int .i64 zeroV.res, Value.int .i64 zeroV.inv, Value.int .i64 zeroV.ret], .int .i64 8]) (by simp [results, Tryd.results42, go_sem, r5]) rfl ?_
    exact ⟨by rw [HE.out], HB.out⟩
  · have hd2 : o.done = true := by cases h : o.done <;> simp_all
    have HE := Lib.hid (show editC 6 o e = ((⟨o.id, o.proc, o.obj, o.kind, o.meth, o.arg, o.sec, false, 0, o.inv, 0⟩ : OpV), 0) by unfold editC; rw [if_neg (by unfold Hs.stateB HL; simp [hd2])]; rfl)
    rw [hd2] at m7
    clear hd hd2
    go_enter Tryd.func42, Tryd.ntmps42
    go_wp2_with fail
    all_goals
      have HS : Hid (EdB w (((((W).setCell ⟨w.heap.size, 7, none⟩ (Value.bool false)).setCell ⟨w.heap.size, 8, none⟩ (Value.int .i64 0)).setCell ⟨w.heap.size, 10, none⟩ (Value.int .i64 0))) ⟨o.id, o.proc, o.obj, o.kind, o.meth, o.arg, o.sec, false, 0, o.inv, 0⟩ 6 e) := Lib.hid (((((H.out).set (i := 7) (u := Value.bool false) (o' := ⟨o.id, o.proc, o.obj, o.kind, o.meth, o.arg, o.sec, false, o.res, o.inv, o.ret⟩) rfl).set (i := 8) (u := Value.int .i64 0) (o' := ⟨o.id, o.proc, o.obj, o.kind, o.meth, o.arg, o.sec, false, 0, o.inv, o.ret⟩) rfl).set (i := 10) (u := Value.int .i64 0) (o' := ⟨o.id, o.proc, o.obj, o.kind, o.meth, o.arg, o.sec, false, 0, o.inv, 0⟩) rfl))
      obtain ⟨W3, hW3⟩ : ∃ X, ((((W).setCell ⟨w.heap.size, 7, none⟩ (Value.bool false)).setCell ⟨w.heap.size, 8, none⟩ (Value.int .i64 0)).setCell ⟨w.heap.size, 10, none⟩ (Value.int .i64 0)) = X := ⟨_, rfl⟩
      rw [hW3] at HS
      rw [hW3]
      clear hW3
      obtain ⟨V, hs, hq, hb, _, _⟩ := put_box (w := w) HS.out.res (Nat.le_add_right _ 2) HS.out.below (Nat.le_refl _) ⟨o.id, o.proc, o.obj, o.kind, o.meth, o.arg, o.sec, false, 0, o.inv, 0⟩
      have l9 := HS.out.op.load
      try dsimp only at hs
      have HQ := Lib.hid hq
      have HB := Lib.hid hb
      clear hq hb
      go_wp2_with fail
      have r5 := cells11 HQ.out
      refine bodyPost_ret (v := .tuple #[Value.agg #[Value.int .i64 (⟨o.id, o.proc, o.obj, o.kind, o.meth, o.arg, o.sec, false, 0, o.inv, 0⟩ : OpV).id, Value.int .i64 (⟨o.id, o.proc, o.obj, o.kind, o.meth, o.arg, o.sec, false, 0, o.inv, 0⟩ : OpV).proc, Value.int .i64 (⟨o.id, o.proc, o.obj, o.kind, o.meth, o.arg, o.sec, false, 0, o.inv, 0⟩ : OpV).obj, Value.int .i64 (⟨o.id, o.proc, o.obj, o.kind, o.meth, o.arg, o.sec, false, 0, o.inv, 0⟩ : OpV).kind, Value.int .i64 (⟨o.id, o.proc, o.obj, o.kind, o.meth, o.arg, o.sec, false, 0, o.inv, 0⟩ : OpV).meth, Value.int .i64 (⟨o.id, o.proc, o.obj, o.kind, o.meth, o.arg, o.sec, false, 0, o.inv, 0⟩ : OpV).arg, Value.int .i64 (⟨o.id, o.proc, o.obj, o.kind, o.meth, o.arg, o.sec, false, 0, o.inv, 0⟩ : OpV).sec, Value.bool (⟨o.id, o.proc, o.obj, o.kind, o.meth, o.arg, o.sec, false, 0, o.inv, 0⟩ : OpV).done, Value.int .i64 (⟨o.id, o.proc, o.obj, o.kind, o.meth, o.arg, o.sec, false, 0, o.inv, 0⟩ : OpV).res, Value.int .i64 (⟨o.id, o.proc, o.obj, o.kind, o.meth, o.arg, o.sec, false, 0, o.inv, 0⟩ : OpV).inv, Value.int .i64 (⟨o.id, o.proc, o.obj, o.kind, o.meth, o.arg, o.sec, false, 0, o.inv, 0⟩ : OpV).ret], .int .i64 0]) (by simp [results, Tryd.results42, go_sem, r5]) rfl ?_
      exact ⟨by rw [HE.out], HB.out⟩
theorem edited_any (k : Int) (hk : 3 ≤ k ∧ k ≤ 6) (o e : OpV) (w : World) : Calls Tryd.prog 42 #[Value.agg #[Value.int .i64 o.id, Value.int .i64 o.proc, Value.int .i64 o.obj, Value.int .i64 o.kind, Value.int .i64 o.meth, Value.int .i64 o.arg, Value.int .i64 o.sec, Value.bool o.done, Value.int .i64 o.res, Value.int .i64 o.inv, Value.int .i64 o.ret], Value.agg #[Value.int .i64 k, Value.int .i64 e.id, Value.int .i64 e.proc, Value.int .i64 e.obj, Value.int .i64 e.kind, Value.int .i64 e.meth, Value.int .i64 e.arg, Value.int .i64 e.sec, Value.bool e.done, Value.int .i64 e.res, Value.int .i64 e.inv, Value.int .i64 e.ret]] w (edPost w (editC k o e)) := by
  rcases (by omega : k = 3 ∨ k = 4 ∨ k = 5 ∨ k = 6) with rfl | rfl | rfl | rfl
  · exact edited3_any o e w
  · exact edited4_any o e w
  · exact edited5_any o e w
  · exact edited6_any o e w
end Go.Proofs.YtpjnmokofdldmaaDoor
