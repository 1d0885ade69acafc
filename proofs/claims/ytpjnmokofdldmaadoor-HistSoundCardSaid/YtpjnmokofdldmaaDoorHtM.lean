/- Package hist: remove, change, Apply. -/
import Derived.Test.YtpjnmokofdldmaaDoorHtK
import Derived.Test.YtpjnmokofdldmaaDoorHtL
namespace Go.Proofs.YtpjnmokofdldmaaDoor
set_option maxRecDepth 100000
open Go.ChangeShapes Go.WideShapes Go.ChangeAt Go.RowKit Go.PlainAid Go.Deep

attribute [local go_sem ↓ high] load_op store_o load_ed
/-- What lies in memory while an operation is taken out. -/
theorem put_two3 {B : Nat} {w W : World} {b1 b2 : Nat} {o1 o2 : OpV} (h1 : OpAt W b1 o1) (h2 : OpAt W b2 o2) (hne : b1 ≠ b2) (hb1 : B ≤ b1) (hb2 : B ≤ b2) (hB : Below B w W) (hw : B ≤ w.heap.size) (x y : OpV) :
    ∃ W5 W6, (storeS 28 (.pointer (some ⟨b1, 0, none⟩)) (Value.agg #[Value.int .i64 x.id, Value.int .i64 x.proc, Value.int .i64 x.obj, Value.int .i64 x.kind, Value.int .i64 x.meth, Value.int .i64 x.arg, Value.int .i64 x.sec, Value.bool x.done, Value.int .i64 x.res, Value.int .i64 x.inv, Value.int .i64 x.ret])).run Tryd.prog W = .ok () W5 ∧ (storeS 28 (.pointer (some ⟨b2, 0, none⟩)) (Value.agg #[Value.int .i64 y.id, Value.int .i64 y.proc, Value.int .i64 y.obj, Value.int .i64 y.kind, Value.int .i64 y.meth, Value.int .i64 y.arg, Value.int .i64 y.sec, Value.bool y.done, Value.int .i64 y.res, Value.int .i64 y.inv, Value.int .i64 y.ret])).run Tryd.prog W5 = .ok () W6 ∧ OpAt W6 b1 x ∧ OpAt W6 b2 y ∧ Below B w W6 ∧ (∀ k, k ≠ b1 → k ≠ b2 → W6.heap[k]? = W.heap[k]?) ∧ W6.heap.size = W.heap.size ∧ Below B w W5 := by
  obtain ⟨W5, s5, q5, B5, k5, z5⟩ := put_box h1 hb1 hB hw x
  obtain ⟨W6, s6, q6, B6, k6, z6⟩ := put_box (w := w) (show OpAt W5 b2 o2 from (k5 b2 (fun e => hne e.symm)).trans h2) hb2 B5 hw y
  exact ⟨W5, W6, s5, s6, (k6 b1 hne).trans q5, q6, B6, fun k n1 n2 => (k6 k n2).trans (k5 k n1), z6.trans z5, B5⟩
structure RemB (w W : World) (v : Value) (l : List OpV) : Prop where
  below : Below w.heap.size w W
  r1 : OpAt W w.heap.size zeroV
  r2 : OpAt W (w.heap.size + 1) zeroV
  ops : OpsOf W v l
theorem RemB.on {w W W' : World} {v : Value} {l : List OpV} (h : RemB w W v l) (hb : Below W.heap.size W W') : RemB w W' v l :=
  ⟨h.below.on hb, h.r1.on hb, h.r2.on hb, h.ops.on hb⟩
theorem RemB.start {w : World} {v : Value} {l : List OpV} (h : OpsOf w v l) : ∃ W0 W, w.alloc (.cells #[Value.int .i64 0, Value.int .i64 0, Value.int .i64 0, Value.int .i64 0, Value.int .i64 0, Value.int .i64 0, Value.int .i64 0, Value.bool false, Value.int .i64 0, Value.int .i64 0, Value.int .i64 0] 28) = W0 ∧ W0.heap.size = w.heap.size + 1 ∧ W0.alloc (.cells #[Value.int .i64 0, Value.int .i64 0, Value.int .i64 0, Value.int .i64 0, Value.int .i64 0, Value.int .i64 0, Value.int .i64 0, Value.bool false, Value.int .i64 0, Value.int .i64 0, Value.int .i64 0] 28) = W ∧ RemB w W v l := by
  have hb0 : Below w.heap.size w (w.alloc (.cells #[Value.int .i64 0, Value.int .i64 0, Value.int .i64 0, Value.int .i64 0, Value.int .i64 0, Value.int .i64 0, Value.int .i64 0, Value.bool false, Value.int .i64 0, Value.int .i64 0, Value.int .i64 0] 28)) := by go_grown
  have z0 : (w.alloc (.cells #[Value.int .i64 0, Value.int .i64 0, Value.int .i64 0, Value.int .i64 0, Value.int .i64 0, Value.int .i64 0, Value.int .i64 0, Value.bool false, Value.int .i64 0, Value.int .i64 0, Value.int .i64 0] 28)).heap.size = w.heap.size + 1 := World.size_alloc _ _
  have q0 : OpAt (w.alloc (.cells #[Value.int .i64 0, Value.int .i64 0, Value.int .i64 0, Value.int .i64 0, Value.int .i64 0, Value.int .i64 0, Value.int .i64 0, Value.bool false, Value.int .i64 0, Value.int .i64 0, Value.int .i64 0] 28)) w.heap.size zeroV := heap_alloc_new w _
  obtain ⟨W0, hW0⟩ : ∃ W, w.alloc (.cells #[Value.int .i64 0, Value.int .i64 0, Value.int .i64 0, Value.int .i64 0, Value.int .i64 0, Value.int .i64 0, Value.int .i64 0, Value.bool false, Value.int .i64 0, Value.int .i64 0, Value.int .i64 0] 28) = W := ⟨_, rfl⟩
  rw [hW0] at hb0 q0 z0
  have hb1 : Below W0.heap.size W0 (W0.alloc (.cells #[Value.int .i64 0, Value.int .i64 0, Value.int .i64 0, Value.int .i64 0, Value.int .i64 0, Value.int .i64 0, Value.int .i64 0, Value.bool false, Value.int .i64 0, Value.int .i64 0, Value.int .i64 0] 28)) := by go_grown
  have q1 : OpAt (W0.alloc (.cells #[Value.int .i64 0, Value.int .i64 0, Value.int .i64 0, Value.int .i64 0, Value.int .i64 0, Value.int .i64 0, Value.int .i64 0, Value.bool false, Value.int .i64 0, Value.int .i64 0, Value.int .i64 0] 28)) W0.heap.size zeroV := heap_alloc_new W0 _
  rw [z0] at q1
  have hB := hb0.on hb1
  exact ⟨W0, _, hW0, z0, rfl, hB, q0.on hb1, q1, h.on hB⟩
theorem RemB.put {w W : World} {v : Value} {l : List OpV} (h : RemB w W v l) (x y : OpV) :
    ∃ W5 W6, (storeS 28 (.pointer (some ⟨w.heap.size, 0, none⟩)) (Value.agg #[Value.int .i64 x.id, Value.int .i64 x.proc, Value.int .i64 x.obj, Value.int .i64 x.kind, Value.int .i64 x.meth, Value.int .i64 x.arg, Value.int .i64 x.sec, Value.bool x.done, Value.int .i64 x.res, Value.int .i64 x.inv, Value.int .i64 x.ret])).run Tryd.prog W = .ok () W5 ∧ (storeS 28 (.pointer (some ⟨w.heap.size + 1, 0, none⟩)) (Value.agg #[Value.int .i64 y.id, Value.int .i64 y.proc, Value.int .i64 y.obj, Value.int .i64 y.kind, Value.int .i64 y.meth, Value.int .i64 y.arg, Value.int .i64 y.sec, Value.bool y.done, Value.int .i64 y.res, Value.int .i64 y.inv, Value.int .i64 y.ret])).run Tryd.prog W5 = .ok () W6 ∧ OpAt W6 w.heap.size x ∧ OpAt W6 (w.heap.size + 1) y ∧ Below w.heap.size w W6 ∧ (∀ k, k ≠ w.heap.size → k ≠ w.heap.size + 1 → W6.heap[k]? = W.heap[k]?) ∧ W6.heap.size = W.heap.size ∧ Below w.heap.size w W5 :=
  put_two3 h.r1 h.r2 (by omega) (Nat.le_refl _) (by omega) h.below (Nat.le_refl _) x y
/-- An operation of a list, loaded, in whatever world behind. -/
theorem ops_load {w : World} {v : Value} {l : List OpV} (h : OpsOf w v l) {m : Nat} {o : OpV} (hm : l[m]? = some o) : ∃ b p cap, v = .slice (some ⟨b, p, none⟩) l.length cap ∧ ∀ W, Below w.heap.size w W → (loadS 28 (.pointer (some ⟨b, p + m * 11, none⟩))).run Tryd.prog W = .ok (Value.agg #[Value.int .i64 o.id, Value.int .i64 o.proc, Value.int .i64 o.obj, Value.int .i64 o.kind, Value.int .i64 o.meth, Value.int .i64 o.arg, Value.int .i64 o.sec, Value.bool o.done, Value.int .i64 o.res, Value.int .i64 o.inv, Value.int .i64 o.ret]) W := by
  obtain ⟨b, p, cap, hv, hblt, _, hcc⟩ := OpsOf.at h hm
  exact ⟨b, p, cap, hv, fun W hb => load_cellsO (p := p + m * 11) fun j u hj => (hb.cell (p := ⟨b, p + m * 11 + j, none⟩) hblt).trans (hcc j u hj)⟩
theorem rem_news {w w2 w6 W8 : World} {v v6 : Value} {l M : List OpV} (h : RemB w w2 v l) (hn : OpsNew w2.heap.size w6 v6 M) (hk : ∀ k, k ≠ w.heap.size → k ≠ w.heap.size + 1 → W8.heap[k]? = w6.heap[k]?) (hz : W8.heap.size = w6.heap.size) : OpsNew w.heap.size W8 v6 M := by
  have hlt1 := heap_inO h.r1
  have hlt2 := heap_inO h.r2
  exact ⟨hn.keep (by omega) (fun k h1 h2 => hk k (by omega) (by omega)), fun b p n c e => Nat.le_trans h.below.size (hn.2 b p n c e)⟩
/-- What remove answers. -/
def remL (l : List OpV) (x : Int) : Hs.Res OpV := match Hs.getL HL l x with
  | none => Hs.bad 6
  | some was => (Hs.outL HL l x, some was, none, 0)
theorem remL_none {l : List OpV} {x : Int} (h : Hs.getL HL l x = none) : remL l x = Hs.bad 6 := by unfold remL; rw [h]
theorem remL_some {l : List OpV} {x : Int} {o : OpV} (h : Hs.getL HL l x = some o) : remL l x = (Hs.outL HL l x, some o, none, 0) := by unfold remL; rw [h]
set_option maxHeartbeats 8000000 in
theorem remove_any {v : Value} {l : List OpV} (x : Int) {w : World} (h : OpsOf w v l) (hr : RiseO l) (hl : l.length ≤ 1048575) :
    Calls Tryd.prog 20 #[v, .int .i64 x] w (ResP w (remL l x)) := by
  obtain ⟨ao, ac, rfl⟩ := h.len
  have hwf := h.2
  obtain ⟨W0, W, hW0, z0, hW, hB⟩ := RemB.start h
  have H := Lib.hid hB
  have HR := Lib.hid hr
  have HWF := Lib.hid hwf
  have HOPS := Lib.hid h
  clear h hr hB hwf
  obtain ⟨G, hG⟩ : ∃ G, Hs.getL HL l x = G := ⟨_, rfl⟩
  have HG := Lib.hid hG
  clear hG
  obtain ⟨m, hm⟩ : ∃ m, Hs.ahead HL l x = m := ⟨_, rfl⟩
  have HM := Lib.hid hm
  clear hm
  go_enter Tryd.func20, Tryd.ntmps20
  go_wp2_with fail
  clear hW0 hW z0
  refine (place_any x H.out.ops HR.out (by omega)).mono ?_
  rintro _ w2 ⟨rfl, hb2⟩
  rw [HG.out, HM.out]
  have H2 := Lib.hid (H.out.on hb2)
  clear hb2
  cases G with
  | none =>
    have HE := Lib.hid (remL_none HG.out)
    go_wp2_with fail
    refine (refuse_any 6 _).mono ?_
    rintro _ wq ⟨rfl, hbq⟩
    obtain ⟨W5, W6, s5, s6, q5, q6, b6, _, _⟩ := (H2.out.on hbq).put zeroV zeroV
    dsimp only [zeroV] at s5 s6
    have Q5 := Lib.hid q5
    have Q6 := Lib.hid q6
    have HB := Lib.hid b6
    clear hbq q5 q6 b6
    go_wp2_with fail
    have r5 := cells11 Q5.out
    have r6 := cells11 Q6.out
    refine bodyPost_ret (v := .tuple #[.slice none 0 0, Value.agg #[Value.int .i64 zeroV.id, Value.int .i64 zeroV.proc, Value.int .i64 zeroV.obj, Value.int .i64 zeroV.kind, Value.int .i64 zeroV.meth, Value.int .i64 zeroV.arg, Value.int .i64 zeroV.sec, Value.bool zeroV.done, Value.int .i64 zeroV.res, Value.int .i64 zeroV.inv, Value.int .i64 zeroV.ret], Value.agg #[Value.int .i64 zeroV.id, Value.int .i64 zeroV.proc, Value.int .i64 zeroV.obj, Value.int .i64 zeroV.kind, Value.int .i64 zeroV.meth, Value.int .i64 zeroV.arg, Value.int .i64 zeroV.sec, Value.bool zeroV.done, Value.int .i64 zeroV.res, Value.int .i64 zeroV.inv, Value.int .i64 zeroV.ret], .int .i64 6]) (by simp [results, Tryd.results20, go_sem, r5, r6]) rfl ?_
    exact ResP.bad HE.out HB.out
  | some o =>
    have HE := Lib.hid (remL_some HG.out)
    obtain ⟨hmem, hid⟩ := Hs.get_some HL HG.out
    have hid' : o.id = x := hid
    have ha : l[m]? = some o := by rw [← HM.out, ← hid']; exact Hs.at_ahead HL HR.out hmem
    have HCUT := Lib.hid (show l.take m ++ l.drop (m + 1) = Hs.outL HL l x by
      rw [← HM.out, ← hid']
      exact Hs.cut_out HL HR.out hmem)
    obtain ⟨b, p, cap, hv, hld⟩ := ops_load HOPS.out ha
    have e0 : ao = some ⟨b, p, none⟩ := by cases hv; rfl
    subst e0
    have hml : m < l.length := (List.getElem?_eq_some_iff.1 ha).1
    have q2 : (m : Int) < (l.length : Int) := by omega
    have q3 : IntKind.i64.wrap ((m : Int) + 1) = (m : Int) + 1 := IntWalk.i64_in _ (by omega)
    have HLD := Lib.hid hld
    clear hv ha hmem hid hid' hld
    have l2 := HLD.out w2 H2.out.below
    have l2d := HLD.out w2.drew H2.out.below.drew
    have HML := Lib.hid hml
    clear hml
    go_wp2_with fail
    go_region_held3 (fun w' => (loadS 28 (.pointer (some ⟨b, p + m * 11, none⟩))).run Tryd.prog w' = .ok (Value.agg #[Value.int .i64 o.id, Value.int .i64 o.proc, Value.int .i64 o.obj, Value.int .i64 o.kind, Value.int .i64 o.meth, Value.int .i64 o.arg, Value.int .i64 o.sec, Value.bool o.done, Value.int .i64 o.res, Value.int .i64 o.inv, Value.int .i64 o.ret]) w') (go_keep) (first
      | (go_at_call 40; (with_reducible refine (clone_any (w := w2.drew) (H2.out.ops.on (Below.refl _ _).drew) (by omega)).mono ?_); rintro _ w5 ⟨v5, rfl, ho5, hb5⟩; have HO5 := Lib.hid (show OpsOwn w2.heap.size w5 v5 l from ho5); have HB5 := Lib.hid (show Below w2.heap.size w2 w5 from (Below.refl w2.heap.size w2).drew.on hb5); have l5 := HLD.out w5 (H2.out.below.on HB5.out); clear ho5 hb5)
      | (go_at_call 41; (with_reducible refine (delete_any HO5.out HWF.out HB5.out.size (by omega) m HML.out).mono ?_); rintro _ w6 ⟨v6, rfl, hn6, hb6⟩; have hB6 := H2.out.below.on (HB5.out.trans hb6); have l6 := HLD.out w6 hB6; have h6 := H2.out.on (HB5.out.trans hb6); obtain ⟨W7, W8, s7, s8, q7', q8', hB8, hk8, hz8, hB7⟩ := h6.put o zeroV; dsimp only [zeroV] at s8; have l7 := HLD.out W7 hB7; have l8 := HLD.out W8 hB8; rw [HCUT.out] at hn6; have HN8 := Lib.hid (rem_news H2.out hn6 hk8 hz8); have Q7 := Lib.hid q7'; have Q8 := Lib.hid q8'; have HB8 := Lib.hid hB8; clear q7' q8' hB8 hB7 hB6 hk8 hz8 hn6 hb6 h6)
      | fail)
    all_goals
      go_wp2_with fail
      have r5 := cells11 Q7.out
      have r6 := cells11 Q8.out
      refine bodyPost_ret (v := .tuple #[v6, Value.agg #[Value.int .i64 o.id, Value.int .i64 o.proc, Value.int .i64 o.obj, Value.int .i64 o.kind, Value.int .i64 o.meth, Value.int .i64 o.arg, Value.int .i64 o.sec, Value.bool o.done, Value.int .i64 o.res, Value.int .i64 o.inv, Value.int .i64 o.ret], Value.agg #[Value.int .i64 zeroV.id, Value.int .i64 zeroV.proc, Value.int .i64 zeroV.obj, Value.int .i64 zeroV.kind, Value.int .i64 zeroV.meth, Value.int .i64 zeroV.arg, Value.int .i64 zeroV.sec, Value.bool zeroV.done, Value.int .i64 zeroV.res, Value.int .i64 zeroV.inv, Value.int .i64 zeroV.ret], .int .i64 0]) (by simp [results, Tryd.results20, go_sem, r5, r6]) rfl ?_
      exact ResP.mk HE.out rfl rfl HN8.out HB8.out
end Go.Proofs.YtpjnmokofdldmaaDoor
