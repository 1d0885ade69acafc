/- Package hist: Apply. -/
import Derived.Test.YtpjnmokofdldmaaDoorHtN
namespace Go.Proofs.YtpjnmokofdldmaaDoor
set_option maxRecDepth 100000
open Go.ChangeShapes Go.WideShapes Go.ChangeAt Go.RowKit Go.PlainAid Go.Deep

attribute [local go_sem ↓ high] load_op store_o load_ed
/-- What Apply answers. -/
noncomputable def appL (l : List OpV) (k : Int) (e : OpV) : Hs.Res OpV := Hs.applyL HL updZ l k e
theorem app_add {l : List OpV} {e : OpV} : appL l 1 e = Hs.addL HL l e := by unfold appL Hs.applyL; rw [if_neg (by omega), if_pos rfl]
theorem app_del {l : List OpV} {e : OpV} : appL l 2 e = remL l e.id := by
  unfold appL Hs.applyL remL
  rw [if_neg (by omega), if_neg (by omega)]
  rw [show HL.id e = e.id from rfl]
  cases Hs.getL HL l e.id with
  | none => rfl
  | some was => rfl
theorem app_chg {l : List OpV} {k : Int} {e : OpV} (h : 3 ≤ k ∧ k ≤ 6) : appL l k e = chgL l k e := by
  unfold appL Hs.applyL chgL
  rw [if_neg (by omega), if_neg (by omega)]
  rw [show HL.id e = e.id from rfl]
  cases Hs.getL HL l e.id with
  | none => rfl
  | some was => exact if_neg (by omega)
theorem app_no {l : List OpV} {k : Int} {e : OpV} (h : k < 1 ∨ 6 < k) : appL l k e = Hs.bad 1 := by unfold appL Hs.applyL; rw [if_pos h]
theorem ResP.pass {w w1 w2 W6 : World} {v v' : Value} {l : List OpV} {k : Int} {e : OpV} {r : Hs.Res OpV} {x y : OpV} {c : Int} (h : ChgB w w1 v l k e) (hx : optV r.2.1 = x) (hy : optV r.2.2.1 = y) (hc : r.2.2.2 = c) (hn : OpsNew w1.heap.size w2 v' r.1)
    (hk : ∀ k, k ≠ w.heap.size + 1 → k ≠ w.heap.size + 2 → W6.heap[k]? = w2.heap[k]?) (hz : W6.heap.size = w2.heap.size) (hb : Below w.heap.size w W6) : ResP w r (.returned (.tuple #[v', Value.agg #[Value.int .i64 x.id, Value.int .i64 x.proc, Value.int .i64 x.obj, Value.int .i64 x.kind, Value.int .i64 x.meth, Value.int .i64 x.arg, Value.int .i64 x.sec, Value.bool x.done, Value.int .i64 x.res, Value.int .i64 x.inv, Value.int .i64 x.ret], Value.agg #[Value.int .i64 y.id, Value.int .i64 y.proc, Value.int .i64 y.obj, Value.int .i64 y.kind, Value.int .i64 y.meth, Value.int .i64 y.arg, Value.int .i64 y.sec, Value.bool y.done, Value.int .i64 y.res, Value.int .i64 y.inv, Value.int .i64 y.ret], .int .i64 c])) W6 := by
  subst hx hy hc
  exact ⟨v', rfl, chg_news h (Nat.le_refl _) hn hk hz, hb⟩
set_option maxHeartbeats 4000000 in
theorem apply1_any {v : Value} {l : List OpV} {e : OpV} {w : World} (h : OpsOf w v l) (hr : RiseO l) (he : e.Wf) (hl : l.length ≤ 1048575) (hR : RulesAt w) :
    Calls Tryd.prog 12 #[v, Value.agg #[Value.int .i64 1, Value.int .i64 e.id, Value.int .i64 e.proc, Value.int .i64 e.obj, Value.int .i64 e.kind, Value.int .i64 e.meth, Value.int .i64 e.arg, Value.int .i64 e.sec, Value.bool e.done, Value.int .i64 e.res, Value.int .i64 e.inv, Value.int .i64 e.ret]] w (ResP w (appL l 1 e)) := by
  obtain ⟨ao, ac, rfl⟩ := h.len
  obtain ⟨W0, W1, W, hW0, z0, hW1, z1, hW, hB⟩ := ChgB.start 1 e h hR
  have H := Lib.hid hB
  have HR := Lib.hid hr
  have HW := Lib.hid he
  obtain ⟨k0, c1, _⟩ := hB.ed.cell
  have lo := hB.ed.loadO
  have le := hB.ed.load
  have HE := Lib.hid (show appL l 1 e = Hs.addL HL l e from app_add)
  rw [HE.out]
  clear h hr he hR hB
  go_enter Tryd.func12, Tryd.ntmps12
  go_wp2_with fail
  clear hW0 hW1 hW z0 z1 k0 c1 lo le
  refine (add_any H.out.ops HR.out HW.out hl H.out.rules).mono ?_
  rintro _ w2 ⟨v2, rfl, hn2, hb2⟩
  obtain ⟨x, hx⟩ : ∃ x, optV (Hs.addL HL l e).2.1 = x := ⟨_, rfl⟩
  obtain ⟨y, hy⟩ : ∃ y, optV (Hs.addL HL l e).2.2.1 = y := ⟨_, rfl⟩
  obtain ⟨c, hc⟩ : ∃ c, (Hs.addL HL l e).2.2.2 = c := ⟨_, rfl⟩
  rw [hx, hy, hc]
  obtain ⟨W5, W6, s5, s6, q5, q6, b6, k6, z6⟩ := (H.out.on hb2).put x y
  have Q5 := Lib.hid q5
  have Q6 := Lib.hid q6
  have HF := Lib.hid (ResP.pass H.out hx hy hc hn2 k6 z6 b6)
  clear hx hy hc hn2 hb2 q5 q6 b6 k6 z6
  go_wp2_with fail
  have r5 := cells11 Q5.out
  have r6 := cells11 Q6.out
  refine bodyPost_ret (v := .tuple #[v2, Value.agg #[Value.int .i64 x.id, Value.int .i64 x.proc, Value.int .i64 x.obj, Value.int .i64 x.kind, Value.int .i64 x.meth, Value.int .i64 x.arg, Value.int .i64 x.sec, Value.bool x.done, Value.int .i64 x.res, Value.int .i64 x.inv, Value.int .i64 x.ret], Value.agg #[Value.int .i64 y.id, Value.int .i64 y.proc, Value.int .i64 y.obj, Value.int .i64 y.kind, Value.int .i64 y.meth, Value.int .i64 y.arg, Value.int .i64 y.sec, Value.bool y.done, Value.int .i64 y.res, Value.int .i64 y.inv, Value.int .i64 y.ret], .int .i64 c]) (by simp [results, Tryd.results12, go_sem, r5, r6]) rfl ?_
  exact HF.out
set_option maxHeartbeats 4000000 in
theorem apply2_any {v : Value} {l : List OpV} {e : OpV} {w : World} (h : OpsOf w v l) (hr : RiseO l) (he : e.Wf) (hl : l.length ≤ 1048575) (hR : RulesAt w) :
    Calls Tryd.prog 12 #[v, Value.agg #[Value.int .i64 2, Value.int .i64 e.id, Value.int .i64 e.proc, Value.int .i64 e.obj, Value.int .i64 e.kind, Value.int .i64 e.meth, Value.int .i64 e.arg, Value.int .i64 e.sec, Value.bool e.done, Value.int .i64 e.res, Value.int .i64 e.inv, Value.int .i64 e.ret]] w (ResP w (appL l 2 e)) := by
  obtain ⟨ao, ac, rfl⟩ := h.len
  obtain ⟨W0, W1, W, hW0, z0, hW1, z1, hW, hB⟩ := ChgB.start 2 e h hR
  have H := Lib.hid hB
  have HR := Lib.hid hr
  have HW := Lib.hid he
  obtain ⟨k0, c1, _⟩ := hB.ed.cell
  have lo := hB.ed.loadO
  have le := hB.ed.load
  have HE := Lib.hid (show appL l 2 e = remL l e.id from app_del)
  rw [HE.out]
  clear h hr he hR hB
  go_enter Tryd.func12, Tryd.ntmps12
  go_wp2_with fail
  clear hW0 hW1 hW z0 z1 k0 c1 lo le
  refine (remove_any e.id H.out.ops HR.out hl).mono ?_
  rintro _ w2 ⟨v2, rfl, hn2, hb2⟩
  obtain ⟨x, hx⟩ : ∃ x, optV (remL l e.id).2.1 = x := ⟨_, rfl⟩
  obtain ⟨y, hy⟩ : ∃ y, optV (remL l e.id).2.2.1 = y := ⟨_, rfl⟩
  obtain ⟨c, hc⟩ : ∃ c, (remL l e.id).2.2.2 = c := ⟨_, rfl⟩
  rw [hx, hy, hc]
  obtain ⟨W5, W6, s5, s6, q5, q6, b6, k6, z6⟩ := (H.out.on hb2).put x y
  have Q5 := Lib.hid q5
  have Q6 := Lib.hid q6
  have HF := Lib.hid (ResP.pass H.out hx hy hc hn2 k6 z6 b6)
  clear hx hy hc hn2 hb2 q5 q6 b6 k6 z6
  go_wp2_with fail
  have r5 := cells11 Q5.out
  have r6 := cells11 Q6.out
  refine bodyPost_ret (v := .tuple #[v2, Value.agg #[Value.int .i64 x.id, Value.int .i64 x.proc, Value.int .i64 x.obj, Value.int .i64 x.kind, Value.int .i64 x.meth, Value.int .i64 x.arg, Value.int .i64 x.sec, Value.bool x.done, Value.int .i64 x.res, Value.int .i64 x.inv, Value.int .i64 x.ret], Value.agg #[Value.int .i64 y.id, Value.int .i64 y.proc, Value.int .i64 y.obj, Value.int .i64 y.kind, Value.int .i64 y.meth, Value.int .i64 y.arg, Value.int .i64 y.sec, Value.bool y.done, Value.int .i64 y.res, Value.int .i64 y.inv, Value.int .i64 y.ret], .int .i64 c]) (by simp [results, Tryd.results12, go_sem, r5, r6]) rfl ?_
  exact HF.out
set_option maxHeartbeats 4000000 in
theorem apply3_any {v : Value} {l : List OpV} {e : OpV} {w : World} (h : OpsOf w v l) (hr : RiseO l) (he : e.Wf) (hl : l.length ≤ 1048575) (hR : RulesAt w) :
    Calls Tryd.prog 12 #[v, Value.agg #[Value.int .i64 3, Value.int .i64 e.id, Value.int .i64 e.proc, Value.int .i64 e.obj, Value.int .i64 e.kind, Value.int .i64 e.meth, Value.int .i64 e.arg, Value.int .i64 e.sec, Value.bool e.done, Value.int .i64 e.res, Value.int .i64 e.inv, Value.int .i64 e.ret]] w (ResP w (appL l 3 e)) := by
  obtain ⟨ao, ac, rfl⟩ := h.len
  obtain ⟨W0, W1, W, hW0, z0, hW1, z1, hW, hB⟩ := ChgB.start 3 e h hR
  have H := Lib.hid hB
  have HR := Lib.hid hr
  have HW := Lib.hid he
  obtain ⟨k0, c1, _⟩ := hB.ed.cell
  have lo := hB.ed.loadO
  have le := hB.ed.load
  have HE := Lib.hid (show appL l 3 e = chgL l 3 e from app_chg (by omega))
  rw [HE.out]
  clear h hr he hR hB
  go_enter Tryd.func12, Tryd.ntmps12
  go_wp2_with fail
  clear hW0 hW1 hW z0 z1 k0 c1 lo le
  refine (change_any (by omega) H.out.ops HR.out HW.out hl H.out.rules).mono ?_
  rintro _ w2 ⟨v2, rfl, hn2, hb2⟩
  obtain ⟨x, hx⟩ : ∃ x, optV (chgL l 3 e).2.1 = x := ⟨_, rfl⟩
  obtain ⟨y, hy⟩ : ∃ y, optV (chgL l 3 e).2.2.1 = y := ⟨_, rfl⟩
  obtain ⟨c, hc⟩ : ∃ c, (chgL l 3 e).2.2.2 = c := ⟨_, rfl⟩
  rw [hx, hy, hc]
  obtain ⟨W5, W6, s5, s6, q5, q6, b6, k6, z6⟩ := (H.out.on hb2).put x y
  have Q5 := Lib.hid q5
  have Q6 := Lib.hid q6
  have HF := Lib.hid (ResP.pass H.out hx hy hc hn2 k6 z6 b6)
  clear hx hy hc hn2 hb2 q5 q6 b6 k6 z6
  go_wp2_with fail
  have r5 := cells11 Q5.out
  have r6 := cells11 Q6.out
  refine bodyPost_ret (v := .tuple #[v2, Value.agg #[Value.int .i64 x.id, Value.int .i64 x.proc, Value.int .i64 x.obj, Value.int .i64 x.kind, Value.int .i64 x.meth, Value.int .i64 x.arg, Value.int .i64 x.sec, Value.bool x.done, Value.int .i64 x.res, Value.int .i64 x.inv, Value.int .i64 x.ret], Value.agg #[Value.int .i64 y.id, Value.int .i64 y.proc, Value.int .i64 y.obj, Value.int .i64 y.kind, Value.int .i64 y.meth, Value.int .i64 y.arg, Value.int .i64 y.sec, Value.bool y.done, Value.int .i64 y.res, Value.int .i64 y.inv, Value.int .i64 y.ret], .int .i64 c]) (by simp [results, Tryd.results12, go_sem, r5, r6]) rfl ?_
  exact HF.out
set_option maxHeartbeats 4000000 in
theorem apply4_any {v : Value} {l : List OpV} {e : OpV} {w : World} (h : OpsOf w v l) (hr : RiseO l) (he : e.Wf) (hl : l.length ≤ 1048575) (hR : RulesAt w) :
    Calls Tryd.prog 12 #[v, Value.agg #[Value.int .i64 4, Value.int .i64 e.id, Value.int .i64 e.proc, Value.int .i64 e.obj, Value.int .i64 e.kind, Value.int .i64 e.meth, Value.int .i64 e.arg, Value.int .i64 e.sec, Value.bool e.done, Value.int .i64 e.res, Value.int .i64 e.inv, Value.int .i64 e.ret]] w (ResP w (appL l 4 e)) := by
  obtain ⟨ao, ac, rfl⟩ := h.len
  obtain ⟨W0, W1, W, hW0, z0, hW1, z1, hW, hB⟩ := ChgB.start 4 e h hR
  have H := Lib.hid hB
  have HR := Lib.hid hr
  have HW := Lib.hid he
  obtain ⟨k0, c1, _⟩ := hB.ed.cell
  have lo := hB.ed.loadO
  have le := hB.ed.load
  have HE := Lib.hid (show appL l 4 e = chgL l 4 e from app_chg (by omega))
  rw [HE.out]
  clear h hr he hR hB
  go_enter Tryd.func12, Tryd.ntmps12
  go_wp2_with fail
  clear hW0 hW1 hW z0 z1 k0 c1 lo le
  refine (change_any (by omega) H.out.ops HR.out HW.out hl H.out.rules).mono ?_
  rintro _ w2 ⟨v2, rfl, hn2, hb2⟩
  obtain ⟨x, hx⟩ : ∃ x, optV (chgL l 4 e).2.1 = x := ⟨_, rfl⟩
  obtain ⟨y, hy⟩ : ∃ y, optV (chgL l 4 e).2.2.1 = y := ⟨_, rfl⟩
  obtain ⟨c, hc⟩ : ∃ c, (chgL l 4 e).2.2.2 = c := ⟨_, rfl⟩
  rw [hx, hy, hc]
  obtain ⟨W5, W6, s5, s6, q5, q6, b6, k6, z6⟩ := (H.out.on hb2).put x y
  have Q5 := Lib.hid q5
  have Q6 := Lib.hid q6
  have HF := Lib.hid (ResP.pass H.out hx hy hc hn2 k6 z6 b6)
  clear hx hy hc hn2 hb2 q5 q6 b6 k6 z6
  go_wp2_with fail
  have r5 := cells11 Q5.out
  have r6 := cells11 Q6.out
  refine bodyPost_ret (v := .tuple #[v2, Value.agg #[Value.int .i64 x.id, Value.int .i64 x.proc, Value.int .i64 x.obj, Value.int .i64 x.kind, Value.int .i64 x.meth, Value.int .i64 x.arg, Value.int .i64 x.sec, Value.bool x.done, Value.int .i64 x.res, Value.int .i64 x.inv, Value.int .i64 x.ret], Value.agg #[Value.int .i64 y.id, Value.int .i64 y.proc, Value.int .i64 y.obj, Value.int .i64 y.kind, Value.int .i64 y.meth, Value.int .i64 y.arg, Value.int .i64 y.sec, Value.bool y.done, Value.int .i64 y.res, Value.int .i64 y.inv, Value.int .i64 y.ret], .int .i64 c]) (by simp [results, Tryd.results12, go_sem, r5, r6]) rfl ?_
  exact HF.out
set_option maxHeartbeats 4000000 in
theorem apply5_any {v : Value} {l : List OpV} {e : OpV} {w : World} (h : OpsOf w v l) (hr : RiseO l) (he : e.Wf) (hl : l.length ≤ 1048575) (hR : RulesAt w) :
    Calls Tryd.prog 12 #[v, Value.agg #[Value.int .i64 5, Value.int .i64 e.id, Value.int .i64 e.proc, Value.int .i64 e.obj, Value.int .i64 e.kind, Value.int .i64 e.meth, Value.int .i64 e.arg, Value.int .i64 e.sec, Value.bool e.done, Value.int .i64 e.res, Value.int .i64 e.inv, Value.int .i64 e.ret]] w (ResP w (appL l 5 e)) := by
  obtain ⟨ao, ac, rfl⟩ := h.len
  obtain ⟨W0, W1, W, hW0, z0, hW1, z1, hW, hB⟩ := ChgB.start 5 e h hR
  have H := Lib.hid hB
  have HR := Lib.hid hr
  have HW := Lib.hid he
  obtain ⟨k0, c1, _⟩ := hB.ed.cell
  have lo := hB.ed.loadO
  have le := hB.ed.load
  have HE := Lib.hid (show appL l 5 e = chgL l 5 e from app_chg (by omega))
  rw [HE.out]
  clear h hr he hR hB
  go_enter Tryd.func12, Tryd.ntmps12
  go_wp2_with fail
  clear hW0 hW1 hW z0 z1 k0 c1 lo le
  refine (change_any (by omega) H.out.ops HR.out HW.out hl H.out.rules).mono ?_
  rintro _ w2 ⟨v2, rfl, hn2, hb2⟩
  obtain ⟨x, hx⟩ : ∃ x, optV (chgL l 5 e).2.1 = x := ⟨_, rfl⟩
  obtain ⟨y, hy⟩ : ∃ y, optV (chgL l 5 e).2.2.1 = y := ⟨_, rfl⟩
  obtain ⟨c, hc⟩ : ∃ c, (chgL l 5 e).2.2.2 = c := ⟨_, rfl⟩
  rw [hx, hy, hc]
  obtain ⟨W5, W6, s5, s6, q5, q6, b6, k6, z6⟩ := (H.out.on hb2).put x y
  have Q5 := Lib.hid q5
  have Q6 := Lib.hid q6
  have HF := Lib.hid (ResP.pass H.out hx hy hc hn2 k6 z6 b6)
  clear hx hy hc hn2 hb2 q5 q6 b6 k6 z6
  go_wp2_with fail
  have r5 := cells11 Q5.out
  have r6 := cells11 Q6.out
  refine bodyPost_ret (v := .tuple #[v2, Value.agg #[Value.int .i64 x.id, Value.int .i64 x.proc, Value.int .i64 x.obj, Value.int .i64 x.kind, Value.int .i64 x.meth, Value.int .i64 x.arg, Value.int .i64 x.sec, Value.bool x.done, Value.int .i64 x.res, Value.int .i64 x.inv, Value.int .i64 x.ret], Value.agg #[Value.int .i64 y.id, Value.int .i64 y.proc, Value.int .i64 y.obj, Value.int .i64 y.kind, Value.int .i64 y.meth, Value.int .i64 y.arg, Value.int .i64 y.sec, Value.bool y.done, Value.int .i64 y.res, Value.int .i64 y.inv, Value.int .i64 y.ret], .int .i64 c]) (by simp [results, Tryd.results12, go_sem, r5, r6]) rfl ?_
  exact HF.out
set_option maxHeartbeats 4000000 in
theorem apply6_any {v : Value} {l : List OpV} {e : OpV} {w : World} (h : OpsOf w v l) (hr : RiseO l) (he : e.Wf) (hl : l.length ≤ 1048575) (hR : RulesAt w) :
    Calls Tryd.prog 12 #[v, Value.agg #[Value.int .i64 6, Value.int .i64 e.id, Value.int .i64 e.proc, Value.int .i64 e.obj, Value.int .i64 e.kind, Value.int .i64 e.meth, Value.int .i64 e.arg, Value.int .i64 e.sec, Value.bool e.done, Value.int .i64 e.res, Value.int .i64 e.inv, Value.int .i64 e.ret]] w (ResP w (appL l 6 e)) := by
  obtain ⟨ao, ac, rfl⟩ := h.len
  obtain ⟨W0, W1, W, hW0, z0, hW1, z1, hW, hB⟩ := ChgB.start 6 e h hR
  have H := Lib.hid hB
  have HR := Lib.hid hr
  have HW := Lib.hid he
  obtain ⟨k0, c1, _⟩ := hB.ed.cell
  have lo := hB.ed.loadO
  have le := hB.ed.load
  have HE := Lib.hid (show appL l 6 e = chgL l 6 e from app_chg (by omega))
  rw [HE.out]
  clear h hr he hR hB
  go_enter Tryd.func12, Tryd.ntmps12
  go_wp2_with fail
  clear hW0 hW1 hW z0 z1 k0 c1 lo le
  refine (change_any (by omega) H.out.ops HR.out HW.out hl H.out.rules).mono ?_
  rintro _ w2 ⟨v2, rfl, hn2, hb2⟩
  obtain ⟨x, hx⟩ : ∃ x, optV (chgL l 6 e).2.1 = x := ⟨_, rfl⟩
  obtain ⟨y, hy⟩ : ∃ y, optV (chgL l 6 e).2.2.1 = y := ⟨_, rfl⟩
  obtain ⟨c, hc⟩ : ∃ c, (chgL l 6 e).2.2.2 = c := ⟨_, rfl⟩
  rw [hx, hy, hc]
  obtain ⟨W5, W6, s5, s6, q5, q6, b6, k6, z6⟩ := (H.out.on hb2).put x y
  have Q5 := Lib.hid q5
  have Q6 := Lib.hid q6
  have HF := Lib.hid (ResP.pass H.out hx hy hc hn2 k6 z6 b6)
  clear hx hy hc hn2 hb2 q5 q6 b6 k6 z6
  go_wp2_with fail
  have r5 := cells11 Q5.out
  have r6 := cells11 Q6.out
  refine bodyPost_ret (v := .tuple #[v2, Value.agg #[Value.int .i64 x.id, Value.int .i64 x.proc, Value.int .i64 x.obj, Value.int .i64 x.kind, Value.int .i64 x.meth, Value.int .i64 x.arg, Value.int .i64 x.sec, Value.bool x.done, Value.int .i64 x.res, Value.int .i64 x.inv, Value.int .i64 x.ret], Value.agg #[Value.int .i64 y.id, Value.int .i64 y.proc, Value.int .i64 y.obj, Value.int .i64 y.kind, Value.int .i64 y.meth, Value.int .i64 y.arg, Value.int .i64 y.sec, Value.bool y.done, Value.int .i64 y.res, Value.int .i64 y.inv, Value.int .i64 y.ret], .int .i64 c]) (by simp [results, Tryd.results12, go_sem, r5, r6]) rfl ?_
  exact HF.out
set_option maxHeartbeats 4000000 in
theorem applyN_any {v : Value} {l : List OpV} {k : Int} {e : OpV} {w : World} (hk : k < 1 ∨ 6 < k) (h : OpsOf w v l) (hR : RulesAt w) :
    Calls Tryd.prog 12 #[v, Value.agg #[Value.int .i64 k, Value.int .i64 e.id, Value.int .i64 e.proc, Value.int .i64 e.obj, Value.int .i64 e.kind, Value.int .i64 e.meth, Value.int .i64 e.arg, Value.int .i64 e.sec, Value.bool e.done, Value.int .i64 e.res, Value.int .i64 e.inv, Value.int .i64 e.ret]] w (ResP w (appL l k e)) := by
  obtain ⟨ao, ac, rfl⟩ := h.len
  obtain ⟨W0, W1, W, hW0, z0, hW1, z1, hW, hB⟩ := ChgB.start k e h hR
  have H := Lib.hid hB
  obtain ⟨k0, _⟩ := hB.ed.cell
  have q1 : (k == 1) = false := beq_eq_false_iff_ne.2 (by omega)
  have q2 : (k == 2) = false := beq_eq_false_iff_ne.2 (by omega)
  have q3 : (k == 3) = false := beq_eq_false_iff_ne.2 (by omega)
  have q4 : (k == 4) = false := beq_eq_false_iff_ne.2 (by omega)
  have q5 : (k == 5) = false := beq_eq_false_iff_ne.2 (by omega)
  have q6 : (k == 6) = false := beq_eq_false_iff_ne.2 (by omega)
  have HK := Lib.hid hk
  clear h hR hB hk
  go_enter Tryd.func12, Tryd.ntmps12
  have HE := Lib.hid (show appL l k e = Hs.bad 1 from app_no HK.out)
  go_wp2_with fail
  clear hW0 hW1 hW z0 z1 k0
  refine (refuse_any 1 _).mono ?_
  rintro _ wq ⟨rfl, hbq⟩
  obtain ⟨W5, W6, s5, s6, q5, q6, b6, _, _⟩ := (H.out.on hbq).put zeroV zeroV
  dsimp only [zeroV] at s5 s6
  have Q5 := Lib.hid q5
  have Q6 := Lib.hid q6
  have HB := Lib.hid b6
  clear hbq q5 q6 b6
  go_wp2_with fail
  have r5 := cells11 Q5.out
  have r6 := cells11 Q6.out
  refine bodyPost_ret (v := .tuple #[.slice none 0 0, Value.agg #[Value.int .i64 zeroV.id, Value.int .i64 zeroV.proc, Value.int .i64 zeroV.obj, Value.int .i64 zeroV.kind, Value.int .i64 zeroV.meth, Value.int .i64 zeroV.arg, Value.int .i64 zeroV.sec, Value.bool zeroV.done, Value.int .i64 zeroV.res, Value.int .i64 zeroV.inv, Value.int .i64 zeroV.ret], Value.agg #[Value.int .i64 zeroV.id, Value.int .i64 zeroV.proc, Value.int .i64 zeroV.obj, Value.int .i64 zeroV.kind, Value.int .i64 zeroV.meth, Value.int .i64 zeroV.arg, Value.int .i64 zeroV.sec, Value.bool zeroV.done, Value.int .i64 zeroV.res, Value.int .i64 zeroV.inv, Value.int .i64 zeroV.ret], .int .i64 1]) (by simp [results, Tryd.results12, go_sem, r5, r6]) rfl ?_
  exact ResP.bad HE.out HB.out
/-- Apply. -/
theorem apply_any {v : Value} {l : List OpV} {k : Int} {e : OpV} {w : World} (h : OpsOf w v l) (hr : RiseO l) (he : e.Wf) (hl : l.length ≤ 1048575) (hR : RulesAt w) :
    Calls Tryd.prog 12 #[v, Value.agg #[Value.int .i64 k, Value.int .i64 e.id, Value.int .i64 e.proc, Value.int .i64 e.obj, Value.int .i64 e.kind, Value.int .i64 e.meth, Value.int .i64 e.arg, Value.int .i64 e.sec, Value.bool e.done, Value.int .i64 e.res, Value.int .i64 e.inv, Value.int .i64 e.ret]] w (ResP w (appL l k e)) := by
  by_cases hk : k < 1 ∨ 6 < k
  · exact applyN_any hk h hR
  · rcases (by omega : k = 1 ∨ k = 2 ∨ k = 3 ∨ k = 4 ∨ k = 5 ∨ k = 6) with rfl | rfl | rfl | rfl | rfl | rfl
    · exact apply1_any h hr he hl hR
    · exact apply2_any h hr he hl hR
    · exact apply3_any h hr he hl hR
    · exact apply4_any h hr he hl hR
    · exact apply5_any h hr he hl hR
    · exact apply6_any h hr he hl hR
end Go.Proofs.YtpjnmokofdldmaaDoor
