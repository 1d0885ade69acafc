/- Package hist: change. -/
import Derived.Test.YtpjnmokofdldmaaDoorHtM
namespace Go.Proofs.YtpjnmokofdldmaaDoor
set_option maxRecDepth 100000
open Go.ChangeShapes Go.WideShapes Go.ChangeAt Go.RowKit Go.PlainAid Go.Deep

attribute [local go_sem ↓ high] load_op store_o load_ed
/-- What lies in memory while a history is edited: the edit, the boxes of two results, the history, the table. -/
structure ChgB (w W : World) (v : Value) (l : List OpV) (k : Int) (e : OpV) : Prop where
  below : Below w.heap.size w W
  ed : EdAt W w.heap.size k e
  r1 : OpAt W (w.heap.size + 1) zeroV
  r2 : OpAt W (w.heap.size + 2) zeroV
  ops : OpsOf W v l
  rules : RulesAt W
theorem ChgB.on {w W W' : World} {v : Value} {l : List OpV} {k : Int} {e : OpV} (h : ChgB w W v l k e) (hb : Below W.heap.size W W') : ChgB w W' v l k e :=
  ⟨h.below.on hb, h.ed.on hb, h.r1.on hb, h.r2.on hb, h.ops.on hb, h.rules.on hb⟩
theorem ChgB.start {w : World} {v : Value} {l : List OpV} (k : Int) (e : OpV) (h : OpsOf w v l) (hR : RulesAt w) : ∃ W0 W1 W, w.alloc (.cells #[Value.int .i64 k, Value.int .i64 e.id, Value.int .i64 e.proc, Value.int .i64 e.obj, Value.int .i64 e.kind, Value.int .i64 e.meth, Value.int .i64 e.arg, Value.int .i64 e.sec, Value.bool e.done, Value.int .i64 e.res, Value.int .i64 e.inv, Value.int .i64 e.ret] 36) = W0 ∧ W0.heap.size = w.heap.size + 1 ∧ W0.alloc (.cells #[Value.int .i64 0, Value.int .i64 0, Value.int .i64 0, Value.int .i64 0, Value.int .i64 0, Value.int .i64 0, Value.int .i64 0, Value.bool false, Value.int .i64 0, Value.int .i64 0, Value.int .i64 0] 28) = W1 ∧ W1.heap.size = w.heap.size + 1 + 1 ∧ W1.alloc (.cells #[Value.int .i64 0, Value.int .i64 0, Value.int .i64 0, Value.int .i64 0, Value.int .i64 0, Value.int .i64 0, Value.int .i64 0, Value.bool false, Value.int .i64 0, Value.int .i64 0, Value.int .i64 0] 28) = W ∧ ChgB w W v l k e := by
  have hb0 : Below w.heap.size w (w.alloc (.cells #[Value.int .i64 k, Value.int .i64 e.id, Value.int .i64 e.proc, Value.int .i64 e.obj, Value.int .i64 e.kind, Value.int .i64 e.meth, Value.int .i64 e.arg, Value.int .i64 e.sec, Value.bool e.done, Value.int .i64 e.res, Value.int .i64 e.inv, Value.int .i64 e.ret] 36)) := by go_grown
  have z0 : (w.alloc (.cells #[Value.int .i64 k, Value.int .i64 e.id, Value.int .i64 e.proc, Value.int .i64 e.obj, Value.int .i64 e.kind, Value.int .i64 e.meth, Value.int .i64 e.arg, Value.int .i64 e.sec, Value.bool e.done, Value.int .i64 e.res, Value.int .i64 e.inv, Value.int .i64 e.ret] 36)).heap.size = w.heap.size + 1 := World.size_alloc _ _
  have q0 := EdAt.box w k e
  obtain ⟨W0, hW0⟩ : ∃ W, w.alloc (.cells #[Value.int .i64 k, Value.int .i64 e.id, Value.int .i64 e.proc, Value.int .i64 e.obj, Value.int .i64 e.kind, Value.int .i64 e.meth, Value.int .i64 e.arg, Value.int .i64 e.sec, Value.bool e.done, Value.int .i64 e.res, Value.int .i64 e.inv, Value.int .i64 e.ret] 36) = W := ⟨_, rfl⟩
  rw [hW0] at hb0 q0 z0
  have hb1 : Below W0.heap.size W0 (W0.alloc (.cells #[Value.int .i64 0, Value.int .i64 0, Value.int .i64 0, Value.int .i64 0, Value.int .i64 0, Value.int .i64 0, Value.int .i64 0, Value.bool false, Value.int .i64 0, Value.int .i64 0, Value.int .i64 0] 28)) := by go_grown
  have z1 : (W0.alloc (.cells #[Value.int .i64 0, Value.int .i64 0, Value.int .i64 0, Value.int .i64 0, Value.int .i64 0, Value.int .i64 0, Value.int .i64 0, Value.bool false, Value.int .i64 0, Value.int .i64 0, Value.int .i64 0] 28)).heap.size = w.heap.size + 1 + 1 := by rw [World.size_alloc, z0]
  have q1 : OpAt (W0.alloc (.cells #[Value.int .i64 0, Value.int .i64 0, Value.int .i64 0, Value.int .i64 0, Value.int .i64 0, Value.int .i64 0, Value.int .i64 0, Value.bool false, Value.int .i64 0, Value.int .i64 0, Value.int .i64 0] 28)) W0.heap.size zeroV := heap_alloc_new W0 _
  obtain ⟨W1, hW1⟩ : ∃ W, W0.alloc (.cells #[Value.int .i64 0, Value.int .i64 0, Value.int .i64 0, Value.int .i64 0, Value.int .i64 0, Value.int .i64 0, Value.int .i64 0, Value.bool false, Value.int .i64 0, Value.int .i64 0, Value.int .i64 0] 28) = W := ⟨_, rfl⟩
  rw [hW1] at hb1 q1 z1
  have hb2 : Below W1.heap.size W1 (W1.alloc (.cells #[Value.int .i64 0, Value.int .i64 0, Value.int .i64 0, Value.int .i64 0, Value.int .i64 0, Value.int .i64 0, Value.int .i64 0, Value.bool false, Value.int .i64 0, Value.int .i64 0, Value.int .i64 0] 28)) := by go_grown
  have q2 : OpAt (W1.alloc (.cells #[Value.int .i64 0, Value.int .i64 0, Value.int .i64 0, Value.int .i64 0, Value.int .i64 0, Value.int .i64 0, Value.int .i64 0, Value.bool false, Value.int .i64 0, Value.int .i64 0, Value.int .i64 0] 28)) W1.heap.size zeroV := heap_alloc_new W1 _
  rw [z0] at q1
  rw [z1] at q2
  have hB := hb0.on (hb1.on hb2)
  exact ⟨W0, W1, _, hW0, z0, hW1, z1, rfl, hB, (q0.on hb1).on hb2, q1.on hb2, q2, h.on hB, hR.on hB⟩
theorem ChgB.put {w W : World} {v : Value} {l : List OpV} {k : Int} {e : OpV} (h : ChgB w W v l k e) (x y : OpV) :
    ∃ W5 W6, (storeS 28 (.pointer (some ⟨w.heap.size + 1, 0, none⟩)) (Value.agg #[Value.int .i64 x.id, Value.int .i64 x.proc, Value.int .i64 x.obj, Value.int .i64 x.kind, Value.int .i64 x.meth, Value.int .i64 x.arg, Value.int .i64 x.sec, Value.bool x.done, Value.int .i64 x.res, Value.int .i64 x.inv, Value.int .i64 x.ret])).run Tryd.prog W = .ok () W5 ∧ (storeS 28 (.pointer (some ⟨w.heap.size + 2, 0, none⟩)) (Value.agg #[Value.int .i64 y.id, Value.int .i64 y.proc, Value.int .i64 y.obj, Value.int .i64 y.kind, Value.int .i64 y.meth, Value.int .i64 y.arg, Value.int .i64 y.sec, Value.bool y.done, Value.int .i64 y.res, Value.int .i64 y.inv, Value.int .i64 y.ret])).run Tryd.prog W5 = .ok () W6 ∧ OpAt W6 (w.heap.size + 1) x ∧ OpAt W6 (w.heap.size + 2) y ∧ Below w.heap.size w W6 ∧ (∀ k, k ≠ w.heap.size + 1 → k ≠ w.heap.size + 2 → W6.heap[k]? = W.heap[k]?) ∧ W6.heap.size = W.heap.size :=
  put_two h.r1 h.r2 (by omega) (by omega) (by omega) h.below (Nat.le_refl _) x y
/-- What change answers. -/
noncomputable def chgL (l : List OpV) (k : Int) (e : OpV) : Hs.Res OpV := match Hs.getL HL l e.id with
  | none => Hs.bad 6
  | some was => if Hs.stateB HL k was = true then Hs.bad 8 else Hs.setL HL l was (updZ k was e)
theorem chgL_none {l : List OpV} {k : Int} {e : OpV} (h : Hs.getL HL l e.id = none) : chgL l k e = Hs.bad 6 := by unfold chgL; rw [h]
theorem chgL_state {l : List OpV} {k : Int} {e o : OpV} (h : Hs.getL HL l e.id = some o) (hs : Hs.stateB HL k o = true) : chgL l k e = Hs.bad 8 := by unfold chgL; rw [h]; exact if_pos hs
theorem chgL_set {l : List OpV} {k : Int} {e o : OpV} (h : Hs.getL HL l e.id = some o) (hs : Hs.stateB HL k o = false) : chgL l k e = Hs.setL HL l o (updZ k o e) := by unfold chgL; rw [h]; exact if_neg (by rw [hs]; decide)
theorem setL_chk {l : List OpV} {o x : OpV} (h : checkZ x ≠ 0) : Hs.setL HL l o x = Hs.bad (checkZ x) := by unfold Hs.setL; rw [if_pos (show HL.chk x ≠ 0 from h)]; rfl
theorem setL_side {l : List OpV} {o x : OpV} (h : checkZ x = 0) (hs : Hs.besideZ HL l x ≠ 0) : Hs.setL HL l o x = Hs.bad (Hs.besideZ HL l x) := by
  unfold Hs.setL
  rw [if_neg (by rw [show HL.chk x = 0 from h]; simp), if_pos hs]
theorem setL_yes {l : List OpV} {o x : OpV} (h : checkZ x = 0) (hs : Hs.besideZ HL l x = 0) : Hs.setL HL l o x = (Hs.inL HL l x, some o, some x, 0) := by
  unfold Hs.setL
  rw [if_neg (by rw [show HL.chk x = 0 from h]; simp), if_neg (by rw [hs]; simp)]
theorem edit_bad {k : Int} {o e : OpV} (h : Hs.stateB HL k o = true) : editC k o e = (zeroV, 8) := by unfold editC; rw [if_pos h]
theorem edit_good {k : Int} {o e : OpV} (h : Hs.stateB HL k o = false) : editC k o e = (updZ k o e, 0) := by unfold editC; rw [if_neg (by rw [h]; decide)]
/-- One operation of a list of the call's own, set. -/
theorem set_row {n₀ : Nat} {W : World} {v : Value} {L : List OpV} (h : OpsOwn n₀ W v L) (hw : ∀ o ∈ L, o.Wf) (hn₀ : n₀ ≤ W.heap.size) {m : Nat} (hm : m < L.length) {x : OpV} (hx : x.Wf) :
    ∃ g cap W', v = .slice (some ⟨g, 0, none⟩) L.length cap ∧ (storeS 28 (.pointer (some ⟨g, m * 11, none⟩)) (Value.agg #[Value.int .i64 x.id, Value.int .i64 x.proc, Value.int .i64 x.obj, Value.int .i64 x.kind, Value.int .i64 x.meth, Value.int .i64 x.arg, Value.int .i64 x.sec, Value.bool x.done, Value.int .i64 x.res, Value.int .i64 x.inv, Value.int .i64 x.ret])).run Tryd.prog W = .ok () W' ∧ OpsNew n₀ W' v (L.take m ++ x :: L.drop (m + 1)) ∧ Below n₀ W W' := by
  obtain ⟨g, cap, cur, rfl, hng, hg, hlc, _, hsz, hrow⟩ := h.row (by omega)
  have hst := storeMany_range (P := Tryd.prog) (t := 28) (w := W) (g := g) (o := m * 11) [Value.int .i64 x.id, Value.int .i64 x.proc, Value.int .i64 x.obj, Value.int .i64 x.kind, Value.int .i64 x.meth, Value.int .i64 x.arg, Value.int .i64 x.sec, Value.bool x.done, Value.int .i64 x.res, Value.int .i64 x.inv, Value.int .i64 x.ret] (fun j hj => by
      have hj' : j < 11 := hj
      refine ⟨?_, frozen_of_row _ _ _ _ _ hg⟩
      rw [cell_of_row _ _ _ _ _ _ hg, Array.getElem?_eq_getElem (by omega)]
      rfl) (by rw [info11]; rfl) (fun u hu => flatO_one [x] u (by rw [one_flat]; exact hu))
  obtain ⟨cs, b1, b2, b3, b4⟩ := heap_setCells_same g 28 [Value.int .i64 x.id, Value.int .i64 x.proc, Value.int .i64 x.obj, Value.int .i64 x.kind, Value.int .i64 x.meth, Value.int .i64 x.arg, Value.int .i64 x.sec, Value.bool x.done, Value.int .i64 x.res, Value.int .i64 x.inv, Value.int .i64 x.ret] (m * 11) W cur hg (by show m * 11 + 11 ≤ cur.size; omega)
  have hlen : (L.take m ++ x :: L.drop (m + 1)).length = L.length := by rw [List.length_append, List.length_cons, List.length_take, List.length_drop]; omega
  have hr : RowO cs (L.take m ++ x :: L.drop (m + 1)) := RowO.of fun k u hk => by
    rw [show L.take m ++ x :: L.drop (m + 1) = L.take m ++ [x] ++ L.drop (m + 1) by simp, flatO_app, flatO_app] at hk
    have e1 : (flatO (L.take m)).length = m * 11 := by rw [flatO_len, List.length_take, Nat.min_eq_left (by omega)]
    have e2 : (flatO (L.take m) ++ flatO [x]).length = m * 11 + 11 := by rw [List.length_append, e1]; rfl
    by_cases c : k < m * 11
    · rw [List.append_assoc, List.getElem?_append_left (by omega), flatO_take, List.getElem?_take_of_lt c] at hk
      rw [b4 _ (.inl c)]
      exact hrow.get hk
    · by_cases d : k < m * 11 + 11
      · rw [List.getElem?_append_left (by omega), List.getElem?_append_right (by omega), e1] at hk
        have := b3 (k - m * 11) (by show k - m * 11 < 11; omega)
        rw [show m * 11 + (k - m * 11) = k by omega] at this
        rw [this]
        exact hk
      · rw [List.getElem?_append_right (by omega), e2] at hk
        rw [b4 _ (.inr (by show m * 11 + 11 ≤ k; omega))]
        rw [flatO_drop _ _ (by omega), List.getElem?_drop, show (m + 1) * 11 + (k - (m * 11 + 11)) = k by omega] at hk
        exact hrow.get hk
  have hnew := RowO.news (cap := cap) hng b1 hr (fun o ho => by
    rcases List.mem_append.1 ho with c | c
    · exact hw o (List.mem_of_mem_take c)
    · rcases List.mem_cons.1 c with c | c
      · rw [c]; exact hx
      · exact hw o (List.mem_of_mem_drop c))
  rw [hlen] at hnew
  exact ⟨g, cap, _, rfl, hst, hnew, below_cells (Below.refl _ _) hn₀ hng _ _⟩
theorem chg_news {w w2 w6 W8 : World} {v v6 : Value} {l M : List OpV} {k : Int} {e : OpV} {n₁ : Nat} (h : ChgB w w2 v l k e) (hle : w2.heap.size ≤ n₁) (hn : OpsNew n₁ w6 v6 M) (hk : ∀ k, k ≠ w.heap.size + 1 → k ≠ w.heap.size + 2 → W8.heap[k]? = w6.heap[k]?) (hz : W8.heap.size = w6.heap.size) : OpsNew w.heap.size W8 v6 M := by
  have hlt1 := heap_inO h.r1
  have hlt2 := heap_inO h.r2
  have := h.below.size
  exact ⟨hn.keep (by omega) (fun k h1 h2 => hk k (by omega) (by omega)), fun b p n c e => by have := hn.2 b p n c e; omega⟩
/-- A box that is not stored into. -/
theorem box_past {W Wa : World} {b b' : Nat} {o x y : OpV} (hs : (storeS 28 (.pointer (some ⟨b, 0, none⟩)) (Value.agg #[Value.int .i64 x.id, Value.int .i64 x.proc, Value.int .i64 x.obj, Value.int .i64 x.kind, Value.int .i64 x.meth, Value.int .i64 x.arg, Value.int .i64 x.sec, Value.bool x.done, Value.int .i64 x.res, Value.int .i64 x.inv, Value.int .i64 x.ret])).run Tryd.prog W = .ok () Wa) (hb : OpAt W b o) (h : OpAt W b' y) (hne : b' ≠ b) : (loadS 28 (.pointer (some ⟨b', 0, none⟩))).run Tryd.prog Wa = .ok (Value.agg #[Value.int .i64 y.id, Value.int .i64 y.proc, Value.int .i64 y.obj, Value.int .i64 y.kind, Value.int .i64 y.meth, Value.int .i64 y.arg, Value.int .i64 y.sec, Value.bool y.done, Value.int .i64 y.res, Value.int .i64 y.inv, Value.int .i64 y.ret]) Wa := by
  have := store_op (show W.heap[b]? = _ from hb) rfl x
  rw [this] at hs
  have e : Wa = _ := (Result.ok.inj hs).2.symm
  rw [e]
  exact OpAt.load (show OpAt _ b' y from (setRow_other _ _ _ _ hne).trans h)
theorem box_ne {w W : World} {v : Value} {l : List OpV} {k : Int} {e : OpV} (h : ChgB w W v l k e) {b : Nat} (hb : W.heap.size ≤ b) : b ≠ w.heap.size + 1 ∧ b ≠ w.heap.size + 2 := by
  have h1 := heap_inO h.r1
  have h2 := heap_inO h.r2
  omega
set_option maxHeartbeats 8000000 in
theorem change_any {v : Value} {l : List OpV} {k : Int} (hk : 3 ≤ k ∧ k ≤ 6) {e : OpV} {w : World} (h : OpsOf w v l) (hr : RiseO l) (he : e.Wf) (hl : l.length ≤ 1048575) (hR : RulesAt w) :
    Calls Tryd.prog 21 #[v, Value.agg #[Value.int .i64 k, Value.int .i64 e.id, Value.int .i64 e.proc, Value.int .i64 e.obj, Value.int .i64 e.kind, Value.int .i64 e.meth, Value.int .i64 e.arg, Value.int .i64 e.sec, Value.bool e.done, Value.int .i64 e.res, Value.int .i64 e.inv, Value.int .i64 e.ret]] w (ResP w (chgL l k e)) := by
  obtain ⟨ao, ac, rfl⟩ := h.len
  obtain ⟨W0, W1, W, hW0, z0, hW1, z1, hW, hB⟩ := ChgB.start k e h hR
  have H := Lib.hid hB
  have HR := Lib.hid hr
  have HW := Lib.hid (And.intro he h.2)
  have HOPS := Lib.hid h
  have HK := Lib.hid hk
  obtain ⟨_, c1, _⟩ := hB.ed.cell
  clear h hr hB he hR hk
  obtain ⟨G, hG⟩ : ∃ G, Hs.getL HL l e.id = G := ⟨_, rfl⟩
  have HG := Lib.hid hG
  clear hG
  obtain ⟨m, hm⟩ : ∃ m, Hs.ahead HL l e.id = m := ⟨_, rfl⟩
  have HM := Lib.hid hm
  clear hm
  go_enter Tryd.func21, Tryd.ntmps21
  go_wp2_with fail
  clear hW0 hW1 hW z0 z1 c1
  refine (place_any e.id H.out.ops HR.out (by omega)).mono ?_
  rintro _ w2 ⟨rfl, hb2⟩
  rw [HG.out, HM.out]
  have H2 := Lib.hid (H.out.on hb2)
  clear hb2
  cases G with
  | none =>
    have HE := Lib.hid (show chgL l k e = Hs.bad 6 from chgL_none HG.out)
    go_wp2_with fail
    refine (refuse_any 6 _).mono ?_
    rintro _ wq ⟨rfl, hbq⟩
    obtain ⟨W5, W6, s5, s6, q5, q6, b6, _, _⟩ := (H2.out.on hbq).put zeroV zeroV
    dsimp only [zeroV] at s5 s6
    have Q5 := Lib.hid q5
    have Q6 := Lib.hid q6
    have HB := Lib.hid b6
    clear hbq q5 q6 b6
    go_wp2_with fail
    have r5 := cells11 Q5.out
    have r6 := cells11 Q6.out
    refine bodyPost_ret (v := .tuple #[.slice none 0 0, Value.agg #[Value.int .i64 zeroV.id, Value.int .i64 zeroV.proc, Value.int .i64 zeroV.obj, Value.int .i64 zeroV.kind, Value.int .i64 zeroV.meth, Value.int .i64 zeroV.arg, Value.int .i64 zeroV.sec, Value.bool zeroV.done, Value.int .i64 zeroV.res, Value.int .i64 zeroV.inv, Value.int .i64 zeroV.ret], Value.agg #[Value.int .i64 zeroV.id, Value.int .i64 zeroV.proc, Value.int .i64 zeroV.obj, Value.int .i64 zeroV.kind, Value.int .i64 zeroV.meth, Value.int .i64 zeroV.arg, Value.int .i64 zeroV.sec, Value.bool zeroV.done, Value.int .i64 zeroV.res, Value.int .i64 zeroV.inv, Value.int .i64 zeroV.ret], .int .i64 6]) (by simp [results, Tryd.results21, go_sem, r5, r6]) rfl ?_
    exact ResP.bad HE.out HB.out
  | some o =>
    obtain ⟨hmem, hid⟩ := Hs.get_some HL HG.out
    have hid' : o.id = e.id := hid
    have ha : l[m]? = some o := by rw [← HM.out, ← hid']; exact Hs.at_ahead HL HR.out hmem
    obtain ⟨b, p, cap, hv, hld⟩ := ops_load HOPS.out ha
    have e0 : ao = some ⟨b, p, none⟩ := by cases hv; rfl
    subst e0
    have hml : m < l.length := (List.getElem?_eq_some_iff.1 ha).1
    have q2 : (m : Int) < (l.length : Int) := by omega
    have HLD := Lib.hid hld
    have l2 := HLD.out w2 H2.out.below
    have HML := Lib.hid hml
    have HMEM := Lib.hid (And.intro hmem hid')
    have s3 := store_op_new w2 (#[Value.int .i64 0, Value.int .i64 0, Value.int .i64 0, Value.int .i64 0, Value.int .i64 0, Value.int .i64 0, Value.int .i64 0, Value.bool false, Value.int .i64 0, Value.int .i64 0, Value.int .i64 0]) rfl o
    have hb3 : Below w2.heap.size w2 (w2.alloc (.cells #[Value.int .i64 o.id, Value.int .i64 o.proc, Value.int .i64 o.obj, Value.int .i64 o.kind, Value.int .i64 o.meth, Value.int .i64 o.arg, Value.int .i64 o.sec, Value.bool o.done, Value.int .i64 o.res, Value.int .i64 o.inv, Value.int .i64 o.ret] 28)) := by go_grown
    have ho3 := OpAt.box w2 o
    obtain ⟨W3, hW3⟩ : ∃ W, w2.alloc (.cells #[Value.int .i64 o.id, Value.int .i64 o.proc, Value.int .i64 o.obj, Value.int .i64 o.kind, Value.int .i64 o.meth, Value.int .i64 o.arg, Value.int .i64 o.sec, Value.bool o.done, Value.int .i64 o.res, Value.int .i64 o.inv, Value.int .i64 o.ret] 28) = W := ⟨_, rfl⟩
    rw [hW3] at s3 hb3 ho3
    have H3 := Lib.hid (H2.out.on hb3)
    have lo3 := ho3.load
    have le3 := H3.out.ed.load
    have HO3 := Lib.hid ho3
    clear hv ha hmem hid hid' hld hml hb3 ho3 hW3
    obtain ⟨r, hr⟩ : ∃ r, editC k o e = r := ⟨_, rfl⟩
    have HRR := Lib.hid hr
    clear hr
    go_wp2_with fail
    refine (edited_any k HK.out o e _).mono ?_
    rintro _ w4 ⟨rfl, hb4⟩
    rw [HRR.out]
    have H4 := Lib.hid (H3.out.on hb4)
    have HO4 := Lib.hid (HO3.out.on hb4)
    clear hb4 s3 lo3 le3 l2
    cases hs : Hs.stateB HL k o with
    | true =>
      have HX := Lib.hid (chgL_state HG.out hs)
      obtain rfl : r = (zeroV, 8) := by rw [← HRR.out]; exact edit_bad hs
      clear hs
      dsimp only [zeroV]
      have s5 := store_op_new w4 (#[Value.int .i64 0, Value.int .i64 0, Value.int .i64 0, Value.int .i64 0, Value.int .i64 0, Value.int .i64 0, Value.int .i64 0, Value.bool false, Value.int .i64 0, Value.int .i64 0, Value.int .i64 0]) rfl zeroV
      dsimp only [zeroV] at s5
      have hb5 : Below w4.heap.size w4 (w4.alloc (.cells #[Value.int .i64 0, Value.int .i64 0, Value.int .i64 0, Value.int .i64 0, Value.int .i64 0, Value.int .i64 0, Value.int .i64 0, Value.bool false, Value.int .i64 0, Value.int .i64 0, Value.int .i64 0] 28)) := by go_grown
      have H5 := Lib.hid (H4.out.on hb5)
      obtain ⟨W5, hW5⟩ : ∃ W, w4.alloc (.cells #[Value.int .i64 0, Value.int .i64 0, Value.int .i64 0, Value.int .i64 0, Value.int .i64 0, Value.int .i64 0, Value.int .i64 0, Value.bool false, Value.int .i64 0, Value.int .i64 0, Value.int .i64 0] 28) = W := ⟨_, rfl⟩
      rw [hW5] at s5 H5
      clear hb5
      have HE := Lib.hid (HX.out)
      go_wp2_with fail
      refine (refuse_any 8 _).mono ?_
      rintro _ wq ⟨rfl, hbq⟩
      obtain ⟨W5, W6, s5, s6, q5, q6, b6, _, _⟩ := (H5.out.on hbq).put zeroV zeroV
      dsimp only [zeroV] at s5 s6
      have Q5 := Lib.hid q5
      have Q6 := Lib.hid q6
      have HB := Lib.hid b6
      clear hbq q5 q6 b6
      go_wp2_with fail
      have r5 := cells11 Q5.out
      have r6 := cells11 Q6.out
      refine bodyPost_ret (v := .tuple #[.slice none 0 0, Value.agg #[Value.int .i64 zeroV.id, Value.int .i64 zeroV.proc, Value.int .i64 zeroV.obj, Value.int .i64 zeroV.kind, Value.int .i64 zeroV.meth, Value.int .i64 zeroV.arg, Value.int .i64 zeroV.sec, Value.bool zeroV.done, Value.int .i64 zeroV.res, Value.int .i64 zeroV.inv, Value.int .i64 zeroV.ret], Value.agg #[Value.int .i64 zeroV.id, Value.int .i64 zeroV.proc, Value.int .i64 zeroV.obj, Value.int .i64 zeroV.kind, Value.int .i64 zeroV.meth, Value.int .i64 zeroV.arg, Value.int .i64 zeroV.sec, Value.bool zeroV.done, Value.int .i64 zeroV.res, Value.int .i64 zeroV.inv, Value.int .i64 zeroV.ret], .int .i64 8]) (by simp [results, Tryd.results21, go_sem, r5, r6]) rfl ?_
      exact ResP.bad HE.out HB.out
    | false =>
      obtain ⟨x, hx⟩ : ∃ x, updZ k o e = x := ⟨_, rfl⟩
      obtain rfl : r = (x, 0) := by rw [← HRR.out, ← hx]; exact edit_good hs
      have HX := Lib.hid (show chgL l k e = Hs.setL HL l o x by rw [← hx]; exact chgL_set HG.out hs)
      have HXW := Lib.hid (show x.Wf by rw [← hx]; exact upd_wf (HW.out.2 o HMEM.out.1) HW.out.1)
      have HXI := Lib.hid (show HL.id x = HL.id o by rw [← hx]; exact upd_keep.id k o e)
      clear hs hx
      dsimp only
      have s5 := store_op_new w4 (#[Value.int .i64 0, Value.int .i64 0, Value.int .i64 0, Value.int .i64 0, Value.int .i64 0, Value.int .i64 0, Value.int .i64 0, Value.bool false, Value.int .i64 0, Value.int .i64 0, Value.int .i64 0]) rfl x
      have hb5 : Below w4.heap.size w4 (w4.alloc (.cells #[Value.int .i64 x.id, Value.int .i64 x.proc, Value.int .i64 x.obj, Value.int .i64 x.kind, Value.int .i64 x.meth, Value.int .i64 x.arg, Value.int .i64 x.sec, Value.bool x.done, Value.int .i64 x.res, Value.int .i64 x.inv, Value.int .i64 x.ret] 28)) := by go_grown
      have ho5 := OpAt.box w4 x
      obtain ⟨W5, hW5⟩ : ∃ W, w4.alloc (.cells #[Value.int .i64 x.id, Value.int .i64 x.proc, Value.int .i64 x.obj, Value.int .i64 x.kind, Value.int .i64 x.meth, Value.int .i64 x.arg, Value.int .i64 x.sec, Value.bool x.done, Value.int .i64 x.res, Value.int .i64 x.inv, Value.int .i64 x.ret] 28) = W := ⟨_, rfl⟩
      rw [hW5] at s5 hb5 ho5
      have H5 := Lib.hid (H4.out.on hb5)
      have HO5 := Lib.hid (HO4.out.on hb5)
      have HX5 := Lib.hid ho5
      have lx5 := ho5.load
      clear hb5 ho5 hW5
      obtain ⟨z, hz⟩ : ∃ z, checkZ x = z := ⟨_, rfl⟩
      have HZ := Lib.hid hz
      clear hz
      go_wp2_with fail
      refine (check_any x _ H5.out.rules).mono ?_
      rintro _ w6 ⟨rfl, hb6⟩
      rw [HZ.out]
      have H6 := Lib.hid (H5.out.on hb6)
      have HO6 := Lib.hid (HO5.out.on hb6)
      have HX6 := Lib.hid (HX5.out.on hb6)
      clear hb6 s5 lx5
      by_cases hz0 : z = 0
      case neg =>
        have q5 : (z == 0) = false := beq_eq_false_iff_ne.2 hz0
        have q6 : (z != 0) = true := bne_iff_ne.2 hz0
        have HE := Lib.hid (show chgL l k e = Hs.bad z by rw [HX.out, setL_chk (by rw [HZ.out]; exact hz0), HZ.out])
        go_wp2_with fail
        refine (refuse_any z _).mono ?_
        rintro _ wq ⟨rfl, hbq⟩
        obtain ⟨W5, W6, s5, s6, q5, q6, b6, _, _⟩ := (H6.out.on hbq).put zeroV zeroV
        dsimp only [zeroV] at s5 s6
        have Q5 := Lib.hid q5
        have Q6 := Lib.hid q6
        have HB := Lib.hid b6
        clear hbq q5 q6 b6
        go_wp2_with fail
        have r5 := cells11 Q5.out
        have r6 := cells11 Q6.out
        refine bodyPost_ret (v := .tuple #[.slice none 0 0, Value.agg #[Value.int .i64 zeroV.id, Value.int .i64 zeroV.proc, Value.int .i64 zeroV.obj, Value.int .i64 zeroV.kind, Value.int .i64 zeroV.meth, Value.int .i64 zeroV.arg, Value.int .i64 zeroV.sec, Value.bool zeroV.done, Value.int .i64 zeroV.res, Value.int .i64 zeroV.inv, Value.int .i64 zeroV.ret], Value.agg #[Value.int .i64 zeroV.id, Value.int .i64 zeroV.proc, Value.int .i64 zeroV.obj, Value.int .i64 zeroV.kind, Value.int .i64 zeroV.meth, Value.int .i64 zeroV.arg, Value.int .i64 zeroV.sec, Value.bool zeroV.done, Value.int .i64 zeroV.res, Value.int .i64 zeroV.inv, Value.int .i64 zeroV.ret], .int .i64 z]) (by simp [results, Tryd.results21, go_sem, r5, r6]) rfl ?_
        exact ResP.bad HE.out HB.out
      subst hz0
      have lx6 := HX6.out.load
      obtain ⟨z2, hz2⟩ : ∃ z, Hs.besideZ HL l x = z := ⟨_, rfl⟩
      have HZ2 := Lib.hid hz2
      clear hz2
      go_wp2_with fail
      refine (beside_any x H6.out.ops (by omega)).mono ?_
      rintro _ w7 ⟨rfl, hb7⟩
      rw [HZ2.out]
      have H7 := Lib.hid (H6.out.on hb7)
      have HO7 := Lib.hid (HO6.out.on hb7)
      have HX7 := Lib.hid (HX6.out.on hb7)
      clear hb7 lx6
      by_cases hz0 : z2 = 0
      case neg =>
        have q5 : (z2 == 0) = false := beq_eq_false_iff_ne.2 hz0
        have q6 : (z2 != 0) = true := bne_iff_ne.2 hz0
        have HE := Lib.hid (show chgL l k e = Hs.bad z2 by rw [HX.out, setL_side HZ.out (by rw [HZ2.out]; exact hz0), HZ2.out])
        go_wp2_with fail
        refine (refuse_any z2 _).mono ?_
        rintro _ wq ⟨rfl, hbq⟩
        obtain ⟨W5, W6, s5, s6, q5, q6, b6, _, _⟩ := (H7.out.on hbq).put zeroV zeroV
        dsimp only [zeroV] at s5 s6
        have Q5 := Lib.hid q5
        have Q6 := Lib.hid q6
        have HB := Lib.hid b6
        clear hbq q5 q6 b6
        go_wp2_with fail
        have r5 := cells11 Q5.out
        have r6 := cells11 Q6.out
        refine bodyPost_ret (v := .tuple #[.slice none 0 0, Value.agg #[Value.int .i64 zeroV.id, Value.int .i64 zeroV.proc, Value.int .i64 zeroV.obj, Value.int .i64 zeroV.kind, Value.int .i64 zeroV.meth, Value.int .i64 zeroV.arg, Value.int .i64 zeroV.sec, Value.bool zeroV.done, Value.int .i64 zeroV.res, Value.int .i64 zeroV.inv, Value.int .i64 zeroV.ret], Value.agg #[Value.int .i64 zeroV.id, Value.int .i64 zeroV.proc, Value.int .i64 zeroV.obj, Value.int .i64 zeroV.kind, Value.int .i64 zeroV.meth, Value.int .i64 zeroV.arg, Value.int .i64 zeroV.sec, Value.bool zeroV.done, Value.int .i64 zeroV.res, Value.int .i64 zeroV.inv, Value.int .i64 zeroV.ret], .int .i64 z2]) (by simp [results, Tryd.results21, go_sem, r5, r6]) rfl ?_
        exact ResP.bad HE.out HB.out
      subst hz0
      have HE := Lib.hid (HX.out.trans (setL_yes HZ.out HZ2.out))
      have HIN := Lib.hid (show l.take m ++ x :: l.drop (m + 1) = Hs.inL HL l x by
        rw [← HM.out, ← HMEM.out.2]
        exact Hs.set_in HL HR.out HMEM.out.1 HXI.out)
      go_wp2_with fail
      refine (clone_any H7.out.ops (by omega)).mono ?_
      rintro _ w8 ⟨v8, rfl, ho8, hb8⟩
      have H8 := Lib.hid (H7.out.on hb8)
      obtain ⟨g, cap8, W9, hv8, s9, hn9, hb9⟩ := set_row ho8 HW.out.2 hb8.size HML.out HXW.out
      subst hv8
      rw [HIN.out] at hn9
      have hB9 : Below w7.heap.size w7 W9 := hb8.trans hb9
      have lx8 := (HX7.out.on hb8).load
      have H9 := Lib.hid (H7.out.on hB9)
      have lo9 := (HO7.out.on hB9).load
      have lx9 := (HX7.out.on hB9).load
      have ld9 : (loadS 28 (.pointer (some ⟨w2.heap.size, 0, none⟩))).run Tryd.prog W9.drew = .ok (Value.agg #[Value.int .i64 o.id, Value.int .i64 o.proc, Value.int .i64 o.obj, Value.int .i64 o.kind, Value.int .i64 o.meth, Value.int .i64 o.arg, Value.int .i64 o.sec, Value.bool o.done, Value.int .i64 o.res, Value.int .i64 o.inv, Value.int .i64 o.ret]) W9.drew := OpAt.load (w := W9.drew) (HO7.out.on hB9.drew)
      have le9 : (loadS 28 (.pointer (some ⟨w4.heap.size, 0, none⟩))).run Tryd.prog W9.drew = .ok (Value.agg #[Value.int .i64 x.id, Value.int .i64 x.proc, Value.int .i64 x.obj, Value.int .i64 x.kind, Value.int .i64 x.meth, Value.int .i64 x.arg, Value.int .i64 x.sec, Value.bool x.done, Value.int .i64 x.res, Value.int .i64 x.inv, Value.int .i64 x.ret]) W9.drew := OpAt.load (w := W9.drew) (HX7.out.on hB9.drew)
      have H9d : ChgB w W9.drew (.slice (some ⟨b, p, none⟩) l.length ac) l k e := H9.out.on (Below.refl _ _).drew
      obtain ⟨Wa, Wb, sa, sb, qa, qb, hBb, hkb, hzb⟩ := H9d.put o x
      have HN := Lib.hid (chg_news H7.out (Nat.le_refl _) (show OpsNew w7.heap.size W9.drew _ _ from hn9) hkb hzb)
      have hlt7 := heap_inO HO7.out
      have hge2 := H2.out.below.size
      have Q7 := Lib.hid qa
      have Q8 := Lib.hid qb
      have HBb := Lib.hid hBb
      have hla : (loadS 28 (.pointer (some ⟨w4.heap.size, 0, none⟩))).run Tryd.prog Wa = .ok (Value.agg #[Value.int .i64 x.id, Value.int .i64 x.proc, Value.int .i64 x.obj, Value.int .i64 x.kind, Value.int .i64 x.meth, Value.int .i64 x.arg, Value.int .i64 x.sec, Value.bool x.done, Value.int .i64 x.res, Value.int .i64 x.inv, Value.int .i64 x.ret]) Wa := box_past sa H9d.r1 (show OpAt W9.drew w4.heap.size x from HX7.out.on hB9.drew) (box_ne H4.out (Nat.le_refl _)).1
      have hlb : (loadS 28 (.pointer (some ⟨w4.heap.size, 0, none⟩))).run Tryd.prog Wb = .ok (Value.agg #[Value.int .i64 x.id, Value.int .i64 x.proc, Value.int .i64 x.obj, Value.int .i64 x.kind, Value.int .i64 x.meth, Value.int .i64 x.arg, Value.int .i64 x.sec, Value.bool x.done, Value.int .i64 x.res, Value.int .i64 x.inv, Value.int .i64 x.ret]) Wb := OpAt.load ((hkb _ (box_ne H4.out (Nat.le_refl _)).1 (box_ne H4.out (Nat.le_refl _)).2).trans (HX7.out.on hB9.drew))
      have hoa : (loadS 28 (.pointer (some ⟨w2.heap.size, 0, none⟩))).run Tryd.prog Wa = .ok (Value.agg #[Value.int .i64 o.id, Value.int .i64 o.proc, Value.int .i64 o.obj, Value.int .i64 o.kind, Value.int .i64 o.meth, Value.int .i64 o.arg, Value.int .i64 o.sec, Value.bool o.done, Value.int .i64 o.res, Value.int .i64 o.inv, Value.int .i64 o.ret]) Wa := box_past sa H9d.r1 (show OpAt W9.drew w2.heap.size o from HO7.out.on hB9.drew) (box_ne H2.out (Nat.le_refl _)).1
      have hob : (loadS 28 (.pointer (some ⟨w2.heap.size, 0, none⟩))).run Tryd.prog Wb = .ok (Value.agg #[Value.int .i64 o.id, Value.int .i64 o.proc, Value.int .i64 o.obj, Value.int .i64 o.kind, Value.int .i64 o.meth, Value.int .i64 o.arg, Value.int .i64 o.sec, Value.bool o.done, Value.int .i64 o.res, Value.int .i64 o.inv, Value.int .i64 o.ret]) Wb := OpAt.load ((hkb _ (box_ne H2.out (Nat.le_refl _)).1 (box_ne H2.out (Nat.le_refl _)).2).trans (HO7.out.on hB9.drew))
      clear ho8 hb8 hn9 hb9 hB9 H9d qa qb hBb hkb hzb hlt7 hge2
      go_wp2_with fail
      go_region_held3 (fun w' => (loadS 28 (.pointer (some ⟨w2.heap.size, 0, none⟩))).run Tryd.prog w' = .ok (Value.agg #[Value.int .i64 o.id, Value.int .i64 o.proc, Value.int .i64 o.obj, Value.int .i64 o.kind, Value.int .i64 o.meth, Value.int .i64 o.arg, Value.int .i64 o.sec, Value.bool o.done, Value.int .i64 o.res, Value.int .i64 o.inv, Value.int .i64 o.ret]) w' ∧ (loadS 28 (.pointer (some ⟨w4.heap.size, 0, none⟩))).run Tryd.prog w' = .ok (Value.agg #[Value.int .i64 x.id, Value.int .i64 x.proc, Value.int .i64 x.obj, Value.int .i64 x.kind, Value.int .i64 x.meth, Value.int .i64 x.arg, Value.int .i64 x.sec, Value.bool x.done, Value.int .i64 x.res, Value.int .i64 x.inv, Value.int .i64 x.ret]) w') (go_keep) (fail)
      all_goals
        go_wp2_with fail
        have r5 := cells11 Q7.out
        have r6 := cells11 Q8.out
        refine bodyPost_ret (v := .tuple #[.slice (some ⟨g, 0, none⟩) l.length cap8, Value.agg #[Value.int .i64 o.id, Value.int .i64 o.proc, Value.int .i64 o.obj, Value.int .i64 o.kind, Value.int .i64 o.meth, Value.int .i64 o.arg, Value.int .i64 o.sec, Value.bool o.done, Value.int .i64 o.res, Value.int .i64 o.inv, Value.int .i64 o.ret], Value.agg #[Value.int .i64 x.id, Value.int .i64 x.proc, Value.int .i64 x.obj, Value.int .i64 x.kind, Value.int .i64 x.meth, Value.int .i64 x.arg, Value.int .i64 x.sec, Value.bool x.done, Value.int .i64 x.res, Value.int .i64 x.inv, Value.int .i64 x.ret], .int .i64 0]) (by simp [results, Tryd.results21, go_sem, r5, r6]) rfl ?_
        exact ResP.mk HE.out rfl rfl HN.out HBb.out
end Go.Proofs.YtpjnmokofdldmaaDoor
