/- Package hist: add. -/
import Derived.Test.YtpjnmokofdldmaaDoorHtD
import Derived.Test.YtpjnmokofdldmaaDoorHtI
import Derived.Test.YtpjnmokofdldmaaDoorHtJ
import Derived.BigQuiet
import Derived.Deep.RegionHeld3
namespace Go.Proofs.YtpjnmokofdldmaaDoor
set_option maxRecDepth 100000
open Go.ChangeShapes Go.WideShapes Go.ChangeAt Go.RowKit Go.PlainAid Go.Deep

attribute [local go_sem ↓ high] load_op store_o load_ed
/-- What an edit answers. -/
def ResP (w : World) (r : Hs.Res OpV) (e : Ending) (w' : World) : Prop :=
  ∃ v', e = .returned (.tuple #[v', Value.agg #[Value.int .i64 (optV r.2.1).id, Value.int .i64 (optV r.2.1).proc, Value.int .i64 (optV r.2.1).obj, Value.int .i64 (optV r.2.1).kind, Value.int .i64 (optV r.2.1).meth, Value.int .i64 (optV r.2.1).arg, Value.int .i64 (optV r.2.1).sec, Value.bool (optV r.2.1).done, Value.int .i64 (optV r.2.1).res, Value.int .i64 (optV r.2.1).inv, Value.int .i64 (optV r.2.1).ret], Value.agg #[Value.int .i64 (optV r.2.2.1).id, Value.int .i64 (optV r.2.2.1).proc, Value.int .i64 (optV r.2.2.1).obj, Value.int .i64 (optV r.2.2.1).kind, Value.int .i64 (optV r.2.2.1).meth, Value.int .i64 (optV r.2.2.1).arg, Value.int .i64 (optV r.2.2.1).sec, Value.bool (optV r.2.2.1).done, Value.int .i64 (optV r.2.2.1).res, Value.int .i64 (optV r.2.2.1).inv, Value.int .i64 (optV r.2.2.1).ret], .int .i64 r.2.2.2]) ∧ OpsNew w.heap.size w' v' r.1 ∧ Below w.heap.size w w'
theorem news_nil (n₀ : Nat) (w : World) : OpsNew n₀ w (.slice none 0 0) [] := ⟨⟨.inl ⟨rfl, none, 0, rfl⟩, by simp⟩, fun b p n c e => by cases e⟩
theorem ResP.bad {w w' : World} {r : Hs.Res OpV} {z : Int} (h : r = Hs.bad z) (hb : Below w.heap.size w w') : ResP w r (.returned (.tuple #[.slice none 0 0, Value.agg #[Value.int .i64 zeroV.id, Value.int .i64 zeroV.proc, Value.int .i64 zeroV.obj, Value.int .i64 zeroV.kind, Value.int .i64 zeroV.meth, Value.int .i64 zeroV.arg, Value.int .i64 zeroV.sec, Value.bool zeroV.done, Value.int .i64 zeroV.res, Value.int .i64 zeroV.inv, Value.int .i64 zeroV.ret], Value.agg #[Value.int .i64 zeroV.id, Value.int .i64 zeroV.proc, Value.int .i64 zeroV.obj, Value.int .i64 zeroV.kind, Value.int .i64 zeroV.meth, Value.int .i64 zeroV.arg, Value.int .i64 zeroV.sec, Value.bool zeroV.done, Value.int .i64 zeroV.res, Value.int .i64 zeroV.inv, Value.int .i64 zeroV.ret], .int .i64 z])) w' := by
  subst h
  exact ⟨_, rfl, news_nil _ _, hb⟩
theorem ResP.mk {w w' : World} {r : Hs.Res OpV} {l : List OpV} {a b : Option OpV} {x y : OpV} {v' : Value} (h : r = (l, a, b, 0)) (hx : optV a = x) (hy : optV b = y) (hn : OpsNew w.heap.size w' v' l) (hb : Below w.heap.size w w') : ResP w r (.returned (.tuple #[v', Value.agg #[Value.int .i64 x.id, Value.int .i64 x.proc, Value.int .i64 x.obj, Value.int .i64 x.kind, Value.int .i64 x.meth, Value.int .i64 x.arg, Value.int .i64 x.sec, Value.bool x.done, Value.int .i64 x.res, Value.int .i64 x.inv, Value.int .i64 x.ret], Value.agg #[Value.int .i64 y.id, Value.int .i64 y.proc, Value.int .i64 y.obj, Value.int .i64 y.kind, Value.int .i64 y.meth, Value.int .i64 y.arg, Value.int .i64 y.sec, Value.bool y.done, Value.int .i64 y.res, Value.int .i64 y.inv, Value.int .i64 y.ret], .int .i64 0])) w' := by
  subst h hx hy
  exact ⟨_, rfl, hn, hb⟩
/-- What lies in memory while an operation is added: its box, the boxes of two results, the history, the table. -/
structure AddB (w W : World) (v : Value) (l : List OpV) (o : OpV) : Prop where
  below : Below w.heap.size w W
  op : OpAt W w.heap.size o
  r1 : OpAt W (w.heap.size + 1) zeroV
  r2 : OpAt W (w.heap.size + 2) zeroV
  ops : OpsOf W v l
  rules : RulesAt W
theorem AddB.on {w W W' : World} {v : Value} {l : List OpV} {o : OpV} (h : AddB w W v l o) (hb : Below W.heap.size W W') : AddB w W' v l o :=
  ⟨h.below.on hb, h.op.on hb, h.r1.on hb, h.r2.on hb, h.ops.on hb, h.rules.on hb⟩
theorem AddB.start {w : World} {v : Value} {l : List OpV} (o : OpV) (h : OpsOf w v l) (hR : RulesAt w) : ∃ W0 W1 W, w.alloc (.cells #[Value.int .i64 o.id, Value.int .i64 o.proc, Value.int .i64 o.obj, Value.int .i64 o.kind, Value.int .i64 o.meth, Value.int .i64 o.arg, Value.int .i64 o.sec, Value.bool o.done, Value.int .i64 o.res, Value.int .i64 o.inv, Value.int .i64 o.ret] 28) = W0 ∧ W0.heap.size = w.heap.size + 1 ∧ W0.alloc (.cells #[Value.int .i64 0, Value.int .i64 0, Value.int .i64 0, Value.int .i64 0, Value.int .i64 0, Value.int .i64 0, Value.int .i64 0, Value.bool false, Value.int .i64 0, Value.int .i64 0, Value.int .i64 0] 28) = W1 ∧ W1.heap.size = w.heap.size + 1 + 1 ∧ W1.alloc (.cells #[Value.int .i64 0, Value.int .i64 0, Value.int .i64 0, Value.int .i64 0, Value.int .i64 0, Value.int .i64 0, Value.int .i64 0, Value.bool false, Value.int .i64 0, Value.int .i64 0, Value.int .i64 0] 28) = W ∧ AddB w W v l o := by
  have hb0 : Below w.heap.size w (w.alloc (.cells #[Value.int .i64 o.id, Value.int .i64 o.proc, Value.int .i64 o.obj, Value.int .i64 o.kind, Value.int .i64 o.meth, Value.int .i64 o.arg, Value.int .i64 o.sec, Value.bool o.done, Value.int .i64 o.res, Value.int .i64 o.inv, Value.int .i64 o.ret] 28)) := by go_grown
  have z0 : (w.alloc (.cells #[Value.int .i64 o.id, Value.int .i64 o.proc, Value.int .i64 o.obj, Value.int .i64 o.kind, Value.int .i64 o.meth, Value.int .i64 o.arg, Value.int .i64 o.sec, Value.bool o.done, Value.int .i64 o.res, Value.int .i64 o.inv, Value.int .i64 o.ret] 28)).heap.size = w.heap.size + 1 := World.size_alloc _ _
  have q0 := OpAt.box w o
  obtain ⟨W0, hW0⟩ : ∃ W, w.alloc (.cells #[Value.int .i64 o.id, Value.int .i64 o.proc, Value.int .i64 o.obj, Value.int .i64 o.kind, Value.int .i64 o.meth, Value.int .i64 o.arg, Value.int .i64 o.sec, Value.bool o.done, Value.int .i64 o.res, Value.int .i64 o.inv, Value.int .i64 o.ret] 28) = W := ⟨_, rfl⟩
  rw [hW0] at hb0 q0 z0
  have hb1 : Below W0.heap.size W0 (W0.alloc (.cells #[Value.int .i64 0, Value.int .i64 0, Value.int .i64 0, Value.int .i64 0, Value.int .i64 0, Value.int .i64 0, Value.int .i64 0, Value.bool false, Value.int .i64 0, Value.int .i64 0, Value.int .i64 0] 28)) := by go_grown
  have z1 : (W0.alloc (.cells #[Value.int .i64 0, Value.int .i64 0, Value.int .i64 0, Value.int .i64 0, Value.int .i64 0, Value.int .i64 0, Value.int .i64 0, Value.bool false, Value.int .i64 0, Value.int .i64 0, Value.int .i64 0] 28)).heap.size = w.heap.size + 1 + 1 := by rw [World.size_alloc, z0]
  have q1 : OpAt (W0.alloc (.cells #[Value.int .i64 0, Value.int .i64 0, Value.int .i64 0, Value.int .i64 0, Value.int .i64 0, Value.int .i64 0, Value.int .i64 0, Value.bool false, Value.int .i64 0, Value.int .i64 0, Value.int .i64 0] 28)) W0.heap.size zeroV := heap_alloc_new W0 _
  obtain ⟨W1, hW1⟩ : ∃ W, W0.alloc (.cells #[Value.int .i64 0, Value.int .i64 0, Value.int .i64 0, Value.int .i64 0, Value.int .i64 0, Value.int .i64 0, Value.int .i64 0, Value.bool false, Value.int .i64 0, Value.int .i64 0, Value.int .i64 0] 28) = W := ⟨_, rfl⟩
  rw [hW1] at hb1 q1 z1
  have hb2 : Below W1.heap.size W1 (W1.alloc (.cells #[Value.int .i64 0, Value.int .i64 0, Value.int .i64 0, Value.int .i64 0, Value.int .i64 0, Value.int .i64 0, Value.int .i64 0, Value.bool false, Value.int .i64 0, Value.int .i64 0, Value.int .i64 0] 28)) := by go_grown
  have q2 : OpAt (W1.alloc (.cells #[Value.int .i64 0, Value.int .i64 0, Value.int .i64 0, Value.int .i64 0, Value.int .i64 0, Value.int .i64 0, Value.int .i64 0, Value.bool false, Value.int .i64 0, Value.int .i64 0, Value.int .i64 0] 28)) W1.heap.size zeroV := heap_alloc_new W1 _
  rw [z0] at q1
  rw [z1] at q2
  have hB := hb0.on (hb1.on hb2)
  exact ⟨W0, W1, _, hW0, z0, hW1, z1, rfl, hB, (q0.on hb1).on hb2, q1.on hb2, q2, h.on hB, hR.on hB⟩
/-- The results are stored. -/
theorem AddB.put {w W : World} {v : Value} {l : List OpV} {o : OpV} (h : AddB w W v l o) (x y : OpV) :
    ∃ W5 W6, (storeS 28 (.pointer (some ⟨w.heap.size + 1, 0, none⟩)) (Value.agg #[Value.int .i64 x.id, Value.int .i64 x.proc, Value.int .i64 x.obj, Value.int .i64 x.kind, Value.int .i64 x.meth, Value.int .i64 x.arg, Value.int .i64 x.sec, Value.bool x.done, Value.int .i64 x.res, Value.int .i64 x.inv, Value.int .i64 x.ret])).run Tryd.prog W = .ok () W5 ∧ (storeS 28 (.pointer (some ⟨w.heap.size + 2, 0, none⟩)) (Value.agg #[Value.int .i64 y.id, Value.int .i64 y.proc, Value.int .i64 y.obj, Value.int .i64 y.kind, Value.int .i64 y.meth, Value.int .i64 y.arg, Value.int .i64 y.sec, Value.bool y.done, Value.int .i64 y.res, Value.int .i64 y.inv, Value.int .i64 y.ret])).run Tryd.prog W5 = .ok () W6 ∧ OpAt W6 (w.heap.size + 1) x ∧ OpAt W6 (w.heap.size + 2) y ∧ Below w.heap.size w W6 ∧ (∀ k, k ≠ w.heap.size + 1 → k ≠ w.heap.size + 2 → W6.heap[k]? = W.heap[k]?) ∧ W6.heap.size = W.heap.size :=
  put_two h.r1 h.r2 (by omega) (by omega) (by omega) h.below (Nat.le_refl _) x y
theorem addL_chk {l : List OpV} {o : OpV} (h : checkZ o ≠ 0) : Hs.addL HL l o = Hs.bad (checkZ o) := by unfold Hs.addL; rw [if_pos (show HL.chk o ≠ 0 from h)]; rfl
theorem addL_there {l : List OpV} {o x : OpV} (h : checkZ o = 0) (hg : Hs.getL HL l o.id = some x) : Hs.addL HL l o = Hs.bad 7 := by
  unfold Hs.addL
  rw [if_neg (by rw [show HL.chk o = 0 from h]; simp), if_pos (by rw [show Hs.getL HL l (HL.id o) = some x from hg]; rfl)]
theorem addL_side {l : List OpV} {o : OpV} (h : checkZ o = 0) (hg : Hs.getL HL l o.id = none) (hs : Hs.besideZ HL l o ≠ 0) : Hs.addL HL l o = Hs.bad (Hs.besideZ HL l o) := by
  unfold Hs.addL
  rw [if_neg (by rw [show HL.chk o = 0 from h]; simp), if_neg (by rw [show Hs.getL HL l (HL.id o) = none from hg]; simp), if_pos hs]
theorem addL_many {l : List OpV} {o : OpV} (h : checkZ o = 0) (hg : Hs.getL HL l o.id = none) (hs : Hs.besideZ HL l o = 0) (hl : 64 ≤ l.length) : Hs.addL HL l o = Hs.bad 34 := by
  unfold Hs.addL
  rw [if_neg (by rw [show HL.chk o = 0 from h]; simp), if_neg (by rw [show Hs.getL HL l (HL.id o) = none from hg]; simp), if_neg (by rw [hs]; simp), if_pos hl]
theorem addL_yes {l : List OpV} {o : OpV} (h : checkZ o = 0) (hg : Hs.getL HL l o.id = none) (hs : Hs.besideZ HL l o = 0) (hl : ¬ 64 ≤ l.length) : Hs.addL HL l o = (Hs.inL HL l o, none, some o, 0) := by
  unfold Hs.addL
  rw [if_neg (by rw [show HL.chk o = 0 from h]; simp), if_neg (by rw [show Hs.getL HL l (HL.id o) = none from hg]; simp), if_neg (by rw [hs]; simp), if_neg hl]
/-- Behind slices.Insert. -/
theorem AddB.done {w W W6 : World} {v v6 : Value} {l M : List OpV} {o : OpV} (h : AddB w W v l o) (hb : Below W.heap.size W W6) (hn : OpsNew W.heap.size W6 v6 M) :
    ∃ W7 W8, (storeS 28 (.pointer (some ⟨w.heap.size + 1, 0, none⟩)) (Value.agg #[Value.int .i64 0, Value.int .i64 0, Value.int .i64 0, Value.int .i64 0, Value.int .i64 0, Value.int .i64 0, Value.int .i64 0, Value.bool false, Value.int .i64 0, Value.int .i64 0, Value.int .i64 0])).run Tryd.prog W6 = .ok () W7 ∧ (storeS 28 (.pointer (some ⟨w.heap.size + 2, 0, none⟩)) (Value.agg #[Value.int .i64 o.id, Value.int .i64 o.proc, Value.int .i64 o.obj, Value.int .i64 o.kind, Value.int .i64 o.meth, Value.int .i64 o.arg, Value.int .i64 o.sec, Value.bool o.done, Value.int .i64 o.res, Value.int .i64 o.inv, Value.int .i64 o.ret])).run Tryd.prog W7 = .ok () W8 ∧ (loadS 28 (.pointer (some ⟨w.heap.size, 0, none⟩))).run Tryd.prog W6 = .ok (Value.agg #[Value.int .i64 o.id, Value.int .i64 o.proc, Value.int .i64 o.obj, Value.int .i64 o.kind, Value.int .i64 o.meth, Value.int .i64 o.arg, Value.int .i64 o.sec, Value.bool o.done, Value.int .i64 o.res, Value.int .i64 o.inv, Value.int .i64 o.ret]) W6 ∧ (loadS 28 (.pointer (some ⟨w.heap.size, 0, none⟩))).run Tryd.prog W7 = .ok (Value.agg #[Value.int .i64 o.id, Value.int .i64 o.proc, Value.int .i64 o.obj, Value.int .i64 o.kind, Value.int .i64 o.meth, Value.int .i64 o.arg, Value.int .i64 o.sec, Value.bool o.done, Value.int .i64 o.res, Value.int .i64 o.inv, Value.int .i64 o.ret]) W7 ∧ (loadS 28 (.pointer (some ⟨w.heap.size, 0, none⟩))).run Tryd.prog W8 = .ok (Value.agg #[Value.int .i64 o.id, Value.int .i64 o.proc, Value.int .i64 o.obj, Value.int .i64 o.kind, Value.int .i64 o.meth, Value.int .i64 o.arg, Value.int .i64 o.sec, Value.bool o.done, Value.int .i64 o.res, Value.int .i64 o.inv, Value.int .i64 o.ret]) W8 ∧
      OpAt W8 (w.heap.size + 1) zeroV ∧ OpAt W8 (w.heap.size + 2) o ∧ Below w.heap.size w W8 ∧ OpsNew w.heap.size W8 v6 M := by
  have h6 := h.on hb
  obtain ⟨W7, W8, s7, s8, q1, q2, hB, hk, hz⟩ := h6.put zeroV o
  have hlt1 := heap_inO h.r1
  have hlt2 := heap_inO h.r2
  have l7 : (loadS 28 (.pointer (some ⟨w.heap.size, 0, none⟩))).run Tryd.prog W7 = .ok (Value.agg #[Value.int .i64 o.id, Value.int .i64 o.proc, Value.int .i64 o.obj, Value.int .i64 o.kind, Value.int .i64 o.meth, Value.int .i64 o.arg, Value.int .i64 o.sec, Value.bool o.done, Value.int .i64 o.res, Value.int .i64 o.inv, Value.int .i64 o.ret]) W7 := by
    have := store_op (show W6.heap[w.heap.size + 1]? = _ from h6.r1) rfl zeroV
    rw [this] at s7
    have e : W7 = _ := (Result.ok.inj s7).2.symm
    rw [e]
    exact OpAt.load (show OpAt _ w.heap.size o from (setRow_other _ _ _ _ (by omega)).trans h6.op)
  have l8 : (loadS 28 (.pointer (some ⟨w.heap.size, 0, none⟩))).run Tryd.prog W8 = .ok (Value.agg #[Value.int .i64 o.id, Value.int .i64 o.proc, Value.int .i64 o.obj, Value.int .i64 o.kind, Value.int .i64 o.meth, Value.int .i64 o.arg, Value.int .i64 o.sec, Value.bool o.done, Value.int .i64 o.res, Value.int .i64 o.inv, Value.int .i64 o.ret]) W8 := OpAt.load (show OpAt _ w.heap.size o from (hk _ (by omega) (by omega)).trans h6.op)
  refine ⟨W7, W8, s7, s8, h6.op.load, l7, l8, q1, q2, hB, hn.keep (by omega) (fun k h1 h2 => hk k (by omega) (by omega)), fun b p n c e => Nat.le_trans h.below.size (hn.2 b p n c e)⟩
/-- What slices.Insert wants. -/
structure InsR (w3 W : World) (v : Value) (l : List OpV) (o : OpV) (vb : Nat) : Prop where
  own : OpsOwn w3.heap.size W v l
  op : OpAt W vb o
  size : w3.heap.size ≤ W.heap.size
  ne : ∀ g o n c, v = .slice (some ⟨g, o, none⟩) n c → vb ≠ g
  below : Below w3.heap.size w3 W
theorem AddB.cloneA {w w3 w5 : World} {v v5 : Value} {l : List OpV} {o : OpV} (h : AddB w w3 v l o) (ho : OpsOwn w3.drew.heap.size w5 v5 l) (hb : Below w3.drew.heap.size w3.drew w5) :
    (loadS 28 (.pointer (some ⟨w.heap.size, 0, none⟩))).run Tryd.prog w5 = .ok (Value.agg #[Value.int .i64 o.id, Value.int .i64 o.proc, Value.int .i64 o.obj, Value.int .i64 o.kind, Value.int .i64 o.meth, Value.int .i64 o.arg, Value.int .i64 o.sec, Value.bool o.done, Value.int .i64 o.res, Value.int .i64 o.inv, Value.int .i64 o.ret]) w5 ∧ (loadS 28 (.pointer (some ⟨w.heap.size, 0, none⟩))).run Tryd.prog (w5.alloc (.cells #[Value.int .i64 o.id, Value.int .i64 o.proc, Value.int .i64 o.obj, Value.int .i64 o.kind, Value.int .i64 o.meth, Value.int .i64 o.arg, Value.int .i64 o.sec, Value.bool o.done, Value.int .i64 o.res, Value.int .i64 o.inv, Value.int .i64 o.ret] 28)) = .ok (Value.agg #[Value.int .i64 o.id, Value.int .i64 o.proc, Value.int .i64 o.obj, Value.int .i64 o.kind, Value.int .i64 o.meth, Value.int .i64 o.arg, Value.int .i64 o.sec, Value.bool o.done, Value.int .i64 o.res, Value.int .i64 o.inv, Value.int .i64 o.ret]) (w5.alloc (.cells #[Value.int .i64 o.id, Value.int .i64 o.proc, Value.int .i64 o.obj, Value.int .i64 o.kind, Value.int .i64 o.meth, Value.int .i64 o.arg, Value.int .i64 o.sec, Value.bool o.done, Value.int .i64 o.res, Value.int .i64 o.inv, Value.int .i64 o.ret] 28)) ∧ Hid (InsR w3 (w5.alloc (.cells #[Value.int .i64 o.id, Value.int .i64 o.proc, Value.int .i64 o.obj, Value.int .i64 o.kind, Value.int .i64 o.meth, Value.int .i64 o.arg, Value.int .i64 o.sec, Value.bool o.done, Value.int .i64 o.res, Value.int .i64 o.inv, Value.int .i64 o.ret] 28)) v5 l o w5.heap.size) := by
  have hba : Below w5.heap.size w5 (w5.alloc (.cells #[Value.int .i64 o.id, Value.int .i64 o.proc, Value.int .i64 o.obj, Value.int .i64 o.kind, Value.int .i64 o.meth, Value.int .i64 o.arg, Value.int .i64 o.sec, Value.bool o.done, Value.int .i64 o.res, Value.int .i64 o.inv, Value.int .i64 o.ret] 28)) := by go_grown
  have hb' : Below w3.heap.size w3 w5 := (Below.refl w3.heap.size w3).drew.on hb
  refine ⟨(OpAt.on h.op hb').load, ((OpAt.on h.op hb').on hba).load, Lib.hid ⟨ho.on hba, OpAt.box w5 o, Nat.le_trans hb'.size hba.size, fun g p n c e => ?_, hb'.on hba⟩⟩
  have := ho.lt_block e
  omega
theorem AddB.cloneB {w w3 w5 : World} {v v5 : Value} {l : List OpV} {o : OpV} (h : AddB w w3 v l o) (ho : OpsOwn (w3.alloc (.cells #[Value.int .i64 o.id, Value.int .i64 o.proc, Value.int .i64 o.obj, Value.int .i64 o.kind, Value.int .i64 o.meth, Value.int .i64 o.arg, Value.int .i64 o.sec, Value.bool o.done, Value.int .i64 o.res, Value.int .i64 o.inv, Value.int .i64 o.ret] 28)).drew.heap.size w5 v5 l) (hb : Below (w3.alloc (.cells #[Value.int .i64 o.id, Value.int .i64 o.proc, Value.int .i64 o.obj, Value.int .i64 o.kind, Value.int .i64 o.meth, Value.int .i64 o.arg, Value.int .i64 o.sec, Value.bool o.done, Value.int .i64 o.res, Value.int .i64 o.inv, Value.int .i64 o.ret] 28)).drew.heap.size (w3.alloc (.cells #[Value.int .i64 o.id, Value.int .i64 o.proc, Value.int .i64 o.obj, Value.int .i64 o.kind, Value.int .i64 o.meth, Value.int .i64 o.arg, Value.int .i64 o.sec, Value.bool o.done, Value.int .i64 o.res, Value.int .i64 o.inv, Value.int .i64 o.ret] 28)).drew w5) :
    (loadS 28 (.pointer (some ⟨w.heap.size, 0, none⟩))).run Tryd.prog w5 = .ok (Value.agg #[Value.int .i64 o.id, Value.int .i64 o.proc, Value.int .i64 o.obj, Value.int .i64 o.kind, Value.int .i64 o.meth, Value.int .i64 o.arg, Value.int .i64 o.sec, Value.bool o.done, Value.int .i64 o.res, Value.int .i64 o.inv, Value.int .i64 o.ret]) w5 ∧ Hid (InsR w3 w5 v5 l o w3.heap.size) := by
  have hba : Below w3.heap.size w3 (w3.alloc (.cells #[Value.int .i64 o.id, Value.int .i64 o.proc, Value.int .i64 o.obj, Value.int .i64 o.kind, Value.int .i64 o.meth, Value.int .i64 o.arg, Value.int .i64 o.sec, Value.bool o.done, Value.int .i64 o.res, Value.int .i64 o.inv, Value.int .i64 o.ret] 28)) := by go_grown
  have hz : (w3.alloc (.cells #[Value.int .i64 o.id, Value.int .i64 o.proc, Value.int .i64 o.obj, Value.int .i64 o.kind, Value.int .i64 o.meth, Value.int .i64 o.arg, Value.int .i64 o.sec, Value.bool o.done, Value.int .i64 o.res, Value.int .i64 o.inv, Value.int .i64 o.ret] 28)).drew.heap.size = w3.heap.size + 1 := World.size_alloc _ _
  have hb' : Below w3.heap.size w3 w5 := hba.drew.on hb
  refine ⟨(h.op.on hb').load, Lib.hid ⟨ho.base (by omega), OpAt.on (show OpAt (w3.alloc (.cells #[Value.int .i64 o.id, Value.int .i64 o.proc, Value.int .i64 o.obj, Value.int .i64 o.kind, Value.int .i64 o.meth, Value.int .i64 o.arg, Value.int .i64 o.sec, Value.bool o.done, Value.int .i64 o.res, Value.int .i64 o.inv, Value.int .i64 o.ret] 28)).drew w3.heap.size o from OpAt.box w3 o) hb, hb'.size, fun g p n c e => ?_, hb'⟩⟩
  have := ho.block_ge e
  omega
set_option maxHeartbeats 8000000 in
theorem add_any {v : Value} {l : List OpV} {o : OpV} {w : World} (h : OpsOf w v l) (hr : RiseO l) (ho : o.Wf) (hl : l.length ≤ 1048575) (hR : RulesAt w) :
    Calls Tryd.prog 19 #[v, Value.agg #[Value.int .i64 o.id, Value.int .i64 o.proc, Value.int .i64 o.obj, Value.int .i64 o.kind, Value.int .i64 o.meth, Value.int .i64 o.arg, Value.int .i64 o.sec, Value.bool o.done, Value.int .i64 o.res, Value.int .i64 o.inv, Value.int .i64 o.ret]] w (ResP w (Hs.addL HL l o)) := by
  obtain ⟨ao, ac, rfl⟩ := h.len
  obtain ⟨W0, W1, W, hW0, z0, hW1, z1, hW, hB⟩ := AddB.start o h hR
  have H := Lib.hid hB
  have HR := Lib.hid hr
  have HO := Lib.hid (And.intro ho h.2)
  have l0 := hB.op.load
  clear h hr ho hR hB
  obtain ⟨z, hz⟩ : ∃ z, checkZ o = z := ⟨_, rfl⟩
  have HZ := Lib.hid hz
  clear hz
  go_enter Tryd.func19, Tryd.ntmps19
  go_wp2_with fail
  clear hW0 hW1 hW z0 z1
  refine (check_any o _ H.out.rules).mono ?_
  rintro _ w1 ⟨rfl, hb1⟩
  rw [HZ.out]
  have H1 := Lib.hid (H.out.on hb1)
  clear hb1 l0
  by_cases hz0 : z = 0
  case neg =>
    have q5 : (z != 0) = true := bne_iff_ne.2 hz0
    have HE := Lib.hid (show Hs.addL HL l o = Hs.bad z by rw [addL_chk (by rw [HZ.out]; exact hz0), HZ.out])
    go_wp2_with fail
    refine (refuse_any z _).mono ?_
    rintro _ wq ⟨rfl, hbq⟩
    obtain ⟨W5, W6, s5, s6, q5, q6, b6, _, _⟩ := (H1.out.on hbq).put zeroV zeroV
    dsimp only [zeroV] at s5 s6
    have Q5 := Lib.hid q5
    have Q6 := Lib.hid q6
    have HB := Lib.hid b6
    clear hbq q5 q6 b6
    go_wp2_with fail
    have r5 := cells11 Q5.out
    have r6 := cells11 Q6.out
    refine bodyPost_ret (v := .tuple #[.slice none 0 0, Value.agg #[Value.int .i64 zeroV.id, Value.int .i64 zeroV.proc, Value.int .i64 zeroV.obj, Value.int .i64 zeroV.kind, Value.int .i64 zeroV.meth, Value.int .i64 zeroV.arg, Value.int .i64 zeroV.sec, Value.bool zeroV.done, Value.int .i64 zeroV.res, Value.int .i64 zeroV.inv, Value.int .i64 zeroV.ret], Value.agg #[Value.int .i64 zeroV.id, Value.int .i64 zeroV.proc, Value.int .i64 zeroV.obj, Value.int .i64 zeroV.kind, Value.int .i64 zeroV.meth, Value.int .i64 zeroV.arg, Value.int .i64 zeroV.sec, Value.bool zeroV.done, Value.int .i64 zeroV.res, Value.int .i64 zeroV.inv, Value.int .i64 zeroV.ret], .int .i64 z]) (by simp [results, Tryd.results19, go_sem, r5, r6]) rfl ?_
    exact ResP.bad HE.out HB.out
  subst hz0
  obtain ⟨k0, _⟩ := H1.out.op.cell
  obtain ⟨G, hG⟩ : ∃ G, Hs.getL HL l o.id = G := ⟨_, rfl⟩
  have HG := Lib.hid hG
  clear hG
  obtain ⟨m, hm⟩ : ∃ m, Hs.ahead HL l o.id = m := ⟨_, rfl⟩
  have HM := Lib.hid hm
  clear hm
  go_wp2_with fail
  refine (place_any o.id H1.out.ops HR.out (by omega)).mono ?_
  rintro _ w2 ⟨rfl, hb2⟩
  rw [HG.out, HM.out]
  have H2 := Lib.hid (H1.out.on hb2)
  clear hb2 k0
  cases G with
  | some x =>
    have HE := Lib.hid (addL_there HZ.out HG.out)
    go_wp2_with fail
    refine (refuse_any 7 _).mono ?_
    rintro _ wq ⟨rfl, hbq⟩
    obtain ⟨W5, W6, s5, s6, q5, q6, b6, _, _⟩ := (H2.out.on hbq).put zeroV zeroV
    dsimp only [zeroV] at s5 s6
    have Q5 := Lib.hid q5
    have Q6 := Lib.hid q6
    have HB := Lib.hid b6
    clear hbq q5 q6 b6
    go_wp2_with fail
    have r5 := cells11 Q5.out
    have r6 := cells11 Q6.out
    refine bodyPost_ret (v := .tuple #[.slice none 0 0, Value.agg #[Value.int .i64 zeroV.id, Value.int .i64 zeroV.proc, Value.int .i64 zeroV.obj, Value.int .i64 zeroV.kind, Value.int .i64 zeroV.meth, Value.int .i64 zeroV.arg, Value.int .i64 zeroV.sec, Value.bool zeroV.done, Value.int .i64 zeroV.res, Value.int .i64 zeroV.inv, Value.int .i64 zeroV.ret], Value.agg #[Value.int .i64 zeroV.id, Value.int .i64 zeroV.proc, Value.int .i64 zeroV.obj, Value.int .i64 zeroV.kind, Value.int .i64 zeroV.meth, Value.int .i64 zeroV.arg, Value.int .i64 zeroV.sec, Value.bool zeroV.done, Value.int .i64 zeroV.res, Value.int .i64 zeroV.inv, Value.int .i64 zeroV.ret], .int .i64 7]) (by simp [results, Tryd.results19, go_sem, r5, r6]) rfl ?_
    exact ResP.bad HE.out HB.out
  | none =>
    have l2 := H2.out.op.load
    obtain ⟨z2, hz2⟩ : ∃ z, Hs.besideZ HL l o = z := ⟨_, rfl⟩
    have HZ2 := Lib.hid hz2
    clear hz2
    go_wp2_with fail
    refine (beside_any o H2.out.ops (by omega)).mono ?_
    rintro _ w3 ⟨rfl, hb3⟩
    rw [HZ2.out]
    have H3 := Lib.hid (H2.out.on hb3)
    clear hb3 l2
    by_cases hz0 : z2 = 0
    case neg =>
      have q5 : (z2 != 0) = true := bne_iff_ne.2 hz0
      have HE := Lib.hid (show Hs.addL HL l o = Hs.bad z2 by rw [addL_side HZ.out HG.out (by rw [HZ2.out]; exact hz0), HZ2.out])
      go_wp2_with fail
      refine (refuse_any z2 _).mono ?_
      rintro _ wq ⟨rfl, hbq⟩
      obtain ⟨W5, W6, s5, s6, q5, q6, b6, _, _⟩ := (H3.out.on hbq).put zeroV zeroV
      dsimp only [zeroV] at s5 s6
      have Q5 := Lib.hid q5
      have Q6 := Lib.hid q6
      have HB := Lib.hid b6
      clear hbq q5 q6 b6
      go_wp2_with fail
      have r5 := cells11 Q5.out
      have r6 := cells11 Q6.out
      refine bodyPost_ret (v := .tuple #[.slice none 0 0, Value.agg #[Value.int .i64 zeroV.id, Value.int .i64 zeroV.proc, Value.int .i64 zeroV.obj, Value.int .i64 zeroV.kind, Value.int .i64 zeroV.meth, Value.int .i64 zeroV.arg, Value.int .i64 zeroV.sec, Value.bool zeroV.done, Value.int .i64 zeroV.res, Value.int .i64 zeroV.inv, Value.int .i64 zeroV.ret], Value.agg #[Value.int .i64 zeroV.id, Value.int .i64 zeroV.proc, Value.int .i64 zeroV.obj, Value.int .i64 zeroV.kind, Value.int .i64 zeroV.meth, Value.int .i64 zeroV.arg, Value.int .i64 zeroV.sec, Value.bool zeroV.done, Value.int .i64 zeroV.res, Value.int .i64 zeroV.inv, Value.int .i64 zeroV.ret], .int .i64 z2]) (by simp [results, Tryd.results19, go_sem, r5, r6]) rfl ?_
      exact ResP.bad HE.out HB.out
    subst hz0
    by_cases hm : 64 ≤ l.length
    · have q6 : decide ((l.length : Int) ≥ 64) = true := decide_eq_true (by omega)
      have q7 : ((64 : Int) ≤ (l.length : Int)) = True := eq_true (by omega)
      have q8 : (64 ≤ l.length) = True := eq_true hm
      have HE := Lib.hid (addL_many HZ.out HG.out HZ2.out hm)
      go_wp2_with fail
      refine (refuse_any 34 _).mono ?_
      rintro _ wq ⟨rfl, hbq⟩
      obtain ⟨W5, W6, s5, s6, q5, q6, b6, _, _⟩ := (H3.out.on hbq).put zeroV zeroV
      dsimp only [zeroV] at s5 s6
      have Q5 := Lib.hid q5
      have Q6 := Lib.hid q6
      have HB := Lib.hid b6
      clear hbq q5 q6 b6
      go_wp2_with fail
      have r5 := cells11 Q5.out
      have r6 := cells11 Q6.out
      refine bodyPost_ret (v := .tuple #[.slice none 0 0, Value.agg #[Value.int .i64 zeroV.id, Value.int .i64 zeroV.proc, Value.int .i64 zeroV.obj, Value.int .i64 zeroV.kind, Value.int .i64 zeroV.meth, Value.int .i64 zeroV.arg, Value.int .i64 zeroV.sec, Value.bool zeroV.done, Value.int .i64 zeroV.res, Value.int .i64 zeroV.inv, Value.int .i64 zeroV.ret], Value.agg #[Value.int .i64 zeroV.id, Value.int .i64 zeroV.proc, Value.int .i64 zeroV.obj, Value.int .i64 zeroV.kind, Value.int .i64 zeroV.meth, Value.int .i64 zeroV.arg, Value.int .i64 zeroV.sec, Value.bool zeroV.done, Value.int .i64 zeroV.res, Value.int .i64 zeroV.inv, Value.int .i64 zeroV.ret], .int .i64 34]) (by simp [results, Tryd.results19, go_sem, r5, r6]) rfl ?_
      exact ResP.bad HE.out HB.out
    have q6 : decide ((l.length : Int) ≥ 64) = false := decide_eq_false (by omega)
    have q7 : ((64 : Int) ≤ (l.length : Int)) = False := eq_false (by omega)
    have q8 : (64 ≤ l.length) = False := eq_false hm
    have HE := Lib.hid (addL_yes HZ.out HG.out HZ2.out hm)
    have HIN := Lib.hid (show l.take m ++ o :: l.drop m = Hs.inL HL l o by
      rw [← HM.out]
      exact Hs.put_in HL HR.out (Hs.get_none HL HG.out))
    have HML := Lib.hid (show m ≤ l.length by rw [← HM.out]; exact Hs.ahead_le HL l o.id)
    clear hm
    have l3 := H3.out.op.load
    have l3d : (loadS 28 (.pointer (some ⟨w.heap.size, 0, none⟩))).run Tryd.prog w3.drew = .ok (Value.agg #[Value.int .i64 o.id, Value.int .i64 o.proc, Value.int .i64 o.obj, Value.int .i64 o.kind, Value.int .i64 o.meth, Value.int .i64 o.arg, Value.int .i64 o.sec, Value.bool o.done, Value.int .i64 o.res, Value.int .i64 o.inv, Value.int .i64 o.ret]) w3.drew := OpAt.load (w := w3.drew) H3.out.op
    have hba : Below w3.heap.size w3 (w3.alloc (.cells #[Value.int .i64 o.id, Value.int .i64 o.proc, Value.int .i64 o.obj, Value.int .i64 o.kind, Value.int .i64 o.meth, Value.int .i64 o.arg, Value.int .i64 o.sec, Value.bool o.done, Value.int .i64 o.res, Value.int .i64 o.inv, Value.int .i64 o.ret] 28)) := by go_grown
    have HA := Lib.hid (H3.out.on hba)
    have l3a := HA.out.op.load
    have l3b : (loadS 28 (.pointer (some ⟨w.heap.size, 0, none⟩))).run Tryd.prog (w3.alloc (.cells #[Value.int .i64 o.id, Value.int .i64 o.proc, Value.int .i64 o.obj, Value.int .i64 o.kind, Value.int .i64 o.meth, Value.int .i64 o.arg, Value.int .i64 o.sec, Value.bool o.done, Value.int .i64 o.res, Value.int .i64 o.inv, Value.int .i64 o.ret] 28)).drew = .ok (Value.agg #[Value.int .i64 o.id, Value.int .i64 o.proc, Value.int .i64 o.obj, Value.int .i64 o.kind, Value.int .i64 o.meth, Value.int .i64 o.arg, Value.int .i64 o.sec, Value.bool o.done, Value.int .i64 o.res, Value.int .i64 o.inv, Value.int .i64 o.ret]) (w3.alloc (.cells #[Value.int .i64 o.id, Value.int .i64 o.proc, Value.int .i64 o.obj, Value.int .i64 o.kind, Value.int .i64 o.meth, Value.int .i64 o.arg, Value.int .i64 o.sec, Value.bool o.done, Value.int .i64 o.res, Value.int .i64 o.inv, Value.int .i64 o.ret] 28)).drew := OpAt.load (w := (w3.alloc (.cells #[Value.int .i64 o.id, Value.int .i64 o.proc, Value.int .i64 o.obj, Value.int .i64 o.kind, Value.int .i64 o.meth, Value.int .i64 o.arg, Value.int .i64 o.sec, Value.bool o.done, Value.int .i64 o.res, Value.int .i64 o.inv, Value.int .i64 o.ret] 28)).drew) HA.out.op
    clear hba
    go_wp2_with fail
    go_region_held3 (fun w' => (loadS 28 (.pointer (some ⟨w.heap.size, 0, none⟩))).run Tryd.prog w' = .ok (Value.agg #[Value.int .i64 o.id, Value.int .i64 o.proc, Value.int .i64 o.obj, Value.int .i64 o.kind, Value.int .i64 o.meth, Value.int .i64 o.arg, Value.int .i64 o.sec, Value.bool o.done, Value.int .i64 o.res, Value.int .i64 o.inv, Value.int .i64 o.ret]) w') (go_keep) (first
      | (go_at_call 40; (with_reducible refine (clone_any (w := w3.drew) (H3.out.ops.on (Below.refl _ _).drew) (by omega)).mono ?_); rintro _ w5 ⟨v5, rfl, ho5, hb5⟩; obtain ⟨l5, l5a, HV⟩ := AddB.cloneA H3.out ho5 hb5; clear ho5 hb5)
      | (go_at_call 40; (with_reducible refine (clone_any (w := (w3.alloc (.cells #[Value.int .i64 o.id, Value.int .i64 o.proc, Value.int .i64 o.obj, Value.int .i64 o.kind, Value.int .i64 o.meth, Value.int .i64 o.arg, Value.int .i64 o.sec, Value.bool o.done, Value.int .i64 o.res, Value.int .i64 o.inv, Value.int .i64 o.ret] 28)).drew) (HA.out.ops.on (Below.refl _ _).drew) (by omega)).mono ?_); rintro _ w5 ⟨v5, rfl, ho5, hb5⟩; obtain ⟨l5, HV⟩ := AddB.cloneB H3.out ho5 hb5; clear ho5 hb5)
      | (go_at_call 39; (with_reducible refine (insert_any HV.out.own HO.out.2 HV.out.op HO.out.1 HV.out.size HV.out.ne (by omega) m HML.out).mono ?_); rintro _ w6 ⟨v6, rfl, hn6, hb6⟩; obtain ⟨W7, W8, s7, s8, l6, l7, l8, q7', q8', hB8, hn8⟩ := H3.out.done (HV.out.below.trans hb6) hn6; rw [HIN.out] at hn8; have Q7 := Lib.hid q7'; have Q8 := Lib.hid q8'; have HB8 := Lib.hid hB8; have HN8 := Lib.hid hn8; clear q7' q8' hB8 hn8 hn6 hb6)
      | fail)
    all_goals
      go_wp2_with fail
      have r5 := cells11 Q7.out
      have r6 := cells11 Q8.out
      refine bodyPost_ret (v := .tuple #[v6, Value.agg #[Value.int .i64 zeroV.id, Value.int .i64 zeroV.proc, Value.int .i64 zeroV.obj, Value.int .i64 zeroV.kind, Value.int .i64 zeroV.meth, Value.int .i64 zeroV.arg, Value.int .i64 zeroV.sec, Value.bool zeroV.done, Value.int .i64 zeroV.res, Value.int .i64 zeroV.inv, Value.int .i64 zeroV.ret], Value.agg #[Value.int .i64 o.id, Value.int .i64 o.proc, Value.int .i64 o.obj, Value.int .i64 o.kind, Value.int .i64 o.meth, Value.int .i64 o.arg, Value.int .i64 o.sec, Value.bool o.done, Value.int .i64 o.res, Value.int .i64 o.inv, Value.int .i64 o.ret], .int .i64 0]) (by simp [results, Tryd.results19, go_sem, r5, r6]) rfl ?_
      exact ResP.mk HE.out rfl rfl HN8.out HB8.out
end Go.Proofs.YtpjnmokofdldmaaDoor
