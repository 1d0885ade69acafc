/- Plain lemmas on memory, over no dump: what is kept but for some blocks; many cells stored at once; texts as cells. Operations as plain data; the table of methods, and that it lies in memory; contracts of the small functions of package op and of its reference. Contracts of find, and of the reference's Rows and Find. Operations that may be: contracts of Check and of what it asks. Contracts of ruled, Check, Before and Overlap. -/
import Derived.WalkKit
import Derived.ProofKit
import Derived.Handy
import Derived.Lib.Hide
import Derived.PlainAid
import Derived.Deep.MidRow
import Derived.Deep.WholeRow
import Derived.StillTailTactics
import Derived.Great.BuildSlice
import Derived.Deep.AppendLies
import Derived.Lib.BufferWrite
import Derived.Lib.ConvBytes
import Derived.Test.YtppjmmdiglnkfaaQaa
import Derived.Test.YtppjmmdiglnkfaaRows
namespace Go.Proofs.Ytppjmmdiglnkfaa
open Go.ChangeShapes Go.WideShapes Go.ChangeAt Go.RowKit Go.PlainAid

/-- w' is w but for blocks of own, and new blocks. -/
structure Keeps (own : Nat → Prop) (w w' : World) : Prop where
  os : w'.os = w.os
  tape : w'.tape = w.tape
  output : w'.output = w.output
  size : w.heap.size ≤ w'.heap.size
  block : ∀ k, k < w.heap.size → ¬ own k → w'.heap[k]? = w.heap[k]?

theorem Keeps.refl (own : Nat → Prop) (w : World) : Keeps own w w := ⟨rfl, rfl, rfl, Nat.le_refl _, fun _ _ _ => rfl⟩
theorem Keeps.trans {own own' : Nat → Prop} {a b c : World} (h : Keeps own a b) (k : Keeps own' b c) (hs : ∀ i, own' i → own i ∨ a.heap.size ≤ i) : Keeps own a c :=
  ⟨k.os.trans h.os, k.tape.trans h.tape, k.output.trans h.output, Nat.le_trans h.size k.size, fun i hi ho =>
    (k.block i (Nat.lt_of_lt_of_le hi h.size) (fun c => by rcases hs i c with c | c; exact ho c; omega)).trans (h.block i hi ho)⟩
theorem Keeps.on {own : Nat → Prop} {a b c : World} (h : Keeps own a b) (k : Keeps own b c) : Keeps own a c := h.trans k fun _ hi => .inl hi
theorem Keeps.mono {own own' : Nat → Prop} {w w' : World} (h : Keeps own w w') (hs : ∀ i, own i → own' i ∨ w.heap.size ≤ i) : Keeps own' w w' :=
  ⟨h.os, h.tape, h.output, h.size, fun k hk ho => h.block k hk (fun c => by rcases hs k c with c | c; exact ho c; omega)⟩
theorem Keeps.below {own : Nat → Prop} {w w' : World} {B : Nat} (h : Keeps own w w') (ho : ∀ i, own i → B ≤ i) (hB : B ≤ w.heap.size) : Below B w w' :=
  ⟨h.os, h.tape, h.output, h.size, fun k hk => h.block k (by omega) (fun c => by have := ho k c; omega)⟩
theorem Keeps.of_below {own : Nat → Prop} {w w' : World} (h : Below w.heap.size w w') : Keeps own w w' := ⟨h.os, h.tape, h.output, h.size, fun k hk _ => h.block k hk⟩
theorem Keeps.drew {own : Nat → Prop} {w w' : World} (h : Keeps own w w') : Keeps own w w'.drew := ⟨h.os, h.tape, h.output, h.size, h.block⟩
theorem Keeps.alloc {own : Nat → Prop} {w w' : World} (h : Keeps own w w') (o : Obj) : Keeps own w (w'.alloc o) :=
  ⟨h.os, h.tape, h.output, by have := h.size; simp; omega, fun k hk ho => (Below.heap_alloc w' o k (by have := h.size; omega)).trans (h.block k hk ho)⟩
theorem Keeps.setCell {own : Nat → Prop} {w w' : World} (h : Keeps own w w') {a : Addr} (ha : own a.block ∨ w.heap.size ≤ a.block) (v : Value) : Keeps own w (w'.setCell a v) :=
  ⟨h.os, h.tape, h.output, by have := h.size; simp; omega, fun k hk ho => (heap_setCell_other w' a k v (fun e => by subst e; rcases ha with c | c; exact ho c; omega)).trans (h.block k hk ho)⟩
theorem heap_setCells_other (b : Nat) (k : Nat) (h : k ≠ b) : ∀ (vs : List Value) (o : Nat) (w : World), (w.setCells b o vs).heap[k]? = w.heap[k]?
  | [], _, _ => rfl
  | v :: r, o, w => by rw [World.setCells, heap_setCells_other b k h r (o + 1) _, heap_setCell_other _ _ _ _ h]
theorem size_setCells (b : Nat) : ∀ (vs : List Value) (o : Nat) (w : World), (w.setCells b o vs).heap.size = w.heap.size
  | [], _, _ => rfl
  | v :: r, o, w => by rw [World.setCells, size_setCells b r (o + 1) _, World.size_setCell]
theorem os_setCells (b : Nat) : ∀ (vs : List Value) (o : Nat) (w : World), (w.setCells b o vs).os = w.os ∧ (w.setCells b o vs).tape = w.tape ∧ (w.setCells b o vs).output = w.output
  | [], _, _ => ⟨rfl, rfl, rfl⟩
  | v :: r, o, w => by rw [World.setCells]; exact os_setCells b r (o + 1) (w.setCell _ v)
theorem Keeps.setCells {own : Nat → Prop} {w w' : World} (h : Keeps own w w') {b : Nat} (ha : own b ∨ w.heap.size ≤ b) (o : Nat) (vs : List Value) : Keeps own w (w'.setCells b o vs) := by
  obtain ⟨h1, h2, h3⟩ := os_setCells b vs o w'
  refine ⟨h1.trans h.os, h2.trans h.tape, h3.trans h.output, by rw [size_setCells]; exact h.size, fun k hk ho => ?_⟩
  rw [heap_setCells_other b k (fun e => by subst e; rcases ha with c | c; exact ho c; omega)]
  exact h.block k hk ho
theorem Keeps.setRow {own : Nat → Prop} {w w' : World} (h : Keeps own w w') {b : Nat} (ha : own b ∨ w.heap.size ≤ b) (cs : Array Value) : Keeps own w (w'.setRow b cs) :=
  ⟨h.os, h.tape, h.output, by simp; exact h.size, fun k hk ho => (setRow_other w' b k cs (fun e => by subst e; rcases ha with c | c; exact ho c; omega)).trans (h.block k hk ho)⟩
theorem Keeps.grown {own : Nat → Prop} {w w' w2 : World} {row : Option Nat} (h : Keeps own w w') (hg : w'.grownBy w2 row) (hr : ∀ k, row = some k → own k ∨ w.heap.size ≤ k) : Keeps own w w2 :=
  ⟨hg.os.trans h.os, hg.tape.trans h.tape, hg.output.trans h.output, Nat.le_trans h.size hg.size, fun k hk ho =>
    (hg.block k (Nat.lt_of_lt_of_le hk h.size) (fun e => by rcases hr k e.symm with c | c; exact ho c; omega)).trans (h.block k hk ho)⟩
theorem Keeps.grownBy {w w' : World} {row : Option Nat} (h : Keeps (fun k => row = some k) w w') : w.grownBy w' row := ⟨h.os, h.tape, h.output, h.size, fun k hk ho => h.block k hk (fun e => ho e.symm)⟩

/-- A block whose cells were stored into, whole. -/
theorem heap_setCells_same (b : Nat) (t : TypeId) : ∀ (vs : List Value) (o : Nat) (w : World) (cs : Array Value), w.heap[b]? = some (.cells cs t (0, 0)) → o + vs.length ≤ cs.size →
    ∃ cs', (w.setCells b o vs).heap[b]? = some (.cells cs' t (0, 0)) ∧ cs'.size = cs.size ∧ (∀ j, j < vs.length → cs'[o + j]? = vs[j]?) ∧ (∀ i, i < o ∨ o + vs.length ≤ i → cs'[i]? = cs[i]?)
  | [], o, w, cs, h, _ => ⟨cs, h, rfl, fun j hj => by simp at hj, fun _ _ => rfl⟩
  | v :: r, o, w, cs, h, hs => by
    have h1 := heap_setCell_same w b o cs t v h
    have hlen : (v :: r).length = r.length + 1 := rfl
    obtain ⟨cs', a1, a2, a3, a4⟩ := heap_setCells_same b t r (o + 1) (w.setCell ⟨b, o, none⟩ v) _ h1 (by
      have e : (cs.setIfInBounds o v).size = cs.size := Array.size_setIfInBounds
      omega)
    refine ⟨cs', by rw [World.setCells]; exact a1, by rw [a2]; simp, fun j hj => ?_, fun i hi => ?_⟩
    · cases j with
      | zero =>
        rw [Nat.add_zero, a4 o (.inl (by omega)), Array.getElem?_setIfInBounds_self_of_lt (by omega)]
        rfl
      | succ j => rw [show o + (j + 1) = o + 1 + j by omega, a3 j (by simp at hj; omega)]; rfl
    · rw [a4 i (by omega), Array.getElem?_setIfInBounds_ne (by omega)]

/-- A whole struct, or array, stored into the block that was made last. -/
theorem wpList_store_new {P : Program} {ops : Array Oper} {rest : List Oper} {op : Oper} {a : Act} {w : World} {Q : Exit → Act → World → Prop} (hgd : op.guard = none) (ty : TypeId) (x y : Operand) (ho : op.op = .store ty x y)
    (c c' : Array Value) (t : TypeId) (hx : a.eval x = .pointer (some ⟨w.heap.size, 0, none⟩)) (hy : a.eval y = .agg c') (hi : (P.info? ty).map (·.size) = some c'.size) (hsz : c.size = c'.size) (h1 : c'.all (·.oneCell') = true)
    (h : wpList P ops Q rest (a.put op.dst undef) (w.alloc (.cells c' t))) : wpList P ops Q (op :: rest) a (w.alloc (.cells c t)) :=
  wpList_plain hgd fun _ hK => by
    unfold Oper.wp execOp
    have hr := run_storeVar_row (P := P) (w.alloc (.cells c t)) w.heap.size t ty c c' (heap_alloc_new w _) hi hsz h1
    rw [setRow_alloc] at hr
    simp only [ho, hx, hy, Instr.storeAt, Instr.sureAddr, Sem.run_bind, Sem.run_pure, Result.andThen_ok, hr]
    exact hK _ _ h

/-- Many cells loaded, or stored, at once: one name each, so that a walk does not open them cell by cell. -/
def loadMany (P : Program) (t : TypeId) (w : World) (g o : Nat) : Result Value := (Instr.loadAt t (.pointer (some ⟨g, o, none⟩))).run P w
def storeMany (P : Program) (t : TypeId) (w : World) (g o : Nat) (v : Value) : Result Unit := (Instr.storeAt t (.pointer (some ⟨g, o, none⟩)) v).run P w
/-- The same as actions: the walk puts these in before it looks inside (by rules of one type each), and then takes an equation on what they come to. -/
def loadS (t : TypeId) (v : Value) : Sem Value := Instr.loadAt t v
def storeS (t : TypeId) (p v : Value) : Sem Unit := Instr.storeAt t p v
def buildS (t : TypeId) (n : Nat) (l : Array (Nat × Value)) : Sem Value := Instr.buildSlice t n l
theorem loadS_many (P : Program) (t : TypeId) (w : World) (g o : Nat) : (loadS t (.pointer (some ⟨g, o, none⟩))).run P w = loadMany P t w g o := rfl
theorem storeS_many (P : Program) (t : TypeId) (w : World) (g o : Nat) (v : Value) : (storeS t (.pointer (some ⟨g, o, none⟩)) v).run P w = storeMany P t w g o v := rfl
theorem loadMany_range {P : Program} {t : TypeId} {w : World} {g o : Nat} (cs : List Value) (d : TypeDesc) (hc : w.rangeAt g o cs) (hu : P.underlying t = some d) (hd : d.isRow = true) (hi : (P.info? t).map (·.size) = some cs.length) :
    loadMany P t w g o = .ok (.agg cs.toArray) w := run_loadAt_mid w g o t cs d hc hu hd hi
theorem storeMany_range {P : Program} {t : TypeId} {w : World} {g o : Nat} (cs : List Value) (ht : w.there g o cs.length) (hi : (P.info? t).map (·.size) = some cs.length) (h1 : ∀ v ∈ cs, v.oneCell' = true) :
    storeMany P t w g o (.agg cs.toArray) = .ok () (w.setCells g o cs) := run_storeAt_mid w g o t cs.toArray (by simpa using ht) (by simpa using hi) (all_oneCell_toArray h1)
theorem wpStill_loadMany {P : Program} {ops : Array Oper} {w : World} {Q : Act → Prop} {a : Act} {o : Oper} {rest : List Oper} (hg : o.guard = none) (ty : TypeId) (x : Operand) (ho : o.op = .load ty x) (b off : Nat) (hx : a.eval x = .pointer (some ⟨b, off, none⟩))
    (v : Value) (hl : loadMany P ty w b off = .ok v w) (h : wpStill P ops w Q rest (a.put o.dst v)) : wpStill P ops w Q (o :: rest) a := by
  have hw : Region.wanted o (yielded ops a.tmps) = true := by simp [Region.wanted, hg]
  refine wpStill_step (fun K hK => ?_)
  rw [if_pos hw]
  unfold Oper.still execOp
  unfold loadMany at hl
  simp only [ho, hx, Sem.run_bind, Sem.run_pure, Result.andThen_ok, hl]
  rw [Oper.stillUpon_value]
  exact hK _ h
theorem wpList_storeMany {P : Program} {ops : Array Oper} {rest : List Oper} {op : Oper} {a : Act} {w w' : World} {Q : Exit → Act → World → Prop} (hgd : op.guard = none) (ty : TypeId) (x y : Operand) (ho : op.op = .store ty x y)
    (b off : Nat) (v : Value) (hx : a.eval x = .pointer (some ⟨b, off, none⟩)) (hy : a.eval y = v) (hs : storeMany P ty w b off v = .ok () w') (h : wpList P ops Q rest (a.put op.dst undef) w') : wpList P ops Q (op :: rest) a w :=
  wpList_plain hgd fun _ hK => by
    unfold Oper.wp execOp
    unfold storeMany at hs
    simp only [ho, hx, hy, Sem.run_bind, Sem.run_pure, Result.andThen_ok, hs]
    exact hK _ _ h
theorem wpList_loadMany {P : Program} {ops : Array Oper} {rest : List Oper} {op : Oper} {a : Act} {w : World} {Q : Exit → Act → World → Prop} (hgd : op.guard = none) (ty : TypeId) (x : Operand) (ho : op.op = .load ty x)
    (b off : Nat) (hx : a.eval x = .pointer (some ⟨b, off, none⟩)) (v : Value) (hl : loadMany P ty w b off = .ok v w) (h : wpList P ops Q rest (a.put op.dst v) w) : wpList P ops Q (op :: rest) a w :=
  wpList_plain hgd fun _ hK => by
    unfold Oper.wp execOp
    unfold loadMany at hl
    simp only [ho, hx, Sem.run_bind, Sem.run_pure, Result.andThen_ok, hl]
    exact hK _ _ h
/-- A slice of one struct. -/
theorem run_buildOne {P : Program} (w : World) (t e : TypeId) (c : Array Value) (ie : TypeInfo) (z : Value) (hu : P.underlying t = some (.slice e)) (hie : P.info? e = some ie) (hz : ie.zero = some z) (hs : c.size = ie.size) (h0 : 0 < ie.size) (h1 : ie.size ≤ 16777216) :
    (Instr.buildSlice t 1 #[(0, .agg c)]).run P w = .ok (.slice (some ⟨w.heap.size, 0, none⟩) 1 1) (w.alloc (.cells c e)) := by
  refine run_buildSlice w t e 1 #[(0, .agg c)] c ie z hu hie hz (by omega) (by omega) ?_
  have h := Great.fill_whole (s := ie.size) h0 [.agg c] ((Array.range (1 * ie.size)).map (z.cells[· % z.cells.size]!)) (fun v hv => by
    rw [List.mem_singleton] at hv
    subst hv
    exact hs) (by simp)
  refine Eq.trans ?_ (h.trans ?_)
  · rfl
  · simp [Value.cells]
theorem wpList_buildOne {P : Program} {ops : Array Oper} {rest : List Oper} {op : Oper} {a : Act} {w : World} {Q : Exit → Act → World → Prop} (hgd : op.guard = none) (t e : TypeId) (x : Operand) (ho : op.op = .buildSlice t 1 #[(0, x)])
    (c : Array Value) (hx : a.eval x = .agg c) (hu : P.underlying t = some (.slice e)) (z : Value) (n b : Nat) (hi : (P.info? e).map (fun i => (i.zero, i.size, i.bytes)) = some (some z, n, b)) (hs : c.size = n) (h0 : 0 < n) (h1 : n ≤ 16777216)
    (h : wpList P ops Q rest (a.put op.dst (.slice (some ⟨w.heap.size, 0, none⟩) 1 1)) (w.alloc (.cells c e))) : wpList P ops Q (op :: rest) a w :=
  wpList_plain hgd fun _ hK => by
    obtain ⟨i, i1, i2, i3, _⟩ := info_parts hi
    have hr := run_buildOne (P := P) w t e c i z hu i1 i2 (by omega) (by omega) (by omega)
    unfold Oper.wp execOp
    simp only [ho, List.map_toArray, List.map_cons, List.map_nil, hx, Sem.run_bind, hr, Result.andThen_ok]
    exact hK _ _ h
theorem rangeAt_keep {w w' : World} {g o : Nat} {cs : List Value} (h : w.rangeAt g o cs) (e : w'.heap[g]? = w.heap[g]?) : w'.rangeAt g o cs := fun j v hv => (World.cell?_of_block (a := ⟨g, o + j, none⟩) e).trans (h j v hv)
theorem rangeAt_whole {w : World} {g : Nat} {cs : List Value} {t : TypeId} {fr : Nat × Nat} (h : w.heap[g]? = some (.cells cs.toArray t fr)) : w.rangeAt g 0 cs := fun j v hv => by
  rw [cell_of_row w g (0 + j) _ t fr h, Nat.zero_add]
  simpa using hv

/-! ### Texts as cells -/
/-- The first n bytes of a text, as cells. -/
def textCells (n : Nat) (s : ByteArray) : List Value := (List.range n).map fun j => .int .u8 (bt s j)
@[simp] theorem length_textCells (n : Nat) (s : ByteArray) : (textCells n s).length = n := by simp [textCells]
theorem textCells_get (n : Nat) (s : ByteArray) {j : Nat} (h : j < n) : (textCells n s)[j]? = some (.int .u8 (bt s j)) := by simp [textCells, h]
theorem textCells_one (n : Nat) (s : ByteArray) : ∀ v ∈ textCells n s, v.oneCell' = true := by
  intro v hv
  simp only [textCells, List.mem_map] at hv
  obtain ⟨_, _, rfl⟩ := hv
  rfl
/-- A text out of the bytes that a function tells. -/
def ofFn (n : Nat) (f : Nat → Int) : ByteArray := strOfNums ((List.range n).map f)
theorem ofFn_size (n : Nat) (f : Nat → Int) : (ofFn n f).size = n := by unfold ofFn; rw [strOfNums_size]; simp
theorem ofFn_bt (n : Nat) (f : Nat → Int) {k : Nat} (hk : k < n) (h0 : 0 ≤ f k) (h1 : f k ≤ 255) : bt (ofFn n f) k = f k := by
  have e : ((List.range n).map f).getD k 0 = f k := by simp [List.getD_eq_getElem?_getD, List.getElem?_map, List.getElem?_range hk]
  unfold ofFn
  rw [bt_strOfNums _ k (by rw [e]; exact h0) (by rw [e]; exact h1), e]
/-- Texts of one length with the same bytes are one. -/
theorem text_ext {a b : ByteArray} (hs : a.size = b.size) (h : ∀ k, k < a.size → bt a k = bt b k) : a = b := by
  apply ByteArray.ext
  apply Array.ext (by simpa using hs)
  intro i h1 h2
  have := h i (by simpa using h1)
  rw [bt_list, bt_list] at this
  simp only [List.getD_eq_getElem?_getD] at this
  rw [List.getElem?_eq_getElem (by simpa using h1), List.getElem?_eq_getElem (by simpa using h2)] at this
  simp only [Option.getD_some, Array.getElem_toList] at this
  exact UInt8.toNat_inj.1 (by omega)
theorem text_whole (s : ByteArray) : ofFn s.size (bt s) = s :=
  text_ext (ofFn_size _ _) fun k hk => by rw [ofFn_size] at hk; exact ofFn_bt _ _ hk (bt_nonneg _ _) (bt_le _ _)
theorem bt_append (a b : ByteArray) (k : Nat) : bt (a ++ b) k = if k < a.size then bt a k else bt b (k - a.size) := by
  rw [bt_list, bt_list, bt_list, ByteArray.data_append, Array.toList_append]
  simp only [List.getD_eq_getElem?_getD]
  have hl : a.data.toList.length = a.size := by simp
  by_cases c : k < a.size
  · rw [if_pos c, List.getElem?_append_left (by rw [hl]; exact c)]
  · rw [if_neg c, List.getElem?_append_right (by rw [hl]; omega), hl]
/-- A text's cells where a block has them. -/
theorem rangeAt_text {w : World} {b o n : Nat} {s : ByteArray} {cs : Array Value} {t : TypeId} {fr : Nat × Nat} (hb : w.heap[b]? = some (.cells cs t fr)) (h : ∀ j, j < n → cs[o + j]? = some (.int .u8 (bt s j))) : w.rangeAt b o (textCells n s) := fun j v hv => by
  have hj : j < n := by have := (List.getElem?_eq_some_iff.1 hv).1; simpa using this
  rw [cell_of_row w b (o + j) cs t fr hb, h j hj, ← textCells_get n s hj, hv]
/-- string(b) of a slice whose cells are a text's. -/
theorem conv_text {P : Program} (src e dst : TypeId) (hs : P.underlying src = some (.slice e)) (he : P.underlying e = some (.int .u8)) (hd : P.underlying dst = some .string)
    (w : World) (b o n cap : Nat) (s : ByteArray) (hn : s.size = n) (h : w.rangeAt b o (textCells n s)) : (convert src dst (.slice (some ⟨b, o, none⟩) n cap)).run P w = .ok (.string s) w := by
  have := run_convert_bytes_arg w src e hs he b o n cap ((List.range n).map (bt s)) (by simp) (fun i hi => by
    rw [h i _ (textCells_get n s hi)]
    simp [List.getD_eq_getElem?_getD, List.getElem?_map, List.getElem?_range hi]) dst hd
  rw [this]
  subst hn
  exact congrArg (fun z => Result.ok (Value.string z) w) (text_whole s)
end Go.Proofs.Ytppjmmdiglnkfaa
namespace Go.Proofs.Ytppjmmdiglnkfaa
set_option maxRecDepth 100000
open Go.ChangeShapes Go.WideShapes Go.ChangeAt Go.RowKit Go.PlainAid

/-- A method of a kind: how many arguments it needs, the bounds of its answers, and the document's way to say these. -/
structure RowV where
  kind : Int
  meth : Int
  needs : Int
  low : Int
  high : Int
  how : Int
def tab : List RowV := [⟨1, 1, 0, 0, 1073741824, 2⟩, ⟨1, 2, 1, 0, 0, 0⟩, ⟨1, 3, 2, 0, 1, 1⟩, ⟨2, 1, 0, -1073741824, 1073741824, 3⟩, ⟨2, 4, 0, 0, 0, 0⟩, ⟨2, 5, 0, 0, 0, 0⟩, ⟨3, 6, 1, 0, 0, 0⟩, ⟨3, 7, 0, -1, 1073741824, 4⟩, ⟨4, 8, 1, 0, 0, 0⟩, ⟨4, 9, 0, -1, 1073741824, 4⟩, ⟨5, 10, 1, 0, 1, 1⟩, ⟨5, 11, 1, 0, 1, 1⟩, ⟨5, 12, 1, 0, 1, 1⟩, ⟨6, 13, 0, 0, 0, 0⟩, ⟨6, 14, 0, 0, 0, 0⟩]
theorem tab_len : tab.length = 15 := rfl
/-- The row of a kind's method. -/
def ruleOf (kind meth : Int) : Option RowV := tab.find? fun r => r.kind == kind && r.meth == meth
theorem rule_none {kind meth : Int} (h : ∀ (j : Nat) r, tab[j]? = some r → ¬ (r.kind = kind ∧ r.meth = meth)) : ruleOf kind meth = none := by
  unfold ruleOf
  rw [List.find?_eq_none]
  intro r hr
  obtain ⟨j, hj⟩ := List.getElem?_of_mem hr
  have := h j r hj
  simp only [Bool.and_eq_true, beq_iff_eq]
  exact this
theorem rule_some {kind meth : Int} {k : Nat} {r : RowV} (hr : tab[k]? = some r) (e1 : r.kind = kind) (e2 : r.meth = meth) (h : ∀ (j : Nat) r, j < k → tab[j]? = some r → ¬ (r.kind = kind ∧ r.meth = meth)) : ruleOf kind meth = some r := by
  unfold ruleOf
  rw [List.find?_eq_some_iff_getElem]
  obtain ⟨hk, hr'⟩ := List.getElem?_eq_some_iff.1 hr
  refine ⟨by simp [e1, e2], k, hk, hr', fun j hj => ?_⟩
  have := h j tab[j] hj (List.getElem?_eq_getElem (by omega))
  simp only [Bool.not_eq_true', Bool.and_eq_false_iff, beq_eq_false_iff_ne]
  by_cases c : tab[j].kind = kind
  · exact .inr fun d => this ⟨c, d⟩
  · exact .inl c
def RowV.cells (r : RowV) : List Value := [.int .i64 r.kind, .int .i64 r.meth, .int .i64 r.needs, .int .i64 r.low, .int .i64 r.high]
/-- The table, as it lies in memory. -/
def tabCells : List Value := tab.flatMap RowV.cells
def tabV : Value := .agg (tab.map fun r => Value.agg r.cells.toArray).toArray
def tabWhole : Value := .agg tabCells.toArray
/-! ### Small functions -/
/-- Is a number from low to high? -/
def inB (n low high : Int) : Bool := decide (low ≤ n) && decide (n ≤ high)
theorem inB_iff {n low high : Int} : inB n low high = true ↔ low ≤ n ∧ n ≤ high := by simp [inB]
theorem inB_no {n low high : Int} : inB n low high = false ↔ ¬ (low ≤ n ∧ n ≤ high) := by rw [← inB_iff]; simp
theorem between_any (n low high : Int) (w : World) : Calls Try.prog 75 #[.int .i64 n, .int .i64 low, .int .i64 high] w fun e w' => e = .returned (.bool (inB n low high)) ∧ w = w' := by
  by_cases h1 : low ≤ n
  · by_cases h2 : n ≤ high
    · have h := Lib.hid (inB_iff.2 ⟨h1, h2⟩)
      go_enter Try.func75, Try.ntmps75
      go_wp2
      go_returns
      exact ⟨by rw [h.out]; rfl, rfl⟩
    · have h := Lib.hid (show inB n low high = false from inB_no.2 fun c => h2 c.2)
      go_enter Try.func75, Try.ntmps75
      go_wp2
      go_returns
      exact ⟨by rw [h.out]; rfl, rfl⟩
  · have h := Lib.hid (show inB n low high = false from inB_no.2 fun c => h1 c.1)
    go_enter Try.func75, Try.ntmps75
    go_wp2
    go_returns
    exact ⟨by rw [h.out]; rfl, rfl⟩
/-- May an argument be, where one is needed, or none is? -/
def argB (n : Int) (needed : Bool) : Bool := if needed then inB n 0 1073741824 else n == 0
/-- May that be an answer, by the document's ways to say it? -/
def ansB (n how : Int) : Bool := if how = 0 then n == 0 else if how = 1 then n == 0 || n == 1 else if how = 2 then inB n 0 1073741824 else if how = 3 then inB n (-1073741824) 1073741824 else inB n (-1) 1073741824
theorem answer_any (n how : Int) (w : World) : Calls Try.prog 77 #[.int .i64 n, .int .i64 how] w fun e w' => e = .returned (.bool (ansB n how)) ∧ w = w' := by
  by_cases h0 : how = 0
  · subst h0
    have h := Lib.hid (show ansB n 0 = (n == 0) from rfl)
    go_enter Try.func77, Try.ntmps77
    go_wp2
    go_returns
    exact ⟨by rw [h.out]; rfl, rfl⟩
  · by_cases h1 : how = 1
    · subst h1
      clear h0
      by_cases c : n = 0
      · subst c
        have h := Lib.hid (show ansB 0 1 = true from rfl)
        go_enter Try.func77, Try.ntmps77
        go_wp2
        go_returns
        exact ⟨by rw [h.out]; rfl, rfl⟩
      · have c' : (n == 0) = false := beq_eq_false_iff_ne.2 c
        have h := Lib.hid (show ansB n 1 = (n == 1) by show (n == 0 || n == 1) = _; rw [c']; rfl)
        go_enter Try.func77, Try.ntmps77
        go_wp2
        go_returns
        exact ⟨by rw [h.out]; rfl, rfl⟩
    · by_cases h2 : how = 2
      · subst h2
        have h := Lib.hid (show ansB n 2 = inB n 0 1073741824 from rfl)
        clear h0 h1
        go_enter Try.func77, Try.ntmps77
        go_wp2_with fail
        refine (between_any n 0 1073741824 _).mono ?_
        rintro _ _ ⟨rfl, rfl⟩
        go_wp2
        go_returns
        exact ⟨by rw [h.out]; rfl, rfl⟩
      · by_cases h3 : how = 3
        · subst h3
          have h := Lib.hid (show ansB n 3 = inB n (-1073741824) 1073741824 from rfl)
          clear h0 h1 h2
          go_enter Try.func77, Try.ntmps77
          go_wp2_with fail
          refine (between_any n (-1073741824) 1073741824 _).mono ?_
          rintro _ _ ⟨rfl, rfl⟩
          go_wp2
          go_returns
          exact ⟨by rw [h.out]; rfl, rfl⟩
        · have h := Lib.hid (show ansB n how = inB n (-1) 1073741824 by unfold ansB; rw [if_neg h0, if_neg h1, if_neg h2, if_neg h3])
          have c0 : (how == 0) = false := beq_eq_false_iff_ne.2 h0
          have c1 : (how == 1) = false := beq_eq_false_iff_ne.2 h1
          have c2 : (how == 2) = false := beq_eq_false_iff_ne.2 h2
          have c3 : (how == 3) = false := beq_eq_false_iff_ne.2 h3
          clear h0 h1 h2 h3
          go_enter Try.func77, Try.ntmps77
          go_wp2_with fail
          refine (between_any n (-1) 1073741824 _).mono ?_
          rintro _ _ ⟨rfl, rfl⟩
          go_wp2
          go_returns
          exact ⟨by rw [h.out]; rfl, rfl⟩
/-- The document's answers of a row are those between its bounds. -/
theorem ans_row {r : RowV} (hr : r ∈ tab) (n : Int) : ansB n r.how = inB n r.low r.high := by
  have h1 : (n == 0) = inB n 0 0 := by
    rw [Bool.eq_iff_iff, inB_iff, beq_iff_eq]
    omega
  have h2 : (n == 0 || n == 1) = inB n 0 1 := by
    rw [Bool.eq_iff_iff, inB_iff, Bool.or_eq_true, beq_iff_eq, beq_iff_eq]
    omega
  simp only [tab, List.mem_cons, List.not_mem_nil, or_false] at hr
  rcases hr with rfl | rfl | rfl | rfl | rfl | rfl | rfl | rfl | rfl | rfl | rfl | rfl | rfl | rfl | rfl <;> first | rfl | exact h1 | exact h2
end Go.Proofs.Ytppjmmdiglnkfaa
namespace Go.Proofs.Ytppjmmdiglnkfaa
set_option maxRecDepth 100000
open Go.ChangeShapes Go.WideShapes Go.ChangeAt Go.RowKit Go.PlainAid

def cells5 (a b c d e : Int) : Array Value := #[.int .i64 a, .int .i64 b, .int .i64 c, .int .i64 d, .int .i64 e]
theorem one5 (a b c d e : Int) : (cells5 a b c d e).all (·.oneCell') = true := by simp [cells5, Value.oneCell']
/-- What find tells. -/
def foundV : Option RowV → Value
  | none => .tuple #[.agg #[.int .i64 0, .int .i64 0, .int .i64 0, .int .i64 0, .int .i64 0], .bool false]
  | some r => .tuple #[.agg #[.int .i64 r.kind, .int .i64 r.meth, .int .i64 r.needs, .int .i64 r.low, .int .i64 r.high], .bool true]
end Go.Proofs.Ytppjmmdiglnkfaa
namespace Go.Proofs.Ytppjmmdiglnkfaa
set_option maxRecDepth 100000
open Go.ChangeShapes Go.WideShapes Go.ChangeAt Go.RowKit Go.PlainAid

/-- An operation. -/
structure OpV where
  id : Int
  proc : Int
  obj : Int
  kind : Int
  meth : Int
  arg : Int
  sec : Int
  done : Bool
  res : Int
  inv : Int
  ret : Int
def namedB (o : OpV) : Bool := inB o.id 1 1073741824 && inB o.proc 0 1023 && inB o.obj 0 1023
def resB (o : OpV) (low high : Int) : Bool := if o.done then inB o.res low high else o.res == 0
def fitB (o : OpV) (r : RowV) : Bool := argB o.arg (decide (1 ≤ r.needs)) && argB o.sec (decide (2 ≤ r.needs)) && resB o r.low r.high
def ruledB (o : OpV) : Bool := match ruleOf o.kind o.meth with
  | none => false
  | some r => fitB o r
def timedB (o : OpV) : Bool := inB o.inv 0 1099511627776 && (if o.done then decide (o.inv < o.ret) && decide (o.ret ≤ 1099511627776) else o.ret == 0)
/-- What Check answers. -/
def checkZ (o : OpV) : Int := if namedB o then (if ruledB o then (if timedB o then 0 else 31) else 33) else 30
theorem ruled_none {o : OpV} (h : ruleOf o.kind o.meth = none) : ruledB o = false := by unfold ruledB; rw [h]
theorem ruled_some {o : OpV} {r : RowV} (h : ruleOf o.kind o.meth = some r) : ruledB o = fitB o r := by unfold ruledB; rw [h]

end Go.Proofs.Ytppjmmdiglnkfaa
namespace Go.Proofs.Ytppjmmdiglnkfaa
set_option maxRecDepth 100000
open Go.ChangeShapes Go.WideShapes Go.ChangeAt Go.RowKit Go.PlainAid

theorem heap_inO {w : World} {k : Nat} {o : Obj} (h : w.heap[k]? = some o) : k < w.heap.size := (Array.getElem?_eq_some_iff.1 h).1
/-- An operation in a block of its own. -/
def OpAt (w : World) (b : Nat) (o : OpV) : Prop := w.heap[b]? = some (.cells #[Value.int .i64 o.id, Value.int .i64 o.proc, Value.int .i64 o.obj, Value.int .i64 o.kind, Value.int .i64 o.meth, Value.int .i64 o.arg, Value.int .i64 o.sec, Value.bool o.done, Value.int .i64 o.res, Value.int .i64 o.inv, Value.int .i64 o.ret] 43 (0, 0))
theorem OpAt.cell {w : World} {b : Nat} {o : OpV} (h : OpAt w b o) : w.cell? ⟨b, 0, none⟩ = some (.int .i64 o.id) ∧ w.cell? ⟨b, 1, none⟩ = some (.int .i64 o.proc) ∧ w.cell? ⟨b, 2, none⟩ = some (.int .i64 o.obj) ∧ w.cell? ⟨b, 3, none⟩ = some (.int .i64 o.kind) ∧ w.cell? ⟨b, 4, none⟩ = some (.int .i64 o.meth) ∧
    w.cell? ⟨b, 5, none⟩ = some (.int .i64 o.arg) ∧ w.cell? ⟨b, 6, none⟩ = some (.int .i64 o.sec) ∧ w.cell? ⟨b, 7, none⟩ = some (.bool o.done) ∧ w.cell? ⟨b, 8, none⟩ = some (.int .i64 o.res) ∧ w.cell? ⟨b, 9, none⟩ = some (.int .i64 o.inv) ∧ w.cell? ⟨b, 10, none⟩ = some (.int .i64 o.ret) := by
  unfold OpAt at h
  refine ⟨?_, ?_, ?_, ?_, ?_, ?_, ?_, ?_, ?_, ?_, ?_⟩ <;> (rw [cell_of_row _ _ _ _ _ _ h]; rfl)
theorem OpAt.on {w w' : World} {b : Nat} {o : OpV} (h : OpAt w b o) (hb : Below w.heap.size w w') : OpAt w' b o := (hb.block b (heap_inO h)).trans h
theorem OpAt.box (w : World) (o : OpV) : OpAt (w.alloc (.cells #[Value.int .i64 o.id, Value.int .i64 o.proc, Value.int .i64 o.obj, Value.int .i64 o.kind, Value.int .i64 o.meth, Value.int .i64 o.arg, Value.int .i64 o.sec, Value.bool o.done, Value.int .i64 o.res, Value.int .i64 o.inv, Value.int .i64 o.ret] 43)) w.heap.size o := heap_alloc_new _ _
theorem resB_no {o : OpV} (h : o.done = false) (low high : Int) : resB o low high = (o.res == 0) := by unfold resB; rw [h]; rfl
theorem resB_yes {o : OpV} (h : o.done = true) (low high : Int) : resB o low high = inB o.res low high := by unfold resB; rw [h]; rfl
end Go.Proofs.Ytppjmmdiglnkfaa
