/- Plain: operations of a segment as bits of a number. Maps in memory as functions of their keys, whatever type these are of. Package lin: the types of its maps. -/
import Derived.Test.YtpooekmogfkkjaaRows
import Derived.Test.YtpooekmogfkkjaaGA
import Derived.Laws.Entries
import Derived.IntWalk
import Derived.Maps.OwnSet
import Derived.DeepKeys4
import Derived.StringKeys
namespace Go.Proofs.Ytpooekmogfkkjaa
set_option maxRecDepth 100000
open Go.ChangeShapes Go.WideShapes Go.ChangeAt Go.RowKit Go.PlainAid
namespace Ln
theorem u32_wrap (a : Nat) (h : a < 4294967296) : IntKind.u32.wrap (a : Int) = a := by simp [IntKind.wrap, IntKind.signed, IntKind.bits]; omega
theorem ofInt_nat (a : Nat) : BitVec.ofInt 32 (a : Int) = BitVec.ofNat 32 a := by
  apply BitVec.eq_of_toNat_eq
  simp
theorem or_u32 (a b : Nat) (ha : a < 4294967296) (hb : b < 4294967296) : bits .or .u32 (a : Int) (b : Int) = ((a ||| b : Nat) : Int) := by
  have h : a ||| b < 2 ^ 32 := Nat.or_lt_two_pow (by simpa using ha) (by simpa using hb)
  unfold bits
  show IntKind.u32.wrap (((BitVec.ofInt 32 (a : Int)) ||| (BitVec.ofInt 32 (b : Int))).toNat : Int) = _
  rw [ofInt_nat, ofInt_nat, BitVec.toNat_or, BitVec.toNat_ofNat, BitVec.toNat_ofNat, Nat.mod_eq_of_lt (by simpa using ha), Nat.mod_eq_of_lt (by simpa using hb)]
  exact u32_wrap _ (by simpa using h)
theorem and_u32 (a b : Nat) (ha : a < 4294967296) (hb : b < 4294967296) : bits .and .u32 (a : Int) (b : Int) = ((a &&& b : Nat) : Int) := by
  have h : a &&& b < 2 ^ 32 := Nat.and_lt_two_pow a (by simpa using hb)
  unfold bits
  show IntKind.u32.wrap (((BitVec.ofInt 32 (a : Int)) &&& (BitVec.ofInt 32 (b : Int))).toNat : Int) = _
  rw [ofInt_nat, ofInt_nat, BitVec.toNat_and, BitVec.toNat_ofNat, BitVec.toNat_ofNat, Nat.mod_eq_of_lt (by simpa using ha), Nat.mod_eq_of_lt (by simpa using hb)]
  exact u32_wrap _ (by simpa using h)
/-- Bits of the one that the other lacks. -/
def notN (a b : Nat) : Nat := (BitVec.ofNat 32 a &&& ~~~(BitVec.ofNat 32 b)).toNat
theorem andNot_u32 (a b : Nat) : bits .andNot .u32 (a : Int) (b : Int) = (notN a b : Int) := by
  unfold bits notN
  show IntKind.u32.wrap (((BitVec.ofInt 32 (a : Int)) &&& ~~~(BitVec.ofInt 32 (b : Int))).toNat : Int) = _
  rw [ofInt_nat, ofInt_nat]
  exact u32_wrap _ (BitVec.isLt _)
theorem notN_zero {a b : Nat} (ha : a < 4294967296) : notN a b = 0 ↔ ∀ k, a.testBit k = true → b.testBit k = true := by
  have key : ∀ k, (notN a b).testBit k = (decide (k < 32) && a.testBit k && !b.testBit k) := fun k => by
    unfold notN
    rw [BitVec.testBit_toNat, BitVec.getLsbD_and, BitVec.getLsbD_not, BitVec.getLsbD_ofNat, BitVec.getLsbD_ofNat]
    by_cases h : k < 32 <;> simp [h]
  constructor
  · intro h k hk
    have h1 := key k
    rw [h, Nat.zero_testBit, hk] at h1
    have hlt : k < 32 := Classical.byContradiction fun c => by
      have : a.testBit k = false := Nat.testBit_lt_two_pow (Nat.lt_of_lt_of_le (show a < 2 ^ 32 by simpa using ha) (Nat.pow_le_pow_right (by decide) (by omega)))
      rw [this] at hk
      cases hk
    simp [hlt] at h1
    exact h1
  · intro h
    refine Nat.eq_of_testBit_eq fun k => ?_
    rw [key k, Nat.zero_testBit]
    cases c : a.testBit k with
    | false => simp
    | true => rw [h k c]; simp
theorem and_pow_zero {a i : Nat} : a &&& 2 ^ i = 0 ↔ a.testBit i = false := by
  constructor
  · intro h
    have h1 := congrArg (fun n => n.testBit i) h
    simpa [Nat.testBit_and, Nat.testBit_two_pow_self] using h1
  · intro h
    refine Nat.eq_of_testBit_eq fun k => ?_
    rw [Nat.testBit_and, Nat.zero_testBit, Nat.testBit_two_pow]
    by_cases c : i = k
    · subst c; rw [h]; rfl
    · simp [c]
/-- A number has just these bits. -/
structure Mk (m : Nat) (P : Nat → Bool) : Prop where
  lt : m < 65536
  bit : ∀ k, m.testBit k = P k
theorem Mk.zero : Mk 0 fun _ => false := ⟨by decide, fun k => Nat.zero_testBit k⟩
theorem Mk.set {m : Nat} {P : Nat → Bool} (h : Mk m P) {i : Nat} (hi : i < 16) : Mk (m ||| 2 ^ i) fun k => P k || decide (k = i) := by
  refine ⟨?_, fun k => ?_⟩
  · have : 2 ^ i < 2 ^ 16 := Nat.pow_lt_pow_right (by decide) hi
    have := Nat.or_lt_two_pow (n := 16) (by simpa using h.lt) this
    simpa using this
  · rw [Nat.testBit_or, h.bit k, Nat.testBit_two_pow]
    congr 1
    exact decide_eq_decide.2 eq_comm
theorem Mk.eq {m n : Nat} {P : Nat → Bool} (h : Mk m P) (k : Mk n P) : m = n := Nat.eq_of_testBit_eq fun j => (h.bit j).trans (k.bit j).symm
theorem Mk.of {m : Nat} {P Q : Nat → Bool} (h : Mk m P) (e : ∀ k, P k = Q k) : Mk m Q := ⟨h.lt, fun k => (h.bit k).trans (e k)⟩
theorem pow_lt16 {i : Nat} (hi : i < 16) : 2 ^ i < 4294967296 := Nat.lt_of_lt_of_le (Nat.pow_lt_pow_right (by decide) hi) (by decide)
end Ln
end Go.Proofs.Ytpooekmogfkkjaa
namespace Go.Proofs.Ytpooekmogfkkjaa
set_option maxRecDepth 100000
open Go.ChangeShapes Go.WideShapes Go.ChangeAt Go.RowKit Go.PlainAid Go.ChangeMaps Go.MapKept
open Go.WideElems (rd rg pl)
open Go.Maps (Keyed)
namespace Lm
/-- What a type of maps is. -/
structure Ty (α β : Type) where
  kt : TypeId
  et : TypeId
  mt : TypeId
  zero : Value
  kv : α → Value
  ev : β → Value
  code : β → DataW Unit
  ok : α → Prop
variable {α β : Type}
structure Good (T : Ty α β) : Prop where
  keyed : Keyed Try.prog T.kt
  mtOf : Try.prog.underlying T.mt = some (.map T.kt T.et)
  z : ∀ w, (zeroValue T.et).run Try.prog w = .ok T.zero w
  key : ∀ a, T.ok a → ∃ l, keyOf Try.prog T.kt (T.kv a) = some l
  kinj : ∀ a b, T.kv a = T.kv b → a = b
  einj : ∀ a b, T.ev a = T.ev b → a = b
  cinj : ∀ a b, T.code a = T.code b → a = b
open Classical in
/-- How an element reads. -/
noncomputable def R (T : Ty α β) (v : Value) : Option (DataW Unit × List MemPlace) := if h : ∃ b, v = T.ev b then some (T.code h.choose, []) else none
theorem R_mk {T : Ty α β} (hg : Good T) (b : β) : R T (T.ev b) = some (T.code b, []) := by
  have hex : ∃ c, T.ev b = T.ev c := ⟨b, rfl⟩
  unfold R
  rw [dif_pos hex]
  rw [← hg.einj _ _ hex.choose_spec]
theorem R_inv {T : Ty α β} {v : Value} {y : DataW Unit × List MemPlace} (h : R T v = some y) : ∃ b, v = T.ev b ∧ y = (T.code b, []) := by
  unfold R at h
  split at h
  · rename_i hex
    exact ⟨_, hex.choose_spec, by simpa using h.symm⟩
  · cases h
noncomputable def Dm (T : Ty α β) (es : Array MapEntry) : DataW Unit := .map ((es.toList.map (rg Try.prog T.kt (R T))).foldr DataW.insert [])
/-- A map that holds just G, in at most n entries. -/
structure Is (T : Ty α β) (es : Array MapEntry) (clock n : Nat) (G : α → Option β) : Prop where
  fit : Go.WideElems.Fit Try.prog T.kt (R T) es clock
  size : es.size ≤ n
  has : ∀ a l, keyOf Try.prog T.kt (T.kv a) = some l → Maps.has (Dm T es) l = (G a).isSome
  get : ∀ a b l, keyOf Try.prog T.kt (T.kv a) = some l → G a = some b → ∀ zd, (Dm T es).atKey l zd = T.code b
theorem empty (T : Ty α β) (clock n : Nat) : Is T #[] clock n fun _ => none := ⟨⟨by simp, stamped_empty clock, by simp⟩, Nat.zero_le _, fun a l h => rfl, fun a b l h e => (by cases e)⟩
open Classical in
noncomputable def put (G : α → Option β) (a : α) (b : β) : α → Option β := fun i => if i = a then some b else G i
theorem put_same (G : α → Option β) (a : α) (b : β) : put G a b a = some b := by simp [put]
theorem put_other (G : α → Option β) (a : α) (b : β) {i : α} (h : i ≠ a) : put G a b i = G i := by simp [put, h]
theorem Is.look {T : Ty α β} (hg : Good T) {es : Array MapEntry} {clock n : Nat} {G : α → Option β} (h : Is T es clock n G) {w : World} {m : Nat} (hb : w.heap[m]? = some (.map es clock)) (a : α) (ha : T.ok a) (ok : Bool) :
    (Instr.lookup T.mt (.map (some m)) (T.kv a) ok).run Try.prog w = .ok (match G a with | some b => (if ok then .tuple #[T.ev b, .bool true] else T.ev b) | none => (if ok then .tuple #[T.zero, .bool false] else T.zero)) w := by
  obtain ⟨l, hl⟩ := hg.key a ha
  cases hG : G a with
  | none =>
    rcases Maps.fit_look ok hg.keyed hg.mtOf (hg.z w) hb h.fit hl with ⟨hrun, _, _⟩ | ⟨e0, y, _, _, _, _, hat, _⟩
    · exact hrun
    · have h1 : Maps.has (Dm T es) l = true := Maps.has_true_of_atKey hat
      rw [h.has a l hl, hG] at h1
      cases h1
  | some b =>
    rcases Maps.fit_look ok hg.keyed hg.mtOf (hg.z w) hb h.fit hl with ⟨_, _, hat⟩ | ⟨e0, y, _, _, hrun, hR, hat, _⟩
    · have h1 : Maps.has (Dm T es) l = false := Maps.has_false_of_atKey hat
      rw [h.has a l hl, hG] at h1
      cases h1
    · obtain ⟨c, hv, rfl⟩ := R_inv hR
      have e := (h.get a b l hl hG .nil).symm.trans (hat .nil)
      obtain rfl := hg.cinj _ _ e
      rw [hv] at hrun
      exact hrun
theorem Is.put {T : Ty α β} (hg : Good T) {es : Array MapEntry} {clock n : Nat} {G : α → Option β} (h : Is T es clock n G) {w : World} {m : Nat} (hb : w.heap[m]? = some (.map es clock)) (hc : n < 9000000000000000000) (a : α) (ha : T.ok a) (b : β) :
    ∃ es' clock', (Instr.mapUpdate T.mt (.map (some m)) (T.kv a) (T.ev b)).run Try.prog w = .ok () (setBlock w m (.map es' clock')) ∧ Is T es' clock' (n + 1) (Lm.put G a b) := by
  obtain ⟨l, hl⟩ := hg.key a ha
  have hsz := h.size
  obtain ⟨es', clock', hrun, F', hput, _⟩ := Maps.fit_store (R' := R T) hg.keyed hg.mtOf hb h.fit (by unfold maxLen; omega) (fun _ _ _ _ hz => hz) hl (R_mk hg b)
  have hD : Dm T es' = (Dm T es).put l (T.code b) := by unfold Dm; rw [hput]; rfl
  have hM : Maps.IsMap (Dm T es) := ⟨_, rfl⟩
  have hKL : WideAt.IsKeyLit l := hg.keyed.key hl
  have hne : ∀ i k, keyOf Try.prog T.kt (T.kv i) = some k → i ≠ a → k ≠ l := fun i k hk hi e => hi (hg.kinj _ _ (hg.keyed.inj hk (e ▸ hl)))
  refine ⟨es', clock', hrun, F', ?_, fun i k hk => ?_, fun i c k hk hi => ?_⟩
  · have e1 : es'.size = ((es'.toList.map (rg Try.prog T.kt (R T))).foldr DataW.insert []).length := by rw [length_sorted]; simp
    have e2 : es.size = ((es.toList.map (rg Try.prog T.kt (R T))).foldr DataW.insert []).length := by rw [length_sorted]; simp
    rw [e1, hput]
    unfold putKey
    rw [length_insert]
    have e3 := List.length_filter_le (notKey l) ((es.toList.map (rg Try.prog T.kt (R T))).foldr DataW.insert [])
    omega
  · rw [hD]
    by_cases e : i = a
    · subst e
      obtain rfl : k = l := Option.some.inj (hk.symm.trans hl)
      rw [Maps.has_put_same hM hKL, Lm.put_same]; rfl
    · rw [Maps.has_put_other (hne i k hk e), h.has i k hk, Lm.put_other _ _ _ e]
  · rw [hD]
    by_cases e : i = a
    · subst e
      obtain rfl : k = l := Option.some.inj (hk.symm.trans hl)
      rw [Lm.put_same] at hi
      obtain rfl := Option.some.inj hi
      exact fun zd => Maps.atKey_put_same hM hKL _ _
    · rw [Lm.put_other _ _ _ e] at hi
      exact fun zd => by rw [Maps.atKey_put_other (hne i k hk e), h.get i c k hk hi]
/-- A map in a block. -/
def At (T : Ty α β) (w : World) (m n : Nat) (G : α → Option β) : Prop := ∃ es clock, w.heap[m]? = some (.map es clock) ∧ Is T es clock n G
theorem At.lt {T : Ty α β} {w : World} {m n : Nat} {G : α → Option β} (h : At T w m n G) : m < w.heap.size := by
  obtain ⟨es, c, hb, _⟩ := h
  exact (Array.getElem?_eq_some_iff.1 hb).1
theorem At.of {T : Ty α β} {w w' : World} {m n : Nat} {G : α → Option β} (h : At T w m n G) (e : w'.heap[m]? = w.heap[m]?) : At T w' m n G := by
  obtain ⟨es, c, hb, hi⟩ := h
  exact ⟨es, c, e.trans hb, hi⟩
theorem At.on {T : Ty α β} {w w' : World} {m n : Nat} {G : α → Option β} (h : At T w m n G) (hb : Below w.heap.size w w') : At T w' m n G := h.of (hb.block m h.lt)
theorem At.more {T : Ty α β} {w : World} {m n k : Nat} {G : α → Option β} (h : At T w m n G) (hk : n ≤ k) : At T w m k G := by
  obtain ⟨es, c, hb, hi⟩ := h
  exact ⟨es, c, hb, hi.fit, Nat.le_trans hi.size hk, hi.has, hi.get⟩
theorem At.look {T : Ty α β} (hg : Good T) {w : World} {m n : Nat} {G : α → Option β} (h : At T w m n G) (a : α) (ha : T.ok a) (ok : Bool) :
    (Instr.lookup T.mt (.map (some m)) (T.kv a) ok).run Try.prog w = .ok (match G a with | some b => (if ok then .tuple #[T.ev b, .bool true] else T.ev b) | none => (if ok then .tuple #[T.zero, .bool false] else T.zero)) w := by
  obtain ⟨es, c, hb, hi⟩ := h
  exact hi.look hg hb a ha ok
theorem keeps_set {w : World} {m : Nat} {es : Array MapEntry} {clock : Nat} (o' : Obj) (hb : w.heap[m]? = some (.map es clock)) : Keeps (fun k => k = m) w (setBlock w m o') :=
  ⟨rfl, rfl, rfl, by simp [setBlock], fun k _ ho => heap_setBlock_other hb o' ho⟩
theorem At.put {T : Ty α β} (hg : Good T) {w : World} {m n : Nat} {G : α → Option β} (h : At T w m n G) (hc : n < 9000000000000000000) (a : α) (ha : T.ok a) (b : β) :
    ∃ w', (Instr.mapUpdate T.mt (.map (some m)) (T.kv a) (T.ev b)).run Try.prog w = .ok () w' ∧ At T w' m (n + 1) (Lm.put G a b) ∧ Keeps (fun k => k = m) w w' := by
  obtain ⟨es, c, hb, hi⟩ := h
  obtain ⟨es', c', hr, hi'⟩ := hi.put hg hb hc a ha b
  exact ⟨_, hr, ⟨es', c', heap_setBlock_same hb _, hi'⟩, keeps_set _ hb⟩
end Lm
end Go.Proofs.Ytpooekmogfkkjaa
namespace Go.Proofs.Ytpooekmogfkkjaa
set_option maxRecDepth 100000
open Go.ChangeShapes Go.WideShapes Go.ChangeAt Go.RowKit Go.PlainAid Go.ChangeMaps Go.MapKept
namespace Ln
theorem laidOut : laidOutB Try.prog = true := by kernel_rfl
/-- map[string]int -/
def tNum : Lm.Ty ByteArray Int := ⟨9, 3, 83, .int .i64 0, fun t => .string t, fun n => .int .i64 n, fun n => .lit (.int .i64 n), fun t => t.size ≤ maxLen⟩
theorem tNum_good : Lm.Good tNum where
  keyed := Maps.string_keyed Try.underlying9
  mtOf := Try.underlying83
  z := fun w => (by kernel_rfl : (zeroValue 3).run Try.prog w = .ok (.int .i64 0) w)
  key := fun a ha => ⟨_, WideMaps.keyOf_string_mk Try.underlying9 ha⟩
  kinj := fun a b h => Value.string.inj h
  einj := fun a b h => (Value.int.inj h).2
  cinj := fun a b h => by cases h; rfl
def kMv (p : Nat × Nat) : Value := .agg #[.int .i64 (p.1 : Int), .int .i64 (p.2 : Int)]
/-- map[move]int -/
def tMv : Lm.Ty (Nat × Nat) Int := ⟨132, 3, 84, .int .i64 0, kMv, fun n => .int .i64 n, fun n => .lit (.int .i64 n), fun p => p.1 < 1000000000 ∧ p.2 < 1000000000⟩
theorem wf_i64 {n : Nat} (h : n < 1000000000) : (Lit.int .i64 (n : Int)).wf = true := WalkArith.wf_i64 ⟨by omega, by omega⟩
theorem types_size : ∃ d, Try.prog.types.size = d + 1 := ⟨Try.prog.types.size - 1, by have : 0 < Try.prog.types.size := of_decide_eq_true (by kernel_rfl); omega⟩
theorem key_mv (p : Nat × Nat) (h : p.1 < 1000000000 ∧ p.2 < 1000000000) : ∃ l, keyOf Try.prog 132 (kMv p) = some l := by
  obtain ⟨d, hd⟩ := types_size
  have h1 : Try.prog.keyType 132 = true := by kernel_rfl
  have h2 : Try.prog.cellsOf 132 = 2 := by kernel_rfl
  have h3 : Try.prog.cellsOf 3 = 1 := by kernel_rfl
  have h4 : (kMv p).formed Try.prog 132 = true := by simp [kMv, Value.formed, Try.underlying132, h2]
  unfold keyOf
  rw [Try.underlying132]
  simp only [h1, h4, Bool.and_self, if_true]
  have h5 : Try.prog.keyLits (Try.prog.types.size + 1) 132 (kMv p).cells.toList = some [.int .i64 (p.1 : Int), .int .i64 (p.2 : Int)] := by
    rw [hd]
    simp [Program.keyLits, Try.underlying132, Try.underlying3, kMv, Value.cells, h2, h3, wf_i64 h.1, wf_i64 h.2]
  rw [h5]
  exact ⟨_, rfl⟩
theorem tMv_good : Lm.Good tMv where
  keyed := Maps.Keyed.of_law (deep_law_laid laidOut (m := 2) (by omega) (of_decide_eq_true (by kernel_rfl)) (by kernel_rfl) (by kernel_rfl))
  mtOf := Try.underlying84
  z := fun w => (by kernel_rfl : (zeroValue 3).run Try.prog w = .ok (.int .i64 0) w)
  key := key_mv
  kinj := fun a b h => by
    have := Array.mk.inj (Value.agg.inj h)
    simp at this
    exact Prod.ext (by omega) (by omega)
  einj := fun a b h => (Value.int.inj h).2
  cinj := fun a b h => by cases h; rfl
def kSp (p : Nat × Nat) : Value := .agg #[.int .u32 (p.1 : Int), .int .i64 (p.2 : Int)]
/-- map[spot]struct{} -/
def tSp : Lm.Ty (Nat × Nat) Unit := ⟨89, 97, 94, .agg #[], kSp, fun _ => .agg #[], fun _ => .nil, fun p => p.1 < 65536 ∧ p.2 < 1000000000⟩
theorem wf_u32 {n : Nat} (h : n < 65536) : (Lit.int .u32 (n : Int)).wf = true := by simp [Lit.wf, IntKind.min, IntKind.max, IntKind.signed, IntKind.bits]; omega
theorem key_sp (p : Nat × Nat) (h : p.1 < 65536 ∧ p.2 < 1000000000) : ∃ l, keyOf Try.prog 89 (kSp p) = some l := by
  obtain ⟨d, hd⟩ := types_size
  have h1 : Try.prog.keyType 89 = true := by kernel_rfl
  have h2 : Try.prog.cellsOf 89 = 2 := by kernel_rfl
  have h3 : Try.prog.cellsOf 3 = 1 := by kernel_rfl
  have h3b : Try.prog.cellsOf 85 = 1 := by kernel_rfl
  have h4 : (kSp p).formed Try.prog 89 = true := by simp [kSp, Value.formed, Try.underlying89, h2]
  unfold keyOf
  rw [Try.underlying89]
  simp only [h1, h4, Bool.and_self, if_true]
  have h5 : Try.prog.keyLits (Try.prog.types.size + 1) 89 (kSp p).cells.toList = some [.int .u32 (p.1 : Int), .int .i64 (p.2 : Int)] := by
    rw [hd]
    simp [Program.keyLits, Try.underlying89, Try.underlying3, Try.underlying85, kSp, Value.cells, h2, h3, h3b, wf_u32 h.1, wf_i64 h.2]
  rw [h5]
  exact ⟨_, rfl⟩
theorem tSp_good : Lm.Good tSp where
  keyed := Maps.Keyed.of_law (deep_law_laid laidOut (m := 2) (by omega) (of_decide_eq_true (by kernel_rfl)) (by kernel_rfl) (by kernel_rfl))
  mtOf := Try.underlying94
  z := fun w => (by kernel_rfl : (zeroValue 97).run Try.prog w = .ok (.agg #[]) w)
  key := key_sp
  kinj := fun a b h => by
    have := Array.mk.inj (Value.agg.inj h)
    simp at this
    exact Prod.ext (by omega) (by omega)
  einj := fun a b _ => rfl
  cinj := fun a b _ => rfl
/-- map[string]bool -/
def tMet : Lm.Ty ByteArray Bool := ⟨9, 4, 100, .bool false, fun t => .string t, fun n => .bool n, fun n => .lit (.bool n), fun t => t.size ≤ maxLen⟩
theorem tMet_good : Lm.Good tMet where
  keyed := Maps.string_keyed Try.underlying9
  mtOf := Try.underlying100
  z := fun w => (by kernel_rfl : (zeroValue 4).run Try.prog w = .ok (.bool false) w)
  key := fun a ha => ⟨_, WideMaps.keyOf_string_mk Try.underlying9 ha⟩
  kinj := fun a b h => Value.string.inj h
  einj := fun a b h => Value.bool.inj h
  cinj := fun a b h => by cases h; rfl
end Ln
end Go.Proofs.Ytpooekmogfkkjaa
