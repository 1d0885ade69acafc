/- Maps in memory as functions of their keys, whatever type these are of. Package lin: a search in memory; at. -/
import Derived.Test.YtppjmmdiglnkfaaQab
import Derived.Test.YtppjmmdiglnkfaaRows
import Derived.Maps.OwnSet
import Derived.DeepKeys4
import Derived.Test.YtppjmmdiglnkfaaQao
namespace Go.Proofs.Ytppjmmdiglnkfaa
set_option maxRecDepth 100000
open Go.ChangeShapes Go.WideShapes Go.ChangeAt Go.RowKit Go.PlainAid Go.ChangeMaps Go.MapKept
open Go.WideElems (rd rg pl)
open Go.Maps (Keyed)
namespace Lm
/-- What a type of maps is. -/
structure Ty (α β : Type) where
  kt : TypeId
  et : TypeId
  mt : TypeId
  zero : Value
  kv : α → Value
  ev : β → Value
  code : β → DataW Unit
  ok : α → Prop
variable {α β : Type}
structure Good (T : Ty α β) : Prop where
  keyed : Keyed Try.prog T.kt
  mtOf : Try.prog.underlying T.mt = some (.map T.kt T.et)
  z : ∀ w, (zeroValue T.et).run Try.prog w = .ok T.zero w
  key : ∀ a, T.ok a → ∃ l, keyOf Try.prog T.kt (T.kv a) = some l
  kinj : ∀ a b, T.kv a = T.kv b → a = b
  einj : ∀ a b, T.ev a = T.ev b → a = b
  cinj : ∀ a b, T.code a = T.code b → a = b
open Classical in
/-- How an element reads. -/
noncomputable def R (T : Ty α β) (v : Value) : Option (DataW Unit × List MemPlace) := if h : ∃ b, v = T.ev b then some (T.code h.choose, []) else none
theorem R_mk {T : Ty α β} (hg : Good T) (b : β) : R T (T.ev b) = some (T.code b, []) := by
  have hex : ∃ c, T.ev b = T.ev c := ⟨b, rfl⟩
  unfold R
  rw [dif_pos hex]
  rw [← hg.einj _ _ hex.choose_spec]
theorem R_inv {T : Ty α β} {v : Value} {y : DataW Unit × List MemPlace} (h : R T v = some y) : ∃ b, v = T.ev b ∧ y = (T.code b, []) := by
  unfold R at h
  split at h
  · rename_i hex
    exact ⟨_, hex.choose_spec, by simpa using h.symm⟩
  · cases h
noncomputable def Dm (T : Ty α β) (es : Array MapEntry) : DataW Unit := .map ((es.toList.map (rg Try.prog T.kt (R T))).foldr DataW.insert [])
/-- A map that holds just G, in at most n entries. -/
structure Is (T : Ty α β) (es : Array MapEntry) (clock n : Nat) (G : α → Option β) : Prop where
  fit : Go.WideElems.Fit Try.prog T.kt (R T) es clock
  size : es.size ≤ n
  has : ∀ a l, keyOf Try.prog T.kt (T.kv a) = some l → Maps.has (Dm T es) l = (G a).isSome
  get : ∀ a b l, keyOf Try.prog T.kt (T.kv a) = some l → G a = some b → ∀ zd, (Dm T es).atKey l zd = T.code b
theorem empty (T : Ty α β) (clock n : Nat) : Is T #[] clock n fun _ => none := ⟨⟨by simp, stamped_empty clock, by simp⟩, Nat.zero_le _, fun a l h => rfl, fun a b l h e => (by cases e)⟩
open Classical in
noncomputable def put (G : α → Option β) (a : α) (b : β) : α → Option β := fun i => if i = a then some b else G i
theorem put_same (G : α → Option β) (a : α) (b : β) : put G a b a = some b := by simp [put]
theorem put_other (G : α → Option β) (a : α) (b : β) {i : α} (h : i ≠ a) : put G a b i = G i := by simp [put, h]
theorem Is.look {T : Ty α β} (hg : Good T) {es : Array MapEntry} {clock n : Nat} {G : α → Option β} (h : Is T es clock n G) {w : World} {m : Nat} (hb : w.heap[m]? = some (.map es clock)) (a : α) (ha : T.ok a) (ok : Bool) :
    (Instr.lookup T.mt (.map (some m)) (T.kv a) ok).run Try.prog w = .ok (match G a with | some b => (if ok then .tuple #[T.ev b, .bool true] else T.ev b) | none => (if ok then .tuple #[T.zero, .bool false] else T.zero)) w := by
  obtain ⟨l, hl⟩ := hg.key a ha
  cases hG : G a with
  | none =>
    rcases Maps.fit_look ok hg.keyed hg.mtOf (hg.z w) hb h.fit hl with ⟨hrun, _, _⟩ | ⟨e0, y, _, _, _, _, hat, _⟩
    · exact hrun
    · have h1 : Maps.has (Dm T es) l = true := Maps.has_true_of_atKey hat
      rw [h.has a l hl, hG] at h1
      cases h1
  | some b =>
    rcases Maps.fit_look ok hg.keyed hg.mtOf (hg.z w) hb h.fit hl with ⟨_, _, hat⟩ | ⟨e0, y, _, _, hrun, hR, hat, _⟩
    · have h1 : Maps.has (Dm T es) l = false := Maps.has_false_of_atKey hat
      rw [h.has a l hl, hG] at h1
      cases h1
    · obtain ⟨c, hv, rfl⟩ := R_inv hR
      have e := (h.get a b l hl hG .nil).symm.trans (hat .nil)
      obtain rfl := hg.cinj _ _ e
      rw [hv] at hrun
      exact hrun
theorem Is.put {T : Ty α β} (hg : Good T) {es : Array MapEntry} {clock n : Nat} {G : α → Option β} (h : Is T es clock n G) {w : World} {m : Nat} (hb : w.heap[m]? = some (.map es clock)) (hc : n < 9000000000000000000) (a : α) (ha : T.ok a) (b : β) :
    ∃ es' clock', (Instr.mapUpdate T.mt (.map (some m)) (T.kv a) (T.ev b)).run Try.prog w = .ok () (setBlock w m (.map es' clock')) ∧ Is T es' clock' (n + 1) (Lm.put G a b) := by
  obtain ⟨l, hl⟩ := hg.key a ha
  have hsz := h.size
  obtain ⟨es', clock', hrun, F', hput, _⟩ := Maps.fit_store (R' := R T) hg.keyed hg.mtOf hb h.fit (by unfold maxLen; omega) (fun _ _ _ _ hz => hz) hl (R_mk hg b)
  have hD : Dm T es' = (Dm T es).put l (T.code b) := by unfold Dm; rw [hput]; rfl
  have hM : Maps.IsMap (Dm T es) := ⟨_, rfl⟩
  have hKL : WideAt.IsKeyLit l := hg.keyed.key hl
  have hne : ∀ i k, keyOf Try.prog T.kt (T.kv i) = some k → i ≠ a → k ≠ l := fun i k hk hi e => hi (hg.kinj _ _ (hg.keyed.inj hk (e ▸ hl)))
  refine ⟨es', clock', hrun, F', ?_, fun i k hk => ?_, fun i c k hk hi => ?_⟩
  · have e1 : es'.size = ((es'.toList.map (rg Try.prog T.kt (R T))).foldr DataW.insert []).length := by rw [length_sorted]; simp
    have e2 : es.size = ((es.toList.map (rg Try.prog T.kt (R T))).foldr DataW.insert []).length := by rw [length_sorted]; simp
    rw [e1, hput]
    unfold putKey
    rw [length_insert]
    have e3 := List.length_filter_le (notKey l) ((es.toList.map (rg Try.prog T.kt (R T))).foldr DataW.insert [])
    omega
  · rw [hD]
    by_cases e : i = a
    · subst e
      obtain rfl : k = l := Option.some.inj (hk.symm.trans hl)
      rw [Maps.has_put_same hM hKL, Lm.put_same]; rfl
    · rw [Maps.has_put_other (hne i k hk e), h.has i k hk, Lm.put_other _ _ _ e]
  · rw [hD]
    by_cases e : i = a
    · subst e
      obtain rfl : k = l := Option.some.inj (hk.symm.trans hl)
      rw [Lm.put_same] at hi
      obtain rfl := Option.some.inj hi
      exact fun zd => Maps.atKey_put_same hM hKL _ _
    · rw [Lm.put_other _ _ _ e] at hi
      exact fun zd => by rw [Maps.atKey_put_other (hne i k hk e), h.get i c k hk hi]
/-- A map in a block. -/
def At (T : Ty α β) (w : World) (m n : Nat) (G : α → Option β) : Prop := ∃ es clock, w.heap[m]? = some (.map es clock) ∧ Is T es clock n G
theorem At.lt {T : Ty α β} {w : World} {m n : Nat} {G : α → Option β} (h : At T w m n G) : m < w.heap.size := by
  obtain ⟨es, c, hb, _⟩ := h
  exact (Array.getElem?_eq_some_iff.1 hb).1
theorem At.of {T : Ty α β} {w w' : World} {m n : Nat} {G : α → Option β} (h : At T w m n G) (e : w'.heap[m]? = w.heap[m]?) : At T w' m n G := by
  obtain ⟨es, c, hb, hi⟩ := h
  exact ⟨es, c, e.trans hb, hi⟩
theorem At.on {T : Ty α β} {w w' : World} {m n : Nat} {G : α → Option β} (h : At T w m n G) (hb : Below w.heap.size w w') : At T w' m n G := h.of (hb.block m h.lt)
theorem At.more {T : Ty α β} {w : World} {m n k : Nat} {G : α → Option β} (h : At T w m n G) (hk : n ≤ k) : At T w m k G := by
  obtain ⟨es, c, hb, hi⟩ := h
  exact ⟨es, c, hb, hi.fit, Nat.le_trans hi.size hk, hi.has, hi.get⟩
theorem At.look {T : Ty α β} (hg : Good T) {w : World} {m n : Nat} {G : α → Option β} (h : At T w m n G) (a : α) (ha : T.ok a) (ok : Bool) :
    (Instr.lookup T.mt (.map (some m)) (T.kv a) ok).run Try.prog w = .ok (match G a with | some b => (if ok then .tuple #[T.ev b, .bool true] else T.ev b) | none => (if ok then .tuple #[T.zero, .bool false] else T.zero)) w := by
  obtain ⟨es, c, hb, hi⟩ := h
  exact hi.look hg hb a ha ok
theorem keeps_set {w : World} {m : Nat} {es : Array MapEntry} {clock : Nat} (o' : Obj) (hb : w.heap[m]? = some (.map es clock)) : Keeps (fun k => k = m) w (setBlock w m o') :=
  ⟨rfl, rfl, rfl, by simp [setBlock], fun k _ ho => heap_setBlock_other hb o' ho⟩
theorem At.put {T : Ty α β} (hg : Good T) {w : World} {m n : Nat} {G : α → Option β} (h : At T w m n G) (hc : n < 9000000000000000000) (a : α) (ha : T.ok a) (b : β) :
    ∃ w', (Instr.mapUpdate T.mt (.map (some m)) (T.kv a) (T.ev b)).run Try.prog w = .ok () w' ∧ At T w' m (n + 1) (Lm.put G a b) ∧ Keeps (fun k => k = m) w w' := by
  obtain ⟨es, c, hb, hi⟩ := h
  obtain ⟨es', c', hr, hi'⟩ := hi.put hg hb hc a ha b
  exact ⟨_, hr, ⟨es', c', heap_setBlock_same hb _, hi'⟩, keeps_set _ hb⟩
end Lm
end Go.Proofs.Ytppjmmdiglnkfaa
namespace Go.Proofs.Ytppjmmdiglnkfaa
set_option maxRecDepth 100000
open Go.ChangeShapes Go.WideShapes Go.ChangeAt Go.RowKit Go.PlainAid Go.Deep
namespace Ln
theorem pow_int (i : Nat) : (2 : Int) ^ i = ((2 ^ i : Nat) : Int) := by simp
theorem wrap_pow {i : Nat} (h : i < 16) : IntKind.u32.wrap ((2 : Int) ^ i) = (2 : Int) ^ i := by
  rw [pow_int]
  exact u32_wrap _ (pow_lt16 h)
/-- What a search is in memory: its block. -/
def srO (vo va : Value) (dn : Nat) (vs : Value) (mn mm : Nat) : Obj := .cells #[vo, va, .int .u32 (dn : Int), vs, .map (some mn), .map (some mm)] 119
/-- What is before each operation, as a row. -/
def ahO (ah : List Nat) : Obj := .cells (ah.map fun (a : Nat) => Value.int .u32 (a : Int)).toArray 68
/-- The operations that may be next at a spot. -/
def openP (ah : List Nat) (m : Nat) (i : Nat) : Bool := match ah[i]? with | some a => !m.testBit i && decide (notN a m = 0) | none => false
structure AtI (w wr : World) (ah : List Nat) (m : Nat) (st : Int) (i o : Nat) : Prop where
  mask : Mk o fun k => decide (k < i) && openP ah m k
  blk : wr.heap[w.heap.size + 2]? = some (.cells #[.int .u32 (m : Int), .int .i64 st, .int .u32 (o : Int)] 128)
  res : wr.heap[w.heap.size + 1]? = some (.cells #[.int .u32 0, .int .i64 0, .int .u32 0] 128)
  bel : Below w.heap.size w wr
theorem cells_thaw {w : World} {b : Nat} {c : Array Value} {T : TypeId} (h : w.heap[b]? = some (.cells c T (0, 0))) (o : Nat) : w.frozen? ⟨b, o, none⟩ = false := by simp [World.frozen?, h]
theorem AtI.set {w wr : World} {ah : List Nat} {m : Nat} {st : Int} {i o : Nat} (h : AtI w wr ah m st i o) (hp : openP ah m i = true) (hi : i < 16) : AtI w (wr.setCell ⟨w.heap.size + 1 + 1, 2, none⟩ (.int .u32 ((o ||| 2 ^ i : Nat) : Int))) ah m st (i + 1) (o ||| 2 ^ i) := by
  refine ⟨(h.mask.set hi).of fun k => ?_, ?_, ?_, ?_⟩
  · by_cases c : k < i
    · simp [c, show k < i + 1 by omega, show k ≠ i by omega]
    · by_cases c2 : k = i
      · subst c2; simp [hp]
      · simp [c, c2, show ¬ k < i + 1 by omega]
  · exact heap_setCell_same _ _ _ _ _ _ h.blk
  · rw [heap_setCell_other _ _ _ _ (show w.heap.size + 1 ≠ w.heap.size + 1 + 1 by omega)]
    exact h.res
  · have hk : Keeps (fun k => k = w.heap.size + 1 + 1) wr (wr.setCell ⟨w.heap.size + 1 + 1, 2, none⟩ (.int .u32 ((o ||| 2 ^ i : Nat) : Int))) := (Keeps.refl (fun k => k = w.heap.size + 1 + 1) wr).setCell (.inl (by rfl)) _
    exact h.bel.trans (hk.below (fun k e => by omega) h.bel.size)
set_option maxHeartbeats 4000000 in
theorem at_any {bs ba : Nat} {vo vs : Value} {dn mn mm : Nat} {ah : List Nat} {w : World} (hs : w.heap[bs]? = some (srO vo (.slice (some ⟨ba, 0, none⟩) ah.length ah.length) dn vs mn mm)) (ha : w.heap[ba]? = some (ahO ah)) (hl : ah.length ≤ 16) (hb : ∀ a ∈ ah, a < 65536)
    (m : Nat) (hm : m < 65536) (st : Int) : Calls Try.prog 71 #[.pointer (some ⟨bs, 0, none⟩), .agg #[.int .u32 (m : Int), .int .i64 st]] w fun e w' => ∃ o : Nat, e = .returned (.agg #[.int .u32 (m : Int), .int .i64 st, .int .u32 (o : Int)]) ∧ Mk o (openP ah m) ∧ Below w.heap.size w w' := by
  have HS := Lib.hid hs
  have HA := Lib.hid ha
  have HB := Lib.hid hb
  have c1 : w.cell? ⟨bs, 1, none⟩ = some (.slice (some ⟨ba, 0, none⟩) ah.length ah.length) := by
    unfold srO at hs; rw [cell_of_row _ _ _ _ _ _ hs]; rfl
  have hlb := heap_inO hs
  have hb0 : Below w.heap.size w (((w.alloc (.cells #[.int .u32 (m : Int), .int .i64 st] 126)).alloc (.cells #[.int .u32 0, .int .i64 0, .int .u32 0] 128)).alloc (.cells #[.int .u32 (m : Int), .int .i64 st, .int .u32 0] 128)) := by go_grown
  have d1 := (hb0.cell (p := ⟨bs, 1, none⟩) hlb).trans c1
  have hi0 : AtI w (((w.alloc (.cells #[.int .u32 (m : Int), .int .i64 st] 126)).alloc (.cells #[.int .u32 0, .int .i64 0, .int .u32 0] 128)).alloc (.cells #[.int .u32 (m : Int), .int .i64 st, .int .u32 0] 128)) ah m st 0 0 := by
    refine ⟨Mk.zero.of fun k => by simp, ?_, ?_, hb0⟩
    · have := heap_alloc_new ((w.alloc (.cells #[.int .u32 (m : Int), .int .i64 st] 126)).alloc (.cells #[.int .u32 0, .int .i64 0, .int .u32 0] 128)) (.cells #[.int .u32 (m : Int), .int .i64 st, .int .u32 0] 128)
      rw [World.size_alloc, World.size_alloc] at this
      exact this
    · have h1 := heap_alloc_new (w.alloc (.cells #[.int .u32 (m : Int), .int .i64 st] 126)) (.cells #[.int .u32 0, .int .i64 0, .int .u32 0] 128)
      rw [World.size_alloc] at h1
      exact ((Below.heap_alloc _ _ _ (by rw [World.size_alloc, World.size_alloc]; omega)).trans h1)
  have HI0 := Lib.hid hi0
  clear hs ha hb hb0 hi0
  go_enter Try.func71, Try.ntmps71
  go_wp2_with fail
  go_loopw [15] (fun s15 wr => ∃ i : Nat, s15 = .int .i64 i ∧ i ≤ ah.length ∧ Hid (∃ o, AtI w wr ah m st i o)) (fun s15 _ => ah.length - (intOf s15).toNat)
  case atStart => exact ⟨0, rfl, Nat.zero_le _, Lib.hid ⟨0, HI0.out⟩⟩
  case round =>
    clear HI0 c1 d1
    obtain ⟨i, rfl, hi, HI⟩ := hrel
    obtain ⟨o, ho⟩ := HI.out
    have HO := Lib.hid ho
    clear ho HI
    by_cases hil : i < ah.length
    · have q1 : (i : Int) < (ah.length : Int) := by omega
      have q2 : IntKind.i64.wrap ((i : Int) + 1) = (i : Int) + 1 := IntWalk.i64_in _ (by omega)
      have q3 : (0 : Int) ≤ i := by omega
      have q4 : (i : Int) ≤ 32 := by omega
      have q5 := wrap_pow (i := i) (by omega)
      obtain ⟨a, hai⟩ : ∃ a, ah[i]? = some a := ⟨_, List.getElem?_eq_getElem hil⟩
      have g1 : wr.cell? ⟨ba, i, none⟩ = some (.int .u32 (a : Int)) := by
        have := (HO.out.bel.block ba (heap_inO HA.out)).trans HA.out
        unfold ahO at this
        rw [cell_of_row _ _ _ _ _ _ this]
        simp [hai]
      have g2 : wr.cell? ⟨w.heap.size + 1 + 1, 0, none⟩ = some (.int .u32 (m : Int)) := by rw [cell_of_row _ _ _ _ _ _ HO.out.blk]; rfl
      have g3 : wr.cell? ⟨w.heap.size + 1 + 1, 1, none⟩ = some (.int .i64 st) := by rw [cell_of_row _ _ _ _ _ _ HO.out.blk]; rfl
      have g4 : wr.cell? ⟨w.heap.size + 1 + 1, 2, none⟩ = some (.int .u32 (o : Int)) := by rw [cell_of_row _ _ _ _ _ _ HO.out.blk]; rfl
      have hab := HB.out a (List.mem_of_getElem? hai)
      have hob := HO.out.mask.lt
      have stay : openP ah m i = false → Hid (AtI w wr.drew ah m st (i + 1) o) := fun hp => Lib.hid ⟨HO.out.mask.of fun k => by
        by_cases c : k < i
        · simp [c, show k < i + 1 by omega]
        · by_cases c2 : k = i
          · subst c2; simp [hp]
          · simp [c, show ¬ k < i + 1 by omega], HO.out.blk, HO.out.res, HO.out.bel.drew⟩
      have HST := Lib.hid stay
      clear stay
      cases hb1 : m.testBit i with
      | true =>
        have e1 : (bits .and .u32 (m : Int) ((2 : Int) ^ i) == 0) = false := by
          rw [pow_int, and_u32 _ _ (by omega) (pow_lt16 (by omega))]
          refine beq_eq_false_iff_ne.2 fun c => ?_
          have := and_pow_zero.1 (show m &&& 2 ^ i = 0 by omega)
          rw [hb1] at this
          cases this
        have HE := HST.out (by unfold openP; rw [hai]; simp [hb1])
        clear hb1 hai hab hob
        go_wp2_with fail
        go_region
        go_wp2_with fail
        go_roundw
        case measure => simp [intOf] <;> omega
        case rel => exact ⟨i + 1, by simp, by omega, Lib.hid ⟨o, HE.out⟩⟩
      | false =>
        have e1 : bits .and .u32 (m : Int) ((2 : Int) ^ i) = 0 := by
          rw [pow_int, and_u32 _ _ (by omega) (pow_lt16 (by omega)), and_pow_zero.2 hb1]
          rfl
        by_cases hb2 : notN a m = 0
        · have e2 : bits .andNot .u32 (a : Int) (m : Int) = 0 := by rw [andNot_u32, hb2]; rfl
          have e3 : bits .or .u32 (o : Int) ((2 : Int) ^ i) = ((o ||| 2 ^ i : Nat) : Int) := by rw [pow_int]; exact or_u32 _ _ (by omega) (pow_lt16 (by omega))
          have HP := Lib.hid (show openP ah m i = true by unfold openP; rw [hai]; simp [hb1, hb2])
          clear hb1 hb2 hai hab hob
          have f4 := cells_thaw HO.out.blk 2
          go_wp2_with fail
          go_region
          go_wp2_with fail
          go_region
          go_wp2_with fail
          go_roundw
          case measure => simp [intOf] <;> omega
          case rel => exact ⟨i + 1, by simp, by omega, Lib.hid ⟨_, AtI.set (wr := wr.drew.drew) ⟨HO.out.mask, HO.out.blk, HO.out.res, HO.out.bel.drew.drew⟩ HP.out (by omega)⟩⟩
        · have e2 : (bits .andNot .u32 (a : Int) (m : Int) == 0) = false := by
            rw [andNot_u32]
            exact beq_eq_false_iff_ne.2 fun c => hb2 (by omega)
          have HE := HST.out (by unfold openP; rw [hai]; simp [hb1, hb2])
          clear hb1 hb2 hai hab hob
          go_wp2_with fail
          go_region
          go_wp2_with fail
          go_roundw
          case measure => simp [intOf] <;> omega
          case rel => exact ⟨i + 1, by simp, by omega, Lib.hid ⟨o, HE.out⟩⟩
    · obtain rfl : i = ah.length := by omega
      have q1 : ¬ ((ah.length : Int) < (ah.length : Int)) := by omega
      have g2 : wr.cell? ⟨w.heap.size + 1 + 1, 0, none⟩ = some (.int .u32 (m : Int)) := by rw [cell_of_row _ _ _ _ _ _ HO.out.blk]; rfl
      have g3 : wr.cell? ⟨w.heap.size + 1 + 1, 1, none⟩ = some (.int .i64 st) := by rw [cell_of_row _ _ _ _ _ _ HO.out.blk]; rfl
      have g4 : wr.cell? ⟨w.heap.size + 1 + 1, 2, none⟩ = some (.int .u32 (o : Int)) := by rw [cell_of_row _ _ _ _ _ _ HO.out.blk]; rfl
      have r0 : wr.cell? ⟨w.heap.size + 1, 0, none⟩ = some (.int .u32 0) := by rw [cell_of_row _ _ _ _ _ _ HO.out.res]; rfl
      have r1 : wr.cell? ⟨w.heap.size + 1, 1, none⟩ = some (.int .i64 0) := by rw [cell_of_row _ _ _ _ _ _ HO.out.res]; rfl
      have r2 : wr.cell? ⟨w.heap.size + 1, 2, none⟩ = some (.int .u32 0) := by rw [cell_of_row _ _ _ _ _ _ HO.out.res]; rfl
      have f0 := cells_thaw HO.out.res 0
      have f1 := cells_thaw HO.out.res 1
      have f2 := cells_thaw HO.out.res 2
      have hblk : (((wr.setCell ⟨w.heap.size + 1, 0, none⟩ (.int .u32 (m : Int))).setCell ⟨w.heap.size + 1, 1, none⟩ (.int .i64 st)).setCell ⟨w.heap.size + 1, 2, none⟩ (.int .u32 (o : Int))).heap[w.heap.size + 1]? = some (.cells #[.int .u32 (m : Int), .int .i64 st, .int .u32 (o : Int)] 128 (0, 0)) :=
        heap_setCell_same _ _ _ _ _ _ (heap_setCell_same _ _ _ _ _ _ (heap_setCell_same _ _ _ _ _ _ HO.out.res))
      have hkp : Keeps (fun k => k = w.heap.size + 1) wr (((wr.setCell ⟨w.heap.size + 1, 0, none⟩ (.int .u32 (m : Int))).setCell ⟨w.heap.size + 1, 1, none⟩ (.int .i64 st)).setCell ⟨w.heap.size + 1, 2, none⟩ (.int .u32 (o : Int))) :=
        (((Keeps.refl (fun k => k = w.heap.size + 1) wr).setCell (.inl (by rfl)) _).setCell (.inl (by rfl)) _).setCell (.inl (by rfl)) _
      have HBL := Lib.hid hblk
      have HKP := Lib.hid (HO.out.bel.trans (hkp.below (fun k e => by omega) HO.out.bel.size))
      clear hblk hkp
      go_wp2_with fail
      generalize (((wr.setCell ⟨w.heap.size + 1, 0, none⟩ (.int .u32 (m : Int))).setCell ⟨w.heap.size + 1, 1, none⟩ (.int .i64 st)).setCell ⟨w.heap.size + 1, 2, none⟩ (.int .u32 (o : Int))) = W9 at HBL HKP ⊢
      have z0 : W9.cell? ⟨w.heap.size + 1, 0, none⟩ = some (.int .u32 (m : Int)) := by rw [cell_of_row _ _ _ _ _ _ HBL.out]; rfl
      have z1 : W9.cell? ⟨w.heap.size + 1, 1, none⟩ = some (.int .i64 st) := by rw [cell_of_row _ _ _ _ _ _ HBL.out]; rfl
      have z2 : W9.cell? ⟨w.heap.size + 1, 2, none⟩ = some (.int .u32 (o : Int)) := by rw [cell_of_row _ _ _ _ _ _ HBL.out]; rfl
      refine bodyPost_ret (v := .agg #[.int .u32 (m : Int), .int .i64 st, .int .u32 (o : Int)]) (by simp [results, Try.results71, go_sem, z0, z1, z2]) rfl ?_
      exact ⟨o, rfl, HO.out.mask.of fun k => by
        by_cases c : k < ah.length
        · simp [c]
        · unfold openP; rw [List.getElem?_eq_none (by omega)]; simp, HKP.out⟩
end Ln
end Go.Proofs.Ytppjmmdiglnkfaa
