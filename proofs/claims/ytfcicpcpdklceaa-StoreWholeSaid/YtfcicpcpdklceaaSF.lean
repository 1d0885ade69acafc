/- Package store: the transaction under way, as a map in memory. -/
import Derived.Test.YtfcicpcpdklceaaSFin
import Derived.Maps.OwnSet
import Derived.Maps.RangeWalk
namespace Go.Proofs.Ytfcicpcpdklceaa
set_option maxRecDepth 100000
open Go.ChangeShapes Go.WideShapes Go.ChangeAt Go.RowKit Go.PlainAid Go.ChangeMaps Go.MapKept
open Go.WideElems (rd rg pl)
open Go.Maps (Keyed)

/-- The value of a page. -/
def pgV (s : ByteArray) : Value := .agg (textCells 256 s).toArray
theorem pgV_inj {a b : ByteArray} (ha : a.size = 256) (hb : b.size = 256) (h : pgV a = pgV b) : a = b := by
  refine text_ext (ha.trans hb.symm) fun k hk => ?_
  unfold pgV at h
  have h2 : textCells 256 a = textCells 256 b := by simpa using h
  have h3 : (textCells 256 a)[k]? = (textCells 256 b)[k]? := by rw [h2]
  rw [textCells_get 256 a (by omega), textCells_get 256 b (by omega)] at h3
  simpa using h3
open Classical in
/-- How a page in the map reads. -/
noncomputable def pgR (v : Value) : Option (DataW Unit × List MemPlace) :=
  if h : ∃ s : ByteArray, s.size = 256 ∧ v = pgV s then some (.lit (.string h.choose.data.toList), []) else none
theorem pgR_mk {s : ByteArray} (hs : s.size = 256) : pgR (pgV s) = some (.lit (.string s.data.toList), []) := by
  have hex : ∃ t : ByteArray, t.size = 256 ∧ pgV s = pgV t := ⟨s, hs, rfl⟩
  unfold pgR
  rw [dif_pos hex]
  have := hex.choose_spec
  rw [← pgV_inj hs this.1 this.2]
theorem pgR_inv {v : Value} {y : DataW Unit × List MemPlace} (h : pgR v = some y) : ∃ s : ByteArray, s.size = 256 ∧ v = pgV s ∧ y = (.lit (.string s.data.toList), []) := by
  unfold pgR at h
  split at h
  · rename_i hex
    have hc := hex.choose_spec
    refine ⟨_, hc.1, hc.2, ?_⟩
    simpa using h.symm
  · cases h
theorem list_text {a b : ByteArray} (h : a.data.toList = b.data.toList) : a = b := ByteArray.ext (Array.toList_inj.1 h)
/-- What the entries read as. -/
noncomputable def Dm (es : Array MapEntry) : DataW Unit := .map ((es.toList.map (rg Try.prog 3 pgR)).foldr DataW.insert [])
theorem keyed : Keyed Try.prog 3 := Maps.int_keyed Try.underlying3
/-- A map holds a transaction's pages. -/
structure TxIs (es : Array MapEntry) (clock c : Nat) (T : Int → Option ByteArray) : Prop where
  fit : Go.WideElems.Fit Try.prog 3 pgR es clock
  size : es.size ≤ c
  has : ∀ k, Maps.has (Dm es) (.int .i64 k) = (T k).isSome
  get : ∀ k s, T k = some s → s.size = 256 ∧ ∀ zd, (Dm es).atKey (.int .i64 k) zd = .lit (.string s.data.toList)
def noPages : Int → Option ByteArray := fun _ => none
theorem tx_empty (clock c : Nat) : TxIs #[] clock c noPages := ⟨⟨by simp, stamped_empty clock, by simp⟩, Nat.zero_le _, fun k => rfl, fun k s h => (by cases h)⟩
/-- T, but s at k. -/
def put (T : Int → Option ByteArray) (k : Int) (s : ByteArray) : Int → Option ByteArray := fun i => if i = k then some s else T i
theorem key_of {k : Int} (h0 : -9223372036854775808 ≤ k) (h1 : k ≤ 9223372036854775807) : keyOf Try.prog 3 (.int .i64 k) = some (.int .i64 k) :=
  Maps.keyOf_int_mk Try.underlying3 (WalkArith.wf_i64 ⟨h0, h1⟩)
theorem zero_page (w : World) : (zeroValue 83).run Try.prog w = .ok (.agg zero256) w := (zero_of_info (P := Try.prog) (t := 83) (v := .agg zero256) (n := 256) (by kernel_rfl)).1 w
/-- m[k], with ok. -/
theorem TxIs.look {es : Array MapEntry} {clock c : Nat} {T : Int → Option ByteArray} (h : TxIs es clock c T) {w : World} {b : Nat} (hb : w.heap[b]? = some (.map es clock)) (k : Int) (h0 : -9223372036854775808 ≤ k) (h1 : k ≤ 9223372036854775807) :
    (T k = none ∧ ∀ ok, (Instr.lookup 56 (.map (some b)) (.int .i64 k) ok).run Try.prog w = .ok (if ok then .tuple #[.agg zero256, .bool false] else .agg zero256) w) ∨
    ∃ s, T k = some s ∧ s.size = 256 ∧ ∀ ok, (Instr.lookup 56 (.map (some b)) (.int .i64 k) ok).run Try.prog w = .ok (if ok then .tuple #[pgV s, .bool true] else pgV s) w := by
  have hk := key_of h0 h1
  cases hT : T k with
  | none =>
    left
    refine ⟨rfl, fun ok => ?_⟩
    rcases Maps.fit_look ok keyed Try.underlying56 (zero_page w) hb h.fit hk with ⟨hrun, _, _⟩ | ⟨e0, y, _, _, _, _, hat, _⟩
    · exact hrun
    · have h1 : Maps.has (Dm es) (.int .i64 k) = true := Maps.has_true_of_atKey hat
      rw [h.has k, hT] at h1
      cases h1
  | some s =>
    right
    obtain ⟨hs, hget⟩ := h.get k s hT
    refine ⟨s, rfl, hs, fun ok => ?_⟩
    rcases Maps.fit_look ok keyed Try.underlying56 (zero_page w) hb h.fit hk with ⟨_, _, hat⟩ | ⟨e0, y, _, _, hrun, hR, hat, _⟩
    · have h1 : Maps.has (Dm es) (.int .i64 k) = false := Maps.has_false_of_atKey hat
      rw [h.has k, hT] at h1
      cases h1
    · obtain ⟨t, ht, hv, rfl⟩ := pgR_inv hR
      have e := (hget .nil).symm.trans (hat .nil)
      have : s = t := list_text (by simpa using e)
      subst this
      rw [hv] at hrun
      exact hrun
/-- m[k] = v. -/
theorem TxIs.put {es : Array MapEntry} {clock c : Nat} {T : Int → Option ByteArray} (h : TxIs es clock c T) {w : World} {b : Nat} (hb : w.heap[b]? = some (.map es clock)) (hc : c < 1000000) (k : Int) (h0 : -9223372036854775808 ≤ k) (h1 : k ≤ 9223372036854775807) (s : ByteArray) (hs : s.size = 256) :
    ∃ es' clock', (Instr.mapUpdate 56 (.map (some b)) (.int .i64 k) (pgV s)).run Try.prog w = .ok () (setBlock w b (.map es' clock')) ∧ TxIs es' clock' (c + 1) (put T k s) := by
  have hk := key_of h0 h1
  have hsz := h.size
  obtain ⟨es', clock', hrun, F', hput, _⟩ := Maps.fit_store (R' := pgR) keyed Try.underlying56 hb h.fit (by unfold maxLen; omega) (fun _ _ _ _ hz => hz) hk (pgR_mk hs)
  have hD : Dm es' = (Dm es).put (.int .i64 k) (.lit (.string s.data.toList)) := by unfold Dm; rw [hput]; rfl
  have hM : Maps.IsMap (Dm es) := ⟨_, rfl⟩
  have hKL : WideAt.IsKeyLit (.int .i64 k) := by unfold WideAt.IsKeyLit; trivial
  refine ⟨es', clock', hrun, F', ?_, fun j => ?_, fun j t hj => ?_⟩
  · have e1 : es'.size = ((es'.toList.map (rg Try.prog 3 pgR)).foldr DataW.insert []).length := by rw [length_sorted]; simp
    have e2 : es.size = ((es.toList.map (rg Try.prog 3 pgR)).foldr DataW.insert []).length := by rw [length_sorted]; simp
    rw [e1, hput]
    unfold putKey
    rw [length_insert]
    have e3 := List.length_filter_le (notKey (.int .i64 k)) ((es.toList.map (rg Try.prog 3 pgR)).foldr DataW.insert [])
    omega
  · rw [hD]
    by_cases e : j = k
    · subst e
      rw [Maps.has_put_same hM hKL]; simp [Go.Proofs.Ytfcicpcpdklceaa.put]
    · rw [Maps.has_put_other (by intro c; exact e (by simpa using c)), h.has j]; simp [Go.Proofs.Ytfcicpcpdklceaa.put, e]
  · rw [hD]
    by_cases e : j = k
    · subst e
      obtain rfl : s = t := by simpa [Go.Proofs.Ytfcicpcpdklceaa.put] using hj
      exact ⟨hs, fun zd => Maps.atKey_put_same hM hKL _ _⟩
    · have hj2 : T j = some t := by simpa [Go.Proofs.Ytfcicpcpdklceaa.put, e] using hj
      obtain ⟨a, b⟩ := h.get j t hj2
      exact ⟨a, fun zd => by rw [Maps.atKey_put_other (by intro c; exact e (by simpa using c)), b]⟩
/-- clear(m). -/
theorem clear_map {es : Array MapEntry} {clock : Nat} {w : World} {b : Nat} (hb : w.heap[b]? = some (.map es clock)) (ty : TypeId) :
    (Builtin.clear_ #[56] ty #[.map (some b)]).run Try.prog w = .ok (.tuple #[]) (setBlock w b (.map #[] clock)) := by
  simp [Builtin.clear_, run_underlying Try.underlying56, MapKept.run_getObj_map hb, MapKept.run_setObj_map _ hb, Result.andThen]
  rfl
/-- A block beside the disk is put anew, whole. -/
theorem OwnL.block {w0 w : World} {p b : Nat} {d : D} {L : List (Nat × Obj)} {es : Array MapEntry} {clock : Nat} (h : OwnL w0 p d L w) (hb : (b, Obj.map es clock) ∈ L) (h0 : w0.heap.size ≤ b) (o' : Obj) (L' : List (Nat × Obj)) (hL' : ∀ x ∈ L', x = (b, o') ∨ (x ∈ L ∧ x.1 ≠ b)) :
    OwnL w0 p d L' (setBlock w b o') := by
  obtain ⟨F, hp, hd, hbl, ho, hL⟩ := h
  obtain ⟨hn, hbb⟩ := hL _ hb
  have hsz : (setBlock w b o').heap.size = w.heap.size := by simp [setBlock]
  have hoth : ∀ k, k ≠ b → (setBlock w b o').heap[k]? = w.heap[k]? := fun k hk => heap_setBlock_other (show w.heap[b]? = some (.map es clock) from hbb) _ hk
  refine ⟨F, hp, DiskAt.keep hd (by omega) (fun k hk => hoth k (fun e => by subst e; exact hn hk)), ?_, ho, fun x hx => ?_⟩
  · exact ⟨hbl.os, hbl.tape, hbl.output, by rw [hsz]; exact hbl.size, fun k hk => (hoth k (by omega)).trans (hbl.block k hk)⟩
  · rcases hL' x hx with rfl | ⟨h1, h2⟩
    · exact ⟨hn, heap_setBlock_same (show w.heap[b]? = some (.map es clock) from hbb) _⟩
    · exact ⟨(hL x h1).1, (hoth _ h2).trans (hL x h1).2⟩

/-- A store in memory, with its transaction. -/
structure StT (w0 : World) (p q bm c : Nat) (d : D) (h : Hd) (T : Int → Option ByteArray) (dead : Bool) (R : List (Nat × Obj)) (w : World) : Prop where
  ex : ∃ es clock, TxIs es clock c T ∧ StR w0 p q bm d h dead ((bm, .map es clock) :: R) w
  lo : w0.heap.size ≤ bm
  ne : ∀ x ∈ R, x.1 ≠ bm
section
variable {w0 w w' : World} {p q bm c : Nat} {d : D} {h : Hd} {T : Int → Option ByteArray} {dead : Bool} {R : List (Nat × Obj)}
theorem StT.on (H : StT w0 p q bm c d h T dead R w) (b : Below w.heap.size w w') : StT w0 p q bm c d h T dead R w' := by
  obtain ⟨⟨es, clock, hT, hS⟩, h1, h2⟩ := H
  exact ⟨⟨es, clock, hT, hS.on b⟩, h1, h2⟩
theorem StT.at (H : StT w0 p q bm c d h T dead R w) : w.heap[q]? = some (storeO p bm h dead) := by
  obtain ⟨⟨es, clock, hT, hS⟩, h1, h2⟩ := H
  exact hS.at
theorem StT.own (H : StT w0 p q bm c d h T dead R w) : OwnL w0 p d R w := by
  obtain ⟨⟨es, clock, hT, hS⟩, h1, h2⟩ := H
  exact hS.own.sub R fun x hx => List.mem_cons_of_mem _ (List.mem_cons_of_mem _ hx)
theorem StT.mem (H : StT w0 p q bm c d h T dead R w) {x : Nat × Obj} (hx : x ∈ R) : w.heap[x.1]? = some x.2 := H.own.mem hx
theorem StT.below (H : StT w0 p q bm c d h T dead R w) : Below w0.heap.size w0 w := H.own.below
theorem StT.sub (H : StT w0 p q bm c d h T dead R w) (R' : List (Nat × Obj)) (hs : ∀ x ∈ R', x ∈ R) : StT w0 p q bm c d h T dead R' w := by
  obtain ⟨⟨es, clock, hT, hS⟩, h1, h2⟩ := H
  refine ⟨⟨es, clock, hT, hS.sub _ fun x hx => ?_⟩, h1, fun x hx => h2 x (hs x hx)⟩
  rcases List.mem_cons.1 hx with rfl | hx
  · exact List.mem_cons_self
  · exact List.mem_cons_of_mem _ (hs x hx)
theorem StT.add {g : Nat} {o : Obj} (H : StT w0 p q bm c d h T dead R w) (b : Below w.heap.size w w') (hg : w.heap.size ≤ g) (ho : w'.heap[g]? = some o) : StT w0 p q bm c d h T dead ((g, o) :: R) w' := by
  obtain ⟨⟨es, clock, hT, hS⟩, h1, h2⟩ := H
  have hbm := heap_lt (hS.mem (x := (bm, .map es clock)) List.mem_cons_self)
  refine ⟨⟨es, clock, hT, (hS.add b hg ho).sub _ fun x hx => ?_⟩, h1, fun x hx => ?_⟩
  · simp only [List.mem_cons] at hx ⊢
    rcases hx with h | h | h <;> simp [h]
  · rcases List.mem_cons.1 hx with rfl | hx
    · show g ≠ bm; omega
    · exact h2 x hx
end
end Go.Proofs.Ytfcicpcpdklceaa
