/- The maps of the laws of package cache: numbers to texts, and texts to numbers. -/
import Derived.Test.YtomgiemnkbjebaaCacI
import Derived.Maps.OwnSet
import Derived.StringKeys
namespace Go.Proofs.Ytomgiemnkbjebaa
set_option maxRecDepth 100000
open Go.ChangeShapes Go.WideShapes Go.ChangeAt Go.RowKit Go.PlainAid Go.ChangeMaps Go.MapKept
open Go.WideElems (rd rg pl)
open Go.Maps (Keyed)
theorem list_text {a b : ByteArray} (h : a.data.toList = b.data.toList) : a = b := ByteArray.ext (Array.toList_inj.1 h)

namespace MS
/-- How a value in the map reads. -/
def rdV (v : Value) : Option (DataW Unit × List MemPlace) := match v with | .string s => some (.lit (.string s.data.toList), []) | _ => none
theorem rdV_inv {v : Value} {y : DataW Unit × List MemPlace} (h : rdV v = some y) : ∃ s, v = (.string s) ∧ y = (.lit (.string s.data.toList), []) := by
  unfold rdV at h
  split at h
  · rename_i s
    exact ⟨s, rfl, (Option.some.inj h).symm⟩
  · cases h
/-- What the entries read as. -/
noncomputable def Dm (es : Array MapEntry) : DataW Unit := .map ((es.toList.map (rg Try.prog 3 rdV)).foldr DataW.insert [])
theorem keyed : Keyed Try.prog 3 := Maps.int_keyed Try.underlying3
/-- A map holds these. -/
structure Is (es : Array MapEntry) (clock c : Nat) (T : Int → Option ByteArray) : Prop where
  fit : Go.WideElems.Fit Try.prog 3 rdV es clock
  size : es.size ≤ c
  has : ∀ k : Int, Maps.has (Dm es) (.int .i64 k) = (T k).isSome
  get : ∀ (k : Int) (s : ByteArray), T k = some s → ∀ zd, (Dm es).atKey (.int .i64 k) zd = .lit (.string s.data.toList)
theorem empty (clock c : Nat) : Is #[] clock c fun _ => none := ⟨⟨by simp, stamped_empty clock, by simp⟩, Nat.zero_le _, fun k => rfl, fun k s h => (by cases h)⟩
/-- T, but s at k. -/
def put (T : Int → Option ByteArray) (k : Int) (s : ByteArray) : Int → Option ByteArray := fun i => if i = k then some s else T i
theorem zero (w : World) : (zeroValue 9).run Try.prog w = .ok (.string ⟨#[]⟩) w := by kernel_rfl
/-- m[k], with ok and without. -/
theorem Is.look {es : Array MapEntry} {clock c : Nat} {T : Int → Option ByteArray} (h : Is es clock c T) {w : World} {b : Nat} (hb : w.heap[b]? = some (.map es clock)) (k : Int) (hk0 : -9223372036854775808 ≤ k ∧ k ≤ 9223372036854775807) :
    (T k = none ∧ ∀ ok, (Instr.lookup 41 (.map (some b)) (.int .i64 k) ok).run Try.prog w = .ok (if ok then .tuple #[(.string ⟨#[]⟩), .bool false] else (.string ⟨#[]⟩)) w) ∨
    ∃ s, T k = some s ∧ ∀ ok, (Instr.lookup 41 (.map (some b)) (.int .i64 k) ok).run Try.prog w = .ok (if ok then .tuple #[(.string s), .bool true] else (.string s)) w := by
  have hk : keyOf Try.prog 3 (.int .i64 k) = some (.int .i64 k) := Maps.keyOf_int_mk Try.underlying3 (WalkArith.wf_i64 hk0)
  cases hT : T k with
  | none =>
    left
    refine ⟨rfl, fun ok => ?_⟩
    rcases Maps.fit_look ok keyed Try.underlying41 (zero w) hb h.fit hk with ⟨hrun, _, _⟩ | ⟨e0, y, _, _, _, _, hat, _⟩
    · exact hrun
    · have h1 : Maps.has (Dm es) (.int .i64 k) = true := Maps.has_true_of_atKey hat
      rw [h.has k, hT] at h1
      cases h1
  | some s =>
    right
    have hget := h.get k s hT
    refine ⟨s, rfl, fun ok => ?_⟩
    rcases Maps.fit_look ok keyed Try.underlying41 (zero w) hb h.fit hk with ⟨_, _, hat⟩ | ⟨e0, y, _, _, hrun, hR, hat, _⟩
    · have h1 : Maps.has (Dm es) (.int .i64 k) = false := Maps.has_false_of_atKey hat
      rw [h.has k, hT] at h1
      cases h1
    · obtain ⟨t, hv, rfl⟩ := rdV_inv hR
      have e := (hget .nil).symm.trans (hat .nil)
      have : s = t := list_text (by simpa using e)
      subst this
      rw [hv] at hrun
      exact hrun
/-- m[k] = v. -/
theorem Is.put {es : Array MapEntry} {clock c : Nat} {T : Int → Option ByteArray} (h : Is es clock c T) {w : World} {b : Nat} (hb : w.heap[b]? = some (.map es clock)) (hc : c < 1000000) (k : Int) (hk0 : -9223372036854775808 ≤ k ∧ k ≤ 9223372036854775807) (s : ByteArray) :
    ∃ es' clock', (Instr.mapUpdate 41 (.map (some b)) (.int .i64 k) (.string s)).run Try.prog w = .ok () (setBlock w b (.map es' clock')) ∧ Is es' clock' (c + 1) (MS.put T k s) := by
  have hk : keyOf Try.prog 3 (.int .i64 k) = some (.int .i64 k) := Maps.keyOf_int_mk Try.underlying3 (WalkArith.wf_i64 hk0)
  have hsz := h.size
  obtain ⟨es', clock', hrun, F', hput, _⟩ := Maps.fit_store (R' := rdV) (val := .string s) (yv := (.lit (.string s.data.toList), [])) keyed Try.underlying41 hb h.fit (by unfold maxLen; omega) (fun _ _ _ _ hz => hz) hk rfl
  have hD : Dm es' = (Dm es).put (.int .i64 k) (.lit (.string s.data.toList)) := by unfold Dm; rw [hput]; rfl
  have hM : Maps.IsMap (Dm es) := ⟨_, rfl⟩
  have hKL : WideAt.IsKeyLit (.int .i64 k) := by unfold WideAt.IsKeyLit; trivial
  refine ⟨es', clock', hrun, F', ?_, fun j => ?_, fun j t hj => ?_⟩
  · have e1 : es'.size = ((es'.toList.map (rg Try.prog 3 rdV)).foldr DataW.insert []).length := by rw [length_sorted]; simp
    have e2 : es.size = ((es.toList.map (rg Try.prog 3 rdV)).foldr DataW.insert []).length := by rw [length_sorted]; simp
    rw [e1, hput]
    unfold putKey
    rw [length_insert]
    have e3 := List.length_filter_le (notKey (.int .i64 k)) ((es.toList.map (rg Try.prog 3 rdV)).foldr DataW.insert [])
    omega
  · rw [hD]
    by_cases e : j = k
    · subst e
      rw [Maps.has_put_same hM hKL]; simp [MS.put]
    · rw [Maps.has_put_other (by intro c; exact e (by simpa using c)), h.has j]; simp [MS.put, e]
  · rw [hD]
    by_cases e : j = k
    · subst e
      obtain rfl : s = t := by simpa [MS.put] using hj
      exact fun zd => Maps.atKey_put_same hM hKL _ _
    · have hj2 : T j = some t := by simpa [MS.put, e] using hj
      exact fun zd => by rw [Maps.atKey_put_other (by intro c; exact e (by simpa using c)), h.get j t hj2]
end MS

namespace MI
/-- How a value in the map reads. -/
def rdV (v : Value) : Option (DataW Unit × List MemPlace) := match v with | .int .i64 s => some (.lit (.int .i64 s), []) | _ => none
theorem rdV_inv {v : Value} {y : DataW Unit × List MemPlace} (h : rdV v = some y) : ∃ s, v = (.int .i64 s) ∧ y = (.lit (.int .i64 s), []) := by
  unfold rdV at h
  split at h
  · rename_i s
    exact ⟨s, rfl, (Option.some.inj h).symm⟩
  · cases h
/-- What the entries read as. -/
noncomputable def Dm (es : Array MapEntry) : DataW Unit := .map ((es.toList.map (rg Try.prog 9 rdV)).foldr DataW.insert [])
theorem keyed : Keyed Try.prog 9 := Maps.string_keyed Try.underlying9
/-- A map holds these. -/
structure Is (es : Array MapEntry) (clock c : Nat) (T : ByteArray → Option Int) : Prop where
  fit : Go.WideElems.Fit Try.prog 9 rdV es clock
  size : es.size ≤ c
  has : ∀ k : ByteArray, Maps.has (Dm es) (.string k.data.toList) = (T k).isSome
  get : ∀ (k : ByteArray) (s : Int), T k = some s → ∀ zd, (Dm es).atKey (.string k.data.toList) zd = .lit (.int .i64 s)
theorem empty (clock c : Nat) : Is #[] clock c fun _ => none := ⟨⟨by simp, stamped_empty clock, by simp⟩, Nat.zero_le _, fun k => rfl, fun k s h => (by cases h)⟩
/-- T, but s at k. -/
def put (T : ByteArray → Option Int) (k : ByteArray) (s : Int) : ByteArray → Option Int := fun i => if i = k then some s else T i
theorem zero (w : World) : (zeroValue 3).run Try.prog w = .ok (.int .i64 0) w := by kernel_rfl
/-- m[k], with ok and without. -/
theorem Is.look {es : Array MapEntry} {clock c : Nat} {T : ByteArray → Option Int} (h : Is es clock c T) {w : World} {b : Nat} (hb : w.heap[b]? = some (.map es clock)) (k : ByteArray) (hk0 : (k.size : Int) ≤ 9223372036854775807) :
    (T k = none ∧ ∀ ok, (Instr.lookup 57 (.map (some b)) (.string k) ok).run Try.prog w = .ok (if ok then .tuple #[(.int .i64 0), .bool false] else (.int .i64 0)) w) ∨
    ∃ s, T k = some s ∧ ∀ ok, (Instr.lookup 57 (.map (some b)) (.string k) ok).run Try.prog w = .ok (if ok then .tuple #[(.int .i64 s), .bool true] else (.int .i64 s)) w := by
  have hk : keyOf Try.prog 9 (.string k) = some (.string k.data.toList) := WideMaps.keyOf_string_mk Try.underlying9 (by unfold maxLen; omega)
  cases hT : T k with
  | none =>
    left
    refine ⟨rfl, fun ok => ?_⟩
    rcases Maps.fit_look ok keyed Try.underlying57 (zero w) hb h.fit hk with ⟨hrun, _, _⟩ | ⟨e0, y, _, _, _, _, hat, _⟩
    · exact hrun
    · have h1 : Maps.has (Dm es) (.string k.data.toList) = true := Maps.has_true_of_atKey hat
      rw [h.has k, hT] at h1
      cases h1
  | some s =>
    right
    have hget := h.get k s hT
    refine ⟨s, rfl, fun ok => ?_⟩
    rcases Maps.fit_look ok keyed Try.underlying57 (zero w) hb h.fit hk with ⟨_, _, hat⟩ | ⟨e0, y, _, _, hrun, hR, hat, _⟩
    · have h1 : Maps.has (Dm es) (.string k.data.toList) = false := Maps.has_false_of_atKey hat
      rw [h.has k, hT] at h1
      cases h1
    · obtain ⟨t, hv, rfl⟩ := rdV_inv hR
      have e := (hget .nil).symm.trans (hat .nil)
      have : s = t := by simpa using e
      subst this
      rw [hv] at hrun
      exact hrun
/-- m[k] = v. -/
theorem Is.put {es : Array MapEntry} {clock c : Nat} {T : ByteArray → Option Int} (h : Is es clock c T) {w : World} {b : Nat} (hb : w.heap[b]? = some (.map es clock)) (hc : c < 1000000) (k : ByteArray) (hk0 : (k.size : Int) ≤ 9223372036854775807) (s : Int) :
    ∃ es' clock', (Instr.mapUpdate 57 (.map (some b)) (.string k) (.int .i64 s)).run Try.prog w = .ok () (setBlock w b (.map es' clock')) ∧ Is es' clock' (c + 1) (MI.put T k s) := by
  have hk : keyOf Try.prog 9 (.string k) = some (.string k.data.toList) := WideMaps.keyOf_string_mk Try.underlying9 (by unfold maxLen; omega)
  have hsz := h.size
  obtain ⟨es', clock', hrun, F', hput, _⟩ := Maps.fit_store (R' := rdV) (val := .int .i64 s) (yv := (.lit (.int .i64 s), [])) keyed Try.underlying57 hb h.fit (by unfold maxLen; omega) (fun _ _ _ _ hz => hz) hk rfl
  have hD : Dm es' = (Dm es).put (.string k.data.toList) (.lit (.int .i64 s)) := by unfold Dm; rw [hput]; rfl
  have hM : Maps.IsMap (Dm es) := ⟨_, rfl⟩
  have hKL : WideAt.IsKeyLit (.string k.data.toList) := by unfold WideAt.IsKeyLit; trivial
  refine ⟨es', clock', hrun, F', ?_, fun j => ?_, fun j t hj => ?_⟩
  · have e1 : es'.size = ((es'.toList.map (rg Try.prog 9 rdV)).foldr DataW.insert []).length := by rw [length_sorted]; simp
    have e2 : es.size = ((es.toList.map (rg Try.prog 9 rdV)).foldr DataW.insert []).length := by rw [length_sorted]; simp
    rw [e1, hput]
    unfold putKey
    rw [length_insert]
    have e3 := List.length_filter_le (notKey (.string k.data.toList)) ((es.toList.map (rg Try.prog 9 rdV)).foldr DataW.insert [])
    omega
  · rw [hD]
    by_cases e : j = k
    · subst e
      rw [Maps.has_put_same hM hKL]; simp [MI.put]
    · rw [Maps.has_put_other (by intro c; exact e (list_text (by simpa using c))), h.has j]; simp [MI.put, e]
  · rw [hD]
    by_cases e : j = k
    · subst e
      obtain rfl : s = t := by simpa [MI.put] using hj
      exact fun zd => Maps.atKey_put_same hM hKL _ _
    · have hj2 : T j = some t := by simpa [MI.put, e] using hj
      exact fun zd => by rw [Maps.atKey_put_other (by intro c; exact e (list_text (by simpa using c))), h.get j t hj2]
end MI
end Go.Proofs.Ytomgiemnkbjebaa
