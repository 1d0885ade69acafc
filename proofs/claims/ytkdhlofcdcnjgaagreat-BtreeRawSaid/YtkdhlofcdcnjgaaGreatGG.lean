/- slices.Sort of whole numbers: the contract of the shelf at this program Package store: slices.Sort of nothing; Dirty. Package store: transaction. Package store: Commit. -/
import Derived.Shelf.Sort.Plain
import Derived.Test.YtkdhlofcdcnjgaaGreatRows
import Derived.Test.YtkdhlofcdcnjgaaGreatGF
import Derived.Sort.OwnSortedInts
import Derived.Handy
import Derived.Laws.IdiomRangeMap
namespace Go.Proofs.YtkdhlofcdcnjgaaGreat
set_option maxRecDepth 100000
open Go.Shelf
end Go.Proofs.YtkdhlofcdcnjgaaGreat
namespace Go.Proofs.YtkdhlofcdcnjgaaGreat
set_option maxRecDepth 100000
open Go.ChangeShapes Go.WideShapes Go.ChangeAt Go.RowKit Go.PlainAid Go.ChangeMaps Go.MapKept
open Go.Sort (grow putRow Holds)
open Go.Maps (Keyed)

/-- The pages of a transaction, rising. -/
def Keys (T : Int → Option ByteArray) (ks : List Int) : Prop := ks.Pairwise (· < ·) ∧ ∀ x, x ∈ ks ↔ (T x).isSome = true
theorem Keys.nodup {T : Int → Option ByteArray} {ks : List Int} (h : Keys T ks) : ks.Nodup := h.1.imp (fun h => Int.ne_of_lt h)
/-- Those met so far. -/
def Coll (T : Int → Option ByteArray) (left : Lit → Bool) (ss : List Int) : Prop := ss.Nodup ∧ ∀ x, x ∈ ss ↔ ((T x).isSome = true ∧ left (.int .i64 x) = false)
theorem Coll.start (T : Int → Option ByteArray) {left : Lit → Bool} (h : ∀ x, left (.int .i64 x) = (T x).isSome) : Coll T left [] := ⟨List.nodup_nil, fun x => by rw [h]; cases (T x).isSome <;> simp⟩
theorem Coll.step {T : Int → Option ByteArray} {left : Lit → Bool} {ss : List Int} (h : Coll T left ss) {x : Int} (hl : left (.int .i64 x) = true) (hT : (T x).isSome = true) : Coll T (fun z => left z && !z.sameKey (.int .i64 x)) (ss ++ [x]) := by
  have hx : x ∉ ss := fun c => by have := ((h.2 x).1 c).2; rw [hl] at this; cases this
  refine ⟨List.nodup_append.2 ⟨h.1, by simp, fun a ha b hb => by rintro rfl; rw [List.mem_singleton] at hb; subst hb; exact hx ha⟩, fun y => ?_⟩
  rw [List.mem_append, List.mem_singleton, h.2 y]
  by_cases e : y = x
  · subst e; simp [hT, Lit.sameKey]
  · have : (Lit.int .i64 y).sameKey (.int .i64 x) = false := by simp [Lit.sameKey, e]
    simp [this, e]
theorem Coll.keys {T : Int → Option ByteArray} {left : Lit → Bool} {ss : List Int} (h : Coll T left ss) (hl : ∀ z, left z = false) : Keys T (ss.mergeSort fun x y => decide (x ≤ y)) := by
  have hp := List.mergeSort_perm ss (fun x y => decide (x ≤ y))
  have hs := List.pairwise_mergeSort (le := fun x y : Int => decide (x ≤ y)) (fun a b c h1 h2 => by simp at *; omega) (fun a b => by simp; omega) ss
  refine ⟨?_, fun x => by rw [hp.mem_iff, h.2 x, hl]; simp⟩
  have hn : (ss.mergeSort fun x y => decide (x ≤ y)).Nodup := hp.nodup_iff.2 h.1
  exact (hs.and hn).imp (fun ⟨a, b⟩ => by simp at a; omega)
theorem info_int : (Tryz.prog.info? 3).map (fun i => (i.zero, i.size, i.bytes)) = some (some (.int .i64 0), 1, 8) := by kernel_rfl
def appI (vs : Array Value) : Sem Value := Builtin.append_ #[41, 41] 41 vs
theorem app_int (vs : Array Value) : Builtin.append_ #[41, 41] 41 vs = appI vs := rfl
/-- One number more in a row of the call's own. -/
theorem int_push {n₀ : Nat} {W : World} {ss : List Int} {v : Value} (hrow : W.ownsRow n₀ 3 1 v ss.length (ss.map (Value.int .i64))) (hn : n₀ ≤ W.heap.size) (hlen : ss.length ≤ 1048576) (x : Int) :
    ∃ g cap w2, (appI #[v, .slice (some ⟨W.heap.size, 0, none⟩) 1 1]).run Tryz.prog (W.alloc (.cells #[.int .i64 x] 3)) = .ok (.slice (some ⟨g, 0, none⟩) (ss.length + 1) cap) w2 ∧
      w2.ownsRow n₀ 3 1 (.slice (some ⟨g, 0, none⟩) (ss.length + 1) cap) (ss ++ [x]).length ((ss ++ [x]).map (Value.int .i64)) ∧ Below n₀ W w2 ∧ W.grownBy w2 v.ownBlock := by
  obtain ⟨i0, hi, hz0, hz1, hz2⟩ := info_parts info_int
  have hq := heap_alloc_new W (.cells #[.int .i64 x] 3)
  have hba : Below W.heap.size W (W.alloc (.cells #[.int .i64 x] 3)) := by go_grown
  obtain ⟨g, cap, w2, hr, h2, h3, _, _⟩ := run_append_lies (P := Tryz.prog) (w := W.alloc (.cells #[.int .i64 x] 3)) 41 41 n₀ 3 i0 (.int .i64 0) 1 8 Tryz.underlying41 hi hz0 hz1 hz2 rfl (by decide) v ss.length (ss.map (Value.int .i64)) (ownsRow_on hrow hba) ⟨W.heap.size, 0, none⟩ 1 1 [.int .i64 x] rfl
    (fun j u hu => by
      rcases j with _ | j
      · have : Value.int .i64 x = u := by simpa using hu
        rw [← this]
        show (W.alloc (.cells #[.int .i64 x] 3)).cell? ⟨W.heap.size, 0, none⟩ = _
        rw [cell_of_row _ _ _ _ _ _ hq]
        rfl
      · simp at hu) (fun u hu => by have : u = .int .i64 x := by simpa using hu
                                    rw [this]; rfl) (by decide) (by unfold maxLen; omega) (by omega) (by rw [World.size_alloc]; omega) _ rfl
  refine ⟨g, cap, w2, hr, by rw [List.length_append, List.map_append]; exact h2, (hba.mono hn).grown h3 (by rw [World.size_alloc]; omega) (fun k e => (hrow.lt k e).1), (World.grownBy_alloc W _ _).trans h3⟩
attribute [local go_sem ↓ high] app_int
end Go.Proofs.YtkdhlofcdcnjgaaGreat
namespace Go.Proofs.YtkdhlofcdcnjgaaGreat
set_option maxRecDepth 100000
open Go.ChangeShapes Go.WideShapes Go.ChangeAt Go.RowKit Go.PlainAid Go.ChangeMaps Go.MapKept
attribute [local go_sem ↓ high] loadS_page storeS_page

/-- The pages of a transaction, as it is packed. -/
def txPages (T : Int → Option ByteArray) (ks : List Int) : List PageV := ks.map fun k => ⟨k, (T k).getD ByteArray.empty⟩
theorem txPages_length (T : Int → Option ByteArray) (ks : List Int) : (txPages T ks).length = ks.length := by simp [txPages]
theorem info_page : (Tryz.prog.info? 36).map (fun i => (i.zero, i.size, i.bytes)) = some (some (.agg #[.int .i64 0, .string ⟨#[]⟩]), 2, 24) := by kernel_rfl
def appP (vs : Array Value) : Sem Value := Builtin.append_ #[23, 23] 23 vs
theorem app_page (vs : Array Value) : Builtin.append_ #[23, 23] 23 vs = appP vs := rfl
/-- One page more in a row of the call's own. -/
theorem page_push {n₀ : Nat} {W : World} {l : List PageV} {v : Value} (hrow : W.ownsRow n₀ 36 2 v l.length (pageCells l)) (hn : n₀ ≤ W.heap.size) (hlen : l.length ≤ 1048576) (x : PageV) :
    ∃ g cap w2, (appP #[v, .slice (some ⟨W.heap.size, 0, none⟩) 1 1]).run Tryz.prog (W.alloc (.cells #[.int .i64 x.at_, .string x.data] 36)) = .ok (.slice (some ⟨g, 0, none⟩) (l.length + 1) cap) w2 ∧
      w2.ownsRow n₀ 36 2 (.slice (some ⟨g, 0, none⟩) (l.length + 1) cap) (l ++ [x]).length (pageCells (l ++ [x])) ∧ Below n₀ W w2 := by
  obtain ⟨i0, hi, hz0, hz1, hz2⟩ := info_parts info_page
  have hq := heap_alloc_new W (.cells #[.int .i64 x.at_, .string x.data] 36)
  have hba : Below W.heap.size W (W.alloc (.cells #[.int .i64 x.at_, .string x.data] 36)) := by go_grown
  have hpl := pageCells_length l
  obtain ⟨g, cap, w2, hr, h2, h3, _, _⟩ := run_append_lies (P := Tryz.prog) (w := W.alloc (.cells #[.int .i64 x.at_, .string x.data] 36)) 23 23 n₀ 36 i0 (.agg #[.int .i64 0, .string ⟨#[]⟩]) 2 24 Tryz.underlying23 hi hz0 hz1 hz2 rfl (by decide) v l.length (pageCells l) (ownsRow_on hrow hba) ⟨W.heap.size, 0, none⟩ 1 1 [.int .i64 x.at_, .string x.data] rfl
    (fun j u hu => by
      rcases j with _ | _ | j
      · have : Value.int .i64 x.at_ = u := by simpa using hu
        rw [← this]
        show (W.alloc (.cells #[.int .i64 x.at_, .string x.data] 36)).cell? ⟨W.heap.size, 0, none⟩ = _
        rw [cell_of_row _ _ _ _ _ _ hq]
        rfl
      · have : Value.string x.data = u := by simpa using hu
        rw [← this]
        show (W.alloc (.cells #[.int .i64 x.at_, .string x.data] 36)).cell? ⟨W.heap.size, 1, none⟩ = _
        rw [cell_of_row _ _ _ _ _ _ hq]
        rfl
      · simp at hu) (fun u hu => by
        have : u = .int .i64 x.at_ ∨ u = .string x.data := by simpa using hu
        rcases this with rfl | rfl <;> rfl) (by decide) (by unfold maxLen; omega) (by omega) (by rw [World.size_alloc]; omega) _ rfl
  refine ⟨g, cap, w2, hr, by rw [List.length_append, pageCells_snoc]; exact h2, (hba.mono hn).grown h3 (by rw [World.size_alloc]; omega) (fun k e => (hrow.lt k e).1)⟩
theorem row_int {w : World} {base n : Nat} {v : Value} {ss : List Int} (h : w.ownsRow base 3 1 v n (ss.map (Value.int .i64))) (hn : n = ss.length) {k : Nat} {x : Int} (hx : ss[k]? = some x) :
    ∃ g cap, v = .slice (some ⟨g, 0, none⟩) n cap ∧ g < w.heap.size ∧ w.cell? ⟨g, k, none⟩ = some (.int .i64 x) := by
  have hk := (List.getElem?_eq_some_iff.1 hx).1
  obtain ⟨g, cap, cur, hv, hb, hg, ht⟩ := row_open h (by omega)
  refine ⟨g, cap, hv, heap_lt' hg, ?_⟩
  have e : cur[k]? = some (.int .i64 x) := by
    rw [← Array.getElem?_toList, ← List.getElem?_take_of_lt (show k < n by omega), ht, List.getElem?_map, hx]; rfl
  rw [cell_of_row _ _ _ _ _ _ hg, e]
theorem row_lower {w : World} {b b' : Nat} {e : TypeId} {z : Nat} {v : Value} {n : Nat} {xs : List Value} (h : w.ownsRow b e z v n xs) (hb : b' ≤ b) : w.ownsRow b' e z v n xs := by
  refine ⟨h.1, ?_⟩
  rcases h.2 with hn | ⟨g, cap, cur, hv, hg, rest⟩
  · exact .inl hn
  · exact .inr ⟨g, cap, cur, hv, Nat.le_trans hb hg, rest⟩
attribute [local go_sem ↓ high] app_page
end Go.Proofs.YtkdhlofcdcnjgaaGreat
namespace Go.Proofs.YtkdhlofcdcnjgaaGreat
set_option maxRecDepth 100000
open Go.ChangeShapes Go.WideShapes Go.ChangeAt Go.RowKit Go.PlainAid Go.ChangeMaps Go.MapKept
open Go.Sort (grow)

/-- What Commit answers, and what is behind it. -/
def CommitPost (w0 : World) (p q bm c : Nat) (d : D) (h : Hd) (T : Int → Option ByteArray) (R : List (Nat × Obj)) (e : Ending) (w' : World) : Prop :=
  ∃ ks, Keys T ks ∧ ks.length ≤ c ∧
    ((ks = [] ∧ e = .returned (.int .i64 0) ∧ StT w0 p q bm c d h noPages false R w') ∨
     (ks ≠ [] ∧ h.room < blocksN ks.length ∧ e = .returned (.int .i64 12) ∧ StT w0 p q bm c d h noPages false R w') ∨
     (ks ≠ [] ∧ blocksN ks.length ≤ h.room ∧ e = .returned (.int .i64 (opsE d (commitOps h (txPages T ks)))) ∧
      ∃ h', h'.room = h.room ∧ h'.pages = h.pages ∧ (opsE d (commitOps h (txPages T ks)) = 0 → h' = (h.next (packB (txPages T ks)).length).next 0) ∧
        StT w0 p q bm c (d.ops (commitOps h (txPages T ks))) h' noPages (opsE d (commitOps h (txPages T ks)) != 0) R w'))
theorem row_open2 {w : World} {base : Nat} {e : TypeId} {z : Nat} {v : Value} {n : Nat} {xs : List Value} (h : w.ownsRow base e z v n xs) (hn : 0 < n) : ∃ g cap cur, v = .slice (some ⟨g, 0, none⟩) n cap ∧ base ≤ g ∧ w.heap[g]? = some (.cells cur e (0, 0)) ∧ cur.toList.take (n * z) = xs := by
  obtain ⟨h1, h2⟩ := h
  rcases h2 with ⟨_, h2⟩ | ⟨g, cap, cur, hv, hb, hg, hn2, hc, hsz, ht⟩
  · omega
  · exact ⟨g, cap, cur, hv, hb, hg, ht⟩
theorem StT.toR {w0 w : World} {p q bm c : Nat} {d : D} {h : Hd} {T : Int → Option ByteArray} {dead : Bool} {R : List (Nat × Obj)} (H : StT w0 p q bm c d h T dead R w) : ∃ es clock, TxIs es clock c T ∧ StR w0 p q bm d h dead ((bm, .map es clock) :: R) w := H.ex
end Go.Proofs.YtkdhlofcdcnjgaaGreat
