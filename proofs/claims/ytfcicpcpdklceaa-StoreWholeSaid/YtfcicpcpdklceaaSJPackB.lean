/- What Pack's loops keep: the builder of numbers; a box with a slice of texts, which grows. -/
import Derived.Test.YtfcicpcpdklceaaSJPackA
import Derived.Test.YtfcicpcpdklceaaSJChunk
import Derived.RangeFuncBox
import Derived.OwnWalk
import Derived.Deep.AppendLies
namespace Go.Proofs.Ytfcicpcpdklceaa
set_option maxRecDepth 100000
open Go.ChangeShapes Go.WideShapes Go.ChangeAt Go.RowKit Go.PlainAid
attribute [local go_sem] Oper.semAt_some

theorem ownsRow_on {w w' : World} {base : Nat} {e : TypeId} {size : Nat} {v : Value} {n : Nat} {xs : List Value} (h : w.ownsRow base e size v n xs) (b : Below w.heap.size w w') : w'.ownsRow base e size v n xs := by
  obtain ⟨h1, h2⟩ := h
  refine ⟨h1, ?_⟩
  rcases h2 with h2 | ⟨g, cap, cur, hv, hb, hg, h3⟩
  · exact .inl h2
  · exact .inr ⟨g, cap, cur, hv, hb, (b.block g (heap_lt' hg)).trans hg, h3⟩
theorem bld_on {w w' : World} {T e : TypeId} {B b : Nat} {bs : List Value} (h : Lib.IsBuilder T e B b bs w) (k : Below w.heap.size w w') : Lib.IsBuilder T e B b bs w' := by
  rcases h with ⟨h1, v, h2, h3, h4⟩ | ⟨h1, v, h2, h3, h4⟩
  · exact .inl ⟨h1, v, (k.block b (heap_lt' h2)).trans h2, ownsRow_on h3 k, h4⟩
  · exact .inr ⟨h1, v, (k.block b (heap_lt' h2)).trans h2, ownsRow_on h3 k, h4⟩
theorem info_text : (Try.prog.info? 9).map (fun i => (i.zero, i.size, i.bytes)) = some (some (.string ⟨#[]⟩), 1, 16) := by kernel_rfl
/-- The numbers of the first pages are written. -/
def HeadAt (w wr : World) (n : Int) (pre : List PageV) : Prop := Below w.heap.size w wr ∧ Lib.IsBuilder 99 5 w.heap.size w.heap.size (Lib.byteCells (headT n pre).data.toList) wr
theorem HeadAt.on {w wr w' : World} {n : Int} {pre : List PageV} (h : HeadAt w wr n pre) (k : Below wr.heap.size wr w') : HeadAt w w' n pre := ⟨h.1.on k, bld_on h.2 k⟩
theorem HeadAt.write {w wr w' : World} {n : Int} {pre : List PageV} {p : PageV} (h : HeadAt w wr n pre) (hk : Below w.heap.size wr w')
    (hb : Lib.BuilderAt 99 5 w.heap.size w.heap.size (.pointer (some ⟨w.heap.size, 0, none⟩)) (Lib.byteCells (headT n pre).data.toList ++ Lib.strCells (fixS (uZ p.at_) 4)) w') : HeadAt w w' n (pre ++ [p]) := by
  refine ⟨h.1.trans hk, .inr ?_⟩
  rw [headT_snoc, byteCells_cat]
  exact hb
/-- The box B holds a slice of the call's own with these texts. -/
def BlocksAt (n₀ B : Nat) (W : World) (xs : List Value) : Prop := ∃ v, Boxed W B 31 v ∧ W.ownsRow n₀ 9 1 v xs.length xs
theorem BlocksAt.on {n₀ B : Nat} {W W' : World} {xs : List Value} (h : BlocksAt n₀ B W xs) (k : Below W.heap.size W W') : BlocksAt n₀ B W' xs := by
  obtain ⟨v, h1, h2⟩ := h
  exact ⟨v, (k.block B h1.lt).trans h1, ownsRow_on h2 k⟩
theorem BlocksAt.others {n₀ B b : Nat} {W W' : World} {xs : List Value} {c : Array Value} {fz : Nat × Nat} (h : BlocksAt n₀ B W xs) (k : Lib.OthersKept 5 (some b) W W') (hb : W.heap[b]? = some (.cells c 99 fz)) : BlocksAt n₀ B W' xs := by
  obtain ⟨v, h1, h2⟩ := h
  refine ⟨v, k B _ h1 (fun e => ?_) (fun c fz e => by cases e), h2.1, ?_⟩
  · cases e
    have := (show W.heap[B]? = _ from h1).symm.trans hb
    cases this
  · rcases h2.2 with h3 | ⟨g, cap, cur, hv, hbb, hg, h3⟩
    · exact .inl h3
    · refine .inr ⟨g, cap, cur, hv, hbb, k g _ hg (fun e => ?_) (fun c fz e => by cases e), h3⟩
      cases e
      have := hg.symm.trans hb
      cases this
theorem builder_block {T e : TypeId} {B b : Nat} {bs : List Value} {w : World} (h : Lib.IsBuilder T e B b bs w) : ∃ c, w.heap[b]? = some (.cells c T (0, 0)) := by
  rcases h with ⟨_, v, h2, _⟩ | ⟨_, v, h2, _⟩
  · exact ⟨_, h2⟩
  · exact ⟨_, h2⟩
/-- An append to a slice of texts, as one action. -/
def appS (vs : Array Value) : Sem Value := Builtin.append_ #[31, 31] 31 vs
theorem app_text (vs : Array Value) : Builtin.append_ #[31, 31] 31 vs = appS vs := rfl
/-- One text more: what the append makes, and behind the store. -/
theorem blocks_push {n₀ bx : Nat} {W w1 : World} {xs : List Value} {v : Value} (hv : Boxed W bx 31 v) (hrow : W.ownsRow n₀ 9 1 v xs.length xs) (hb1 : Below W.heap.size W w1) (hn : n₀ ≤ W.heap.size) (hbx : n₀ ≤ bx) (hlen : xs.length ≤ 1048576) (T : ByteArray) (m : Nat) (hm : xs.length = m) :
    ∃ g cap w2, w1.cell? ⟨bx, 0, none⟩ = some v ∧
      (appS #[v, .slice (some ⟨w1.heap.size, 0, none⟩) 1 1]).run Try.prog (w1.alloc (.cells #[.string T] 9)) = .ok (.slice (some ⟨g, 0, none⟩) (m + 1) cap) w2 ∧
      w2.cell? ⟨bx, 0, none⟩ = some v ∧ w2.frozen? ⟨bx, 0, none⟩ = false ∧
      BlocksAt n₀ bx (w2.setCell ⟨bx, 0, none⟩ (.slice (some ⟨g, 0, none⟩) (m + 1) cap)) (xs ++ [.string T]) ∧ KeepsOthers W (w2.setCell ⟨bx, 0, none⟩ (.slice (some ⟨g, 0, none⟩) (m + 1) cap)) ∧
      Below n₀ W (w2.setCell ⟨bx, 0, none⟩ (.slice (some ⟨g, 0, none⟩) (m + 1) cap)) ∧
      ∀ k c e fz, W.heap[k]? = some (.cells c e fz) → k ≠ bx → e ≠ 9 → (w2.setCell ⟨bx, 0, none⟩ (.slice (some ⟨g, 0, none⟩) (m + 1) cap)).heap[k]? = W.heap[k]? := by
  subst hm
  obtain ⟨i0, hi, hz0, hz1, hz2⟩ := info_parts info_text
  have hv1 : Boxed w1 bx 31 v := (hb1.block bx hv.lt).trans hv
  have hrow1 := ownsRow_on hrow hb1
  have hq := heap_alloc_new w1 (.cells #[.string T] 9)
  have hba : Below w1.heap.size w1 (w1.alloc (.cells #[.string T] 9)) := by go_grown
  have hsz := hb1.size
  obtain ⟨g, cap, w2, hr, h2, h3, _, _⟩ := run_append_lies (P := Try.prog) (w := w1.alloc (.cells #[.string T] 9)) 31 31 n₀ 9 i0 (.string ⟨#[]⟩) 1 16 Try.underlying31 hi hz0 hz1 hz2 rfl (by decide) v xs.length xs (ownsRow_on hrow1 hba) ⟨w1.heap.size, 0, none⟩ 1 1 [.string T] rfl
    (fun j u hu => by
      rcases j with _ | j
      · have : Value.string T = u := by simpa using hu
        rw [← this]
        show (w1.alloc (.cells #[.string T] 9)).cell? ⟨w1.heap.size, 0, none⟩ = _
        rw [cell_of_row _ _ _ _ _ _ hq]
        rfl
      · simp at hu) (fun u hu => by have : u = .string T := by simpa using hu
                                    rw [this]; rfl) (by decide) (by unfold maxLen; omega) (by omega) (by rw [World.size_alloc]; omega) _ rfl
  obtain ⟨a1, a2, a3, a4, a5⟩ := hv1.appended (e := 9) (by decide) hrow1 (Nat.le_trans hn hsz) hbx h2 h3
  have hk : KeepsOthers W w1 := ⟨hsz, fun k o hk _ => (hb1.block k (heap_lt' hk)).trans hk⟩
  refine ⟨g, cap, w2, hv1.cell, hr, a1.cell, a1.frozen, ⟨_, a2, by rw [List.length_append]; exact a3⟩, hk.trans a4, (hb1.mono hn).trans a5, fun k c e fz hk he1 he2 => ?_⟩
  have hlt := heap_lt' hk
  rw [heap_setCell_other _ _ _ _ he1]
  have e1 := (hb1.block k hlt).trans hk
  have e2 := (hba.block k (heap_lt' e1)).trans e1
  refine (h3.block k (heap_lt' e2) fun c' => ?_).trans (e2.trans hk.symm)
  rcases hrow1.2 with ⟨rfl, _⟩ | ⟨g', cap', cur, rfl, _, hgb, _⟩
  · simp [Value.ownBlock] at c'
  · have : k = g' := by simpa [Value.ownBlock] using c'
    rw [this, hgb] at e1
    cases e1
    exact he2 rfl
/-- Chunk k of a text. -/
def chunkT (s : ByteArray) (k : Nat) : ByteArray := s.extract (256 * k) (256 * k + chunkN s.size k)
theorem chunkT_size (s : ByteArray) (k : Nat) : (chunkT s k).size = chunkN s.size k := by
  unfold chunkT
  rw [ByteArray.size_extract]
  unfold chunkN
  omega
theorem bt_ext (s : ByteArray) (a b j : Nat) (_hb : b ≤ s.size) (hj : j < b - a) : bt (s.extract a b) j = bt s (a + j) := by
  rw [bt_list, bt_list]
  have e : (s.extract a b).data.toList = (s.data.toList.drop a).take (b - a) := by
    simp only [ByteArray.data_extract, Array.toList_extract, List.extract_eq_take_drop]
  rw [e, List.getD_eq_getElem?_getD, List.getD_eq_getElem?_getD, List.getElem?_take_of_lt hj, List.getElem?_drop]
theorem chunk_range {W : World} {g : Nat} {s : ByteArray} (h : ∀ j, j < s.size → W.cell? ⟨g, j, none⟩ = some (.int .u8 (bt s j))) (k : Nat) : W.rangeAt g (256 * k) (textCells (chunkN s.size k) (chunkT s k)) := by
  intro j v hv
  have hj : j < chunkN s.size k := by have := (List.getElem?_eq_some_iff.1 hv).1; simpa using this
  have hj2 : 256 * k + chunkN s.size k ≤ s.size := by unfold chunkN at *; omega
  rw [textCells_get _ _ hj] at hv
  rw [h (256 * k + j) (by omega), ← hv]
  unfold chunkT
  rw [bt_ext _ _ _ _ hj2 (by omega)]
/-- The blocks that numbers take; the blocks that pages are packed as. -/
def numT (s : ByteArray) : List Value := (List.range (chunks s.size)).map fun k => .string (filled (chunkT s k))
def pageT (l : List PageV) : List Value := l.map fun p => .string (filled p.data)
def packT (l : List PageV) : List Value := numT (headT (l.length : Int) l) ++ pageT l
theorem pageT_snoc (l : List PageV) (p : PageV) : pageT (l ++ [p]) = pageT l ++ [.string (filled p.data)] := by unfold pageT; rw [List.map_append]; rfl
theorem err_zero {x : PageV} (h : x.err = 0) : 0 ≤ x.at_ ∧ x.at_ < 2048 ∧ x.data.size ≤ 256 := by
  unfold PageV.err at h
  split at h
  · cases h
  · split at h
    · cases h
    · omega
/-- A body's word, where it leaves by 'return' alone. -/
def retPost (Q : Exit → Act → World → Prop) : Exit → Act → World → Prop
  | .ret, a, w => Q .ret a w
  | _, _, _ => False
theorem retPost_le {Q : Exit → Act → World → Prop} : ∀ e a w, retPost Q e a w → Q e a w
  | .ret, _, _, h => h
  | .normal, _, _, h => h.elim
  | .panic _, _, _, h => h.elim
  | .exit _, _, _, h => h.elim
  | .goto _, _, _, h => h.elim
  | .outgrown, _, _, h => h.elim
theorem below_put {w W : World} {D : Nat} {o o' : Obj} (h : Below w.heap.size w W) (hD : w.heap.size ≤ D) (hK : W.heap[D]? = some o) (h1 : o.isCells = false) (h2 : o.isWalk = false) : Below w.heap.size w (W.putObj D o') :=
  h.trans (belowK_b (w := w) (Nat.le_refl _) W D o o' hD hK h1 h2)
end Go.Proofs.Ytfcicpcpdklceaa
