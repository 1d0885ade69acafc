/- Pages as plain data; contracts of the small functions of Pack; a head of numbers, as bytes. What Pack's loops keep: the builder of numbers; a box with a slice of texts, which grows. Contract of journal.Pack, where it packs. Plain facts on heads: their sizes, their parts, there and back, and torn. Contracts of the reference: Blocks, Texts. Disks without a limit that have power; the law's helpers: some, awake. A disk of the call's own beside other blocks of its own, whose contents are known: what each call leaves of all. -/
import Derived.Test.YtkdhlofcdcnjgaaGreatGD
import Derived.RangeFuncBox
import Derived.OwnWalk
import Derived.Deep.AppendLies
import Derived.Deep.RegionLaw
import Derived.Deep.QuietTactic
import Derived.Test.YtkdhlofcdcnjgaaGreatGB
namespace Go.Proofs.YtkdhlofcdcnjgaaGreat
set_option maxRecDepth 100000
open Go.ChangeShapes Go.WideShapes Go.ChangeAt Go.RowKit Go.PlainAid

/-- A page. -/
structure PageV where
  at_ : Int
  data : ByteArray
def PageV.cells (x : PageV) : List Value := [.int .i64 x.at_, .string x.data]
structure PageV.Wf (x : PageV) : Prop where
  at_ : -9223372036854775808 ≤ x.at_ ∧ x.at_ ≤ 9223372036854775807
  data : x.data.size ≤ maxLen
/-- What is wrong with a page. -/
def PageV.err (x : PageV) : Int := if x.at_ < 0 ∨ 2048 ≤ x.at_ then 10 else if 256 < x.data.size then 21 else 0
/-- The pages that a slice reads as, in world w. -/
def PagesIn (w : World) (v : Value) (l : List PageV) : Prop :=
  (l = [] ∧ ∃ ao cap, v = .slice ao 0 cap) ∨ ∃ b o cap, v = .slice (some ⟨b, o, none⟩) l.length cap ∧ b < w.heap.size ∧ 0 < l.length ∧ (l.length : Int) ≤ 9223372036854775807 ∧ ∀ i x, l[i]? = some x → x.Wf ∧ w.rangeAt b (o + i * 2) x.cells
theorem PagesIn.on {w w' : World} {v : Value} {l : List PageV} (h : PagesIn w v l) (hb : Below w.heap.size w w') : PagesIn w' v l := by
  rcases h with h | ⟨b, o, cap, hv, hlt, h0, hm, hr⟩
  · exact .inl h
  · exact .inr ⟨b, o, cap, hv, Nat.lt_of_lt_of_le hlt hb.size, h0, hm, fun i x hx => ⟨(hr i x hx).1, rangeAt_keep (hr i x hx).2 (hb.block b hlt)⟩⟩
/-- The numbers at the head of packed pages, as bytes. -/
def headT (n : Int) (l : List PageV) : ByteArray := l.foldl (fun s p => s ++ fixS (uZ p.at_) 4) (fixS (uZ n) 4)
theorem headT_nil (n : Int) : headT n [] = fixS (uZ n) 4 := rfl
theorem headT_snoc (n : Int) (l : List PageV) (p : PageV) : headT n (l ++ [p]) = headT n l ++ fixS (uZ p.at_) 4 := by
  unfold headT
  rw [List.foldl_append]
  rfl
theorem headT_size (n : Int) : ∀ (k : Nat) (l : List PageV), k ≤ l.length → (headT n (l.take k)).size = 4 + 4 * k
  | 0, l, _ => by rw [List.take_zero, headT_nil, fixS4_size]
  | k + 1, l, h => by
    rw [List.take_succ_eq_append_getElem (by omega), headT_snoc, ByteArray.size_append, headT_size n k l (by omega), fixS4_size]
    omega
theorem byteCells_cat (a b : ByteArray) : Lib.byteCells (a ++ b).data.toList = Lib.byteCells a.data.toList ++ Lib.strCells b := by
  rw [ByteArray.data_append, Array.toList_append]
  unfold Lib.strCells Lib.byteCells
  rw [List.map_append]
/-- How many blocks so many pages take. -/
def blocksN (n : Nat) : Nat := n / 64 + 1 + n
set_option maxHeartbeats 400000 in
theorem blocks_any (n : Nat) (w : World) (hn : n ≤ 1152921504606846976) :
    Calls Tryz.prog 131 #[.int .i64 (n : Int)] w fun e w' => e = .returned (.int .i64 (blocksN n)) ∧ w = w' := by
  have hd : decide ((n : Int) < 0) = false := decide_eq_false (by omega)
  have HB : Hid (blocksN n = n / 64 + 1 + n) := rfl
  go_enter Tryz.func131, Tryz.ntmps131
  go_wp2
  go_returns
  exact ⟨ret_i (by rw [HB.out]; simp), rfl⟩
end Go.Proofs.YtkdhlofcdcnjgaaGreat
namespace Go.Proofs.YtkdhlofcdcnjgaaGreat
set_option maxRecDepth 100000
open Go.ChangeShapes Go.WideShapes Go.ChangeAt Go.RowKit Go.PlainAid
attribute [local go_sem] Oper.semAt_some

theorem ownsRow_on {w w' : World} {base : Nat} {e : TypeId} {size : Nat} {v : Value} {n : Nat} {xs : List Value} (h : w.ownsRow base e size v n xs) (b : Below w.heap.size w w') : w'.ownsRow base e size v n xs := by
  obtain ⟨h1, h2⟩ := h
  refine ⟨h1, ?_⟩
  rcases h2 with h2 | ⟨g, cap, cur, hv, hb, hg, h3⟩
  · exact .inl h2
  · exact .inr ⟨g, cap, cur, hv, hb, (b.block g (heap_lt' hg)).trans hg, h3⟩
theorem bld_on {w w' : World} {T e : TypeId} {B b : Nat} {bs : List Value} (h : Lib.IsBuilder T e B b bs w) (k : Below w.heap.size w w') : Lib.IsBuilder T e B b bs w' := by
  rcases h with ⟨h1, v, h2, h3, h4⟩ | ⟨h1, v, h2, h3, h4⟩
  · exact .inl ⟨h1, v, (k.block b (heap_lt' h2)).trans h2, ownsRow_on h3 k, h4⟩
  · exact .inr ⟨h1, v, (k.block b (heap_lt' h2)).trans h2, ownsRow_on h3 k, h4⟩
theorem info_text : (Tryz.prog.info? 9).map (fun i => (i.zero, i.size, i.bytes)) = some (some (.string ⟨#[]⟩), 1, 16) := by kernel_rfl
/-- The numbers of the first pages are written. -/
def HeadAt (w wr : World) (n : Int) (pre : List PageV) : Prop := Below w.heap.size w wr ∧ Lib.IsBuilder 192 5 w.heap.size w.heap.size (Lib.byteCells (headT n pre).data.toList) wr
theorem HeadAt.on {w wr w' : World} {n : Int} {pre : List PageV} (h : HeadAt w wr n pre) (k : Below wr.heap.size wr w') : HeadAt w w' n pre := ⟨h.1.on k, bld_on h.2 k⟩
theorem HeadAt.write {w wr w' : World} {n : Int} {pre : List PageV} {p : PageV} (h : HeadAt w wr n pre) (hk : Below w.heap.size wr w')
    (hb : Lib.BuilderAt 192 5 w.heap.size w.heap.size (.pointer (some ⟨w.heap.size, 0, none⟩)) (Lib.byteCells (headT n pre).data.toList ++ Lib.strCells (fixS (uZ p.at_) 4)) w') : HeadAt w w' n (pre ++ [p]) := by
  refine ⟨h.1.trans hk, .inr ?_⟩
  rw [headT_snoc, byteCells_cat]
  exact hb
/-- The box B holds a slice of the call's own with these texts. -/
def BlocksAt (n₀ B : Nat) (W : World) (xs : List Value) : Prop := ∃ v, Boxed W B 152 v ∧ W.ownsRow n₀ 9 1 v xs.length xs
theorem BlocksAt.on {n₀ B : Nat} {W W' : World} {xs : List Value} (h : BlocksAt n₀ B W xs) (k : Below W.heap.size W W') : BlocksAt n₀ B W' xs := by
  obtain ⟨v, h1, h2⟩ := h
  exact ⟨v, (k.block B h1.lt).trans h1, ownsRow_on h2 k⟩
theorem BlocksAt.others {n₀ B b : Nat} {W W' : World} {xs : List Value} {c : Array Value} {fz : Nat × Nat} (h : BlocksAt n₀ B W xs) (k : Lib.OthersKept 5 (some b) W W') (hb : W.heap[b]? = some (.cells c 192 fz)) : BlocksAt n₀ B W' xs := by
  obtain ⟨v, h1, h2⟩ := h
  refine ⟨v, k B _ h1 (fun e => ?_) (fun c fz e => by cases e), h2.1, ?_⟩
  · cases e
    have := (show W.heap[B]? = _ from h1).symm.trans hb
    cases this
  · rcases h2.2 with h3 | ⟨g, cap, cur, hv, hbb, hg, h3⟩
    · exact .inl h3
    · refine .inr ⟨g, cap, cur, hv, hbb, k g _ hg (fun e => ?_) (fun c fz e => by cases e), h3⟩
      cases e
      have := hg.symm.trans hb
      cases this
theorem builder_block {T e : TypeId} {B b : Nat} {bs : List Value} {w : World} (h : Lib.IsBuilder T e B b bs w) : ∃ c, w.heap[b]? = some (.cells c T (0, 0)) := by
  rcases h with ⟨_, v, h2, _⟩ | ⟨_, v, h2, _⟩
  · exact ⟨_, h2⟩
  · exact ⟨_, h2⟩
/-- An append to a slice of texts, as one action. -/
def appS (vs : Array Value) : Sem Value := Builtin.append_ #[152, 152] 152 vs
theorem app_text (vs : Array Value) : Builtin.append_ #[152, 152] 152 vs = appS vs := rfl
/-- One text more: what the append makes, and behind the store. -/
theorem blocks_push {n₀ bx : Nat} {W w1 : World} {xs : List Value} {v : Value} (hv : Boxed W bx 152 v) (hrow : W.ownsRow n₀ 9 1 v xs.length xs) (hb1 : Below W.heap.size W w1) (hn : n₀ ≤ W.heap.size) (hbx : n₀ ≤ bx) (hlen : xs.length ≤ 1048576) (T : ByteArray) (m : Nat) (hm : xs.length = m) :
    ∃ g cap w2, w1.cell? ⟨bx, 0, none⟩ = some v ∧
      (appS #[v, .slice (some ⟨w1.heap.size, 0, none⟩) 1 1]).run Tryz.prog (w1.alloc (.cells #[.string T] 9)) = .ok (.slice (some ⟨g, 0, none⟩) (m + 1) cap) w2 ∧
      w2.cell? ⟨bx, 0, none⟩ = some v ∧ w2.frozen? ⟨bx, 0, none⟩ = false ∧
      BlocksAt n₀ bx (w2.setCell ⟨bx, 0, none⟩ (.slice (some ⟨g, 0, none⟩) (m + 1) cap)) (xs ++ [.string T]) ∧ KeepsOthers W (w2.setCell ⟨bx, 0, none⟩ (.slice (some ⟨g, 0, none⟩) (m + 1) cap)) ∧
      Below n₀ W (w2.setCell ⟨bx, 0, none⟩ (.slice (some ⟨g, 0, none⟩) (m + 1) cap)) ∧
      ∀ k c e fz, W.heap[k]? = some (.cells c e fz) → k ≠ bx → e ≠ 9 → (w2.setCell ⟨bx, 0, none⟩ (.slice (some ⟨g, 0, none⟩) (m + 1) cap)).heap[k]? = W.heap[k]? := by
  subst hm
  obtain ⟨i0, hi, hz0, hz1, hz2⟩ := info_parts info_text
  have hv1 : Boxed w1 bx 152 v := (hb1.block bx hv.lt).trans hv
  have hrow1 := ownsRow_on hrow hb1
  have hq := heap_alloc_new w1 (.cells #[.string T] 9)
  have hba : Below w1.heap.size w1 (w1.alloc (.cells #[.string T] 9)) := by go_grown
  have hsz := hb1.size
  obtain ⟨g, cap, w2, hr, h2, h3, _, _⟩ := run_append_lies (P := Tryz.prog) (w := w1.alloc (.cells #[.string T] 9)) 152 152 n₀ 9 i0 (.string ⟨#[]⟩) 1 16 Tryz.underlying152 hi hz0 hz1 hz2 rfl (by decide) v xs.length xs (ownsRow_on hrow1 hba) ⟨w1.heap.size, 0, none⟩ 1 1 [.string T] rfl
    (fun j u hu => by
      rcases j with _ | j
      · have : Value.string T = u := by simpa using hu
        rw [← this]
        show (w1.alloc (.cells #[.string T] 9)).cell? ⟨w1.heap.size, 0, none⟩ = _
        rw [cell_of_row _ _ _ _ _ _ hq]
        rfl
      · simp at hu) (fun u hu => by have : u = .string T := by simpa using hu
                                    rw [this]; rfl) (by decide) (by unfold maxLen; omega) (by omega) (by rw [World.size_alloc]; omega) _ rfl
  obtain ⟨a1, a2, a3, a4, a5⟩ := hv1.appended (e := 9) (by decide) hrow1 (Nat.le_trans hn hsz) hbx h2 h3
  have hk : KeepsOthers W w1 := ⟨hsz, fun k o hk _ => (hb1.block k (heap_lt' hk)).trans hk⟩
  refine ⟨g, cap, w2, hv1.cell, hr, a1.cell, a1.frozen, ⟨_, a2, by rw [List.length_append]; exact a3⟩, hk.trans a4, (hb1.mono hn).trans a5, fun k c e fz hk he1 he2 => ?_⟩
  have hlt := heap_lt' hk
  rw [heap_setCell_other _ _ _ _ he1]
  have e1 := (hb1.block k hlt).trans hk
  have e2 := (hba.block k (heap_lt' e1)).trans e1
  refine (h3.block k (heap_lt' e2) fun c' => ?_).trans (e2.trans hk.symm)
  rcases hrow1.2 with ⟨rfl, _⟩ | ⟨g', cap', cur, rfl, _, hgb, _⟩
  · simp [Value.ownBlock] at c'
  · have : k = g' := by simpa [Value.ownBlock] using c'
    rw [this, hgb] at e1
    cases e1
    exact he2 rfl
/-- Chunk k of a text. -/
def chunkT (s : ByteArray) (k : Nat) : ByteArray := s.extract (256 * k) (256 * k + chunkN s.size k)
theorem chunkT_size (s : ByteArray) (k : Nat) : (chunkT s k).size = chunkN s.size k := by
  unfold chunkT
  rw [ByteArray.size_extract]
  unfold chunkN
  omega
theorem bt_ext (s : ByteArray) (a b j : Nat) (_hb : b ≤ s.size) (hj : j < b - a) : bt (s.extract a b) j = bt s (a + j) := by
  rw [bt_list, bt_list]
  have e : (s.extract a b).data.toList = (s.data.toList.drop a).take (b - a) := by
    simp only [ByteArray.data_extract, Array.toList_extract, List.extract_eq_take_drop]
  rw [e, List.getD_eq_getElem?_getD, List.getD_eq_getElem?_getD, List.getElem?_take_of_lt hj, List.getElem?_drop]
theorem chunk_range {W : World} {g : Nat} {s : ByteArray} (h : ∀ j, j < s.size → W.cell? ⟨g, j, none⟩ = some (.int .u8 (bt s j))) (k : Nat) : W.rangeAt g (256 * k) (textCells (chunkN s.size k) (chunkT s k)) := by
  intro j v hv
  have hj : j < chunkN s.size k := by have := (List.getElem?_eq_some_iff.1 hv).1; simpa using this
  have hj2 : 256 * k + chunkN s.size k ≤ s.size := by unfold chunkN at *; omega
  rw [textCells_get _ _ hj] at hv
  rw [h (256 * k + j) (by omega), ← hv]
  unfold chunkT
  rw [bt_ext _ _ _ _ hj2 (by omega)]
/-- The blocks that numbers take; the blocks that pages are packed as. -/
def numT (s : ByteArray) : List Value := (List.range (chunks s.size)).map fun k => .string (filled (chunkT s k))
def pageT (l : List PageV) : List Value := l.map fun p => .string (filled p.data)
def packT (l : List PageV) : List Value := numT (headT (l.length : Int) l) ++ pageT l
theorem pageT_snoc (l : List PageV) (p : PageV) : pageT (l ++ [p]) = pageT l ++ [.string (filled p.data)] := by unfold pageT; rw [List.map_append]; rfl
theorem err_zero {x : PageV} (h : x.err = 0) : 0 ≤ x.at_ ∧ x.at_ < 2048 ∧ x.data.size ≤ 256 := by
  unfold PageV.err at h
  split at h
  · cases h
  · split at h
    · cases h
    · omega
/-- A body's word, where it leaves by 'return' alone. -/
def retPost (Q : Exit → Act → World → Prop) : Exit → Act → World → Prop
  | .ret, a, w => Q .ret a w
  | _, _, _ => False
theorem retPost_le {Q : Exit → Act → World → Prop} : ∀ e a w, retPost Q e a w → Q e a w
  | .ret, _, _, h => h
  | .normal, _, _, h => h.elim
  | .panic _, _, _, h => h.elim
  | .exit _, _, _, h => h.elim
  | .goto _, _, _, h => h.elim
  | .outgrown, _, _, h => h.elim
theorem below_put {w W : World} {D : Nat} {o o' : Obj} (h : Below w.heap.size w W) (hD : w.heap.size ≤ D) (hK : W.heap[D]? = some o) (h1 : o.isCells = false) (h2 : o.isWalk = false) : Below w.heap.size w (W.putObj D o') :=
  h.trans (belowK_b (w := w) (Nat.le_refl _) W D o o' hD hK h1 h2)
end Go.Proofs.YtkdhlofcdcnjgaaGreat
namespace Go.Proofs.YtkdhlofcdcnjgaaGreat
set_option maxRecDepth 100000
open Go.ChangeShapes Go.WideShapes Go.ChangeAt Go.RowKit Go.PlainAid Go.Shelf
attribute [local go_sem] Oper.semAt_some
attribute [local go_sem ↓ high] app_text

end Go.Proofs.YtkdhlofcdcnjgaaGreat
namespace Go.Proofs.YtkdhlofcdcnjgaaGreat
set_option maxRecDepth 100000
open Go.ChangeShapes Go.WideShapes Go.ChangeAt Go.RowKit Go.PlainAid

theorem bt_fix (n : Int) (z : Int) (h0 : 0 ≤ n) (h1 : n ≤ 18446744073709551615) (k : Nat) (hz0 : 0 ≤ z) (hz : z ≤ 8) : bt (fixS n z) k = if k < z.toNat then (l8 n).getD k 0 else 0 := by
  have e : fixS n z = strOfNums ((l8 n).take z.toNat) := by unfold fixS; rw [show (min (max z 0) 8) = z by omega]
  rw [e]
  have hx : ∀ x ∈ l8 n, 0 ≤ x ∧ x ≤ 255 := by
    intro x hx
    simp only [l8, List.mem_cons, List.not_mem_nil, or_false] at hx
    omega
  have eg : ((l8 n).take z.toNat).getD k 0 = if k < z.toNat then (l8 n).getD k 0 else 0 := by
    simp only [List.getD_eq_getElem?_getD]
    by_cases c : k < z.toNat
    · rw [List.getElem?_take_of_lt c, if_pos c]
    · rw [if_neg c, List.getElem?_eq_none (by rw [List.length_take]; omega)]
      rfl
  have hb : 0 ≤ ((l8 n).take z.toNat).getD k 0 ∧ ((l8 n).take z.toNat).getD k 0 ≤ 255 := by
    by_cases c : k < ((l8 n).take z.toNat).length
    · rw [List.getD_eq_getElem?_getD, List.getElem?_eq_getElem c]
      exact hx _ (List.mem_of_mem_take (List.getElem_mem c))
    · rw [List.getD_eq_getElem?_getD, List.getElem?_eq_none (by omega)]
      exact ⟨Int.le_refl _, by decide⟩
  rw [bt_strOfNums _ k hb.1 hb.2, eg]
theorem back_fix8 (n : Int) (h0 : 0 ≤ n) (h1 : n ≤ 18446744073709551615) : unfixZ (fixS n 8) = n := by
  have b := fun k => bt_fix n 8 h0 h1 k (by omega) (by omega)
  unfold unfixZ
  rw [b 0, b 1, b 2, b 3, b 4, b 5, b 6, b 7]
  have e : (8 : Int).toNat = 8 := rfl
  simp only [e, l8, n8, List.getD_cons_zero, List.getD_cons_succ, Nat.reduceLT, if_true]
  omega
theorem back_fix4 (n : Int) (h0 : 0 ≤ n) (h1 : n ≤ 18446744073709551615) : unfixZ (fixS n 4) = n % 4294967296 := by
  have b := fun k => bt_fix n 4 h0 h1 k (by omega) (by omega)
  unfold unfixZ
  rw [b 0, b 1, b 2, b 3, b 4, b 5, b 6, b 7]
  have e : (4 : Int).toNat = 4 := rfl
  simp only [e, l8, n8, List.getD_cons_zero, List.getD_cons_succ, Nat.reduceLT, if_true, if_false]
  omega
theorem notS_get (s : ByteArray) (i : Nat) (h : i < s.size) : ((List.range s.size).map fun j => 255 - bt s j).getD i 0 = 255 - bt s i := by
  simp [List.getD_eq_getElem?_getD, List.getElem?_map, List.getElem?_range h]
theorem back (s : ByteArray) : notS (notS s) = s := by
  apply ByteArray.ext
  apply Array.ext'
  apply List.ext_getElem?
  intro i
  have h : ∀ t : ByteArray, (notS t).data.toList = ((List.range t.size).map fun j => 255 - bt t j).map fun n => UInt8.ofNat n.toNat := fun t => strOfNums_data _
  rw [h, notS_size, List.getElem?_map, List.getElem?_map]
  by_cases c : i < s.size
  · rw [List.getElem?_range c]
    have e : bt (notS s) i = 255 - bt s i := by
      have g := notS_get s i c
      have b := bt_nonneg s i
      have b' := bt_le s i
      unfold notS
      rw [bt_strOfNums _ i (by rw [g]; omega) (by rw [g]; omega), g]
    have hl : i < s.data.toList.length := by simpa using c
    rw [List.getElem?_eq_getElem hl]
    simp only [Option.map_some, e]
    rw [bt_list, List.getD_eq_getElem?_getD, List.getElem?_eq_getElem hl]
    simp only [Option.getD_some]
    congr 1
    rw [show (255 - (255 - ((s.data.toList[i]).toNat : Int))).toNat = (s.data.toList[i]).toNat by omega]
    simp
  · rw [List.getElem?_eq_none (by simp; omega), List.getElem?_eq_none (by simp; omega)]
    rfl
theorem not_inj {a b : ByteArray} (h : notS a = notS b) : a = b := by rw [← back a, h, back]
theorem headB_size (s u r p : Int) : (headB s u r p).size = 20 := by
  unfold headB
  rw [ByteArray.size_append, ByteArray.size_append, ByteArray.size_append, fixS8_size, fixS4_size, fixS4_size, fixS4_size]
theorem writeB_size (s u r p : Int) : (writeB s u r p).size = 40 := by
  unfold writeB
  rw [ByteArray.size_append, notS_size, headB_size]
theorem ext_left (a b : ByteArray) (i j : Nat) (h : j ≤ a.size) : (a ++ b).extract i j = a.extract i j := by
  refine text_ext (by rw [ByteArray.size_extract, ByteArray.size_extract, ByteArray.size_append]; omega) fun k hk => ?_
  rw [ByteArray.size_extract, ByteArray.size_append] at hk
  rw [bt_ext _ _ _ _ (by rw [ByteArray.size_append]; omega) (by omega), bt_ext _ _ _ _ h (by omega), bt_append, if_pos (by omega)]
theorem ext_right (a b : ByteArray) (i j : Nat) (h : a.size ≤ i) (hj : j ≤ a.size + b.size) : (a ++ b).extract i j = b.extract (i - a.size) (j - a.size) := by
  refine text_ext (by rw [ByteArray.size_extract, ByteArray.size_extract, ByteArray.size_append]; omega) fun k hk => ?_
  rw [ByteArray.size_extract, ByteArray.size_append] at hk
  rw [bt_ext _ _ _ _ (by rw [ByteArray.size_append]; omega) (by omega), bt_ext _ _ _ _ (by omega) (by omega), bt_append, if_neg (by omega)]
  congr 1
  omega
theorem ext_full (a : ByteArray) {n : Nat} (h : a.size = n) : a.extract 0 n = a := by
  refine text_ext (by rw [ByteArray.size_extract]; omega) fun k hk => ?_
  rw [ByteArray.size_extract] at hk
  rw [bt_ext _ _ _ _ (by omega) (by omega), Nat.zero_add]
/-- A head's fields, out of its first twenty bytes. -/
def fieldsV (h : ByteArray) : Value := .agg #[.int .u64 (unfixZ (h.extract 0 8)), .int .i64 (unfixZ (h.extract 8 12)), .int .i64 (unfixZ (h.extract 12 16)), .int .i64 (unfixZ (h.extract 16 20))]
theorem fields_of (b h : ByteArray) (e : b.extract 0 20 = h) : fieldsV b = fieldsV h := by
  subst e
  unfold fieldsV
  rw [ext_ext b 0 20 0 8 (by omega), ext_ext b 0 20 8 12 (by omega), ext_ext b 0 20 12 16 (by omega), ext_ext b 0 20 16 20 (by omega)]
theorem head_back (s u r p : Int) (h0 : 0 ≤ s) (h1 : s ≤ 18446744073709551615) : fieldsV (headB s u r p) = .agg #[.int .u64 s, .int .i64 (uZ u % 4294967296), .int .i64 (uZ r % 4294967296), .int .i64 (uZ p % 4294967296)] := by
  have z8 := fixS8_size s
  have zu := fixS4_size (uZ u)
  have zr := fixS4_size (uZ r)
  have zp := fixS4_size (uZ p)
  have a1 : (fixS s 8 ++ fixS (uZ u) 4).size = 12 := by rw [ByteArray.size_append]; omega
  have a2 : (fixS s 8 ++ fixS (uZ u) 4 ++ fixS (uZ r) 4).size = 16 := by rw [ByteArray.size_append]; omega
  have e0 : (headB s u r p).extract 0 8 = fixS s 8 := by
    unfold headB
    rw [ext_left _ _ _ _ (by omega), ext_left _ _ _ _ (by omega), ext_left _ _ _ _ (by omega), ext_full _ z8]
  have e1 : (headB s u r p).extract 8 12 = fixS (uZ u) 4 := by
    unfold headB
    rw [ext_left _ _ _ _ (by omega), ext_left _ _ _ _ (by omega), ext_right _ _ _ _ (by omega) (by omega), z8, ext_full _ zu]
  have e2 : (headB s u r p).extract 12 16 = fixS (uZ r) 4 := by
    unfold headB
    rw [ext_left _ _ _ _ (by omega), ext_right _ _ _ _ (by omega) (by omega), a1, ext_full _ zr]
  have e3 : (headB s u r p).extract 16 20 = fixS (uZ p) 4 := by
    unfold headB
    rw [ext_right _ _ _ _ (by omega) (by omega), a2, ext_full _ zp]
  unfold fieldsV
  rw [e0, e1, e2, e3, back_fix8 s h0 h1, back_fix4 _ (uZ_b u).1 (uZ_b u).2, back_fix4 _ (uZ_b r).1 (uZ_b r).2, back_fix4 _ (uZ_b p).1 (uZ_b p).2]
/-- A head of twenty bytes that is written, with whatever behind it, is one. -/
theorem written_ok (h t : ByteArray) (hh : h.size = 20) : headOk (h ++ notS h ++ t) ∧ (h ++ notS h ++ t).extract 0 20 = h := by
  have zn : (notS h).size = 20 := by rw [notS_size, hh]
  have z2 : (h ++ notS h).size = 40 := by rw [ByteArray.size_append]; omega
  have e0 : (h ++ notS h ++ t).extract 0 20 = h := by rw [ext_left _ _ _ _ (by omega), ext_left _ _ _ _ (by omega), ext_full _ hh]
  refine ⟨⟨by rw [ByteArray.size_append]; omega, ?_⟩, e0⟩
  rw [e0, ext_left _ _ _ _ (by omega), ext_right _ _ _ _ (by omega) (by omega), hh, ext_full _ zn]
theorem written_ok0 (h : ByteArray) (hh : h.size = 20) : headOk (h ++ notS h) ∧ (h ++ notS h).extract 0 20 = h := by
  have := written_ok h ⟨#[]⟩ hh
  rwa [show h ++ notS h ++ (⟨#[]⟩ : ByteArray) = h ++ notS h by apply ByteArray.ext; simp [ByteArray.data_append]] at this
/-- A torn head is one of both, or none. -/
theorem torn (a b : ByteArray) (ha : a.size = 20) (hb : b.size = 20) (k : Nat) (hk : k ≤ 40) (h : headOk ((a ++ notS a).extract 0 k ++ (b ++ notS b).extract k 40)) :
    ((a ++ notS a).extract 0 k ++ (b ++ notS b).extract k 40).extract 0 20 = a ∨ ((a ++ notS a).extract 0 k ++ (b ++ notS b).extract k 40).extract 0 20 = b := by
  have na : (notS a).size = 20 := by rw [notS_size, ha]
  have nb : (notS b).size = 20 := by rw [notS_size, hb]
  have za : (a ++ notS a).size = 40 := by rw [ByteArray.size_append]; omega
  have zb : (b ++ notS b).size = 40 := by rw [ByteArray.size_append]; omega
  have z1 : ((a ++ notS a).extract 0 k).size = k := by rw [ByteArray.size_extract]; omega
  have z2 : ((b ++ notS b).extract k 40).size = 40 - k := by rw [ByteArray.size_extract]; omega
  obtain ⟨_, h⟩ := h
  by_cases c : k ≤ 20
  · right
    rw [ext_right _ _ 20 40 (by omega) (by omega), z1, ext_ext _ _ _ _ _ (by omega), show k + (20 - k) = 20 by omega, show k + (40 - k) = 40 by omega, ext_right b (notS b) 20 40 (by omega) (by omega), hb, show 20 - 20 = 0 from rfl, show 40 - 20 = 20 from rfl, ext_full _ nb] at h
    exact not_inj h
  · left
    rw [ext_left _ _ 0 20 (by omega), ext_ext _ _ _ _ _ (by omega), ext_left _ _ _ _ (by omega), Nat.zero_add, ext_full _ ha]
/-- A block that has a head is read. -/
theorem rhead_val (b : ByteArray) (w : World) (h : headOk b) (hm : b.size ≤ maxLen) :
    Calls Tryz.prog 94 #[.string b] w fun e w' => e = .returned (.tuple #[fieldsV b, .bool true]) ∧ Below w.heap.size w w' := rhead_yes b w h hm
theorem slice_to (b : ByteArray) (j : Nat) (h2 : j ≤ b.size) : ∀ w, (Instr.slice 9 (.string b) none (some (.int .i64 (j : Int))) none).run Tryz.prog w = .ok (.string (b.extract 0 j)) w := fun w => by
  rw [run_slice_string_to_if w 9 b .i64 j Tryz.underlying9, if_pos ⟨by omega, by omega⟩]
  rfl
theorem slice_of (b : ByteArray) (j n : Nat) (h2 : j ≤ b.size) (hn : b.size = n) : ∀ w, (Instr.slice 9 (.string b) (some (.int .i64 (j : Int))) none none).run Tryz.prog w = .ok (.string (b.extract j n)) w := fun w => by
  rw [run_slice_string_from_if w 9 b .i64 j Tryz.underlying9, if_pos ⟨by omega, by omega⟩, hn]
  rfl
/-- What is read of a text: nothing, or four numbers that are those of its fields. -/
theorem rhead_three (b : ByteArray) (hm : b.size ≤ maxLen) : ∃ (q0 q1 q2 q3 : Int) (ok : Bool), (∀ w, Calls Tryz.prog 94 #[.string b] w fun e w' => e = .returned (.tuple #[.agg #[.int .u64 q0, .int .i64 q1, .int .i64 q2, .int .i64 q3], .bool ok]) ∧ Below w.heap.size w w') ∧
    (ok = false ∨ (headOk b ∧ fieldsV b = .agg #[.int .u64 q0, .int .i64 q1, .int .i64 q2, .int .i64 q3])) := by
  by_cases h : headOk b
  · exact ⟨_, _, _, _, true, fun w => rhead_yes b w h hm, .inr ⟨h, rfl⟩⟩
  · exact ⟨0, 0, 0, 0, false, fun w => rhead_no b w h hm, .inl rfl⟩
end Go.Proofs.YtkdhlofcdcnjgaaGreat
namespace Go.Proofs.YtkdhlofcdcnjgaaGreat
set_option maxRecDepth 100000
open Go.ChangeShapes Go.WideShapes Go.ChangeAt Go.RowKit Go.PlainAid

/-- One text more in a row of the call's own. -/
theorem row_push {n₀ : Nat} {W : World} {xs : List Value} {v : Value} (hrow : W.ownsRow n₀ 9 1 v xs.length xs) (hn : n₀ ≤ W.heap.size) (hlen : xs.length ≤ 1048576) (T : ByteArray) (m : Nat) (hm : xs.length = m) :
    ∃ g cap w2, (appS #[v, .slice (some ⟨W.heap.size, 0, none⟩) 1 1]).run Tryz.prog (W.alloc (.cells #[.string T] 9)) = .ok (.slice (some ⟨g, 0, none⟩) (m + 1) cap) w2 ∧
      w2.ownsRow n₀ 9 1 (.slice (some ⟨g, 0, none⟩) (m + 1) cap) (xs ++ [Value.string T]).length (xs ++ [Value.string T]) ∧ Below n₀ W w2 := by
  subst hm
  obtain ⟨i0, hi, hz0, hz1, hz2⟩ := info_parts info_text
  have hq := heap_alloc_new W (.cells #[.string T] 9)
  have hba : Below W.heap.size W (W.alloc (.cells #[.string T] 9)) := by go_grown
  obtain ⟨g, cap, w2, hr, h2, h3, _, _⟩ := run_append_lies (P := Tryz.prog) (w := W.alloc (.cells #[.string T] 9)) 152 152 n₀ 9 i0 (.string ⟨#[]⟩) 1 16 Tryz.underlying152 hi hz0 hz1 hz2 rfl (by decide) v xs.length xs (ownsRow_on hrow hba) ⟨W.heap.size, 0, none⟩ 1 1 [.string T] rfl
    (fun j u hu => by
      rcases j with _ | j
      · have : Value.string T = u := by simpa using hu
        rw [← this]
        show (W.alloc (.cells #[.string T] 9)).cell? ⟨W.heap.size, 0, none⟩ = _
        rw [cell_of_row _ _ _ _ _ _ hq]
        rfl
      · simp at hu) (fun u hu => by have : u = .string T := by simpa using hu
                                    rw [this]; rfl) (by decide) (by unfold maxLen; omega) (by omega) (by rw [World.size_alloc]; omega) _ rfl
  refine ⟨g, cap, w2, hr, by rw [List.length_append]; exact h2, (hba.mono hn).grown h3 (by rw [World.size_alloc]; omega) (fun k e => (hrow.lt k e).1)⟩
end Go.Proofs.YtkdhlofcdcnjgaaGreat
namespace Go.Proofs.YtkdhlofcdcnjgaaGreat
set_option maxRecDepth 100000
open Go.ChangeShapes Go.WideShapes Go.ChangeAt Go.RowKit Go.PlainAid

/-- There is power, and no limit. -/
def D.free (d : D) : Prop := d.limit = -1 ∧ d.dark = false
theorem newD_free (n : Nat) : (newD n).free := ⟨rfl, rfl⟩
theorem free_ready {d : D} (h : d.free) : readyE d = 0 := by unfold readyE; rw [h.2]; rfl
theorem free_spend {d : D} (h : d.free) : spendE d = 0 := by unfold spendE; rw [h.1]; rfl
theorem free_spent {d : D} (h : d.free) : d.spent = d := by unfold D.spent; rw [h.1]; rfl
theorem free_reach {d : D} (h : d.free) {k : Int} (h0 : 0 ≤ k) (h1 : k < d.n) : reachE d k = 0 := by
  unfold reachE
  rw [h.2, if_neg (by decide), if_neg (by omega)]
theorem free_noblock {d : D} (h : d.free) {k : Int} (h1 : k < 0 ∨ d.n ≤ k) : reachE d k = 10 := by
  unfold reachE
  rw [h.2, if_neg (by decide), if_pos h1]
theorem free_read {d : D} (h : d.free) {k : Int} (h0 : 0 ≤ k) (h1 : k < d.n) : readS d k = d.last k.toNat := by
  unfold readS
  rw [free_reach h h0 h1, if_pos rfl]
theorem free_writeE {d : D} (h : d.free) {k : Int} {s : ByteArray} (h0 : 0 ≤ k) (h1 : k < d.n) (hs : s.size ≤ 256) : writeE d k s = 0 := by
  unfold writeE
  rw [free_reach h h0 h1, if_pos rfl, if_neg (by omega), free_spend h]
theorem free_write {d : D} (h : d.free) {k : Int} {s : ByteArray} (h0 : 0 ≤ k) (h1 : k < d.n) (hs : s.size ≤ 256) : d.write k s = { d with late := d.late ++ [(k.toNat, filled s)] } := by
  unfold D.write
  rw [free_reach h h0 h1, if_pos rfl, if_neg (by omega), free_spend h, if_pos rfl, free_spent h]
theorem free_write_no {d : D} (h : d.free) {k : Int} {s : ByteArray} (hb : k < 0 ∨ d.n ≤ k ∨ 256 < s.size) : d.write k s = d ∧ (writeE d k s = 10 ∨ writeE d k s = 21) := by
  unfold D.write writeE
  by_cases c : k < 0 ∨ d.n ≤ k
  · rw [free_noblock h c]; simp
  · rw [free_reach h (by omega) (by omega), if_pos rfl, if_pos rfl, if_pos (by omega), if_pos (by omega)]
    simp
theorem free_flushE {d : D} (h : d.free) : flushE d = 0 := by unfold flushE; rw [free_ready h, if_pos rfl, free_spend h]
theorem free_flush {d : D} (h : d.free) : d.flush = d.flushed := by unfold D.flush; rw [free_ready h, if_pos rfl, free_spend h, if_pos rfl, free_spent h]
theorem last_snoc (d : D) (k : Nat) (s : ByteArray) : D.last { d with late := d.late ++ [(k, s)] } = upd d.last k s := done_snoc _ _ _

/-- A disk of the call's own at block p: nothing that was there at w is touched. -/
def OwnAt (w : World) (p : Nat) (d : D) (w' : World) : Prop := ∃ F : Foot, F.p = p ∧ Dk w' F d ∧ Below w.heap.size w w' ∧ ∀ k, F.own k → w.heap.size ≤ k
theorem OwnAt.moves {w w1 w2 : World} {F : Foot} {d' : D} (hb : Below w.heap.size w w1) (ho : ∀ k, F.own k → w.heap.size ≤ k) (m : Moves F d' w1 w2) : OwnAt w F.p d' w2 := by
  obtain ⟨F', hd, hp, hn, hk⟩ := m
  refine ⟨F', hp, hd, hb.trans (hk.below ho hb.size), fun k hk' => ?_⟩
  rcases hn k hk' with c | c
  · exact ho k c
  · exact Nat.le_trans hb.size c
theorem OwnAt.on {w w1 w2 : World} {p : Nat} {d : D} (h : OwnAt w p d w1) (b : Below w1.heap.size w1 w2) : OwnAt w p d w2 := by
  obtain ⟨F, hp, hd, hb, ho⟩ := h
  exact ⟨F, hp, DiskAt.below hd b, hb.on b, ho⟩
theorem OwnAt.below {w w1 : World} {p : Nat} {d : D} (h : OwnAt w p d w1) : Below w.heap.size w w1 := by
  obtain ⟨F, hp, hd, hb, ho⟩ := h
  exact hb
theorem OwnAt.wf {w w1 : World} {p : Nat} {d : D} (h : OwnAt w p d w1) : d.Wf := by
  obtain ⟨F, hp, hd, hb, ho⟩ := h
  exact hd.wf
/-- A fresh disk of six blocks. -/
def SomePost (w : World) (e : Ending) (w' : World) : Prop := ∃ p, e = .returned (.pointer (some ⟨p, 0, none⟩)) ∧ OwnAt w p (newD 6) w'
section
variable {w0 w : World} {p : Nat} {d : D}
theorem o_write (h : OwnAt w0 p d w) (k : Int) (s : ByteArray) (h0 : -9223372036854775808 ≤ k) (h1 : k ≤ 9223372036854775807) (hl : d.late.length < 4294967296) :
    Calls Tryz.prog 48 #[.pointer (some ⟨p, 0, none⟩), .int .i64 k, .string s] w fun e w' => e = .returned (.int .i64 (writeE d k s)) ∧ OwnAt w0 p (d.write k s) w' := by
  obtain ⟨F, rfl, hd, hb, ho⟩ := h
  exact (write_any w F d k s hd h0 h1 hl).mono fun e w' ⟨he, m⟩ => ⟨he, OwnAt.moves hb ho m⟩
theorem o_flush (h : OwnAt w0 p d w) (hl : d.late.length < 4294967296) :
    Calls Tryz.prog 93 #[.pointer (some ⟨p, 0, none⟩)] w fun e w' => e = .returned (.int .i64 (flushE d)) ∧ OwnAt w0 p d.flush w' := by
  obtain ⟨F, rfl, hd, hb, ho⟩ := h
  exact (flush_any w F d hd hl).mono fun e w' ⟨he, m⟩ => ⟨he, OwnAt.moves hb ho m⟩
theorem o_read (h : OwnAt w0 p d w) (k : Int) (h0 : -9223372036854775808 ≤ k) (h1 : k ≤ 9223372036854775807) :
    Calls Tryz.prog 46 #[.pointer (some ⟨p, 0, none⟩), .int .i64 k] w fun e w' => e = .returned (.tuple #[.string (readS d k), .int .i64 (reachE d k)]) ∧ w = w' := by
  obtain ⟨F, rfl, hd, hb, ho⟩ := h
  exact read_any w F d k hd h0 h1
/-- Of a disk that has power, and no limit. -/
theorem f_write (h : OwnAt w0 p d w) (hf : d.free) (k : Int) (s : ByteArray) (h0 : 0 ≤ k) (h1 : k < d.n) (hs : s.size ≤ 256) (hl : d.late.length < 4294967296) :
    Calls Tryz.prog 48 #[.pointer (some ⟨p, 0, none⟩), .int .i64 k, .string s] w fun e w' => e = .returned (.int .i64 0) ∧ OwnAt w0 p { d with late := d.late ++ [(k.toNat, filled s)] } w' := by
  have hn := h.wf.hi
  have := o_write h k s (by omega) (by omega) hl
  rwa [free_writeE hf h0 h1 hs, free_write hf h0 h1 hs] at this
theorem f_flush (h : OwnAt w0 p d w) (hf : d.free) (hl : d.late.length < 4294967296) :
    Calls Tryz.prog 93 #[.pointer (some ⟨p, 0, none⟩)] w fun e w' => e = .returned (.int .i64 0) ∧ OwnAt w0 p d.flushed w' := by
  have := o_flush h hl
  rwa [free_flushE hf, free_flush hf] at this
theorem f_read (h : OwnAt w0 p d w) (hf : d.free) (k : Int) (h0 : 0 ≤ k) (h1 : k < d.n) :
    Calls Tryz.prog 46 #[.pointer (some ⟨p, 0, none⟩), .int .i64 k] w fun e w' => e = .returned (.tuple #[.string (d.last k.toNat), .int .i64 0]) ∧ w = w' := by
  have hn := h.wf.hi
  have := o_read h k (by omega) (by omega)
  rwa [free_read hf h0 h1, free_reach hf h0 h1] at this
end

def ab : ByteArray := ⟨#[97, 98]⟩
def cd : ByteArray := ⟨#[99, 100]⟩
def cb : ByteArray := ⟨#[99, 98]⟩
theorem ab_size : ab.size = 2 := rfl
theorem cd_size : cd.size = 2 := rfl
/-- The chapter's example. -/
def exD : D := (({ (D.flushed { newD 6 with late := [(0, filled ab)] }) with late := [(0, filled cd)] } : D)).crash 1 0 1
theorem exD_free : exD.free := ⟨rfl, rfl⟩
theorem exD_last : exD.last 0 = mixed (filled cd) (filled ab) 1 := by
  show exD.safe 0 = _
  have h : exD.safe = D.crashTo { (D.flushed { newD 6 with late := [(0, filled ab)] }) with late := [(0, filled cd)] } 1 0 1 1 := rfl
  rw [h, D.crashTo_kept (x := (0, filled cd)) rfl (by decide), upd_same]
  rfl
theorem ex_front : (mixed (filled cd) (filled ab) 1).extract 0 2 = cb := by
  have hs : (mixed (filled cd) (filled ab) 1).size = 256 := mixed_size _ _ _
  refine text_ext ?_ fun k hk => ?_
  · rw [ByteArray.size_extract, hs]; rfl
  · have hk2 : k < 2 := by rw [ByteArray.size_extract, hs] at hk; omega
    have e : bt ((mixed (filled cd) (filled ab) 1).extract 0 2) k = bt (mixed (filled cd) (filled ab) 1) k := by
      rw [bt_list, bt_list]
      simp only [ByteArray.data_extract, Array.toList_extract, List.extract_eq_take_drop, List.drop_zero, List.getD_eq_getElem?_getD]
      rw [List.getElem?_take_of_lt (by omega)]
    rw [e, mixed_bt _ _ _ (by omega), filled_bt _ (by omega), filled_bt _ (by omega)]
    rcases k with _ | _ | k
    · rfl
    · rfl
    · omega
end Go.Proofs.YtkdhlofcdcnjgaaGreat
namespace Go.Proofs.YtkdhlofcdcnjgaaGreat
open Go.ChangeShapes Go.WideShapes Go.ChangeAt Go.RowKit Go.PlainAid

/-- A disk of the call's own at block p, and blocks beside it with what they hold: nothing that was there at w is touched. -/
def OwnL (w : World) (p : Nat) (d : D) (L : List (Nat × Obj)) (w' : World) : Prop :=
  ∃ F : Foot, F.p = p ∧ Dk w' F d ∧ Below w.heap.size w w' ∧ (∀ k, F.own k → w.heap.size ≤ k) ∧ ∀ x ∈ L, ¬ F.own x.1 ∧ w'.heap[x.1]? = some x.2
section
variable {w0 w w' : World} {p : Nat} {d d' : D} {L : List (Nat × Obj)}
theorem OwnAt.owns (h : OwnAt w0 p d w) : OwnL w0 p d [] w := by
  obtain ⟨F, h1, h2, h3, h4⟩ := h
  exact ⟨F, h1, h2, h3, h4, fun x hx => (by cases hx)⟩
theorem OwnL.at (h : OwnL w0 p d L w) : OwnAt w0 p d w := by
  obtain ⟨F, h1, h2, h3, h4, _⟩ := h
  exact ⟨F, h1, h2, h3, h4⟩
theorem OwnL.below (h : OwnL w0 p d L w) : Below w0.heap.size w0 w := h.at.below
theorem OwnL.wf (h : OwnL w0 p d L w) : d.Wf := h.at.wf
theorem OwnL.mem (h : OwnL w0 p d L w) {q : Nat} {o : Obj} (hq : (q, o) ∈ L) : w.heap[q]? = some o := by
  obtain ⟨F, _, _, _, _, h5⟩ := h
  exact (h5 _ hq).2
theorem heap_lt {w : World} {q : Nat} {o : Obj} (h : w.heap[q]? = some o) : q < w.heap.size := by
  rcases Nat.lt_or_ge q w.heap.size with c | c
  · exact c
  · rw [Array.getElem?_eq_none c] at h; cases h
theorem OwnL.moves {F : Foot} (hb : Below w0.heap.size w0 w) (ho : ∀ k, F.own k → w0.heap.size ≤ k) (hL : ∀ x ∈ L, ¬ F.own x.1 ∧ w.heap[x.1]? = some x.2) (m : Moves F d' w w') : OwnL w0 F.p d' L w' := by
  obtain ⟨F', hd, hp, hn, hk⟩ := m
  refine ⟨F', hp, hd, hb.trans (hk.below ho hb.size), fun k hk' => ?_, fun x hx => ?_⟩
  · rcases hn k hk' with c | c
    · exact ho k c
    · exact Nat.le_trans hb.size c
  · obtain ⟨h1, h2⟩ := hL x hx
    have hlt := heap_lt h2
    refine ⟨fun c => ?_, (hk.block x.1 hlt h1).trans h2⟩
    rcases hn x.1 c with c | c
    · exact h1 c
    · omega
theorem OwnL.on (h : OwnL w0 p d L w) (b : Below w.heap.size w w') : OwnL w0 p d L w' := by
  obtain ⟨F, hp, hd, hb, ho, hL⟩ := h
  exact ⟨F, hp, DiskAt.below hd b, hb.on b, ho, fun x hx => ⟨(hL x hx).1, (b.block x.1 (heap_lt (hL x hx).2)).trans (hL x hx).2⟩⟩
/-- A new block beside it. -/
theorem OwnL.alloc (h : OwnL w0 p d L w) (o : Obj) : OwnL w0 p d ((w.heap.size, o) :: L) (w.alloc o) := by
  obtain ⟨F, hp, hd, hb, ho, hL⟩ := h
  have b : Below w.heap.size w (w.alloc o) := (Below.refl _ _).alloc (Nat.le_refl _) _
  refine ⟨F, hp, DiskAt.below hd b, hb.on b, ho, fun x hx => ?_⟩
  rcases List.mem_cons.1 hx with rfl | hx
  · exact ⟨fun c => Nat.lt_irrefl _ (DiskAt.own_lt hd c), heap_alloc_new w o⟩
  · exact ⟨(hL x hx).1, (b.block x.1 (heap_lt (hL x hx).2)).trans (hL x hx).2⟩
/-- A cell of a block beside it is written. -/
theorem OwnL.set (h : OwnL w0 p d L w) {q i : Nat} {v : Value} {cs : Array Value} {t : TypeId} (hq : (q, Obj.cells cs t (0, 0)) ∈ L) (h0 : w0.heap.size ≤ q) (L' : List (Nat × Obj))
    (hL' : ∀ x ∈ L', x = (q, Obj.cells (cs.setIfInBounds i v) t (0, 0)) ∨ (x ∈ L ∧ x.1 ≠ q)) : OwnL w0 p d L' (w.setCell ⟨q, i, none⟩ v) := by
  obtain ⟨F, hp, hd, hb, ho, hL⟩ := h
  have hn := (hL _ hq).1
  refine ⟨F, hp, DiskAt.keep hd (by rw [World.size_setCell]; exact Nat.le_refl _) (fun k hk => heap_setCell_other _ _ _ _ (fun e => ?_)), hb.setCell h0 v, ho, fun x hx => ?_⟩
  · subst e
    exact hn hk
  · rcases hL' x hx with rfl | ⟨hx1, hx2⟩
    · exact ⟨hn, heap_setCell_same _ _ _ _ _ _ (hL _ hq).2⟩
    · exact ⟨(hL x hx1).1, (heap_setCell_other _ _ _ _ hx2).trans (hL x hx1).2⟩
theorem OwnL.sub (h : OwnL w0 p d L w) (L' : List (Nat × Obj)) (hs : ∀ x ∈ L', x ∈ L) : OwnL w0 p d L' w := by
  obtain ⟨F, hp, hd, hb, ho, hL⟩ := h
  exact ⟨F, hp, hd, hb, ho, fun x hx => hL x (hs x hx)⟩

theorem q_write (h : OwnL w0 p d L w) (k : Int) (s : ByteArray) (h0 : -9223372036854775808 ≤ k) (h1 : k ≤ 9223372036854775807) (hl : d.late.length < 4294967296) :
    Calls Tryz.prog 48 #[.pointer (some ⟨p, 0, none⟩), .int .i64 k, .string s] w fun e w' => e = .returned (.int .i64 (writeE d k s)) ∧ OwnL w0 p (d.write k s) L w' := by
  obtain ⟨F, rfl, hd, hb, ho, hL⟩ := h
  exact (write_any w F d k s hd h0 h1 hl).mono fun e w' ⟨he, m⟩ => ⟨he, OwnL.moves hb ho hL m⟩
theorem q_flush (h : OwnL w0 p d L w) (hl : d.late.length < 4294967296) :
    Calls Tryz.prog 93 #[.pointer (some ⟨p, 0, none⟩)] w fun e w' => e = .returned (.int .i64 (flushE d)) ∧ OwnL w0 p d.flush L w' := by
  obtain ⟨F, rfl, hd, hb, ho, hL⟩ := h
  exact (flush_any w F d hd hl).mono fun e w' ⟨he, m⟩ => ⟨he, OwnL.moves hb ho hL m⟩
theorem q_read (h : OwnL w0 p d L w) (k : Int) (h0 : -9223372036854775808 ≤ k) (h1 : k ≤ 9223372036854775807) :
    Calls Tryz.prog 46 #[.pointer (some ⟨p, 0, none⟩), .int .i64 k] w fun e w' => e = .returned (.tuple #[.string (readS d k), .int .i64 (reachE d k)]) ∧ w = w' := o_read h.at k h0 h1
theorem qf_read (h : OwnL w0 p d L w) (hf : d.free) (k : Int) (h0 : 0 ≤ k) (h1 : k < d.n) :
    Calls Tryz.prog 46 #[.pointer (some ⟨p, 0, none⟩), .int .i64 k] w fun e w' => e = .returned (.tuple #[.string (d.last k.toNat), .int .i64 0]) ∧ w = w' := f_read h.at hf k h0 h1
theorem qf_write (h : OwnL w0 p d L w) (hf : d.free) (k : Int) (s : ByteArray) (h0 : 0 ≤ k) (h1 : k < d.n) (hs : s.size ≤ 256) (hl : d.late.length < 4294967296) :
    Calls Tryz.prog 48 #[.pointer (some ⟨p, 0, none⟩), .int .i64 k, .string s] w fun e w' => e = .returned (.int .i64 0) ∧ OwnL w0 p { d with late := d.late ++ [(k.toNat, filled s)] } L w' := by
  have hn := h.wf.hi
  have := q_write h k s (by omega) (by omega) hl
  rwa [free_writeE hf h0 h1 hs, free_write hf h0 h1 hs] at this
theorem qf_flush (h : OwnL w0 p d L w) (hf : d.free) (hl : d.late.length < 4294967296) :
    Calls Tryz.prog 93 #[.pointer (some ⟨p, 0, none⟩)] w fun e w' => e = .returned (.int .i64 0) ∧ OwnL w0 p d.flushed L w' := by
  have := q_flush h hl
  rwa [free_flushE hf, free_flush hf] at this
end
/-- Six texts, as cells. -/
def six (f : Nat → ByteArray) : Array Value := #[.string (f 0), .string (f 1), .string (f 2), .string (f 3), .string (f 4), .string (f 5)]
theorem six_get (f : Nat → ByteArray) {j : Nat} (h : j < 6) : (six f)[j]? = some (.string (f j)) := by
  match j, h with
  | 0, _ => rfl | 1, _ => rfl | 2, _ => rfl | 3, _ => rfl | 4, _ => rfl | 5, _ => rfl
theorem six_set (f : Nat → ByteArray) (s : ByteArray) {j : Nat} (h : j < 6) : (six f).setIfInBounds j (.string s) = six (upd f j s) := by
  match j, h with
  | 0, _ => rfl | 1, _ => rfl | 2, _ => rfl | 3, _ => rfl | 4, _ => rfl | 5, _ => rfl
theorem flushed_last (d : D) : d.flushed.last = d.last := rfl
theorem flushed_free {d : D} (h : d.free) : d.flushed.free := h
end Go.Proofs.YtkdhlofcdcnjgaaGreat
