/- Slices of numbers that the call itself makes; the numbers of a set. -/
import Derived.Test.YtkdcfacpapmgoaaMapF
import Derived.RangeFuncBox
import Derived.OwnWalk
import Derived.Deep.AppendLies
namespace Go.Proofs.Ytkdcfacpapmgoaa
set_option maxRecDepth 100000
open Go.ChangeShapes Go.WideShapes Go.ChangeAt Go.RowKit Go.PlainAid

theorem heap_in {w : World} {k : Nat} {o : Obj} (h : w.heap[k]? = some o) : k < w.heap.size := (Array.getElem?_eq_some_iff.1 h).1
theorem ownsRow_on {w w' : World} {base : Nat} {e : TypeId} {size : Nat} {v : Value} {n : Nat} {xs : List Value} (h : w.ownsRow base e size v n xs) (b : Below w.heap.size w w') : w'.ownsRow base e size v n xs := by
  obtain ⟨h1, h2⟩ := h
  refine ⟨h1, ?_⟩
  rcases h2 with h2 | ⟨g, cap, cur, hv, hb, hg, h3⟩
  · exact .inl h2
  · exact .inr ⟨g, cap, cur, hv, hb, (b.block g (heap_in hg)).trans hg, h3⟩
theorem ownsRow_base {w : World} {base base' : Nat} {e : TypeId} {size : Nat} {v : Value} {n : Nat} {xs : List Value} (h : w.ownsRow base e size v n xs) (b : base' ≤ base) : w.ownsRow base' e size v n xs := by
  obtain ⟨h1, h2⟩ := h
  refine ⟨h1, ?_⟩
  rcases h2 with h2 | ⟨g, cap, cur, hv, hb, h3⟩
  · exact .inl h2
  · exact .inr ⟨g, cap, cur, hv, Nat.le_trans b hb, h3⟩
theorem info_int : (Try.prog.info? 3).map (fun i => (i.zero, i.size, i.bytes)) = some (some (.int .i64 0), 1, 8) := by kernel_rfl
/-- An append to a slice of numbers, as one action. -/
def appI (vs : Array Value) : Sem Value := Builtin.append_ #[33, 33] 33 vs
theorem app_int (vs : Array Value) : Builtin.append_ #[33, 33] 33 vs = appI vs := rfl
/-- A slice of the call's own with these numbers. -/
def IntsIn (n₀ : Nat) (W : World) (v : Value) (L : List Int) : Prop := W.ownsRow n₀ 3 1 v L.length (L.map (Value.int .i64))
/-- One number more. -/
theorem row_push {n₀ : Nat} {W : World} {L : List Int} {v : Value} (hrow : IntsIn n₀ W v L) (hn : n₀ ≤ W.heap.size) (hlen : L.length ≤ 1048576) (x : Int) (m : Nat) (hm : L.length = m) :
    ∃ g cap w2, (appI #[v, .slice (some ⟨W.heap.size, 0, none⟩) 1 1]).run Try.prog (W.alloc (.cells #[.int .i64 x] 3)) = .ok (.slice (some ⟨g, 0, none⟩) (m + 1) cap) w2 ∧
      IntsIn n₀ w2 (.slice (some ⟨g, 0, none⟩) (m + 1) cap) (L ++ [x]) ∧ (W.alloc (.cells #[.int .i64 x] 3)).grownBy w2 v.ownBlock ∧ Below n₀ W w2 := by
  subst hm
  obtain ⟨i0, hi, hz0, hz1, hz2⟩ := info_parts info_int
  have hq := heap_alloc_new W (.cells #[.int .i64 x] 3)
  have hba : Below W.heap.size W (W.alloc (.cells #[.int .i64 x] 3)) := by go_grown
  obtain ⟨g, cap, w2, hr, h2, h3, _, _⟩ := run_append_lies (P := Try.prog) (w := W.alloc (.cells #[.int .i64 x] 3)) 33 33 n₀ 3 i0 (.int .i64 0) 1 8 Try.underlying33 hi hz0 hz1 hz2 rfl (by decide) v L.length (L.map (Value.int .i64)) (ownsRow_on hrow hba) ⟨W.heap.size, 0, none⟩ 1 1 [.int .i64 x] rfl
    (fun j u hu => by
      rcases j with _ | j
      · have : Value.int .i64 x = u := by simpa using hu
        rw [← this]
        show (W.alloc (.cells #[.int .i64 x] 3)).cell? ⟨W.heap.size, 0, none⟩ = _
        rw [cell_of_row _ _ _ _ _ _ hq]
        rfl
      · simp at hu) (fun u hu => by have : u = .int .i64 x := by simpa using hu
                                    rw [this]; rfl) (by decide) (by unfold maxLen; omega) (by omega) (by rw [World.size_alloc]; omega) _ rfl
  refine ⟨g, cap, w2, hr, ?_, h3, (hba.mono hn).grown h3 (by rw [World.size_alloc]; omega) (fun k e => (hrow.lt k e).1)⟩
  unfold IntsIn
  rw [List.length_append, List.map_append]
  exact h2
/-- What the law's closure holds: the numbers so far in one box, their bound in another; a set beside them. -/
structure EachAt (n₀ bl bm bs : Nat) (m : Int) (s : ByteArray) (L : List Int) (W : World) : Prop where
  row : ∃ v, Boxed W bl 33 v ∧ IntsIn n₀ W v L
  most : Boxed W bm 3 (.int .i64 m)
  set : Boxed W bs 9 (.string s)
theorem EachAt.on {n₀ bl bm bs : Nat} {m : Int} {s : ByteArray} {L : List Int} {W W' : World} (h : EachAt n₀ bl bm bs m s L W) (k : Below W.heap.size W W') : EachAt n₀ bl bm bs m s L W' := by
  obtain ⟨⟨v, h1, h2⟩, h3, h4⟩ := h
  exact ⟨⟨v, (k.block bl h1.lt).trans h1, ownsRow_on h2 k⟩, (k.block bm h3.lt).trans h3, (k.block bs h4.lt).trans h4⟩
theorem each_push {n₀ bl bm bs : Nat} {W : World} {m : Int} {s : ByteArray} {L : List Int} {v : Value} (hv : Boxed W bl 33 v) (hrow : IntsIn n₀ W v L) (hm : Boxed W bm 3 (.int .i64 m)) (hs : Boxed W bs 9 (.string s)) (hn : n₀ ≤ W.heap.size) (hbl : n₀ ≤ bl) (hbm : bm < n₀) (hlen : L.length ≤ 1048576) (x : Int) (k : Nat) (hk : L.length = k) :
    ∃ g cap w2, (appI #[v, .slice (some ⟨W.heap.size, 0, none⟩) 1 1]).run Try.prog (W.alloc (.cells #[.int .i64 x] 3)) = .ok (.slice (some ⟨g, 0, none⟩) (k + 1) cap) w2 ∧
      w2.cell? ⟨bl, 0, none⟩ = some v ∧ w2.frozen? ⟨bl, 0, none⟩ = false ∧ (w2.setCell ⟨bl, 0, none⟩ (.slice (some ⟨g, 0, none⟩) (k + 1) cap)).cell? ⟨bm, 0, none⟩ = some (.int .i64 m) ∧
      EachAt n₀ bl bm bs m s (L ++ [x]) (w2.setCell ⟨bl, 0, none⟩ (.slice (some ⟨g, 0, none⟩) (k + 1) cap)) ∧
      Below n₀ W (w2.setCell ⟨bl, 0, none⟩ (.slice (some ⟨g, 0, none⟩) (k + 1) cap)) := by
  obtain ⟨g, cap, w2, hr, h2, h3, hb⟩ := row_push hrow hn hlen x k hk
  subst hk
  obtain ⟨a1, a2, a3, a4, a5⟩ := hv.appended (e := 3) (by decide) hrow hn hbl h2 h3
  have hmm : Boxed (w2.setCell ⟨bl, 0, none⟩ (.slice (some ⟨g, 0, none⟩) (L.length + 1) cap)) bm 3 (.int .i64 m) := (a5.block bm hbm).trans hm
  refine ⟨g, cap, w2, hr, a1.cell, a1.frozen, hmm.cell, ⟨⟨_, a2, a3⟩, hmm, ?_⟩, a5⟩
  have hne : bs ≠ bl := fun e => by
    subst e
    have := (show W.heap[bs]? = _ from hs).symm.trans hv
    cases this
  show (w2.setCell _ _).heap[bs]? = _
  rw [heap_setCell_other _ _ _ _ hne]
  have e1 : (W.alloc (.cells #[.int .i64 x] 3)).heap[bs]? = some (.cells #[.string s] 9 (0, 0)) := (Below.heap_alloc W _ bs hs.lt).trans hs
  refine (h3.block bs (heap_in e1) (fun e => ?_)).trans e1
  rcases hrow.2 with ⟨rfl, _⟩ | ⟨g', cap', cur, rfl, _, hg', _⟩
  · simp [Value.ownBlock] at e
  · have e' : bs = g' := (Option.some.inj (by simpa [Value.ownBlock] using e.symm)).symm
    rw [← e'] at hg'
    have := (show W.heap[bs]? = _ from hs).symm.trans hg'
    cases this

/-- The bits of a byte that are set. -/
def byteL (c : Int) : List Nat := (List.range 8).filter (bitB c)
/-- The numbers in the first bytes of a set, rising. -/
def nums (s : ByteArray) : Nat → List Int | 0 => [] | k + 1 => nums s k ++ (byteL (bt s k)).map fun b : Nat => (k : Int) * 8 + (b : Int)
theorem byteL_zero : byteL 0 = [] := by decide +kernel
theorem byteL_step : ∀ z : Fin 256, z.val ≠ 0 → byteL z.val = Lib.trailingZeros8 z.val :: byteL (bits .and .u8 (z.val : Int) ((z.val : Int) - 1)) ∧ 0 ≤ bits .and .u8 (z.val : Int) ((z.val : Int) - 1) ∧ bits .and .u8 (z.val : Int) ((z.val : Int) - 1) < (z.val : Int) := by decide +kernel
theorem byteL_ones : ∀ z : Fin 256, (byteL z.val).length = Lib.onesCount z.val := by decide +kernel
theorem nums_len (s : ByteArray) : ∀ k, (nums s k).length = cnt s k
  | 0 => rfl
  | k + 1 => by
    obtain ⟨z, hz⟩ := byte_fin (bt_nonneg s k) (bt_le s k)
    rw [nums, cnt, List.length_append, List.length_map, nums_len s k, hz, byteL_ones z]
    rfl
/-- The numbers of the bits below k of a byte. -/
def lowL (c : Int) (k : Nat) : List Nat := (List.range k).filter (bitB c)
theorem lowL_succ (c : Int) (k : Nat) : lowL c (k + 1) = if bitB c k then lowL c k ++ [k] else lowL c k := by
  unfold lowL
  rw [List.range_succ, List.filter_append]
  by_cases h : bitB c k <;> simp [h]
theorem nums_part {s : ByteArray} {k n : Nat} (h : k ≤ n) : nums s k <+: nums s n := by
  induction n with
  | zero => obtain rfl : k = 0 := by omega
            exact List.prefix_refl _
  | succ n ih =>
    by_cases e : k = n + 1
    · subst e; exact List.prefix_refl _
    · exact (ih (by omega)).trans ⟨_, rfl⟩
end Go.Proofs.Ytkdcfacpapmgoaa
