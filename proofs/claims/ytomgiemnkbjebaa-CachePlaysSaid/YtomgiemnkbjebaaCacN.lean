/- Contracts: Clone, All, kept and their closures. -/
import Derived.Test.YtomgiemnkbjebaaCacL
import Derived.RangeFuncBox
import Derived.OwnWalk
import Derived.Deep.AppendLies
import Derived.Lib.SliceRun
namespace Go.Proofs.Ytomgiemnkbjebaa
set_option maxRecDepth 100000
open Go.ChangeShapes Go.WideShapes Go.ChangeAt Go.RowKit Go.PlainAid

namespace KA
def appC (vs : Array Value) : Sem Value := Builtin.append_ #[63, 63] 63 vs
theorem app_c (vs : Array Value) : Builtin.append_ #[63, 63] 63 vs = appC vs := rfl
attribute [local go_sem ↓ high] app_c
theorem eq_rows (a : Option Addr) (n c : Nat) : ∀ w, (binOp .eql 63 (.slice a n c) (.slice none 0 0)).run Try.prog w = .ok (.bool a.isNone) w := fun w => Lib.run_eql_slice_nil w _ _ a n c 0 0 Try.underlying63
/-- A slice of entries, read. -/
def Reads (w : World) (v : Value) (L : List E) : Prop := ∃ ao cap, v = .slice ao L.length cap ∧ (L = [] ∨ ∃ g, ao = some ⟨g, 0, none⟩ ∧ g < w.heap.size ∧ ∀ (i : Nat) (e : E), L[i]? = some e →
  w.cell? ⟨g, i * 3, none⟩ = some (.int .i64 e.key) ∧ w.cell? ⟨g, i * 3 + 1, none⟩ = some (.string e.val) ∧ w.cell? ⟨g, i * 3 + 2, none⟩ = some (.int .i64 (e.pins : Int)))
set_option maxHeartbeats 1000000 in
theorem clone_any {n₀ : Nat} {w : World} {v : Value} {L : List E} (h : RowE cE 83 n₀ w v L) (hl : L.length ≤ 4096) :
    Calls Try.prog 41 #[v] w fun e w' => ∃ v', e = .returned v' ∧ RowE cE 83 w.heap.size w' v' L ∧ Below w.heap.size w w' := by
  have hq := eq_rows
  rcases h.2 with ⟨rfl, h0⟩ | ⟨g, cap, cur, rfl, _, hg, hlc, hcm, hcs, ht⟩
  · obtain rfl : L = [] := List.length_eq_zero_iff.1 h0
    clear h
    go_enter Try.func41, Try.ntmps41
    go_wp2
    go_returns
    exact ⟨_, rfl, ⟨rfl, .inl ⟨rfl, rfl⟩⟩, Below.refl _ _⟩
  · have happ : ∃ v' w', (appC #[.slice (some ⟨w.heap.size, 0, none⟩) 0 0, .slice (some ⟨g, 0, none⟩) L.length cap]).run Try.prog (w.alloc (.cells #[] 83)) = .ok v' w' ∧ RowE cE 83 w.heap.size w' v' L ∧ Below w.heap.size w w' := by
      have hnews : ∀ j u, (flat cE L)[j]? = some u → (w.alloc (.cells #[] 83)).cell? ((⟨g, 0, none⟩ : Addr).add j) = some u := fun j u hu => by
        have hj : j < L.length * 3 := by rw [← flat_len three L]; exact (List.getElem?_eq_some_iff.1 hu).1
        have hadd : (⟨g, 0, none⟩ : Addr).add j = ⟨g, j, none⟩ := by unfold Addr.add; split <;> simp_all
        rw [hadd]
        refine Lib.cell?_alloc_some _ ?_
        rw [cell_of_row _ _ _ _ _ _ hg, ← hu, ← ht, List.getElem?_take_of_lt hj, Array.getElem?_toList]
      obtain ⟨i0, hi, hz0, hz1, hz2⟩ := info_parts info_e2
      obtain ⟨v', w', hr, h2, h3, _⟩ := run_append_own_at (P := Try.prog) (w := w.alloc (.cells #[] 83)) w.heap.size 63 63 83 i0 _ 3 32 Try.underlying63 hi hz0 hz1 hz2 (by simp [Value.cells]) (by decide) (.slice (some ⟨w.heap.size, 0, none⟩) 0 0) 0 []
        (World.ownsRow_made w #[] 0 (Nat.le_refl _) (Nat.zero_le _) rfl) ⟨g, 0, none⟩ L.length cap (flat cE L) (flat_len three L) hnews (flat_one three L) (by unfold maxLen; omega) (by omega) (by simp)
      refine ⟨v', w', hr, ?_, ((Below.refl _ w).alloc (Nat.le_refl _) _).grown h3 (by simp) (by intro k hk; simp [Value.ownBlock] at hk; omega)⟩
      rw [Nat.zero_add, List.nil_append] at h2
      exact h2
    obtain ⟨v', w', hr, h2, h3⟩ := happ
    have H2 := Lib.hid h2
    have H3 := Lib.hid h3
    clear h h2 h3
    go_enter Try.func41, Try.ntmps41
    go_wp2
    go_returns
    exact ⟨v', rfl, H2.out, H3.out⟩
/-- All gives a closure. -/
theorem mk_all (p : Nat) (w : World) :
    Calls Try.prog 30 #[.pointer (some ⟨p, 0, none⟩)] w fun e w' => e = .returned (.func (.func 40) #[] #[.pointer (some ⟨w.heap.size, 0, none⟩)]) ∧ w.alloc (.cells #[.pointer (some ⟨p, 0, none⟩)] 23) = w' := by
  have hmf := make_func
  go_enter Try.func30, Try.ntmps30
  go_wp2
  go_returns
  exact ⟨rfl, rfl⟩
theorem info_i : (Try.prog.info? 51).map (fun i => (i.zero, i.size, i.bytes)) = some (some (.agg #[.int .i64 0, .string ⟨#[]⟩, .int .i64 0]), 3, 32) := by kernel_rfl
def appI (vs : Array Value) : Sem Value := Builtin.append_ #[27, 27] 27 vs
theorem app_i (vs : Array Value) : Builtin.append_ #[27, 27] 27 vs = appI vs := rfl
def buildI (n : Nat) (l : Array (Nat × Value)) : Sem Value := Instr.buildSlice 27 n l
theorem build_i (n : Nat) (l : Array (Nat × Value)) : Instr.buildSlice 27 n l = buildI n l := rfl
theorem build_item (x : E) (w : World) : (buildI 1 #[(0, .agg #[.int .i64 x.key, .string x.val, .int .i64 (x.pins : Int)])]).run Try.prog w = .ok (.slice (some ⟨w.heap.size, 0, none⟩) 1 1) (w.alloc (.cells #[.int .i64 x.key, .string x.val, .int .i64 (x.pins : Int)] 51)) := by
  obtain ⟨i, i1, i2, i3, _⟩ := info_parts info_i
  exact run_buildOne (P := Try.prog) w 27 51 #[.int .i64 x.key, .string x.val, .int .i64 (x.pins : Int)] i _ Try.underlying27 i1 i2 (by rw [i3]; rfl) (by omega) (by omega)
attribute [local go_sem ↓ high] app_i build_i
abbrev Items (n₀ : Nat) (W : World) (v : Value) (L : List E) : Prop := RowE cE 51 n₀ W v L
/-- One item more. -/
theorem item_push {n₀ : Nat} {W : World} {L : List E} {v : Value} (hrow : Items n₀ W v L) (hn : n₀ ≤ W.heap.size) (hlen : L.length ≤ 1048576) (x : E) (m : Nat) (hm : L.length = m) :
    ∃ g cap w2, (appI #[v, .slice (some ⟨W.heap.size, 0, none⟩) 1 1]).run Try.prog (W.alloc (.cells #[.int .i64 x.key, .string x.val, .int .i64 (x.pins : Int)] 51)) = .ok (.slice (some ⟨g, 0, none⟩) (m + 1) cap) w2 ∧
      Items n₀ w2 (.slice (some ⟨g, 0, none⟩) (m + 1) cap) (L ++ [x]) ∧ (W.alloc (.cells #[.int .i64 x.key, .string x.val, .int .i64 (x.pins : Int)] 51)).grownBy w2 v.ownBlock ∧ Below n₀ W w2 := by
  subst hm
  obtain ⟨i0, hi, hz0, hz1, hz2⟩ := info_parts info_i
  have hq := heap_alloc_new W (.cells #[.int .i64 x.key, .string x.val, .int .i64 (x.pins : Int)] 51)
  have hba : Below W.heap.size W (W.alloc (.cells #[.int .i64 x.key, .string x.val, .int .i64 (x.pins : Int)] 51)) := by go_grown
  have hnews : ∀ j u, (cE x)[j]? = some u → (W.alloc (.cells #[.int .i64 x.key, .string x.val, .int .i64 (x.pins : Int)] 51)).cell? ((⟨W.heap.size, 0, none⟩ : Addr).add j) = some u := fun j u hu => by
    have hadd : (⟨W.heap.size, 0, none⟩ : Addr).add j = ⟨W.heap.size, j, none⟩ := by unfold Addr.add; split <;> simp_all
    rw [hadd, cell_of_row _ _ _ _ _ _ hq, ← hu, ← Array.getElem?_toList]
    rfl
  obtain ⟨g, cap, w2, hr, h2, h3, _, _⟩ := run_append_lies (P := Try.prog) (w := W.alloc (.cells #[.int .i64 x.key, .string x.val, .int .i64 (x.pins : Int)] 51)) 27 27 n₀ 51 i0 _ 3 32 Try.underlying27 hi hz0 hz1 hz2 (by simp [Value.cells]) (by decide) v L.length (flat cE L) (ownsRow_on hrow hba) ⟨W.heap.size, 0, none⟩ 1 1 (cE x) rfl
    hnews (three.one x) (by decide) (by unfold maxLen; omega) (by omega) (by rw [World.size_alloc]; omega) _ rfl
  refine ⟨g, cap, w2, hr, ?_, h3, (hba.mono hn).grown h3 (by rw [World.size_alloc]; omega) (fun k e => (hrow.lt k e).1)⟩
  show w2.ownsRow _ _ _ _ _ _
  rw [List.length_append, flat_app]
  show w2.ownsRow _ _ _ _ _ (flat cE L ++ (cE x ++ []))
  rw [List.append_nil]
  exact h2
/-- What the law's closure holds: the items so far in one box, their bound in another; the entries that are gone through beside them. -/
structure KeptAt (n₀ bl bm : Nat) (q : Prop) (gc : Nat) (cc : Array Value) (m : Int) (M : List E) (W : World) : Prop where
  row : ∃ v, Boxed W bl 27 v ∧ Items n₀ W v M
  most : Boxed W bm 3 (.int .i64 m)
  ext : q → W.heap[gc]? = some (.cells cc 83 (0, 0))
theorem kept_push {n₀ bl bm : Nat} {q : Prop} {gc : Nat} {cc : Array Value} {W : World} {m : Int} {M : List E} {v : Value} (hv : Boxed W bl 27 v) (hrow : Items n₀ W v M) (hm : Boxed W bm 3 (.int .i64 m)) (hxq : q → W.heap[gc]? = some (.cells cc 83 (0, 0)))
    (hn : n₀ ≤ W.heap.size) (hbl : n₀ ≤ bl) (hbm : bm < n₀) (hlen : M.length ≤ 1048576) (x : E) (k : Nat) (hk : M.length = k) :
    ∃ g cap w2, (appI #[v, .slice (some ⟨W.heap.size, 0, none⟩) 1 1]).run Try.prog (W.alloc (.cells #[.int .i64 x.key, .string x.val, .int .i64 (x.pins : Int)] 51)) = .ok (.slice (some ⟨g, 0, none⟩) (k + 1) cap) w2 ∧
      w2.cell? ⟨bl, 0, none⟩ = some v ∧ w2.frozen? ⟨bl, 0, none⟩ = false ∧ (w2.setCell ⟨bl, 0, none⟩ (.slice (some ⟨g, 0, none⟩) (k + 1) cap)).cell? ⟨bm, 0, none⟩ = some (.int .i64 m) ∧
      KeptAt n₀ bl bm q gc cc m (M ++ [x]) (w2.setCell ⟨bl, 0, none⟩ (.slice (some ⟨g, 0, none⟩) (k + 1) cap)) ∧
      Below n₀ W (w2.setCell ⟨bl, 0, none⟩ (.slice (some ⟨g, 0, none⟩) (k + 1) cap)) := by
  obtain ⟨g, cap, w2, hr, h2, h3, hb⟩ := item_push hrow hn hlen x k hk
  subst hk
  obtain ⟨a1, a2, a3, a4, a5⟩ := hv.appended (e := 51) (by decide) hrow hn hbl h2 h3
  have hmm : Boxed (w2.setCell ⟨bl, 0, none⟩ (.slice (some ⟨g, 0, none⟩) (M.length + 1) cap)) bm 3 (.int .i64 m) := (a5.block bm hbm).trans hm
  refine ⟨g, cap, w2, hr, a1.cell, a1.frozen, hmm.cell, ⟨⟨_, a2, a3⟩, hmm, fun hq0 => ?_⟩, a5⟩
  have hx := hxq hq0
  have hne : gc ≠ bl := fun e => by
    subst e
    have := hx.symm.trans hv
    simp at this
  show (w2.setCell _ _).heap[gc]? = _
  rw [heap_setCell_other _ _ _ _ hne]
  have e1 : (W.alloc (.cells #[.int .i64 x.key, .string x.val, .int .i64 (x.pins : Int)] 51)).heap[gc]? = some (.cells cc 83 (0, 0)) := (Below.heap_alloc W _ gc (heap_in hx)).trans hx
  refine (h3.block gc (heap_in e1) (fun e => ?_)).trans e1
  rcases hrow.2 with ⟨rfl, _⟩ | ⟨g', cap', cur, rfl, _, hg', _⟩
  · simp [Value.ownBlock] at e
  · have e' : gc = g' := (Option.some.inj (by simpa [Value.ownBlock] using e.symm)).symm
    rw [← e'] at hg'
    have := hx.symm.trans hg'
    simp at this
set_option maxHeartbeats 1000000 in
theorem kept1_any (n₀ bl bm : Nat) (q : Prop) (gc : Nat) (cc : Array Value) (m x : Int) (s : ByteArray) (M : List E) (w : World) (h : KeptAt n₀ bl bm q gc cc m M w) (hn : n₀ ≤ w.heap.size) (hbl : n₀ ≤ bl) (hbm : bm < n₀) (hlen : M.length ≤ 1048576) (r : Bool) (hr : decide ((M.length : Int) + 1 < m) = r) :
    Calls Try.prog 31 #[.int .i64 x, .string s, .pointer (some ⟨bl, 0, none⟩), .pointer (some ⟨bm, 0, none⟩)] w fun e w' => e = .returned (.bool r) ∧ KeptAt n₀ bl bm q gc cc m (M ++ [⟨x, s, 0⟩]) w' ∧ Below n₀ w w' := by
  obtain ⟨⟨v, hv, hrow⟩, hm, hx⟩ := h
  obtain ⟨k, hk⟩ : ∃ k, M.length = k := ⟨_, rfl⟩
  obtain ⟨g, cap, w2, p1, p2, p3, p4, p5, p6⟩ := kept_push hv hrow hm hx hn hbl hbm hlen ⟨x, s, 0⟩ k hk
  rw [hk] at hr hlen
  have P5 := Lib.hid p5
  have P6 := Lib.hid p6
  have hb : ∀ w, (buildI 1 #[(0, .agg #[.int .i64 x, .string s, .int .i64 0])]).run Try.prog w = .ok (.slice (some ⟨w.heap.size, 0, none⟩) 1 1) (w.alloc (.cells #[.int .i64 x, .string s, .int .i64 0] 51)) := fun w => build_item ⟨x, s, 0⟩ w
  replace p1 : (appI #[v, .slice (some ⟨w.heap.size, 0, none⟩) 1 1]).run Try.prog (w.alloc (.cells #[.int .i64 x, .string s, .int .i64 0] 51)) = .ok (.slice (some ⟨g, 0, none⟩) (k + 1) cap) w2 := p1
  have hc := hv.cell
  have hlt := hv.lt
  clear p5 p6 hk hx hm hrow hv
  go_enter Try.func31, Try.ntmps31
  go_wp2
  go_returns
  exact ⟨rfl, P5.out, P6.out⟩
end KA
end Go.Proofs.Ytomgiemnkbjebaa
