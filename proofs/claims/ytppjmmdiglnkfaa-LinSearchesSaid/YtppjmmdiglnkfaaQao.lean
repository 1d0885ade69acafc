/- slices.Sort and slices.Compact of texts: the contracts of the shelf at this program Texts sorted, each once; package lin: Unique. Package lin: Unique. Plain: operations of a segment as bits of a number. -/
import Derived.Shelf.Strings.Builder1
import Derived.Shelf.Strings.BuilderF
import Derived.Shelf.Strings.BuilderK
import Derived.Shelf.Sort.Plain
import Derived.Ground.Names2Prog
import Derived.Shelf.Slices.Clone
import Derived.Shelf.Slices.CompactS
import Derived.Shelf.Slices.SearchI
import Derived.Shelf.Slices.Delete
import Derived.Test.YtppjmmdiglnkfaaRows
import Derived.Test.YtppjmmdiglnkfaaQag
import Derived.Test.YtppjmmdiglnkfaaQan
import Derived.Sort.OwnSorted
import Derived.Deep.CutBlock
import Derived.Test.YtppjmmdiglnkfaaQaa
import Derived.Laws.Entries
import Derived.IntWalk
namespace Go.Proofs.Ytppjmmdiglnkfaa
set_option maxRecDepth 100000
open Go.Shelf
def sh_lays190_ren : Go.Shelf.Ren := ⟨fun | 190 => 68 | 125 => 89 | 258 => 88 | 128 => 111 | 129 => 112 | 302 => 102 | 303 => 103 | 304 => 104 | 305 => 105 | 306 => 106 | 307 => 107 | 308 => 108 | 309 => 109 | 310 => 110 | 333 => 120 | 329 => 121 | 330 => 122 | 334 => 123 | 335 => 124 | 336 => 125 | 344 => 132 | n => n, fun | 31 => 120 | 9 => 9 | 3 => 3 | 46 => 149 | 0 => 0 | 51 => 68 | 53 => 113 | 4 => 4 | 183 => 171 | 182 => 170 | 131 => 156 | 5 => 5 | 218 => 178 | 222 => 182 | 228 => 189 | 229 => 190 | n => n, fun | n => n⟩
theorem sh_lays190 : Go.Proofs.Lays.n190 Try.prog sh_lays190_ren := {
  mixed := by kernel_rfl
  f125 := Try.func89.trans (congrArg some (by kernel_rfl))
  f128 := Try.func111.trans (congrArg some (by kernel_rfl))
  f129 := Try.func112.trans (congrArg some (by kernel_rfl))
  f190 := Try.func68.trans (congrArg some (by kernel_rfl))
  f258 := Try.func88.trans (congrArg some (by kernel_rfl))
  f302 := Try.func102.trans (congrArg some (by kernel_rfl))
  f303 := Try.func103.trans (congrArg some (by kernel_rfl))
  f304 := Try.func104.trans (congrArg some (by kernel_rfl))
  f305 := Try.func105.trans (congrArg some (by kernel_rfl))
  f306 := Try.func106.trans (congrArg some (by kernel_rfl))
  f307 := Try.func107.trans (congrArg some (by kernel_rfl))
  f308 := Try.func108.trans (congrArg some (by kernel_rfl))
  f309 := Try.func109.trans (congrArg some (by kernel_rfl))
  f310 := Try.func110.trans (congrArg some (by kernel_rfl))
  f329 := Try.func121.trans (congrArg some (by kernel_rfl))
  f330 := Try.func122.trans (congrArg some (by kernel_rfl))
  f333 := Try.func120.trans (congrArg some (by kernel_rfl))
  f334 := Try.func123.trans (congrArg some (by kernel_rfl))
  f335 := Try.func124.trans (congrArg some (by kernel_rfl))
  f336 := Try.func125.trans (congrArg some (by kernel_rfl))
  f344 := Try.func132.trans (congrArg some (by kernel_rfl))
  t0 := Try.underlying0
  a0 := Try.isAgg0
  z0 := Try.sizeOf0
  v0 := Try.zeroValue0
  t3 := Try.underlying3
  a3 := Try.isAgg3
  z3 := Try.sizeOf3
  v3 := Try.zeroValue3
  t4 := Try.underlying4
  a4 := Try.isAgg4
  z4 := Try.sizeOf4
  v4 := Try.zeroValue4
  t5 := Try.underlying5
  a5 := Try.isAgg5
  z5 := Try.sizeOf5
  v5 := Try.zeroValue5
  t9 := Try.underlying9
  a9 := Try.isAgg9
  z9 := Try.sizeOf9
  v9 := Try.zeroValue9
  t31 := Try.underlying120
  a31 := Try.isAgg120
  z31 := Try.sizeOf120
  v31 := Try.zeroValue120
  t46 := Try.underlying149
  a46 := Try.isAgg149
  z46 := Try.sizeOf149
  v46 := Try.zeroValue149
  t51 := Try.underlying68
  a51 := Try.isAgg68
  z51 := Try.sizeOf68
  v51 := Try.zeroValue68
  t53 := Try.underlying113
  a53 := Try.isAgg113
  z53 := Try.sizeOf113
  v53 := Try.zeroValue113
  t131 := Try.underlying156
  a131 := Try.isAgg156
  z131 := Try.sizeOf156
  v131 := Try.zeroValue156
  t182 := Try.underlying170
  a182 := Try.isAgg170
  z182 := Try.sizeOf170
  v182 := Try.zeroValue170
  t183 := Try.underlying171
  a183 := Try.isAgg171
  z183 := Try.sizeOf171
  v183 := Try.zeroValue171
  t218 := Try.underlying178
  a218 := Try.isAgg178
  z218 := Try.sizeOf178
  v218 := Try.zeroValue178
  t222 := Try.underlying182
  a222 := Try.isAgg182
  z222 := Try.sizeOf182
  v222 := Try.zeroValue182
  t228 := Try.underlying189
  a228 := Try.isAgg189
  z228 := Try.sizeOf189
  v228 := Try.zeroValue189
  t229 := Try.underlying190
  a229 := Try.isAgg190
  z229 := Try.sizeOf190
  v229 := Try.zeroValue190 }
open Go.Sort Go.RowKit in
theorem sh_slices_Sort_string (blk off cap : Nat) (ss : List (List UInt8)) (w : World) (hH : Holds encStr w blk off ss.toArray) (hblk : blk < w.heap.size) (hsz : ss.length < 4611686018427387904) :
    Calls Try.prog 68 #[.slice (some ⟨blk, off, none⟩) ss.length cap] w fun e w' =>
      e = .returned (.tuple #[]) ∧ ∃ n os, w' = grow (putRow encStr (Sort.ahead w n) blk off (ss.mergeSort fun x y => decide (x ≤ y)).toArray) os := Any.slices_Sort_string sh_lays190 blk off cap ss w hH hblk hsz
def sh_lays194_ren : Go.Shelf.Ren := ⟨fun | 194 => 69 | n => n, fun | 31 => 120 | 9 => 9 | 3 => 3 | 4 => 4 | 0 => 0 | n => n, fun | n => n⟩
theorem sh_lays194 : Go.Proofs.Lays.n194 Try.prog sh_lays194_ren := {
  mixed := by kernel_rfl
  f194 := Try.func69.trans (congrArg some (by kernel_rfl))
  t0 := Try.underlying0
  a0 := Try.isAgg0
  z0 := Try.sizeOf0
  v0 := Try.zeroValue0
  t3 := Try.underlying3
  a3 := Try.isAgg3
  z3 := Try.sizeOf3
  v3 := Try.zeroValue3
  t4 := Try.underlying4
  a4 := Try.isAgg4
  z4 := Try.sizeOf4
  v4 := Try.zeroValue4
  t9 := Try.underlying9
  a9 := Try.isAgg9
  z9 := Try.sizeOf9
  v9 := Try.zeroValue9
  t31 := Try.underlying120
  a31 := Try.isAgg120
  z31 := Try.sizeOf120
  v31 := Try.zeroValue120 }
open Go.RowKit Go.Lib Go.Sort in
/-- slices.Compact at []string, over an array: the library's two loops are walked. (LAID: no walk: one application.) -/
theorem sh_slices_Compact_string_arr (blk off cap : Nat) (d : Array (List UInt8)) (w : World) (hH : Holds encStr w blk off d) (hsz : d.size ≤ 9223372036854775807) (hcap : d.size ≤ cap) :
    Calls Try.prog 69 #[.slice (some ⟨blk, off, none⟩) d.size cap] w fun e w' => e = .returned (.slice (some ⟨blk, off, none⟩) (compactUpTo d d.size).length cap) ∧ ∃ q, w' = putRow encStr (Sort.ahead w q) blk off (compactUpTo d d.size ++ List.replicate (d.size - (compactUpTo d d.size).length) []).toArray := Any.slices_Compact_string_arr sh_lays194 blk off cap d w hH hsz hcap
open Go.RowKit Go.Lib Go.Sort in
/-- slices.Compact at []string: "Compact replaces consecutive runs of equal elements with a single copy. This is like the uniq command found on Unix. Compact modifies the contents of the slice s and returns the modified slice, which may have a smaller length. Compact zeroes the elements between the new length and the original length. The result preserves the nilness of s.": IT RETURNS THE SLICE CUT TO 'Lib.compact zs'; ITS CELLS HOLD 'Lib.compact zs', THEN ZERO VALUES up to the old length; all else is as it was, but for the count of draws. IN THE WORDS OF slices.Sort's CONTRACT ('Holds', 'putRow'): so the everyday 'slices.Sort(xs); xs = slices.Compact(xs)' goes from the one contract to the other. It asks 'zs.length ≤ cap' (every slice's: the reslicing 's[:k]' looks at it). Length 0, nil: '.._empty'. (LAID: no walk: one application.) -/
theorem sh_slices_Compact_string (blk off cap : Nat) (zs : List (List UInt8)) (w : World) (hH : Holds encStr w blk off zs.toArray) (hsz : zs.length ≤ 9223372036854775807) (hcap : zs.length ≤ cap) :
    Calls Try.prog 69 #[.slice (some ⟨blk, off, none⟩) zs.length cap] w fun e w' => e = .returned (.slice (some ⟨blk, off, none⟩) (Lib.compact zs).length cap) ∧ ∃ q, w' = putRow encStr (Sort.ahead w q) blk off (Lib.compact zs ++ List.replicate (zs.length - (Lib.compact zs).length) []).toArray := Any.slices_Compact_string sh_lays194 blk off cap zs w hH hsz hcap
open Go.RowKit Go.Lib Go.Sort in
/-- The same at a slice of length 0, a nil one too: it comes back as it is. (LAID: no walk: one application.) -/
theorem sh_slices_Compact_string_empty (a : Option Addr) (cap : Nat) (w : World) :
    Calls Try.prog 69 #[.slice a 0 cap] w fun e w' => e = .returned (.slice a 0 cap) ∧ w' = w := Any.slices_Compact_string_empty sh_lays194 a cap w
end Go.Proofs.Ytppjmmdiglnkfaa
namespace Go.Proofs.Ytppjmmdiglnkfaa
set_option maxRecDepth 100000
open Go.ChangeShapes Go.WideShapes Go.ChangeAt Go.RowKit Go.PlainAid Go.Deep Go.Sort
namespace Ln
theorem insSort_nil (cap : Nat) (w : World) :
    Calls Try.prog 102 #[.slice none 0 cap, .int .i64 0, .int .i64 0] w fun e w' => e = .returned (.tuple #[]) ∧ w' = w := by
  go_enter Try.func102, Try.ntmps102
  go_wp2
  refine wp_loop_rounds 1 ?_
  rw [rounds_succ]
  go_wp2
  go_end0
  exact ⟨rfl, rfl⟩
theorem pdq_nil (cap : Nat) (w : World) :
    Calls Try.prog 88 #[.slice none 0 cap, .int .i64 0, .int .i64 0, .int .i64 0] w fun e w' => e = .returned (.tuple #[]) ∧ w' = w := by
  go_enter Try.func88, Try.ntmps88
  go_wp2
  refine wp_loop_rounds 1 ?_
  rw [rounds_succ]
  go_wp2_with (first | (refine (insSort_nil cap _).mono ?_; rintro e w' ⟨rfl, rfl⟩))
  refine bodyPost_ret (results_none rfl _ _ _) rfl ?_
  exact ⟨rfl, rfl⟩
theorem len64_nil (w : World) : Calls Try.prog 112 #[.int .u64 0] w fun e w' => e = .returned (.int .i64 0) ∧ w' = w := by
  go_enter Try.func112, Try.ntmps112
  go_wp2
  go_returns
  exact ⟨ret_i (by kernel_rfl), rfl⟩
theorem len_nil (w : World) : Calls Try.prog 89 #[.int .u64 0] w fun e w' => e = .returned (.int .i64 0) ∧ w' = w := by
  go_enter Try.func89, Try.ntmps89
  go_wp2_with (go_at_call 112; refine (len64_nil _).mono ?_; rintro e w' ⟨rfl, rfl⟩)
  go_returns
  exact ⟨rfl, rfl⟩
theorem sort_nil (cap : Nat) (w : World) :
    Calls Try.prog 68 #[.slice none 0 cap] w fun e w' => e = .returned (.tuple #[]) ∧ w' = w := by
  go_enter Try.func68, Try.ntmps68
  go_wp2_with (first
    | (go_at_call 89; refine (len_nil _).mono ?_; rintro e w' ⟨rfl, rfl⟩)
    | (go_at_call 88; refine (pdq_nil cap _).mono ?_; rintro e w' ⟨rfl, rfl⟩))
  go_end0
  exact ⟨rfl, rfl⟩
/-- Texts in a row, sorted. -/
theorem sort_texts {n₀ : Nat} {W : World} {v : Value} {ts : List (List UInt8)} (h : W.ownsRow n₀ 9 1 v ts.length (ts.map encStr)) (hn : n₀ ≤ W.heap.size) (hl : ts.length ≤ 100000000) :
    Calls Try.prog 68 #[v] W fun e w' => e = .returned (.tuple #[]) ∧ w'.ownsRow n₀ 9 1 v ts.length ((ts.mergeSort fun x y => decide (x ≤ y)).map encStr) ∧ Below n₀ W w' := by
  have h' := h
  rcases h.2 with ⟨rfl, h0⟩ | ⟨g, cap, cur, rfl, hb, hg, hlc, hcm, hsz, ht⟩
  · have e0 : ts = [] := List.length_eq_zero_iff.1 h0
    subst e0
    refine (sort_nil 0 W).mono ?_
    rintro _ _ ⟨rfl, rfl⟩
    exact ⟨rfl, by simpa using h', Below.refl _ _⟩
  · refine (sh_slices_Sort_string g 0 cap ts W (holds_of_block hg (by rw [Nat.mul_one] at ht; exact ht)) (heap_inO hg) (by omega)).mono ?_
    rintro _ _ ⟨rfl, n, os, rfl⟩
    exact ⟨rfl, ownsRow_sorted (by rw [List.length_mergeSort]) hb hg hlc hcm hsz, (Below.refl _ _).grown (grownBy_sorted _) hn (fun k e => by cases e; exact hb)⟩
theorem grow_none (w : World) : grow w #[] = w := by simp [grow]
/-- Texts in a row, each once. -/
theorem compact_texts {n₀ : Nat} {W : World} {v : Value} {ts : List (List UInt8)} (h : W.ownsRow n₀ 9 1 v ts.length (ts.map encStr)) (hn : n₀ ≤ W.heap.size) (hl : ts.length ≤ 100000000) :
    Calls Try.prog 69 #[v] W fun e w' => ∃ v', e = .returned v' ∧ w'.ownsRow n₀ 9 1 v' (Lib.compact ts).length ((Lib.compact ts).map encStr) ∧ Below n₀ W w' := by
  have h' := h
  rcases h.2 with ⟨rfl, h0⟩ | ⟨g, cap, cur, rfl, hb, hg, hlc, hcm, hsz, ht⟩
  · have e0 : ts = [] := List.length_eq_zero_iff.1 h0
    subst e0
    refine (sh_slices_Compact_string_empty none 0 W).mono ?_
    rintro _ _ ⟨rfl, rfl⟩
    exact ⟨_, rfl, by simpa [Lib.compact, Lib.compactUpTo] using h', Below.refl _ _⟩
  · have hcl : (Lib.compact ts).length ≤ ts.length := by
      unfold Lib.compact Lib.compactUpTo
      rw [List.length_map]
      exact Nat.le_trans (List.length_filter_le _ _) (by simp)
    refine (sh_slices_Compact_string g 0 cap ts W (holds_of_block hg (by rw [Nat.mul_one] at ht; exact ht)) (by omega) hlc).mono ?_
    rintro _ w' ⟨rfl, q, hw⟩
    generalize hd : Lib.compact ts ++ List.replicate (ts.length - (Lib.compact ts).length) [] = d at hw
    have hdl : d.length = ts.length := by rw [← hd]; simp; omega
    have hw2 : w' = grow (putRow encStr (Sort.ahead W q) g 0 d.toArray) #[] := by rw [grow_none]; exact hw
    subst hw2
    refine ⟨_, rfl, ⟨by simp, .inr ⟨g, cap, _, rfl, hb, heap_sorted _ hg, by omega, hcm, by simp [putCells, hsz], ?_⟩⟩, (Below.refl _ _).grown (grownBy_sorted _) hn (fun k e => by cases e; exact hb)⟩
    have h3 := take_putCells cur d (by omega)
    have h4 := congrArg (List.take (Lib.compact ts).length) h3
    rw [List.take_take, Nat.min_eq_left (by omega), ← hd, List.map_append, List.take_left' (by simp)] at h4
    rw [Nat.mul_one, ← hd]
    exact h4
end Ln
end Go.Proofs.Ytppjmmdiglnkfaa
namespace Go.Proofs.Ytppjmmdiglnkfaa
set_option maxRecDepth 100000
open Go.ChangeShapes Go.WideShapes Go.ChangeAt Go.RowKit Go.PlainAid Go.Deep Go.Sort
namespace Ln
attribute [local go_sem ↓ high] app_tx app_st
theorem mtext_any {v : Value} {L : List Int} {w : World} (h : IntsOf w v L) (hl : L.length ≤ 1000000000) : Calls Try.prog 34 #[v] w fun e w' => e = .returned (.string (textS L)) ∧ Below w.heap.size w w' :=
  text_any v L w h fun B b a s w1 hb hs hB => bwrite_any B b _ s w1 hb (by rw [cells_size]; omega) hB
theorem textS_size {L : List Int} (h : Okz L) : (textS L).size ≤ 10 * L.length + 10 := by
  have h1 := body_size L h.inr
  have h2 := varS_size (L.length : Int) (by omega) (by have := h.len; omega)
  unfold textS
  rw [ByteArray.size_append]
  omega
theorem mstate_any {s : List Int} (h : Okz s) (hl : s.length ≤ 1000000000) (w : World) : Calls Try.prog 70 #[.string (textS s)] w fun e w' => ∃ v', e = .returned (.tuple #[v', .int .i64 ((textS s).size : Int)]) ∧ OwnI w.heap.size w' v' s ∧ Below w.heap.size w w' := by
  have hz := textS_size h
  have hs := state_text h
  refine (state_any (textS s) w (by omega) (.inl (by omega))).mono ?_
  rintro _ w' ⟨v', rfl, ho, hb⟩
  rw [hs] at ho ⊢
  exact ⟨v', rfl, ho, hb⟩
theorem take_succ {α : Type} {l : List α} {i : Nat} {x : α} (h : l[i]? = some x) : l.take (i + 1) = l.take i ++ [x] := by rw [List.take_add_one, h]; rfl
theorem tx_push {n₀ : Nat} {W : World} {v : Value} {n : Nat} {a : List Value} (h : W.ownsRow n₀ 9 1 v n a) (s : ByteArray) (hn : n₀ ≤ W.heap.size) (hl : n < 100000000) :
    ∃ v' W', (appTx #[v, .slice (some ⟨W.heap.size, 0, none⟩) 1 1]).run Try.prog (W.alloc (.cells #[.string s] 9)) = .ok v' W' ∧ W'.ownsRow n₀ 9 1 v' (n + 1) (a ++ [.string s]) ∧ Below n₀ W W' := by
  obtain ⟨v', W', hr, ho, hk⟩ := row_push rtTx_good h [.string s] rfl (fun x hx => by rw [List.mem_singleton.1 hx]; rfl) hn hl
  exact ⟨v', W', hr, ho, hk.below (fun i hi => (h.lt i hi).1) hn⟩
set_option maxHeartbeats 4000000 in
theorem unique_any {v : Value} {l : List (List Int)} {w : World} (h : Sts w v l) (hk : ∀ s ∈ l, s.length ≤ 1000000000) (hl : l.length ≤ 20000000) :
    Calls Try.prog 41 #[v] w fun e w' => ∃ v', e = .returned v' ∧ ∃ r, StsOwn w.heap.size w' v' r ∧ US l r ∧ Below w.heap.size w w' := by
  obtain ⟨al, cl, rfl⟩ := h.len
  have hok : ∀ s ∈ l, Okz s := fun s hs => by
    obtain ⟨i, hi⟩ := List.getElem?_of_mem hs
    obtain ⟨b, p, cap, u, _, _, _, hu⟩ := h.at hi
    exact ⟨hu.inI, by have := hk s hs; omega⟩
  have H := Lib.hid h
  have HK := Lib.hid hk
  have HOK := Lib.hid hok
  have HUS := Lib.hid (us_sorted hok)
  have HI0 := Lib.hid (show w.ownsRow w.heap.size 9 1 (.slice none 0 0) 0 ((l.take 0).map fun s => Value.string (textS s)) ∧ Below w.heap.size w w from ⟨World.ownsRow_nil _ _ _ _, Below.refl _ _⟩)
  clear h hk hok
  go_enter Try.func41, Try.ntmps41
  go_wp2_with fail
  go_loopw [3, 13] (fun s3 s13 wr => ∃ (i : Nat) (aA : Option Addr) (cA : Nat), s13 = .int .i64 i ∧ s3 = .slice aA i cA ∧ i ≤ l.length ∧ Hid (wr.ownsRow w.heap.size 9 1 (.slice aA i cA) i ((l.take i).map fun s => Value.string (textS s)) ∧ Below w.heap.size w wr)) (fun _ s13 _ => l.length - (intOf s13).toNat)
  case atStart => exact ⟨0, none, 0, rfl, rfl, Nat.zero_le _, HI0⟩
  case round =>
    clear HI0
    obtain ⟨i, aA, cA, rfl, rfl, hi, HI⟩ := hrel
    by_cases hil : i < l.length
    · have q1 : (i : Int) < (l.length : Int) := by omega
      have q2 : IntKind.i64.wrap ((i : Int) + 1) = (i : Int) + 1 := IntWalk.i64_in _ (by omega)
      obtain ⟨s, hs⟩ : ∃ s, l[i]? = some s := ⟨_, List.getElem?_eq_getElem hil⟩
      obtain ⟨b, p, cap, u, hv, hlt, hc, hu⟩ := (H.out.on HI.out.2).at hs
      obtain rfl : al = some ⟨b, p, none⟩ := by cases hv; rfl
      have hsl : s.length ≤ 1000000000 := HK.out s (List.mem_of_getElem? hs)
      obtain ⟨au, cu, rfl, _⟩ := hu.parts
      have HU := Lib.hid hu
      have HS := Lib.hid hs
      clear hv hu hs hlt
      go_wp2_with fail
      refine (mtext_any HU.out hsl).mono ?_
      rintro _ w1 ⟨rfl, hb1⟩
      have hb01 := HI.out.2.on hb1
      obtain ⟨v2, w2, hr2, ho2, hb2⟩ := tx_push (ownsRow_onI HI.out.1 hb1) (textS s) hb01.size (by omega)
      obtain ⟨a2, c2, rfl, _⟩ := own_len ho2
      have HE := Lib.hid (show w2.ownsRow w.heap.size 9 1 (.slice a2 (i + 1) c2) (i + 1) ((l.take (i + 1)).map fun s => Value.string (textS s)) ∧ Below w.heap.size w w2 from ⟨by rw [take_succ HS.out, List.map_append]; exact ho2, hb01.trans hb2⟩)
      clear hb1 hb01 ho2 hb2
      go_wp2_with fail
      go_roundw
      case measure => simp [intOf] <;> omega
      case rel => exact ⟨i + 1, a2, c2, by simp, by simp, by omega, HE⟩
    · obtain rfl : i = l.length := by omega
      have q1 : ¬ ((l.length : Int) < (l.length : Int)) := by omega
      obtain ⟨hrow, hbel⟩ := HI.out
      rw [List.take_length] at hrow
      have e1 : (l.map fun s => Value.string (textS s)) = (l.map fun s => bytesOf (textS s)).map encStr := by
        rw [List.map_map]
        exact List.map_congr_left fun s _ => by rw [Function.comp, encStr, bytes_back]
      rw [e1] at hrow
      have hll : (l.map fun s => bytesOf (textS s)).length = l.length := List.length_map _
      have HR := Lib.hid (show wr.ownsRow w.heap.size 9 1 (.slice aA l.length cA) (l.map fun s => bytesOf (textS s)).length ((l.map fun s => bytesOf (textS s)).map encStr) by rw [hll]; exact hrow)
      have HB := Lib.hid hbel
      clear HI hrow hbel e1 hll
      generalize hgt : (l.map fun s => bytesOf (textS s)) = ts at HR HUS
      have hlt : ts.length = l.length := by rw [← hgt]; exact List.length_map _
      have HGT := Lib.hid hgt
      clear hgt
      go_wp2_with fail
      refine (sort_texts HR.out HB.out.size (by omega)).mono ?_
      rintro _ w1 ⟨rfl, hs1, hb1⟩
      have HB1 := Lib.hid (HB.out.trans hb1)
      have hms : (ts.mergeSort fun x y => decide (x ≤ y)).length = ts.length := List.length_mergeSort _
      have HS1 := Lib.hid (show w1.ownsRow w.heap.size 9 1 (.slice aA l.length cA) (ts.mergeSort fun x y => decide (x ≤ y)).length ((ts.mergeSort fun x y => decide (x ≤ y)).map encStr) by rw [hms]; exact hs1)
      clear hs1 hb1
      go_wp2_with fail
      refine (compact_texts HS1.out HB1.out.size (by omega)).mono ?_
      rintro _ w2 ⟨v2, rfl, hs2, hb2⟩
      have HB2 := Lib.hid (HB1.out.trans hb2)
      have hcm : ∀ t ∈ Lib.compact (ts.mergeSort fun x y => decide (x ≤ y)), ∃ s ∈ l, bytesOf (textS s) = t := fun t ht => by
        have := (compact_mem _ t).1 ht
        rw [List.mem_mergeSort, ← HGT.out, List.mem_map] at this
        exact this
      have hcl : (Lib.compact (ts.mergeSort fun x y => decide (x ≤ y))).length ≤ 20000000 := by
        refine Nat.le_trans ?_ (show ts.length ≤ 20000000 by omega)
        unfold Lib.compact Lib.compactUpTo
        rw [List.length_map]
        refine Nat.le_trans (List.length_filter_le _ _) ?_
        rw [List.length_range, hms]
        exact Nat.le_refl _
      generalize Lib.compact (ts.mergeSort fun x y => decide (x ≤ y)) = cs at hs2 HUS hcm hcl
      have HCM := Lib.hid hcm
      have hrd := own_rd hs2
      obtain ⟨a2, c2, rfl⟩ := hrd.len
      have HRD := Lib.hid hrd
      have HJ0 := Lib.hid (show StsOwn w2.heap.size w2 (.slice none 0 0) ((cs.take 0).map fun t => (stateP ⟨t.toArray⟩).1) ∧ Below w2.heap.size w2 w2 from ⟨StsOwn.nil _ _, Below.refl _ _⟩)
      clear hs2 hb2 hcm hrd
      go_wp2_with fail
      go_loopw [6, 28] (fun s6 s28 wr => ∃ (j : Nat) (aA : Option Addr) (cA : Nat), s28 = .int .i64 j ∧ s6 = .slice aA j cA ∧ j ≤ cs.length ∧ Hid (StsOwn w2.heap.size wr (.slice aA j cA) ((cs.take j).map fun t => (stateP ⟨t.toArray⟩).1) ∧ Below w2.heap.size w2 wr)) (fun _ s28 _ => cs.length - (intOf s28).toNat)
      case atStart => exact ⟨0, none, 0, rfl, rfl, Nat.zero_le _, HJ0⟩
      case round =>
        clear HJ0
        obtain ⟨j, aJ, cJ, rfl, rfl, hj, HJ⟩ := hrel
        by_cases hjl : j < cs.length
        · have q3 : (j : Int) < (cs.length : Int) := by omega
          have q4 : IntKind.i64.wrap ((j : Int) + 1) = (j : Int) + 1 := IntWalk.i64_in _ (by omega)
          obtain ⟨t, ht⟩ : ∃ t, cs[j]? = some t := ⟨_, List.getElem?_eq_getElem hjl⟩
          obtain ⟨s, hs, hst⟩ := HCM.out t (List.mem_of_getElem? ht)
          have hdt : (stateP ⟨t.toArray⟩).1 = s := by rw [← hst, bytes_back, state_text (HOK.out s hs)]
          obtain ⟨b, p, cap, hv, hlt2, hc⟩ := (HRD.out.on HJ.out.2).at (by omega)
          obtain rfl : a2 = some ⟨b, p, none⟩ := by cases hv; rfl
          have g1 : wr.cell? ⟨b, p + j, none⟩ = some (.string (textS s)) := hc j _ (by rw [List.getElem?_map, ht, ← hst]; simp [encStr, bytes_back])
          have HT := Lib.hid (And.intro ht hdt)
          have HOS := Lib.hid (And.intro (HOK.out s hs) (HK.out s hs))
          clear hv hlt2 hc ht hdt hs hst
          go_wp2_with fail
          refine (mstate_any HOS.out.1 HOS.out.2 _).mono ?_
          rintro _ w3 ⟨v3, rfl, ho3, hb3⟩
          have hb23 := HJ.out.2.on hb3
          obtain ⟨v4, w4, hr4, ho4, hk4⟩ := sts_push (HJ.out.1.on hb3) (ho3.base (Nat.zero_le _)) hb23.size (by rw [List.length_map, List.length_take]; omega)
          obtain ⟨a3, c3, rfl⟩ := ho3.len
          obtain ⟨a4, c4, rfl⟩ := ho4.reads.len
          have hb4 : Below w2.heap.size w3 w4 := hk4.below (fun k e => by
            obtain ⟨vs, h1, _⟩ := HJ.out.1.on hb3
            exact (h1.lt k e).1) hb23.size
          have hlen : ((cs.take j).map fun t => (stateP ⟨t.toArray⟩).1).length = j := by rw [List.length_map, List.length_take]; omega
          have e5 : ((cs.take j).map fun t => (stateP ⟨t.toArray⟩).1) ++ [s] = (cs.take (j + 1)).map fun t => (stateP ⟨t.toArray⟩).1 := by rw [take_succ HT.out.1, List.map_append, ← HT.out.2]; rfl
          have e6 : (((cs.take j).map fun t => (stateP ⟨t.toArray⟩).1) ++ [s]).length = j + 1 := by rw [List.length_append, hlen]; rfl
          rw [e6] at hr4 ho4
          rw [e5] at ho4
          have HE := Lib.hid (And.intro ho4 (hb23.trans hb4))
          clear hb3 hb23 ho3 ho4 hk4 hb4 hlen e5 e6
          go_wp2_with fail
          go_roundw
          case measure => simp [intOf] <;> omega
          case rel => exact ⟨j + 1, a4, c4, by simp, by simp, by omega, HE⟩
        · obtain rfl : j = cs.length := by omega
          have q3 : ¬ ((cs.length : Int) < (cs.length : Int)) := by omega
          go_wp2_with fail
          go_returns
          obtain ⟨h1, h2⟩ := HJ.out
          rw [List.take_length] at h1
          exact ⟨_, rfl, _, h1.base HB2.out.size, HUS.out, HB2.out.trans (h2.mono HB2.out.size)⟩
end Ln
end Go.Proofs.Ytppjmmdiglnkfaa
namespace Go.Proofs.Ytppjmmdiglnkfaa
set_option maxRecDepth 100000
open Go.ChangeShapes Go.WideShapes Go.ChangeAt Go.RowKit Go.PlainAid
namespace Ln
theorem u32_wrap (a : Nat) (h : a < 4294967296) : IntKind.u32.wrap (a : Int) = a := by simp [IntKind.wrap, IntKind.signed, IntKind.bits]; omega
theorem ofInt_nat (a : Nat) : BitVec.ofInt 32 (a : Int) = BitVec.ofNat 32 a := by
  apply BitVec.eq_of_toNat_eq
  simp
theorem or_u32 (a b : Nat) (ha : a < 4294967296) (hb : b < 4294967296) : bits .or .u32 (a : Int) (b : Int) = ((a ||| b : Nat) : Int) := by
  have h : a ||| b < 2 ^ 32 := Nat.or_lt_two_pow (by simpa using ha) (by simpa using hb)
  unfold bits
  show IntKind.u32.wrap (((BitVec.ofInt 32 (a : Int)) ||| (BitVec.ofInt 32 (b : Int))).toNat : Int) = _
  rw [ofInt_nat, ofInt_nat, BitVec.toNat_or, BitVec.toNat_ofNat, BitVec.toNat_ofNat, Nat.mod_eq_of_lt (by simpa using ha), Nat.mod_eq_of_lt (by simpa using hb)]
  exact u32_wrap _ (by simpa using h)
theorem and_u32 (a b : Nat) (ha : a < 4294967296) (hb : b < 4294967296) : bits .and .u32 (a : Int) (b : Int) = ((a &&& b : Nat) : Int) := by
  have h : a &&& b < 2 ^ 32 := Nat.and_lt_two_pow a (by simpa using hb)
  unfold bits
  show IntKind.u32.wrap (((BitVec.ofInt 32 (a : Int)) &&& (BitVec.ofInt 32 (b : Int))).toNat : Int) = _
  rw [ofInt_nat, ofInt_nat, BitVec.toNat_and, BitVec.toNat_ofNat, BitVec.toNat_ofNat, Nat.mod_eq_of_lt (by simpa using ha), Nat.mod_eq_of_lt (by simpa using hb)]
  exact u32_wrap _ (by simpa using h)
/-- Bits of the one that the other lacks. -/
def notN (a b : Nat) : Nat := (BitVec.ofNat 32 a &&& ~~~(BitVec.ofNat 32 b)).toNat
theorem andNot_u32 (a b : Nat) : bits .andNot .u32 (a : Int) (b : Int) = (notN a b : Int) := by
  unfold bits notN
  show IntKind.u32.wrap (((BitVec.ofInt 32 (a : Int)) &&& ~~~(BitVec.ofInt 32 (b : Int))).toNat : Int) = _
  rw [ofInt_nat, ofInt_nat]
  exact u32_wrap _ (BitVec.isLt _)
theorem notN_zero {a b : Nat} (ha : a < 4294967296) : notN a b = 0 ↔ ∀ k, a.testBit k = true → b.testBit k = true := by
  have key : ∀ k, (notN a b).testBit k = (decide (k < 32) && a.testBit k && !b.testBit k) := fun k => by
    unfold notN
    rw [BitVec.testBit_toNat, BitVec.getLsbD_and, BitVec.getLsbD_not, BitVec.getLsbD_ofNat, BitVec.getLsbD_ofNat]
    by_cases h : k < 32 <;> simp [h]
  constructor
  · intro h k hk
    have h1 := key k
    rw [h, Nat.zero_testBit, hk] at h1
    have hlt : k < 32 := Classical.byContradiction fun c => by
      have : a.testBit k = false := Nat.testBit_lt_two_pow (Nat.lt_of_lt_of_le (show a < 2 ^ 32 by simpa using ha) (Nat.pow_le_pow_right (by decide) (by omega)))
      rw [this] at hk
      cases hk
    simp [hlt] at h1
    exact h1
  · intro h
    refine Nat.eq_of_testBit_eq fun k => ?_
    rw [key k, Nat.zero_testBit]
    cases c : a.testBit k with
    | false => simp
    | true => rw [h k c]; simp
theorem and_pow_zero {a i : Nat} : a &&& 2 ^ i = 0 ↔ a.testBit i = false := by
  constructor
  · intro h
    have h1 := congrArg (fun n => n.testBit i) h
    simpa [Nat.testBit_and, Nat.testBit_two_pow_self] using h1
  · intro h
    refine Nat.eq_of_testBit_eq fun k => ?_
    rw [Nat.testBit_and, Nat.zero_testBit, Nat.testBit_two_pow]
    by_cases c : i = k
    · subst c; rw [h]; rfl
    · simp [c]
/-- A number has just these bits. -/
structure Mk (m : Nat) (P : Nat → Bool) : Prop where
  lt : m < 65536
  bit : ∀ k, m.testBit k = P k
theorem Mk.zero : Mk 0 fun _ => false := ⟨by decide, fun k => Nat.zero_testBit k⟩
theorem Mk.set {m : Nat} {P : Nat → Bool} (h : Mk m P) {i : Nat} (hi : i < 16) : Mk (m ||| 2 ^ i) fun k => P k || decide (k = i) := by
  refine ⟨?_, fun k => ?_⟩
  · have : 2 ^ i < 2 ^ 16 := Nat.pow_lt_pow_right (by decide) hi
    have := Nat.or_lt_two_pow (n := 16) (by simpa using h.lt) this
    simpa using this
  · rw [Nat.testBit_or, h.bit k, Nat.testBit_two_pow]
    congr 1
    exact decide_eq_decide.2 eq_comm
theorem Mk.eq {m n : Nat} {P : Nat → Bool} (h : Mk m P) (k : Mk n P) : m = n := Nat.eq_of_testBit_eq fun j => (h.bit j).trans (k.bit j).symm
theorem Mk.of {m : Nat} {P Q : Nat → Bool} (h : Mk m P) (e : ∀ k, P k = Q k) : Mk m Q := ⟨h.lt, fun k => (h.bit k).trans (e k)⟩
theorem pow_lt16 {i : Nat} (hi : i < 16) : 2 ^ i < 4294967296 := Nat.lt_of_lt_of_le (Nat.pow_lt_pow_right (by decide) hi) (by decide)
end Ln
end Go.Proofs.Ytppjmmdiglnkfaa
