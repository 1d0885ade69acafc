import Derived.WalkKit
import Derived.ProofKit
import Derived.OpenShut
import Derived.Handy
import Derived.Lib.Hide
import Derived.PlainAid
import Derived.Laws.DeepNot64
import Derived.Lib.BufferWrite
import Derived.Lib.ConvBytes
import Derived.Test.YtcjfnfdinhbdlaaGreatDoorRows
import Derived.Laws.AppendOwn
import Derived.Laws.OwnMore
namespace Go.Proofs.YtcjfnfdinhbdlaaGreatDoor
open Go.ChangeShapes Go.WideShapes Go.ChangeAt Go.RowKit Go.PlainAid
theorem _root_.Go.RowKit.Below.on {w a b : World} (h : Below w.heap.size w a) (k : Below a.heap.size a b) : Below w.heap.size w b := h.trans (k.mono h.size)
theorem ret_i {k : IntKind} {a b : Int} (h : a = b) : Ending.returned (.int k a) = .returned (.int k b) := by rw [h]
theorem u64_not (x : Int) (h0 : 0 ≤ x) (h1 : x ≤ 18446744073709551615) : bits .xor .u64 IntKind.u64.max x = 18446744073709551615 - x := by
  obtain ⟨a, rfl⟩ := Int.eq_ofNat_of_zero_le h0
  show bits .xor .u64 18446744073709551615 (a : Int) = _
  show IntKind.u64.wrap ((BitVec.ofInt 64 18446744073709551615 ^^^ BitVec.ofInt 64 (a : Int)).toNat : Int) = _
  have e : BitVec.ofInt 64 18446744073709551615 = BitVec.allOnes 64 := by decide +kernel
  rw [e, BitVec.allOnes_xor, BitVec.toNat_not, ofInt_u64 a (by omega), IntKind.wrap_u64]
  omega
theorem u64_low (u : Int) (h0 : 0 ≤ u) (h1 : u ≤ 18446744073709551615) : bits .and .u64 u 1 = u % 2 := by
  rw [u64_and u 1 h0 (by omega) (by omega) (by omega)]
  show ((u.toNat &&& 1 : Nat) : Int) = _
  rw [Nat.and_one_is_mod]; omega
theorem nat_flip63 (x : Nat) (h : x < 18446744073709551616) : x ^^^ 9223372036854775808 = (x + 9223372036854775808) % 18446744073709551616 := by
  have hd := Nat.xor_div_two_pow (a := x) (b := 9223372036854775808) (n := 63)
  have hm := Nat.xor_mod_two_pow (a := x) (b := 9223372036854775808) (n := 63)
  rw [show (9223372036854775808 : Nat) / 2 ^ 63 = 1 from rfl] at hd
  rw [show (9223372036854775808 : Nat) % 2 ^ 63 = 0 from rfl, Nat.xor_zero] at hm
  have e : (2 : Nat) ^ 63 = 9223372036854775808 := rfl
  rw [e] at hd hm
  have hq : x / 9223372036854775808 = 0 ∨ x / 9223372036854775808 = 1 := by omega
  rcases hq with hq | hq
  · rw [hq, show (0 ^^^ 1 : Nat) = 1 from rfl] at hd; omega
  · rw [hq, show (1 ^^^ 1 : Nat) = 0 from rfl] at hd; omega
theorem u64_flip (x : Int) (h0 : 0 ≤ x) (h1 : x < 18446744073709551616) : bits .xor .u64 x 9223372036854775808 = (x + 9223372036854775808) % 18446744073709551616 := by
  rw [u64_xor x 9223372036854775808 h0 h1 (by omega) (by omega)]
  show ((x.toNat ^^^ 9223372036854775808 : Nat) : Int) = _
  rw [nat_flip63 _ (by omega)]
  omega
theorem u64_or_add (a c : Int) (i : Nat) (b m : Int) (hb : b = c * 2 ^ i) (hm : m = 2 ^ i) (ha0 : 0 ≤ a) (ha : a < m) (hc : 0 ≤ c) (hbb : b < 18446744073709551616) (hmm : m ≤ 18446744073709551616) :
    bits .or .u64 a b = a + b := by
  obtain ⟨x, rfl⟩ := Int.eq_ofNat_of_zero_le ha0
  obtain ⟨y, rfl⟩ := Int.eq_ofNat_of_zero_le hc
  have hx : x < 2 ^ i := by
    rw [hm] at ha
    have : ((2 : Int) ^ i) = ((2 ^ i : Nat) : Int) := by simp
    omega
  have hb' : b = ((2 ^ i * y : Nat) : Int) := by rw [hb, Int.mul_comm]; simp
  subst hb'
  rw [u64_or_nat x (2 ^ i * y) (by omega) (by omega), Nat.or_comm, ← Nat.two_pow_add_eq_or_of_lt hx y]
  omega
theorem u8_or_128 (a : Int) (h0 : 0 ≤ a) (h1 : a < 256) : bits .or .u8 a 128 = a % 128 + 128 := by
  obtain ⟨x, rfl⟩ := Int.eq_ofNat_of_zero_le h0
  have hx : x < 256 := by omega
  show bits .or .u8 (x : Int) ((128 : Nat) : Int) = _
  rw [u8_or_nat x 128 hx (by omega)]
  have key : ∀ z : Fin 256, (z.val ||| 128) = z.val % 128 + 128 := by decide +kernel
  have := key ⟨x, hx⟩
  simp only at this
  omega
theorem u8_andNot_128 (a : Int) (h0 : 0 ≤ a) (h1 : a < 256) : bits .andNot .u8 a 128 = a % 128 := by
  obtain ⟨x, rfl⟩ := Int.eq_ofNat_of_zero_le h0
  have hx : x < 256 := by omega
  show bits .andNot .u8 (x : Int) ((128 : Nat) : Int) = _
  rw [u8_andNot_nat x 128 hx (by omega)]
  have key : ∀ z : Fin 256, (z.val &&& (255 - 128)) = z.val % 128 := by decide +kernel
  have := key ⟨x, hx⟩
  simp only at this
  omega
theorem u8_not (a : Int) (h0 : 0 ≤ a) (h1 : a < 256) : bits .xor .u8 IntKind.u8.max a = 255 - a := by
  obtain ⟨x, rfl⟩ := Int.eq_ofNat_of_zero_le h0
  have hx : x < 256 := by omega
  show bits .xor .u8 ((255 : Nat) : Int) (x : Int) = _
  rw [u8_xor_nat 255 x (by omega) hx]
  have key : ∀ z : Fin 256, (255 ^^^ z.val) = 255 - z.val := by decide +kernel
  have := key ⟨x, hx⟩
  simp only at this
  omega
theorem conv_row {P : Program} (src e dst : TypeId) (hs : P.underlying src = some (.slice e)) (he : P.underlying e = some (.int .u8)) (hd : P.underlying dst = some .string)
    (xs : List Int) (w : World) (b len cap : Nat) (cs : Array Value) (t : TypeId) (fr : Nat × Nat) (hg : w.heap[b]? = some (.cells cs t fr)) (hlen : xs.length = len)
    (hxs : ∀ i, i < len → cs[i]? = some (.int .u8 (xs.getD i 0))) :
    (convert src dst (.slice (some ⟨b, 0, none⟩) len cap)).run P w = .ok (.string (strOfNums xs)) w :=
  run_convert_bytes_arg w src e hs he b 0 len cap xs hlen (fun i hi => by rw [cell_of_row _ _ _ _ _ _ hg, Nat.zero_add]; exact hxs i hi) dst hd
theorem bt_list (s : ByteArray) (k : Nat) : bt s k = ((s.data.toList.getD k 0).toNat : Int) := by
  unfold bt
  split
  · rename_i h
    have : s.data.toList.getD k 0 = s[k] := by
      rw [List.getD_eq_getElem?_getD, List.getElem?_eq_getElem (by simpa using h)]; rfl
    rw [this]
  · rename_i h
    rw [List.getD_eq_getElem?_getD, List.getElem?_eq_none (by simp; omega)]; rfl
theorem setRow_alloc (w : World) (a c : Array Value) (t : TypeId) : (w.alloc (.cells a t)).setRow w.heap.size c = w.alloc (.cells c t) := by
  have : (w.alloc (.cells a t)).heap = w.heap.push (.cells a t) := rfl
  have h2 : (w.alloc (.cells c t)).heap = w.heap.push (.cells c t) := rfl
  have h3 : w.alloc (.cells c t) = { w with heap := w.heap.push (.cells c t) } := rfl
  have h4 : w.alloc (.cells a t) = { w with heap := w.heap.push (.cells a t) } := rfl
  rw [h3, h4]
  unfold World.setRow
  simp only
  congr 1
  apply Array.ext
  · simp
  · intro i hi hj
    simp only [Array.size_push, Array.size_modify] at hi hj
    rw [Array.getElem_modify]
    by_cases hh : w.heap.size = i
    · subst hh; simp
    · rw [if_neg hh, Array.getElem_push, Array.getElem_push]
      have : i < w.heap.size := by omega
      simp [this]
theorem run_copy8 {P : Program} (w : World) (dT sT ty elem t : TypeId) (s : ByteArray)
    (hu : P.underlying dT = some (.slice elem)) (hs : (P.info? elem).map (·.size) = some 1) :
    (Builtin.copy_ #[dT, sT] ty #[.slice (some ⟨w.heap.size, 0, none⟩) 8 8, .string s]).run P (w.alloc (.cells #[.int .u8 0, .int .u8 0, .int .u8 0, .int .u8 0, .int .u8 0, .int .u8 0, .int .u8 0, .int .u8 0] t)) =
      .ok (goInt ((min s.size 8 : Nat) : Int)) (w.alloc (.cells #[.int .u8 (bt s 0), .int .u8 (bt s 1), .int .u8 (bt s 2), .int .u8 (bt s 3), .int .u8 (bt s 4), .int .u8 (bt s 5), .int .u8 (bt s 6), .int .u8 (bt s 7)] t)) := by
  have hlen : (Lib.byteCells s.data.toList).length = s.size := by rw [Lib.byteCells_length, ← Lib.size_eq]
  have hcl : ((Lib.byteCells s.data.toList).take (min s.size 8)).length = min s.size 8 := by rw [List.length_take, hlen]; omega
  have hst := run_storeCells_at P w.heap.size 0 t ((Lib.byteCells s.data.toList).take (min s.size 8)) 0 _ _ (heap_alloc_new w (.cells #[.int .u8 0, .int .u8 0, .int .u8 0, .int .u8 0, .int .u8 0, .int .u8 0, .int .u8 0, .int .u8 0] t)) (by rw [hcl]; simp; omega) (fun v hv => Lib.byteCells_one _ v (List.mem_of_mem_take hv))
  have hst' := hst
  simp only [Nat.add_zero, hcl, setRow_alloc] at hst'
  have hrow : (List.take 0 [Value.int .u8 0, .int .u8 0, .int .u8 0, .int .u8 0, .int .u8 0, .int .u8 0, .int .u8 0, .int .u8 0] ++ (Lib.byteCells s.data.toList).take (min s.size 8) ++ List.drop (0 + min s.size 8) [Value.int .u8 0, .int .u8 0, .int .u8 0, .int .u8 0, .int .u8 0, .int .u8 0, .int .u8 0, .int .u8 0]).toArray = #[.int .u8 (bt s 0), .int .u8 (bt s 1), .int .u8 (bt s 2), .int .u8 (bt s 3), .int .u8 (bt s 4), .int .u8 (bt s 5), .int .u8 (bt s 6), .int .u8 (bt s 7)] := by
    have hall : ∀ i, i < 8 → (List.take 0 [Value.int .u8 0, .int .u8 0, .int .u8 0, .int .u8 0, .int .u8 0, .int .u8 0, .int .u8 0, .int .u8 0] ++ (Lib.byteCells s.data.toList).take (min s.size 8) ++ List.drop (0 + min s.size 8) [Value.int .u8 0, .int .u8 0, .int .u8 0, .int .u8 0, .int .u8 0, .int .u8 0, .int .u8 0, .int .u8 0])[i]? = some (.int .u8 (bt s i)) := by
      intro i hi
      simp only [List.take_zero, List.nil_append, Nat.zero_add]
      by_cases c : i < s.size
      · rw [List.getElem?_append_left (by rw [hcl]; omega), List.getElem?_take_of_lt (by omega)]
        have hlt : i < s.data.toList.length := by simpa using c
        rw [bt_list]
        simp [Lib.byteCells, List.getElem?_eq_getElem hlt, List.getD_eq_getElem?_getD]
      · rw [List.getElem?_append_right (by rw [hcl]; omega), hcl, List.getElem?_drop, show min s.size 8 + (i - min s.size 8) = i by omega, bt_end s (by omega)]
        match i, hi with
        | 0, _ => rfl | 1, _ => rfl | 2, _ => rfl | 3, _ => rfl | 4, _ => rfl | 5, _ => rfl | 6, _ => rfl | 7, _ => rfl
    apply Array.ext'
    apply List.ext_getElem?
    intro i
    by_cases hi : i < 8
    · refine (hall i hi).trans ?_
      match i, hi with
      | 0, _ => rfl | 1, _ => rfl | 2, _ => rfl | 3, _ => rfl | 4, _ => rfl | 5, _ => rfl | 6, _ => rfl | 7, _ => rfl
    · rw [List.getElem?_eq_none (by simp only [List.take_zero, List.nil_append, List.length_append, List.length_drop, hcl, List.length_cons, List.length_nil]; omega), List.getElem?_eq_none (by simp; omega)]
  cases hq : P.info? elem with
  | none => simp [hq] at hs
  | some i =>
    simp [Builtin.copy_, run_underlying hu, Builtin.lenOf, Builtin.firstCells, sizeOf, typeInfo, hq]
    rw [hrow] at hst'
    show ((Sem.run P (storeCells ⟨w.heap.size, 0, none⟩ ((Lib.byteCells s.data.toList).take (min s.size 8))) _).andThen fun a w' => Result.ok (goInt ((min s.size 8 : Nat) : Int)) w') = _
    rw [hst']
    rfl
theorem bytes_facts (w : World) (e : TypeId) (s : ByteArray) :
    Below w.heap.size w (Lib.bytesWorld w e s) ∧ (Lib.bytesWorld w e s).heap.size = w.heap.size + 1 ∧
      (∀ j, j < s.size → (Lib.bytesWorld w e s).cell? ⟨w.heap.size, j, none⟩ = some (.int .u8 (bt s j))) ∧
      (∀ j, j < s.size → (Lib.bytesWorld w e s).frozen? ⟨w.heap.size, j, none⟩ = false) := by
  refine ⟨⟨rfl, rfl, rfl, by rw [Lib.bytesWorld_size]; omega, fun k hk => Lib.bytesWorld_at_old w e s k hk⟩, Lib.bytesWorld_size w e s, fun j hj => ?_, fun j hj => ?_⟩
  · rw [Lib.bytesWorld_cell w e s j hj, bt_list]
  · have h := Lib.bytesWorld_at_new w e s
    have hsz : s.size ≤ (Lib.bytesCells w e s).size := by
      unfold Lib.bytesCells
      rw [Array.size_append, Array.size_map]
      exact Nat.le_add_right _ _
    unfold World.frozen?
    simp only [h]
    simp
    omega
theorem bt_strOfNums (xs : List Int) (k : Nat) (h0 : 0 ≤ xs.getD k 0) (h1 : xs.getD k 0 ≤ 255) : bt (strOfNums xs) k = xs.getD k 0 := by
  rw [bt_list, strOfNums_data]
  simp only [List.getD_eq_getElem?_getD, List.getElem?_map] at h0 h1 ⊢
  cases h : xs[k]? with
  | none => simp
  | some x =>
    simp only [h, Option.getD_some, Option.map_some] at h0 h1 ⊢
    rw [UInt8.toNat_ofNat']
    omega
structure RowI (w : World) (n : Nat) (f : Nat → Int) (wr : World) : Prop where
  below : Below w.heap.size w wr
  size : wr.heap.size = w.heap.size + 1
  cells : ∀ j, j < n → wr.cell? ⟨w.heap.size, j, none⟩ = some (.int .u8 (f j))
  thawed : ∀ j, j < n → wr.frozen? ⟨w.heap.size, j, none⟩ = false
theorem RowI.set {w wr : World} {n : Nat} {f g : Nat → Int} (h : RowI w n f wr) {k : Nat} (hk : k < n) (v : Int) (hv : g k = v) (hg : ∀ j, j < n → j ≠ k → g j = f j) : RowI w n g (wr.setCell ⟨w.heap.size, k, none⟩ (.int .u8 v)) := by
  refine ⟨h.below.setCell (Nat.le_refl _) _, by simpa [World.setCell] using h.size, fun j hj => ?_, fun j hj => by rw [World.frozen?_setCell]; exact h.thawed j hj⟩
  by_cases e : j = k
  · subst e
    rw [hv]
    exact World.cell?_setCell_same _ _ _ (h.cells j hj)
  · rw [World.cell?_setCell_other _ _ _ _ (by intro c; exact e (congrArg Addr.off c).symm), h.cells j hj, hg j hj e]
theorem RowI.ofBytes (w : World) (e : TypeId) (s : ByteArray) : RowI w s.size (bt s) (Lib.bytesWorld w e s) := by
  obtain ⟨a, b, c, d⟩ := bytes_facts w e s
  exact ⟨a, b, c, d⟩
theorem row_str {w wr : World} {n : Nat} {f : Nat → Int} (h : RowI w n f wr) : ∀ i, i < n → wr.cell? ⟨w.heap.size, 0 + i, none⟩ = some (.int .u8 (((List.range n).map f).getD i 0)) := fun i hi => by
  rw [Nat.zero_add, h.cells i hi]
  simp [List.getD_eq_getElem?_getD, List.getElem?_map, List.getElem?_range hi]
theorem len_range (n : Nat) (f : Nat → Int) : ((List.range n).map f).length = n := by simp
theorem str_app (a b : List Int) : strOfNums a ++ strOfNums b = strOfNums (a ++ b) := by
  apply ByteArray.ext
  simp [strOfNums]
theorem bcell {B : Nat} {W w1 : World} (hb : Below B W w1) : (∀ b o, b < B → w1.cell? ⟨b, o, none⟩ = W.cell? ⟨b, o, none⟩) ∧ (∀ b o, b < B → w1.frozen? ⟨b, o, none⟩ = W.frozen? ⟨b, o, none⟩) :=
  ⟨fun b o h => hb.cell (p := ⟨b, o, none⟩) h, fun b o h => hb.frozen (p := ⟨b, o, none⟩) h⟩
theorem one_new (w : World) (x : Int) (t : TypeId) : ∀ j u, [Value.int .u8 x][j]? = some u → (w.alloc (.cells #[.int .u8 x] t)).cell? ((⟨w.heap.size, 0, none⟩ : Addr).add j) = some u := by
  intro j u h
  match j, h with
  | 0, h =>
    have e : (⟨w.heap.size, 0, none⟩ : Addr).add 0 = ⟨w.heap.size, 0, none⟩ := rfl
    rw [e, cell_of_row _ _ _ _ _ _ (heap_alloc_new _ _)]
    exact h
theorem one_cell (x : Int) : ∀ u ∈ [Value.int .u8 x], u.oneCell' = true := by
  intro u hu
  rw [List.mem_singleton] at hu
  subst hu
  rfl
theorem conv_own {P : Program} (src e dst : TypeId) (hs : P.underlying src = some (.slice e)) (he : P.underlying e = some (.int .u8)) (hd : P.underlying dst = some .string)
    (xs : List Int) (w : World) (base : Nat) (v : Value) (n : Nat) (h : w.ownsRow base e 1 v n (xs.map (Value.int .u8))) :
    (convert src dst v).run P w = .ok (.string (strOfNums xs)) w := by
  obtain ⟨h1, h2⟩ := h
  rw [List.length_map, Nat.mul_one] at h1
  rcases h2 with ⟨rfl, h0⟩ | ⟨g, cap, cur, rfl, hb, hg, hn, hc, hsz, ht⟩
  · have : xs = [] := List.length_eq_zero_iff.1 (by omega)
    subst this
    rw [run_convert_bytes_nil w src e hs he 0 0 dst hd]
    rfl
  · refine conv_row src e dst hs he hd xs w g n cap cur e _ hg h1 (fun i hi => ?_)
    rw [Nat.mul_one] at ht
    have a : (cur.toList.take n)[i]? = (xs.map (Value.int .u8))[i]? := by rw [ht]
    rw [List.getElem?_take_of_lt hi, List.getElem?_map, List.getElem?_eq_getElem (show i < xs.length by omega)] at a
    rw [← Array.getElem?_toList, a]
    simp [List.getD_eq_getElem?_getD, List.getElem?_eq_getElem (show i < xs.length by omega)]
end Go.Proofs.YtcjfnfdinhbdlaaGreatDoor
namespace Go.Proofs.YtcjfnfdinhbdlaaGreatDoor
set_option maxRecDepth 100000
open Go.ChangeShapes Go.WideShapes Go.ChangeAt Go.RowKit Go.PlainAid
def foldZ (n : Int) : Int := if n < 0 then -2 * n - 1 else 2 * n
def unfoldZ (u : Int) : Int := if u % 2 = 0 then u / 2 else -1 - u / 2
theorem foldZ_neg {n : Int} (h : n < 0) : foldZ n = -2 * n - 1 := if_pos h
theorem foldZ_pos {n : Int} (h : 0 ≤ n) : foldZ n = 2 * n := if_neg (by omega)
theorem unfoldZ_even {u : Int} (h : u % 2 = 0) : unfoldZ u = u / 2 := if_pos h
theorem unfoldZ_odd {u : Int} (h : u % 2 = 1) : unfoldZ u = -1 - u / 2 := if_neg (by omega)
set_option maxHeartbeats 400000 in
theorem fold_any (n : Int) (w : World) (h1 : -9223372036854775808 ≤ n) (h2 : n ≤ 9223372036854775807) :
    Calls Tryz.prog 187 #[.int .i64 n] w fun e w' => e = .returned (.int .u64 (foldZ n)) ∧ w = w' := by
  rcases Int.lt_or_le n 0 with c | c
  · have hf := Lib.hid (foldZ_neg c)
    go_enter Tryz.func187, Tryz.ntmps187
    go_wp2
    go_returns
    refine ⟨ret_i ?_, rfl⟩
    rw [hf.out, u64_not _ (by rw [IntKind.wrap_u64]; omega) (by rw [IntKind.wrap_u64]; omega)]
    simp only [IntKind.wrap_u64]; omega
  · have hf := Lib.hid (foldZ_pos c)
    go_enter Tryz.func187, Tryz.ntmps187
    go_wp2
    go_returns
    exact ⟨ret_i (by rw [hf.out]; omega), rfl⟩
set_option maxHeartbeats 400000 in
theorem unfold_any (u : Int) (w : World) (h0 : 0 ≤ u) (h1 : u ≤ 18446744073709551615) :
    Calls Tryz.prog 182 #[.int .u64 u] w fun e w' => e = .returned (.int .i64 (unfoldZ u)) ∧ w = w' := by
  have hl := u64_low u h0 h1
  rcases Int.emod_two_eq u with c | c
  · have hf := Lib.hid (unfoldZ_even c)
    rw [c] at hl
    clear c
    go_enter Tryz.func182, Tryz.ntmps182
    go_wp2
    go_returns
    exact ⟨ret_i (by rw [hf.out]), rfl⟩
  · have hf := Lib.hid (unfoldZ_odd c)
    rw [c] at hl
    clear c
    go_enter Tryz.func182, Tryz.ntmps182
    go_wp2
    go_returns
    obtain ⟨a, ha⟩ := Int.eq_ofNat_of_zero_le (show 0 ≤ u / 2 by omega)
    exact ⟨ret_i (by rw [hf.out, ha, i64_not a (by omega)]), rfl⟩
end Go.Proofs.YtcjfnfdinhbdlaaGreatDoor
namespace Go.Proofs.YtcjfnfdinhbdlaaGreatDoor
set_option maxRecDepth 100000
open Go.ChangeShapes Go.WideShapes Go.ChangeAt Go.RowKit Go.PlainAid
structure Ent (K V : Type) where
  key : K
  val : V
  pins : Nat
section
variable {K V : Type}
def posK [DecidableEq K] (k : K) (L : List (Ent K V)) : Nat := L.findIdx fun e => decide (e.key = k)
def Once (L : List (Ent K V)) : Prop := (L.map (·.key)).Nodup
def useL (i : Nat) (L : List (Ent K V)) : List (Ent K V) := (L[i]?).toList ++ L.eraseIdx i
theorem posK_at [DecidableEq K] {k : K} {L : List (Ent K V)} (h : posK k L < L.length) : ∃ e, L[posK k L]? = some e ∧ e.key = k := by
  have h2 := List.findIdx_getElem (w := h)
  exact ⟨_, List.getElem?_eq_getElem h, of_decide_eq_true h2⟩
theorem posK_eq [DecidableEq K] {k : K} {L : List (Ent K V)} {i : Nat} {e : Ent K V} (he : L[i]? = some e) (hk : e.key = k) (hb : ∀ j x, j < i → L[j]? = some x → x.key ≠ k) : posK k L = i := by
  obtain ⟨hl, rfl⟩ := List.getElem?_eq_some_iff.1 he
  refine (List.findIdx_eq hl).2 ⟨by simpa using hk, fun j hj => ?_⟩
  simpa using hb j _ hj (List.getElem?_eq_getElem (by omega))
theorem posK_no [DecidableEq K] {k : K} {L : List (Ent K V)} (hb : ∀ (j : Nat) (x : Ent K V), L[j]? = some x → x.key ≠ k) : posK k L = L.length := by
  refine List.findIdx_eq_length.2 fun x hx => ?_
  obtain ⟨j, hj⟩ := List.mem_iff_getElem?.1 hx
  simpa using hb j x hj
theorem posK_none [DecidableEq K] {k : K} {L : List (Ent K V)} (h : ¬ posK k L < L.length) : ∀ e ∈ L, e.key ≠ k := by
  intro e he hk
  exact h (List.findIdx_lt_length_of_exists ⟨e, he, by simpa using hk⟩)
theorem useL_some {L : List (Ent K V)} {i : Nat} {e : Ent K V} (h : L[i]? = some e) : useL i L = e :: L.eraseIdx i := by
  unfold useL
  rw [h]
  rfl
theorem useL_len {L : List (Ent K V)} {i : Nat} (h : i < L.length) : (useL i L).length = L.length := by
  rw [useL_some (List.getElem?_eq_getElem h), List.length_cons, List.length_eraseIdx_of_lt h]
  omega
theorem once_filter [DecidableEq K] {L : List (Ent K V)} : ∀ {i : Nat} {e : Ent K V}, Once L → L[i]? = some e → L.filter (fun x => !decide (x.key = e.key)) = L.eraseIdx i := by
  induction L with
  | nil => intro i e _ h; simp at h
  | cons a L ih =>
    intro i e h he
    have hn : a.key ∉ L.map (·.key) ∧ Once L := List.nodup_cons.1 h
    cases i with
    | zero =>
      obtain rfl : a = e := by simpa using he
      have : L.filter (fun x => !decide (x.key = a.key)) = L := by
        refine List.filter_eq_self.2 fun x hx => ?_
        have : x.key ≠ a.key := fun hk => hn.1 (List.mem_map.2 ⟨x, hx, hk⟩)
        simp [this]
      simp [this]
    | succ i =>
      have he' : L[i]? = some e := by simpa using he
      have hne : a.key ≠ e.key := fun hk => hn.1 (List.mem_map.2 ⟨e, List.mem_of_getElem? he', hk.symm⟩)
      rw [List.filter_cons_of_pos (by simp [hne]), ih hn.2 he', List.eraseIdx_cons_succ]
theorem once_erase {L : List (Ent K V)} (h : Once L) (i : Nat) : Once (L.eraseIdx i) := by
  exact List.Nodup.sublist ((List.eraseIdx_sublist L i).map _) h
theorem mem_erase [DecidableEq K] {L : List (Ent K V)} {i : Nat} {e x : Ent K V} (h : Once L) (he : L[i]? = some e) (hx : x ∈ L.eraseIdx i) : x ∈ L ∧ x.key ≠ e.key := by
  rw [← once_filter h he] at hx
  have := List.mem_filter.1 hx
  exact ⟨this.1, by simpa using this.2⟩
theorem once_cons {L : List (Ent K V)} {e : Ent K V} (h : Once L) (hn : ∀ x ∈ L, x.key ≠ e.key) : Once (e :: L) := by
  refine List.nodup_cons.2 ⟨fun hx => ?_, h⟩
  obtain ⟨x, hx, hk⟩ := List.mem_map.1 hx
  exact hn x hx hk
def oldL (L : List (Ent K V)) : Nat := L.reverse.findIdx fun e => decide (e.pins = 0)
def putL [DecidableEq K] (most : Nat) (k : K) (v : V) (L : List (Ent K V)) : List (Ent K V) :=
  if posK k L < L.length then (L[posK k L]?).toList.map (fun e => { e with val := v }) ++ L.eraseIdx (posK k L)
  else if L.length < most then ⟨k, v, 0⟩ :: L
  else if oldL L < L.length then ⟨k, v, 0⟩ :: L.eraseIdx (L.length - 1 - oldL L)
  else L
def putK [DecidableEq K] (most : Nat) (k : K) (L : List (Ent K V)) : Option K :=
  if posK k L < L.length then none else if L.length < most then none
  else if oldL L < L.length then (L[L.length - 1 - oldL L]?).map (·.key) else none
def putE [DecidableEq K] (most : Nat) (k : K) (L : List (Ent K V)) : Int :=
  if posK k L < L.length then 0 else if L.length < most then 0 else if oldL L < L.length then 0 else 12
theorem oldL_at {L : List (Ent K V)} (h : oldL L < L.length) : ∃ e, L[L.length - 1 - oldL L]? = some e ∧ e.pins = 0 ∧ ∀ j x, L.length - 1 - oldL L < j → L[j]? = some x → x.pins ≠ 0 := by
  have h' : oldL L < L.reverse.length := by simpa using h
  have h2 := List.findIdx_getElem (w := h')
  have e2 : L[L.length - 1 - oldL L]? = some (L.reverse[oldL L]) := by rw [← List.getElem?_reverse h]; exact List.getElem?_eq_getElem h'
  refine ⟨_, e2, of_decide_eq_true h2, fun j x hj hx => ?_⟩
  obtain ⟨hl, _⟩ := List.getElem?_eq_some_iff.1 hx
  have hq : L.length - 1 - j < L.reverse.length := by rw [List.length_reverse]; omega
  have h3 := List.not_of_lt_findIdx (xs := L.reverse) (p := fun e => decide (e.pins = 0)) (i := L.length - 1 - j) (by unfold oldL at hj h; omega)
  have e3 : L.reverse[L.length - 1 - j]? = L[j]? := by rw [List.getElem?_reverse (by omega), show L.length - 1 - (L.length - 1 - j) = j by omega]
  rw [hx, List.getElem?_eq_getElem hq] at e3
  rw [Option.some.inj e3] at h3
  simpa using h3
theorem oldL_no {L : List (Ent K V)} (h : ¬ oldL L < L.length) : ∀ e ∈ L, e.pins ≠ 0 := by
  intro e he hk
  have := List.findIdx_lt_length_of_exists (xs := L.reverse) (p := fun e => decide (e.pins = 0)) ⟨e, by simpa using he, by simpa using hk⟩
  unfold oldL at h
  rw [List.length_reverse] at this
  exact h this
theorem oldL_yes {L : List (Ent K V)} {e : Ent K V} (he : e ∈ L) (hp : e.pins = 0) : oldL L < L.length := by
  by_cases h : oldL L < L.length
  · exact h
  · exact absurd hp (oldL_no h e he)
theorem oldL_eq {L : List (Ent K V)} {i : Nat} {e : Ent K V} (he : L[i]? = some e) (hp : e.pins = 0) (hb : ∀ j x, i < j → L[j]? = some x → x.pins ≠ 0) : oldL L = L.length - 1 - i := by
  obtain ⟨hl, _⟩ := List.getElem?_eq_some_iff.1 he
  have hq : L.length - 1 - i < L.reverse.length := by rw [List.length_reverse]; omega
  have e3 : L.reverse[L.length - 1 - i]? = L[i]? := by rw [List.getElem?_reverse (by omega), show L.length - 1 - (L.length - 1 - i) = i by omega]
  rw [he, List.getElem?_eq_getElem hq] at e3
  refine (List.findIdx_eq hq).2 ⟨by rw [Option.some.inj e3]; exact decide_eq_true hp, fun j hj => ?_⟩
  have hj2 : j < L.reverse.length := by omega
  have e4 : L.reverse[j]? = L[L.length - 1 - j]? := List.getElem?_reverse (by omega)
  rw [List.getElem?_eq_getElem hj2] at e4
  simpa using hb (L.length - 1 - j) _ (by omega) e4.symm
theorem once_put [DecidableEq K] {L : List (Ent K V)} (h : Once L) (most : Nat) (k : K) (v : V) : Once (putL most k v L) := by
  unfold putL
  split
  · rename_i hp
    obtain ⟨e, he, hk⟩ := posK_at hp
    rw [he]
    exact once_cons (once_erase h _) fun x hx => by have := (mem_erase h he hx).2; simpa using this
  · rename_i hp
    split
    · exact once_cons h (posK_none hp)
    · split
      · exact once_cons (once_erase h _) fun x hx => posK_none hp x ((List.eraseIdx_sublist _ _).subset hx)
      · exact h
theorem put_len [DecidableEq K] {L : List (Ent K V)} {most : Nat} (hm : L.length ≤ most) (k : K) (v : V) : (putL most k v L).length ≤ most := by
  unfold putL
  split
  · rename_i hp
    obtain ⟨e, he, hk⟩ := posK_at hp
    rw [he]
    simp only [Option.toList_some, List.map_cons, List.map_nil, List.cons_append, List.nil_append, List.length_cons]
    rw [List.length_eraseIdx_of_lt hp]
    omega
  · split
    · simp only [List.length_cons]; omega
    · split
      · rw [List.length_cons, List.length_eraseIdx_of_lt (by omega)]; omega
      · exact hm
end
section
variable {K V : Type} (c : Ent K V → List Value)
def flat (L : List (Ent K V)) : List Value := L.flatMap c
structure Three : Prop where
  len : ∀ e, (c e).length = 3
  one : ∀ e, ∀ u ∈ c e, u.oneCell' = true
variable {c}
theorem flat_len (h : Three c) (L : List (Ent K V)) : (flat c L).length = L.length * 3 := by
  induction L with
  | nil => rfl
  | cons a L ih => simp only [flat, List.flatMap_cons, List.length_append, h.len, List.length_cons] at ih ⊢; omega
theorem flat_cons (a : Ent K V) (L : List (Ent K V)) : flat c (a :: L) = c a ++ flat c L := rfl
theorem flat_app (A B : List (Ent K V)) : flat c (A ++ B) = flat c A ++ flat c B := List.flatMap_append
theorem flat_one (h : Three c) (L : List (Ent K V)) : ∀ u ∈ flat c L, u.oneCell' = true := by
  intro u hu
  obtain ⟨e, _, he⟩ := List.mem_flatMap.1 hu
  exact h.one e u he
theorem flat_take (h : Three c) (L : List (Ent K V)) (i : Nat) : (flat c L).take (i * 3) = flat c (L.take i) := by
  induction L generalizing i with
  | nil => simp [flat]
  | cons a L ih =>
    cases i with
    | zero => simp [flat]
    | succ i =>
      rw [flat_cons, List.take_succ_cons, flat_cons, List.take_append, h.len, show (i + 1) * 3 - 3 = i * 3 by omega, ih, List.take_of_length_le (by rw [h.len]; omega)]
theorem flat_drop (h : Three c) (L : List (Ent K V)) (i : Nat) : (flat c L).drop (i * 3) = flat c (L.drop i) := by
  induction L generalizing i with
  | nil => simp [flat]
  | cons a L ih =>
    cases i with
    | zero => simp [flat]
    | succ i =>
      rw [flat_cons, List.drop_succ_cons, List.drop_append, h.len, show (i + 1) * 3 - 3 = i * 3 by omega, ih, List.drop_of_length_le (by rw [h.len]; omega)]
      rfl
theorem flat_at (h : Three c) {L : List (Ent K V)} {i : Nat} {e : Ent K V} (he : L[i]? = some e) (j : Nat) (hj : j < 3) : (flat c L)[i * 3 + j]? = (c e)[j]? := by
  rw [← List.getElem?_drop, flat_drop h]
  obtain ⟨hl, rfl⟩ := List.getElem?_eq_some_iff.1 he
  rw [List.drop_eq_getElem_cons hl, flat_cons, List.getElem?_append_left (by rw [h.len]; exact hj)]
end
def RowE {K V : Type} (c : Ent K V → List Value) (t : TypeId) (n₀ : Nat) (W : World) (v : Value) (L : List (Ent K V)) : Prop := W.ownsRow n₀ t 3 v L.length (flat c L)
theorem RowE.block {K V : Type} {c : Ent K V → List Value} {t : TypeId} {n₀ : Nat} {W : World} {v : Value} {L : List (Ent K V)} (h : RowE c t n₀ W v L) (hn : 0 < L.length) :
    ∃ g cap cur, v = .slice (some ⟨g, 0, none⟩) L.length cap ∧ n₀ ≤ g ∧ W.heap[g]? = some (.cells cur t (0, 0)) ∧ L.length ≤ cap ∧ cap ≤ maxLen ∧ cur.size = cap * 3 ∧ cur.toList.take (L.length * 3) = flat c L := by
  rcases h.2 with ⟨_, h0⟩ | h
  · omega
  · exact h
theorem RowE.mk' {K V : Type} {c : Ent K V → List Value} {t : TypeId} {n₀ : Nat} {W : World} {M : List (Ent K V)} {g cap : Nat} {cur2 : Array Value} (h3 : Three c) (hb : n₀ ≤ g) (hg : W.heap[g]? = some (.cells cur2 t (0, 0)))
    (hm : cap ≤ maxLen) (hs2 : cur2.size = cap * 3) (hl : M.length ≤ cap) (ht2 : cur2.toList.take (M.length * 3) = flat c M) {n : Nat} (hn : n = M.length) :
    RowE c t n₀ W (.slice (some ⟨g, 0, none⟩) n cap) M := by
  subst hn
  exact ⟨flat_len h3 M, .inr ⟨g, cap, cur2, rfl, hb, hg, hl, hm, hs2, ht2⟩⟩
theorem cut3 {K V : Type} {c : Ent K V → List Value} {cur : List Value} {L : List (Ent K V)} (ht : cur.take (L.length * 3) = flat c L) : cur = flat c L ++ cur.drop (L.length * 3) := by
  rw [← ht, List.take_append_drop]
theorem take3 {K V : Type} {c : Ent K V → List Value} (h3 : Three c) {cur : List Value} {L : List (Ent K V)} (ht : cur.take (L.length * 3) = flat c L) {i : Nat} (hi : i ≤ L.length) : cur.take (i * 3) = flat c (L.take i) := by
  rw [← flat_take h3, ← ht, List.take_take, Nat.min_eq_left (by omega)]
theorem drop3 {K V : Type} {c : Ent K V → List Value} (h3 : Three c) {cur : List Value} {L : List (Ent K V)} (ht : cur.take (L.length * 3) = flat c L) {i : Nat} (hi : i ≤ L.length) : cur.drop (i * 3) = flat c (L.drop i) ++ cur.drop (L.length * 3) := by
  have h := cut3 ht
  generalize cur.drop (L.length * 3) = r at *
  rw [h, List.drop_append, flat_drop h3, flat_len h3, show i * 3 - L.length * 3 = 0 by omega, List.drop_zero]
theorem front3 {K V : Type} {c : Ent K V → List Value} (h3 : Three c) (M : List (Ent K V)) (r : List Value) (n : Nat) (hn : n = M.length) : (flat c M ++ r).take (n * 3) = flat c M := by
  rw [hn, ← flat_len h3 M]
  exact List.take_left
theorem erase_cut {K V : Type} (L : List (Ent K V)) (i : Nat) : L.eraseIdx i = L.take i ++ L.drop (i + 1) := List.eraseIdx_eq_take_drop_succ _ _
theorem use_list {K V : Type} {c : Ent K V → List Value} (h3 : Three c) {cur : List Value} {L : List (Ent K V)} {i : Nat} {x : Ent K V} (hx : L[i]? = some x) (ht : cur.take (L.length * 3) = flat c L) :
    (c x ++ cur.take (i * 3) ++ cur.drop ((i + 1) * 3)).take (L.length * 3) = flat c (useL i L) := by
  have hi := (List.getElem?_eq_some_iff.1 hx).1
  rw [take3 h3 ht (by omega), drop3 h3 ht (by omega), ← List.append_assoc, ← flat_cons, ← flat_app, useL_some hx, erase_cut]
  exact front3 h3 _ _ _ (by simp; omega)
theorem set_list {K V : Type} {c : Ent K V → List Value} (h3 : Three c) {cur : List Value} {L : List (Ent K V)} {i : Nat} {x : Ent K V} (hi : i < L.length) (ht : cur.take (L.length * 3) = flat c L) :
    (cur.take (i * 3) ++ c x ++ cur.drop ((i + 1) * 3)).take (L.length * 3) = flat c (L.set i x) := by
  rw [take3 h3 ht (by omega), drop3 h3 ht (by omega), List.append_assoc, ← List.append_assoc (c x), ← flat_cons, ← List.append_assoc, ← flat_app, List.set_eq_take_append_cons_drop, if_pos hi]
  exact front3 h3 _ _ _ (by simp; omega)
theorem run_copy_row3 {P : Program} (w : World) (dT sT ty elem : TypeId) (g o dLen dCap sLen sCap : Nat) (cur : Array Value) (t : TypeId) (hu : P.underlying dT = some (.slice elem)) (hs : (P.info? elem).map (·.size) = some 3)
    (hg : w.heap[g]? = some (.cells cur t (0, 0))) (hn : sLen = dLen) (hfit : o + dLen * 3 ≤ cur.size) (h1 : ∀ v ∈ cur.toList.take (dLen * 3), v.oneCell' = true) :
    (Builtin.copy_ #[dT, sT] ty #[.slice (some ⟨g, o, none⟩) dLen dCap, .slice (some ⟨g, 0, none⟩) sLen sCap]).run P w =
      .ok (goInt dLen) (w.setRow g (cur.toList.take o ++ cur.toList.take (dLen * 3) ++ cur.toList.drop (o + dLen * 3)).toArray) := by
  subst hn
  have hlen : (cur.toList.take (sLen * 3)).length = sLen * 3 := by rw [List.length_take, Array.length_toList]; omega
  have hl := run_loadCells_list (P := P) w ⟨g, 0, none⟩ (cur.toList.take (sLen * 3)) (fun j v hv => by
    have hj := (List.getElem?_eq_some_iff.1 hv).1
    rw [List.getElem?_take_of_lt (by omega), Array.getElem?_toList] at hv
    have hadd : (⟨g, 0, none⟩ : Addr).add j = ⟨g, j, none⟩ := by unfold Addr.add; split <;> simp_all
    rw [hadd, cell_of_row _ _ _ _ _ _ hg]
    exact hv)
  rw [hlen] at hl
  have hst := run_storeCells_at P g o t (cur.toList.take (sLen * 3)) 0 cur w hg (by rw [hlen]; omega) h1
  rw [hlen] at hst
  simp only [Nat.add_zero] at hst
  cases hq : P.info? elem with
  | none => simp [hq] at hs
  | some i =>
    have hi : i.size = 3 := by simpa [hq] using hs
    simp [Builtin.copy_, run_underlying hu, Builtin.lenOf, Builtin.firstCells, sizeOf, typeInfo, hq, hi, hl]
    rw [hst, List.append_assoc]
    rfl
end Go.Proofs.YtcjfnfdinhbdlaaGreatDoor
namespace Go.Proofs.YtcjfnfdinhbdlaaGreatDoor
set_option maxRecDepth 100000
open Go.ChangeShapes Go.WideShapes Go.ChangeAt Go.RowKit Go.PlainAid
def l8 (n : Int) : List Int := [n % 256, n / 256 % 256, n / 65536 % 256, n / 16777216 % 256, n / 4294967296 % 256, n / 1099511627776 % 256, n / 281474976710656 % 256, n / 72057594037927936]
def fixS (n k : Int) : ByteArray := strOfNums ((l8 n).take (min (max k 0) 8).toNat)
set_option maxHeartbeats 400000 in
theorem lay_any (n : Int) (w : World) (h0 : 0 ≤ n) (h1 : n ≤ 18446744073709551615) :
    Calls Tryz.prog 158 #[.int .u64 n] w fun e w' => e = .returned (.agg #[.int .u8 (n % 256), .int .u8 (n / 256 % 256), .int .u8 (n / 65536 % 256), .int .u8 (n / 16777216 % 256), .int .u8 (n / 4294967296 % 256), .int .u8 (n / 1099511627776 % 256), .int .u8 (n / 281474976710656 % 256), .int .u8 (n / 72057594037927936)]) ∧ Below w.heap.size w w' := by
  go_enter Tryz.func158, Tryz.ntmps158
  go_wp2
  go_rounds 9
  go_returns
  exact ⟨rfl, by go_grown⟩
theorem l8_cells (n : Int) (k : Nat) (hk : k ≤ 8) : ∀ i, i < k → #[Value.int .u8 (n % 256), .int .u8 (n / 256 % 256), .int .u8 (n / 65536 % 256), .int .u8 (n / 16777216 % 256), .int .u8 (n / 4294967296 % 256), .int .u8 (n / 1099511627776 % 256), .int .u8 (n / 281474976710656 % 256), .int .u8 (n / 72057594037927936)][i]? = some (.int .u8 (((l8 n).take k).getD i 0)) := by
  intro i hi
  have e : ((l8 n).take k).getD i 0 = (l8 n).getD i 0 := by simp [hi]
  rw [e]
  have h8 : i < 8 := by omega
  match i, h8 with
  | 0, _ => rfl | 1, _ => rfl | 2, _ => rfl | 3, _ => rfl | 4, _ => rfl | 5, _ => rfl | 6, _ => rfl | 7, _ => rfl
theorem l8_length (n : Int) (k : Nat) (hk : k ≤ 8) : ((l8 n).take k).length = k := by rw [List.length_take]; show min k 8 = k; omega
set_option maxHeartbeats 400000 in
theorem fixed_any (n k : Int) (w : World) (h0 : 0 ≤ n) (h1 : n ≤ 18446744073709551615) (hk0 : -9223372036854775808 ≤ k) (hk1 : k ≤ 9223372036854775807) :
    Calls Tryz.prog 176 #[.int .u64 n, .int .i64 k] w fun e w' => e = .returned (.string (fixS n k)) ∧ Below w.heap.size w w' := by
  rcases Int.lt_or_le k 0 with c | c
  · have hf : Hid (fixS n k = strOfNums ((l8 n).take 0)) := by unfold fixS Hid; rw [show (min (max k 0) 8).toNat = 0 by omega]
    go_enter Tryz.func176, Tryz.ntmps176
    go_wp2_with (go_call (lay_any n w h0 h1) as e w' ⟨rfl, hb⟩)
    rw [conv_row 160 5 9 Tryz.underlying160 Tryz.underlying5 Tryz.underlying9 ((l8 n).take 0) _ _ _ _ _ _ _ (heap_alloc_new _ _) (l8_length n 0 (by omega)) (l8_cells n 0 (by omega))]
    go_wp2
    go_returns
    exact ⟨by rw [hf.out]; rfl, by have hs := hb.size; go_grown⟩
  · rcases Int.lt_or_le 8 k with d | d
    · have hf : Hid (fixS n k = strOfNums ((l8 n).take 8)) := by unfold fixS Hid; rw [show (min (max k 0) 8).toNat = 8 by omega]
      go_enter Tryz.func176, Tryz.ntmps176
      go_wp2_with (go_call (lay_any n w h0 h1) as e w' ⟨rfl, hb⟩)
      rw [conv_row 160 5 9 Tryz.underlying160 Tryz.underlying5 Tryz.underlying9 ((l8 n).take 8) _ _ _ _ _ _ _ (heap_alloc_new _ _) (l8_length n 8 (by omega)) (l8_cells n 8 (by omega))]
      go_wp2
      go_returns
      exact ⟨by rw [hf.out]; rfl, by have hs := hb.size; go_grown⟩
    · have hf : Hid (fixS n k = strOfNums ((l8 n).take k.toNat)) := by unfold fixS Hid; rw [show (min (max k 0) 8) = k by omega]
      have hs : k = 0 ∨ k = 1 ∨ k = 2 ∨ k = 3 ∨ k = 4 ∨ k = 5 ∨ k = 6 ∨ k = 7 ∨ k = 8 := by omega
      clear c d hk0 hk1
      rcases hs with rfl | rfl | rfl | rfl | rfl | rfl | rfl | rfl | rfl
      · go_enter Tryz.func176, Tryz.ntmps176
        go_wp2_with (go_call (lay_any n w h0 h1) as e w' ⟨rfl, hb⟩)
        rw [conv_row 160 5 9 Tryz.underlying160 Tryz.underlying5 Tryz.underlying9 ((l8 n).take 0) _ _ _ _ _ _ _ (heap_alloc_new _ _) (l8_length n 0 (by omega)) (l8_cells n 0 (by omega))]
        go_wp2
        go_returns
        exact ⟨by rw [hf.out]; rfl, by have hs := hb.size; go_grown⟩
      · go_enter Tryz.func176, Tryz.ntmps176
        go_wp2_with (go_call (lay_any n w h0 h1) as e w' ⟨rfl, hb⟩)
        rw [conv_row 160 5 9 Tryz.underlying160 Tryz.underlying5 Tryz.underlying9 ((l8 n).take 1) _ _ _ _ _ _ _ (heap_alloc_new _ _) (l8_length n 1 (by omega)) (l8_cells n 1 (by omega))]
        go_wp2
        go_returns
        exact ⟨by rw [hf.out]; rfl, by have hs := hb.size; go_grown⟩
      · go_enter Tryz.func176, Tryz.ntmps176
        go_wp2_with (go_call (lay_any n w h0 h1) as e w' ⟨rfl, hb⟩)
        rw [conv_row 160 5 9 Tryz.underlying160 Tryz.underlying5 Tryz.underlying9 ((l8 n).take 2) _ _ _ _ _ _ _ (heap_alloc_new _ _) (l8_length n 2 (by omega)) (l8_cells n 2 (by omega))]
        go_wp2
        go_returns
        exact ⟨by rw [hf.out]; rfl, by have hs := hb.size; go_grown⟩
      · go_enter Tryz.func176, Tryz.ntmps176
        go_wp2_with (go_call (lay_any n w h0 h1) as e w' ⟨rfl, hb⟩)
        rw [conv_row 160 5 9 Tryz.underlying160 Tryz.underlying5 Tryz.underlying9 ((l8 n).take 3) _ _ _ _ _ _ _ (heap_alloc_new _ _) (l8_length n 3 (by omega)) (l8_cells n 3 (by omega))]
        go_wp2
        go_returns
        exact ⟨by rw [hf.out]; rfl, by have hs := hb.size; go_grown⟩
      · go_enter Tryz.func176, Tryz.ntmps176
        go_wp2_with (go_call (lay_any n w h0 h1) as e w' ⟨rfl, hb⟩)
        rw [conv_row 160 5 9 Tryz.underlying160 Tryz.underlying5 Tryz.underlying9 ((l8 n).take 4) _ _ _ _ _ _ _ (heap_alloc_new _ _) (l8_length n 4 (by omega)) (l8_cells n 4 (by omega))]
        go_wp2
        go_returns
        exact ⟨by rw [hf.out]; rfl, by have hs := hb.size; go_grown⟩
      · go_enter Tryz.func176, Tryz.ntmps176
        go_wp2_with (go_call (lay_any n w h0 h1) as e w' ⟨rfl, hb⟩)
        rw [conv_row 160 5 9 Tryz.underlying160 Tryz.underlying5 Tryz.underlying9 ((l8 n).take 5) _ _ _ _ _ _ _ (heap_alloc_new _ _) (l8_length n 5 (by omega)) (l8_cells n 5 (by omega))]
        go_wp2
        go_returns
        exact ⟨by rw [hf.out]; rfl, by have hs := hb.size; go_grown⟩
      · go_enter Tryz.func176, Tryz.ntmps176
        go_wp2_with (go_call (lay_any n w h0 h1) as e w' ⟨rfl, hb⟩)
        rw [conv_row 160 5 9 Tryz.underlying160 Tryz.underlying5 Tryz.underlying9 ((l8 n).take 6) _ _ _ _ _ _ _ (heap_alloc_new _ _) (l8_length n 6 (by omega)) (l8_cells n 6 (by omega))]
        go_wp2
        go_returns
        exact ⟨by rw [hf.out]; rfl, by have hs := hb.size; go_grown⟩
      · go_enter Tryz.func176, Tryz.ntmps176
        go_wp2_with (go_call (lay_any n w h0 h1) as e w' ⟨rfl, hb⟩)
        rw [conv_row 160 5 9 Tryz.underlying160 Tryz.underlying5 Tryz.underlying9 ((l8 n).take 7) _ _ _ _ _ _ _ (heap_alloc_new _ _) (l8_length n 7 (by omega)) (l8_cells n 7 (by omega))]
        go_wp2
        go_returns
        exact ⟨by rw [hf.out]; rfl, by have hs := hb.size; go_grown⟩
      · go_enter Tryz.func176, Tryz.ntmps176
        go_wp2_with (go_call (lay_any n w h0 h1) as e w' ⟨rfl, hb⟩)
        rw [conv_row 160 5 9 Tryz.underlying160 Tryz.underlying5 Tryz.underlying9 ((l8 n).take 8) _ _ _ _ _ _ _ (heap_alloc_new _ _) (l8_length n 8 (by omega)) (l8_cells n 8 (by omega))]
        go_wp2
        go_returns
        exact ⟨by rw [hf.out]; rfl, by have hs := hb.size; go_grown⟩
end Go.Proofs.YtcjfnfdinhbdlaaGreatDoor
namespace Go.Proofs.YtcjfnfdinhbdlaaGreatDoor
set_option maxRecDepth 100000
open Go.ChangeShapes Go.WideShapes Go.ChangeAt Go.RowKit Go.PlainAid
def notS (s : ByteArray) : ByteArray := strOfNums ((List.range s.size).map fun j => 255 - bt s j)
theorem not_list (s : ByteArray) : (List.range s.size).map (fun j => if j < s.size then 255 - bt s j else bt s j) = (List.range s.size).map fun j => 255 - bt s j :=
  List.map_congr_left fun _ hj => if_pos (List.mem_range.1 hj)
set_option maxHeartbeats 400000 in
theorem not_any (s : ByteArray) (w : World) (hs : s.size ≤ maxLen) :
    Calls Tryz.prog 190 #[.string s] w fun e w' => e = .returned (.string (notS s)) ∧ Below w.heap.size w w' := by
  unfold maxLen at hs
  have HZ := Lib.hid (show notS s = strOfNums ((List.range s.size).map fun j => 255 - bt s j) from rfl)
  have HK := Lib.hid (fun w => Lib.run_convert_string_bytes (P := Tryz.prog) w 9 160 5 s Tryz.underlying9 Tryz.underlying160 Tryz.underlying5)
  go_enter Tryz.func190, Tryz.ntmps190
  go_wp2
  rw [HK.out]
  have hb1 := RowI.ofBytes w 5 s
  generalize Lib.bytesWorld w 5 s = w1 at *
  go_wp2
  go_loopw [10] (fun i wr => ∃ k : Nat, k ≤ s.size ∧ i = .int .i64 k ∧ RowI w s.size (fun j => if j < k then 255 - bt s j else bt s j) wr) (fun i _ => s.size - (intOf i).toNat)
  case atStart => exact ⟨0, Nat.zero_le _, rfl, hb1⟩
  case round =>
    obtain ⟨k, hk, rfl, hi⟩ := hrel
    clear hb1
    by_cases hlt : k < s.size
    · have hc := hi.cells k hlt
      rw [if_neg (Nat.lt_irrefl k)] at hc
      have hf := hi.thawed k hlt
      have hx := u8_not (bt s k) (bt_nonneg s k) (by have := bt_le s k; omega)
      go_wp2
      go_roundw
      case rel => exact ⟨k + 1, by omega, by go_num, by have hh := hi.set (g := fun j => if j < k + 1 then 255 - bt s j else bt s j) hlt (255 - bt s k) (if_pos (by omega)) (fun j _ hj => by by_cases c : j < k <;> simp [c] <;> omega); rw [← hx] at hh; exact hh⟩
      case measure => simp [intOf]; omega
    · obtain rfl : k = s.size := by omega
      have HCS := Lib.hid (row_str hi)
      go_wp2
      rw [run_convert_bytes_arg wr 160 5 Tryz.underlying160 Tryz.underlying5 _ 0 _ _ _ (len_range s.size _) HCS.out 9 Tryz.underlying9]
      go_wp2
      go_returns
      exact ⟨by rw [HZ.out, ← not_list]; rfl, hi.below⟩
end Go.Proofs.YtcjfnfdinhbdlaaGreatDoor
