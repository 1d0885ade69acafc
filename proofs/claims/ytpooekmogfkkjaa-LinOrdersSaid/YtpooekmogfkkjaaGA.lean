/- Plain lemmas of this proof, over no dump: bits of numbers as sums; conversions between rows of bytes and strings; a copy of a string into a row. Plain lemmas on memory, over no dump: what is kept but for some blocks; many cells stored at once; texts as cells. Slices of numbers: a parameter, and those that the call itself makes. -/
import Derived.WalkKit
import Derived.ProofKit
import Derived.OpenShut
import Derived.Handy
import Derived.Lib.Hide
import Derived.PlainAid
import Derived.Laws.DeepNot64
import Derived.Lib.BufferWrite
import Derived.Lib.ConvBytes
import Derived.Deep.MidRow
import Derived.Deep.WholeRow
import Derived.StillTailTactics
import Derived.Great.BuildSlice
import Derived.Deep.AppendLies
import Derived.Test.YtpooekmogfkkjaaRows
import Derived.SizedLaws
import Derived.OwnWalk
import Derived.Deep.Slices
import Derived.Deep.Fields
import Derived.ChangeSame
namespace Go.Proofs.Ytpooekmogfkkjaa
open Go.ChangeShapes Go.WideShapes Go.ChangeAt Go.RowKit Go.PlainAid

/-- One behind the other. -/
theorem _root_.Go.RowKit.Below.on {w a b : World} (h : Below w.heap.size w a) (k : Below a.heap.size a b) : Below w.heap.size w b := h.trans (k.mono h.size)
theorem ret_i {k : IntKind} {a b : Int} (h : a = b) : Ending.returned (.int k a) = .returned (.int k b) := by rw [h]

/-! ### Bits as sums -/
theorem u64_not (x : Int) (h0 : 0 ≤ x) (h1 : x ≤ 18446744073709551615) : bits .xor .u64 IntKind.u64.max x = 18446744073709551615 - x := by
  obtain ⟨a, rfl⟩ := Int.eq_ofNat_of_zero_le h0
  show bits .xor .u64 18446744073709551615 (a : Int) = _
  show IntKind.u64.wrap ((BitVec.ofInt 64 18446744073709551615 ^^^ BitVec.ofInt 64 (a : Int)).toNat : Int) = _
  have e : BitVec.ofInt 64 18446744073709551615 = BitVec.allOnes 64 := by decide +kernel
  rw [e, BitVec.allOnes_xor, BitVec.toNat_not, ofInt_u64 a (by omega), IntKind.wrap_u64]
  omega
theorem u64_low (u : Int) (h0 : 0 ≤ u) (h1 : u ≤ 18446744073709551615) : bits .and .u64 u 1 = u % 2 := by
  rw [u64_and u 1 h0 (by omega) (by omega) (by omega)]
  show ((u.toNat &&& 1 : Nat) : Int) = _
  rw [Nat.and_one_is_mod]; omega
theorem nat_flip63 (x : Nat) (h : x < 18446744073709551616) : x ^^^ 9223372036854775808 = (x + 9223372036854775808) % 18446744073709551616 := by
  have hd := Nat.xor_div_two_pow (a := x) (b := 9223372036854775808) (n := 63)
  have hm := Nat.xor_mod_two_pow (a := x) (b := 9223372036854775808) (n := 63)
  rw [show (9223372036854775808 : Nat) / 2 ^ 63 = 1 from rfl] at hd
  rw [show (9223372036854775808 : Nat) % 2 ^ 63 = 0 from rfl, Nat.xor_zero] at hm
  have e : (2 : Nat) ^ 63 = 9223372036854775808 := rfl
  rw [e] at hd hm
  have hq : x / 9223372036854775808 = 0 ∨ x / 9223372036854775808 = 1 := by omega
  rcases hq with hq | hq
  · rw [hq, show (0 ^^^ 1 : Nat) = 1 from rfl] at hd; omega
  · rw [hq, show (1 ^^^ 1 : Nat) = 0 from rfl] at hd; omega
theorem u64_flip (x : Int) (h0 : 0 ≤ x) (h1 : x < 18446744073709551616) : bits .xor .u64 x 9223372036854775808 = (x + 9223372036854775808) % 18446744073709551616 := by
  rw [u64_xor x 9223372036854775808 h0 h1 (by omega) (by omega)]
  show ((x.toNat ^^^ 9223372036854775808 : Nat) : Int) = _
  rw [nat_flip63 _ (by omega)]
  omega
/-- An or of a number below 2^i with a multiple of 2^i is their sum. -/
theorem u64_or_add (a c : Int) (i : Nat) (b m : Int) (hb : b = c * 2 ^ i) (hm : m = 2 ^ i) (ha0 : 0 ≤ a) (ha : a < m) (hc : 0 ≤ c) (hbb : b < 18446744073709551616) (hmm : m ≤ 18446744073709551616) :
    bits .or .u64 a b = a + b := by
  obtain ⟨x, rfl⟩ := Int.eq_ofNat_of_zero_le ha0
  obtain ⟨y, rfl⟩ := Int.eq_ofNat_of_zero_le hc
  have hx : x < 2 ^ i := by
    rw [hm] at ha
    have : ((2 : Int) ^ i) = ((2 ^ i : Nat) : Int) := by simp
    omega
  have hb' : b = ((2 ^ i * y : Nat) : Int) := by rw [hb, Int.mul_comm]; simp
  subst hb'
  rw [u64_or_nat x (2 ^ i * y) (by omega) (by omega), Nat.or_comm, ← Nat.two_pow_add_eq_or_of_lt hx y]
  omega
theorem u8_or_128 (a : Int) (h0 : 0 ≤ a) (h1 : a < 256) : bits .or .u8 a 128 = a % 128 + 128 := by
  obtain ⟨x, rfl⟩ := Int.eq_ofNat_of_zero_le h0
  have hx : x < 256 := by omega
  show bits .or .u8 (x : Int) ((128 : Nat) : Int) = _
  rw [u8_or_nat x 128 hx (by omega)]
  have key : ∀ z : Fin 256, (z.val ||| 128) = z.val % 128 + 128 := by decide +kernel
  have := key ⟨x, hx⟩
  simp only at this
  omega
theorem u8_andNot_128 (a : Int) (h0 : 0 ≤ a) (h1 : a < 256) : bits .andNot .u8 a 128 = a % 128 := by
  obtain ⟨x, rfl⟩ := Int.eq_ofNat_of_zero_le h0
  have hx : x < 256 := by omega
  show bits .andNot .u8 (x : Int) ((128 : Nat) : Int) = _
  rw [u8_andNot_nat x 128 hx (by omega)]
  have key : ∀ z : Fin 256, (z.val &&& (255 - 128)) = z.val % 128 := by decide +kernel
  have := key ⟨x, hx⟩
  simp only at this
  omega
theorem u8_not (a : Int) (h0 : 0 ≤ a) (h1 : a < 256) : bits .xor .u8 IntKind.u8.max a = 255 - a := by
  obtain ⟨x, rfl⟩ := Int.eq_ofNat_of_zero_le h0
  have hx : x < 256 := by omega
  show bits .xor .u8 ((255 : Nat) : Int) (x : Int) = _
  rw [u8_xor_nat 255 x (by omega) hx]
  have key : ∀ z : Fin 256, (255 ^^^ z.val) = 255 - z.val := by decide +kernel
  have := key ⟨x, hx⟩
  simp only at this
  omega
theorem u32_or_add (a c : Int) (ha0 : 0 ≤ a) (ha : a < 65536) (hc : 0 ≤ c) (hc1 : c < 65536) : bits .or .u32 (c * 65536) a = c * 65536 + a := by
  obtain ⟨x, rfl⟩ := Int.eq_ofNat_of_zero_le ha0
  obtain ⟨y, rfl⟩ := Int.eq_ofNat_of_zero_le hc
  have hx : x < 2 ^ 16 := by omega
  rw [show ((y : Int) * 65536) = ((2 ^ 16 * y : Nat) : Int) by omega, u32_or_nat _ x (by omega) (by omega), ← Nat.two_pow_add_eq_or_of_lt hx y]
  omega

/-! ### Rows of bytes and strings -/
/-- string(b) of a slice whose row is known. -/
theorem conv_row {P : Program} (src e dst : TypeId) (hs : P.underlying src = some (.slice e)) (he : P.underlying e = some (.int .u8)) (hd : P.underlying dst = some .string)
    (xs : List Int) (w : World) (b len cap : Nat) (cs : Array Value) (t : TypeId) (fr : Nat × Nat) (hg : w.heap[b]? = some (.cells cs t fr)) (hlen : xs.length = len)
    (hxs : ∀ i, i < len → cs[i]? = some (.int .u8 (xs.getD i 0))) :
    (convert src dst (.slice (some ⟨b, 0, none⟩) len cap)).run P w = .ok (.string (strOfNums xs)) w :=
  run_convert_bytes_arg w src e hs he b 0 len cap xs hlen (fun i hi => by rw [cell_of_row _ _ _ _ _ _ hg, Nat.zero_add]; exact hxs i hi) dst hd

/-- The first eight bytes of a text, as numbers; 0 where it has ended. -/
def b8 (s : ByteArray) : List Int := [bt s 0, bt s 1, bt s 2, bt s 3, bt s 4, bt s 5, bt s 6, bt s 7]

theorem bt_list (s : ByteArray) (k : Nat) : bt s k = ((s.data.toList.getD k 0).toNat : Int) := by
  unfold bt
  split
  · rename_i h
    have : s.data.toList.getD k 0 = s[k] := by
      rw [List.getD_eq_getElem?_getD, List.getElem?_eq_getElem (by simpa using h)]; rfl
    rw [this]
  · rename_i h
    rw [List.getD_eq_getElem?_getD, List.getElem?_eq_none (by simp; omega)]; rfl

theorem setRow_alloc (w : World) (a c : Array Value) (t : TypeId) : (w.alloc (.cells a t)).setRow w.heap.size c = w.alloc (.cells c t) := by
  have : (w.alloc (.cells a t)).heap = w.heap.push (.cells a t) := rfl
  have h2 : (w.alloc (.cells c t)).heap = w.heap.push (.cells c t) := rfl
  have h3 : w.alloc (.cells c t) = { w with heap := w.heap.push (.cells c t) } := rfl
  have h4 : w.alloc (.cells a t) = { w with heap := w.heap.push (.cells a t) } := rfl
  rw [h3, h4]
  unfold World.setRow
  simp only
  congr 1
  apply Array.ext
  · simp
  · intro i hi hj
    simp only [Array.size_push, Array.size_modify] at hi hj
    rw [Array.getElem_modify]
    by_cases hh : w.heap.size = i
    · subst hh; simp
    · rw [if_neg hh, Array.getElem_push, Array.getElem_push]
      have : i < w.heap.size := by omega
      simp [this]

/-- copy(b, s) over a whole row of eight bytes. -/
theorem run_copy8 {P : Program} (w : World) (dT sT ty elem t : TypeId) (s : ByteArray)
    (hu : P.underlying dT = some (.slice elem)) (hs : (P.info? elem).map (·.size) = some 1) :
    (Builtin.copy_ #[dT, sT] ty #[.slice (some ⟨w.heap.size, 0, none⟩) 8 8, .string s]).run P (w.alloc (.cells #[.int .u8 0, .int .u8 0, .int .u8 0, .int .u8 0, .int .u8 0, .int .u8 0, .int .u8 0, .int .u8 0] t)) =
      .ok (goInt ((min s.size 8 : Nat) : Int)) (w.alloc (.cells #[.int .u8 (bt s 0), .int .u8 (bt s 1), .int .u8 (bt s 2), .int .u8 (bt s 3), .int .u8 (bt s 4), .int .u8 (bt s 5), .int .u8 (bt s 6), .int .u8 (bt s 7)] t)) := by
  have hlen : (Lib.byteCells s.data.toList).length = s.size := by rw [Lib.byteCells_length, ← Lib.size_eq]
  have hcl : ((Lib.byteCells s.data.toList).take (min s.size 8)).length = min s.size 8 := by rw [List.length_take, hlen]; omega
  have hst := run_storeCells_at P w.heap.size 0 t ((Lib.byteCells s.data.toList).take (min s.size 8)) 0 _ _ (heap_alloc_new w (.cells #[.int .u8 0, .int .u8 0, .int .u8 0, .int .u8 0, .int .u8 0, .int .u8 0, .int .u8 0, .int .u8 0] t)) (by rw [hcl]; simp; omega) (fun v hv => Lib.byteCells_one _ v (List.mem_of_mem_take hv))
  have hst' := hst
  simp only [Nat.add_zero, hcl, setRow_alloc] at hst'
  have hrow : (List.take 0 [Value.int .u8 0, .int .u8 0, .int .u8 0, .int .u8 0, .int .u8 0, .int .u8 0, .int .u8 0, .int .u8 0] ++ (Lib.byteCells s.data.toList).take (min s.size 8) ++ List.drop (0 + min s.size 8) [Value.int .u8 0, .int .u8 0, .int .u8 0, .int .u8 0, .int .u8 0, .int .u8 0, .int .u8 0, .int .u8 0]).toArray = #[.int .u8 (bt s 0), .int .u8 (bt s 1), .int .u8 (bt s 2), .int .u8 (bt s 3), .int .u8 (bt s 4), .int .u8 (bt s 5), .int .u8 (bt s 6), .int .u8 (bt s 7)] := by
    have hall : ∀ i, i < 8 → (List.take 0 [Value.int .u8 0, .int .u8 0, .int .u8 0, .int .u8 0, .int .u8 0, .int .u8 0, .int .u8 0, .int .u8 0] ++ (Lib.byteCells s.data.toList).take (min s.size 8) ++ List.drop (0 + min s.size 8) [Value.int .u8 0, .int .u8 0, .int .u8 0, .int .u8 0, .int .u8 0, .int .u8 0, .int .u8 0, .int .u8 0])[i]? = some (.int .u8 (bt s i)) := by
      intro i hi
      simp only [List.take_zero, List.nil_append, Nat.zero_add]
      by_cases c : i < s.size
      · rw [List.getElem?_append_left (by rw [hcl]; omega), List.getElem?_take_of_lt (by omega)]
        have hlt : i < s.data.toList.length := by simpa using c
        rw [bt_list]
        simp [Lib.byteCells, List.getElem?_eq_getElem hlt, List.getD_eq_getElem?_getD]
      · rw [List.getElem?_append_right (by rw [hcl]; omega), hcl, List.getElem?_drop, show min s.size 8 + (i - min s.size 8) = i by omega, bt_end s (by omega)]
        match i, hi with
        | 0, _ => rfl | 1, _ => rfl | 2, _ => rfl | 3, _ => rfl | 4, _ => rfl | 5, _ => rfl | 6, _ => rfl | 7, _ => rfl
    apply Array.ext'
    apply List.ext_getElem?
    intro i
    by_cases hi : i < 8
    · refine (hall i hi).trans ?_
      match i, hi with
      | 0, _ => rfl | 1, _ => rfl | 2, _ => rfl | 3, _ => rfl | 4, _ => rfl | 5, _ => rfl | 6, _ => rfl | 7, _ => rfl
    · rw [List.getElem?_eq_none (by simp only [List.take_zero, List.nil_append, List.length_append, List.length_drop, hcl, List.length_cons, List.length_nil]; omega), List.getElem?_eq_none (by simp; omega)]
  cases hq : P.info? elem with
  | none => simp [hq] at hs
  | some i =>
    simp [Builtin.copy_, run_underlying hu, Builtin.lenOf, Builtin.firstCells, sizeOf, typeInfo, hq]
    rw [hrow] at hst'
    show ((Sem.run P (storeCells ⟨w.heap.size, 0, none⟩ ((Lib.byteCells s.data.toList).take (min s.size 8))) _).andThen fun a w' => Result.ok (goInt ((min s.size 8 : Nat) : Int)) w') = _
    rw [hst']
    rfl

/-- What []byte(s) leaves: a new row that reads as the text's bytes. -/
theorem bytes_facts (w : World) (e : TypeId) (s : ByteArray) :
    Below w.heap.size w (Lib.bytesWorld w e s) ∧ (Lib.bytesWorld w e s).heap.size = w.heap.size + 1 ∧
      (∀ j, j < s.size → (Lib.bytesWorld w e s).cell? ⟨w.heap.size, j, none⟩ = some (.int .u8 (bt s j))) ∧
      (∀ j, j < s.size → (Lib.bytesWorld w e s).frozen? ⟨w.heap.size, j, none⟩ = false) := by
  refine ⟨⟨rfl, rfl, rfl, by rw [Lib.bytesWorld_size]; omega, fun k hk => Lib.bytesWorld_at_old w e s k hk⟩, Lib.bytesWorld_size w e s, fun j hj => ?_, fun j hj => ?_⟩
  · rw [Lib.bytesWorld_cell w e s j hj, bt_list]
  · have h := Lib.bytesWorld_at_new w e s
    have hsz : s.size ≤ (Lib.bytesCells w e s).size := by
      unfold Lib.bytesCells
      rw [Array.size_append, Array.size_map]
      exact Nat.le_add_right _ _
    unfold World.frozen?
    simp only [h]
    simp
    omega

theorem bt_strOfNums (xs : List Int) (k : Nat) (h0 : 0 ≤ xs.getD k 0) (h1 : xs.getD k 0 ≤ 255) : bt (strOfNums xs) k = xs.getD k 0 := by
  rw [bt_list, strOfNums_data]
  simp only [List.getD_eq_getElem?_getD, List.getElem?_map] at h0 h1 ⊢
  cases h : xs[k]? with
  | none => simp
  | some x =>
    simp only [h, Option.getD_some, Option.map_some] at h0 h1 ⊢
    rw [UInt8.toNat_ofNat']
    omega

/-- Behind w one row of n bytes is new (block w.heap.size), and reads as f. -/
structure RowI (w : World) (n : Nat) (f : Nat → Int) (wr : World) : Prop where
  below : Below w.heap.size w wr
  size : wr.heap.size = w.heap.size + 1
  cells : ∀ j, j < n → wr.cell? ⟨w.heap.size, j, none⟩ = some (.int .u8 (f j))
  thawed : ∀ j, j < n → wr.frozen? ⟨w.heap.size, j, none⟩ = false

theorem RowI.set {w wr : World} {n : Nat} {f g : Nat → Int} (h : RowI w n f wr) {k : Nat} (hk : k < n) (v : Int) (hv : g k = v) (hg : ∀ j, j < n → j ≠ k → g j = f j) : RowI w n g (wr.setCell ⟨w.heap.size, k, none⟩ (.int .u8 v)) := by
  refine ⟨h.below.setCell (Nat.le_refl _) _, by simpa [World.setCell] using h.size, fun j hj => ?_, fun j hj => by rw [World.frozen?_setCell]; exact h.thawed j hj⟩
  by_cases e : j = k
  · subst e
    rw [hv]
    exact World.cell?_setCell_same _ _ _ (h.cells j hj)
  · rw [World.cell?_setCell_other _ _ _ _ (by intro c; exact e (congrArg Addr.off c).symm), h.cells j hj, hg j hj e]

theorem RowI.ofBytes (w : World) (e : TypeId) (s : ByteArray) : RowI w s.size (bt s) (Lib.bytesWorld w e s) := by
  obtain ⟨a, b, c, d⟩ := bytes_facts w e s
  exact ⟨a, b, c, d⟩

/-- make([]byte, n): a new row of zeros. -/
theorem make_bytes {P : Program} (t e : TypeId) (ht : P.underlying t = some (.slice e)) (hi : (P.info? e).map (fun i => (i.zero, i.size, i.bytes)) = some (some (.int .u8 0), 1, 1)) (w : World) (n : Nat) (hn : n ≤ 281474976710656) :
    ∃ w', (Instr.makeSlice t (.int .i64 n) (.int .i64 n)).run P w = .ok (.slice (some ⟨w.heap.size, 0, none⟩) n n) w' ∧ RowI w n (fun _ => 0) w' := by
  obtain ⟨i, h1, h2, h3, h4⟩ := info_parts hi
  have h := run_make (P := P) w t e i _ ht h1 h2 .i64 .i64 n n (by omega) (by omega) (by rw [h4]; omega) (by omega)
  refine ⟨_, by simpa using h, ⟨by go_grown, by simp, fun j hj => ?_, fun j hj => ?_⟩⟩
  · rw [cell_of_row _ _ _ _ _ _ (heap_alloc_new _ _)]
    simp [madeCells, h3, hj, Value.cells, Nat.mod_one]
  · exact frozen_of_row _ _ _ _ _ (heap_alloc_new _ _)

theorem row_str {w wr : World} {n : Nat} {f : Nat → Int} (h : RowI w n f wr) : ∀ i, i < n → wr.cell? ⟨w.heap.size, 0 + i, none⟩ = some (.int .u8 (((List.range n).map f).getD i 0)) := fun i hi => by
  rw [Nat.zero_add, h.cells i hi]
  simp [List.getD_eq_getElem?_getD, List.getElem?_map, List.getElem?_range hi]
theorem len_range (n : Nat) (f : Nat → Int) : ((List.range n).map f).length = n := by simp

theorem one_get (x : Int) : ∀ i, i < 1 → #[Value.int .u8 x][i]? = some (.int .u8 ([x].getD i 0)) := fun i hi => by
  obtain rfl : i = 0 := by omega
  rfl
theorem str_app (a b : List Int) : strOfNums a ++ strOfNums b = strOfNums (a ++ b) := by
  apply ByteArray.ext
  simp [strOfNums]
/-- string([]byte{c}): told by the one cell that it reads. -/
def convOne (P : Program) (src dst : TypeId) (w : World) (b : Nat) (c : Nat) : Option Value → Result Value
  | some (.int .u8 n) => .ok (.string (strOfNums [n])) w
  | _ => (convert src dst (.slice (some ⟨b, 0, none⟩) 1 c)).run P w
theorem run_conv_one {P : Program} (src e dst : TypeId) (hs : P.underlying src = some (.slice e)) (he : P.underlying e = some (.int .u8)) (hd : P.underlying dst = some .string) (w : World) (b c : Nat) :
    (convert src dst (.slice (some ⟨b, 0, none⟩) 1 c)).run P w = convOne P src dst w b c (w.cell? ⟨b, 0, none⟩) := by
  unfold convOne
  split
  · rename_i n h
    exact run_convert_bytes_arg w src e hs he b 0 1 c [n] rfl (fun i hi => by obtain rfl : i = 0 := (by omega); exact h) dst hd
  · rfl
theorem convOne_some (P : Program) (src dst : TypeId) (w : World) (b c : Nat) (n : Int) : convOne P src dst w b c (some (.int .u8 n)) = .ok (.string (strOfNums [n])) w := rfl

theorem bcell {B : Nat} {W w1 : World} (hb : Below B W w1) : (∀ b o, b < B → w1.cell? ⟨b, o, none⟩ = W.cell? ⟨b, o, none⟩) ∧ (∀ b o, b < B → w1.frozen? ⟨b, o, none⟩ = W.frozen? ⟨b, o, none⟩) :=
  ⟨fun b o h => hb.cell (p := ⟨b, o, none⟩) h, fun b o h => hb.frozen (p := ⟨b, o, none⟩) h⟩

/-- The one new cell of []byte{x}. -/
theorem one_new (w : World) (x : Int) (t : TypeId) : ∀ j u, [Value.int .u8 x][j]? = some u → (w.alloc (.cells #[.int .u8 x] t)).cell? ((⟨w.heap.size, 0, none⟩ : Addr).add j) = some u := by
  intro j u h
  match j, h with
  | 0, h =>
    have e : (⟨w.heap.size, 0, none⟩ : Addr).add 0 = ⟨w.heap.size, 0, none⟩ := rfl
    rw [e, cell_of_row _ _ _ _ _ _ (heap_alloc_new _ _)]
    exact h
theorem one_cell (x : Int) : ∀ u ∈ [Value.int .u8 x], u.oneCell' = true := by
  intro u hu
  rw [List.mem_singleton] at hu
  subst hu
  rfl
/-- string(b) of a slice of the call's own. -/
theorem conv_own {P : Program} (src e dst : TypeId) (hs : P.underlying src = some (.slice e)) (he : P.underlying e = some (.int .u8)) (hd : P.underlying dst = some .string)
    (xs : List Int) (w : World) (base : Nat) (v : Value) (n : Nat) (h : w.ownsRow base e 1 v n (xs.map (Value.int .u8))) :
    (convert src dst v).run P w = .ok (.string (strOfNums xs)) w := by
  obtain ⟨h1, h2⟩ := h
  rw [List.length_map, Nat.mul_one] at h1
  rcases h2 with ⟨rfl, h0⟩ | ⟨g, cap, cur, rfl, hb, hg, hn, hc, hsz, ht⟩
  · have : xs = [] := List.length_eq_zero_iff.1 (by omega)
    subst this
    rw [run_convert_bytes_nil w src e hs he 0 0 dst hd]
    rfl
  · refine conv_row src e dst hs he hd xs w g n cap cur e _ hg h1 (fun i hi => ?_)
    rw [Nat.mul_one] at ht
    have a : (cur.toList.take n)[i]? = (xs.map (Value.int .u8))[i]? := by rw [ht]
    rw [List.getElem?_take_of_lt hi, List.getElem?_map, List.getElem?_eq_getElem (show i < xs.length by omega)] at a
    rw [← Array.getElem?_toList, a]
    simp [List.getD_eq_getElem?_getD, List.getElem?_eq_getElem (show i < xs.length by omega)]
end Go.Proofs.Ytpooekmogfkkjaa
namespace Go.Proofs.Ytpooekmogfkkjaa
open Go.ChangeShapes Go.WideShapes Go.ChangeAt Go.RowKit Go.PlainAid

/-- w' is w but for blocks of own, and new blocks. -/
structure Keeps (own : Nat → Prop) (w w' : World) : Prop where
  os : w'.os = w.os
  tape : w'.tape = w.tape
  output : w'.output = w.output
  size : w.heap.size ≤ w'.heap.size
  block : ∀ k, k < w.heap.size → ¬ own k → w'.heap[k]? = w.heap[k]?

theorem Keeps.refl (own : Nat → Prop) (w : World) : Keeps own w w := ⟨rfl, rfl, rfl, Nat.le_refl _, fun _ _ _ => rfl⟩
theorem Keeps.trans {own own' : Nat → Prop} {a b c : World} (h : Keeps own a b) (k : Keeps own' b c) (hs : ∀ i, own' i → own i ∨ a.heap.size ≤ i) : Keeps own a c :=
  ⟨k.os.trans h.os, k.tape.trans h.tape, k.output.trans h.output, Nat.le_trans h.size k.size, fun i hi ho =>
    (k.block i (Nat.lt_of_lt_of_le hi h.size) (fun c => by rcases hs i c with c | c; exact ho c; omega)).trans (h.block i hi ho)⟩
theorem Keeps.on {own : Nat → Prop} {a b c : World} (h : Keeps own a b) (k : Keeps own b c) : Keeps own a c := h.trans k fun _ hi => .inl hi
theorem Keeps.mono {own own' : Nat → Prop} {w w' : World} (h : Keeps own w w') (hs : ∀ i, own i → own' i ∨ w.heap.size ≤ i) : Keeps own' w w' :=
  ⟨h.os, h.tape, h.output, h.size, fun k hk ho => h.block k hk (fun c => by rcases hs k c with c | c; exact ho c; omega)⟩
theorem Keeps.below {own : Nat → Prop} {w w' : World} {B : Nat} (h : Keeps own w w') (ho : ∀ i, own i → B ≤ i) (hB : B ≤ w.heap.size) : Below B w w' :=
  ⟨h.os, h.tape, h.output, h.size, fun k hk => h.block k (by omega) (fun c => by have := ho k c; omega)⟩
theorem Keeps.of_below {own : Nat → Prop} {w w' : World} (h : Below w.heap.size w w') : Keeps own w w' := ⟨h.os, h.tape, h.output, h.size, fun k hk _ => h.block k hk⟩
theorem Keeps.drew {own : Nat → Prop} {w w' : World} (h : Keeps own w w') : Keeps own w w'.drew := ⟨h.os, h.tape, h.output, h.size, h.block⟩
theorem Keeps.alloc {own : Nat → Prop} {w w' : World} (h : Keeps own w w') (o : Obj) : Keeps own w (w'.alloc o) :=
  ⟨h.os, h.tape, h.output, by have := h.size; simp; omega, fun k hk ho => (Below.heap_alloc w' o k (by have := h.size; omega)).trans (h.block k hk ho)⟩
theorem Keeps.setCell {own : Nat → Prop} {w w' : World} (h : Keeps own w w') {a : Addr} (ha : own a.block ∨ w.heap.size ≤ a.block) (v : Value) : Keeps own w (w'.setCell a v) :=
  ⟨h.os, h.tape, h.output, by have := h.size; simp; omega, fun k hk ho => (heap_setCell_other w' a k v (fun e => by subst e; rcases ha with c | c; exact ho c; omega)).trans (h.block k hk ho)⟩
theorem heap_setCells_other (b : Nat) (k : Nat) (h : k ≠ b) : ∀ (vs : List Value) (o : Nat) (w : World), (w.setCells b o vs).heap[k]? = w.heap[k]?
  | [], _, _ => rfl
  | v :: r, o, w => by rw [World.setCells, heap_setCells_other b k h r (o + 1) _, heap_setCell_other _ _ _ _ h]
theorem size_setCells (b : Nat) : ∀ (vs : List Value) (o : Nat) (w : World), (w.setCells b o vs).heap.size = w.heap.size
  | [], _, _ => rfl
  | v :: r, o, w => by rw [World.setCells, size_setCells b r (o + 1) _, World.size_setCell]
theorem os_setCells (b : Nat) : ∀ (vs : List Value) (o : Nat) (w : World), (w.setCells b o vs).os = w.os ∧ (w.setCells b o vs).tape = w.tape ∧ (w.setCells b o vs).output = w.output
  | [], _, _ => ⟨rfl, rfl, rfl⟩
  | v :: r, o, w => by rw [World.setCells]; exact os_setCells b r (o + 1) (w.setCell _ v)
theorem Keeps.setCells {own : Nat → Prop} {w w' : World} (h : Keeps own w w') {b : Nat} (ha : own b ∨ w.heap.size ≤ b) (o : Nat) (vs : List Value) : Keeps own w (w'.setCells b o vs) := by
  obtain ⟨h1, h2, h3⟩ := os_setCells b vs o w'
  refine ⟨h1.trans h.os, h2.trans h.tape, h3.trans h.output, by rw [size_setCells]; exact h.size, fun k hk ho => ?_⟩
  rw [heap_setCells_other b k (fun e => by subst e; rcases ha with c | c; exact ho c; omega)]
  exact h.block k hk ho
theorem Keeps.setRow {own : Nat → Prop} {w w' : World} (h : Keeps own w w') {b : Nat} (ha : own b ∨ w.heap.size ≤ b) (cs : Array Value) : Keeps own w (w'.setRow b cs) :=
  ⟨h.os, h.tape, h.output, by simp; exact h.size, fun k hk ho => (setRow_other w' b k cs (fun e => by subst e; rcases ha with c | c; exact ho c; omega)).trans (h.block k hk ho)⟩
theorem Keeps.grown {own : Nat → Prop} {w w' w2 : World} {row : Option Nat} (h : Keeps own w w') (hg : w'.grownBy w2 row) (hr : ∀ k, row = some k → own k ∨ w.heap.size ≤ k) : Keeps own w w2 :=
  ⟨hg.os.trans h.os, hg.tape.trans h.tape, hg.output.trans h.output, Nat.le_trans h.size hg.size, fun k hk ho =>
    (hg.block k (Nat.lt_of_lt_of_le hk h.size) (fun e => by rcases hr k e.symm with c | c; exact ho c; omega)).trans (h.block k hk ho)⟩
theorem Keeps.grownBy {w w' : World} {row : Option Nat} (h : Keeps (fun k => row = some k) w w') : w.grownBy w' row := ⟨h.os, h.tape, h.output, h.size, fun k hk ho => h.block k hk (fun e => ho e.symm)⟩

/-- A block whose cells were stored into, whole. -/
theorem heap_setCells_same (b : Nat) (t : TypeId) : ∀ (vs : List Value) (o : Nat) (w : World) (cs : Array Value), w.heap[b]? = some (.cells cs t (0, 0)) → o + vs.length ≤ cs.size →
    ∃ cs', (w.setCells b o vs).heap[b]? = some (.cells cs' t (0, 0)) ∧ cs'.size = cs.size ∧ (∀ j, j < vs.length → cs'[o + j]? = vs[j]?) ∧ (∀ i, i < o ∨ o + vs.length ≤ i → cs'[i]? = cs[i]?)
  | [], o, w, cs, h, _ => ⟨cs, h, rfl, fun j hj => by simp at hj, fun _ _ => rfl⟩
  | v :: r, o, w, cs, h, hs => by
    have h1 := heap_setCell_same w b o cs t v h
    have hlen : (v :: r).length = r.length + 1 := rfl
    obtain ⟨cs', a1, a2, a3, a4⟩ := heap_setCells_same b t r (o + 1) (w.setCell ⟨b, o, none⟩ v) _ h1 (by
      have e : (cs.setIfInBounds o v).size = cs.size := Array.size_setIfInBounds
      omega)
    refine ⟨cs', by rw [World.setCells]; exact a1, by rw [a2]; simp, fun j hj => ?_, fun i hi => ?_⟩
    · cases j with
      | zero =>
        rw [Nat.add_zero, a4 o (.inl (by omega)), Array.getElem?_setIfInBounds_self_of_lt (by omega)]
        rfl
      | succ j => rw [show o + (j + 1) = o + 1 + j by omega, a3 j (by simp at hj; omega)]; rfl
    · rw [a4 i (by omega), Array.getElem?_setIfInBounds_ne (by omega)]

/-- A whole struct, or array, stored into the block that was made last. -/
theorem wpList_store_new {P : Program} {ops : Array Oper} {rest : List Oper} {op : Oper} {a : Act} {w : World} {Q : Exit → Act → World → Prop} (hgd : op.guard = none) (ty : TypeId) (x y : Operand) (ho : op.op = .store ty x y)
    (c c' : Array Value) (t : TypeId) (hx : a.eval x = .pointer (some ⟨w.heap.size, 0, none⟩)) (hy : a.eval y = .agg c') (hi : (P.info? ty).map (·.size) = some c'.size) (hsz : c.size = c'.size) (h1 : c'.all (·.oneCell') = true)
    (h : wpList P ops Q rest (a.put op.dst undef) (w.alloc (.cells c' t))) : wpList P ops Q (op :: rest) a (w.alloc (.cells c t)) :=
  wpList_plain hgd fun _ hK => by
    unfold Oper.wp execOp
    have hr := run_storeVar_row (P := P) (w.alloc (.cells c t)) w.heap.size t ty c c' (heap_alloc_new w _) hi hsz h1
    rw [setRow_alloc] at hr
    simp only [ho, hx, hy, Instr.storeAt, Instr.sureAddr, Sem.run_bind, Sem.run_pure, Result.andThen_ok, hr]
    exact hK _ _ h

/-- Many cells loaded, or stored, at once: one name each, so that a walk does not open them cell by cell. -/
def loadMany (P : Program) (t : TypeId) (w : World) (g o : Nat) : Result Value := (Instr.loadAt t (.pointer (some ⟨g, o, none⟩))).run P w
def storeMany (P : Program) (t : TypeId) (w : World) (g o : Nat) (v : Value) : Result Unit := (Instr.storeAt t (.pointer (some ⟨g, o, none⟩)) v).run P w
/-- The same as actions: the walk puts these in before it looks inside (by rules of one type each), and then takes an equation on what they come to. -/
def loadS (t : TypeId) (v : Value) : Sem Value := Instr.loadAt t v
def storeS (t : TypeId) (p v : Value) : Sem Unit := Instr.storeAt t p v
def buildS (t : TypeId) (n : Nat) (l : Array (Nat × Value)) : Sem Value := Instr.buildSlice t n l
theorem loadS_many (P : Program) (t : TypeId) (w : World) (g o : Nat) : (loadS t (.pointer (some ⟨g, o, none⟩))).run P w = loadMany P t w g o := rfl
theorem storeS_many (P : Program) (t : TypeId) (w : World) (g o : Nat) (v : Value) : (storeS t (.pointer (some ⟨g, o, none⟩)) v).run P w = storeMany P t w g o v := rfl
theorem loadMany_range {P : Program} {t : TypeId} {w : World} {g o : Nat} (cs : List Value) (d : TypeDesc) (hc : w.rangeAt g o cs) (hu : P.underlying t = some d) (hd : d.isRow = true) (hi : (P.info? t).map (·.size) = some cs.length) :
    loadMany P t w g o = .ok (.agg cs.toArray) w := run_loadAt_mid w g o t cs d hc hu hd hi
theorem storeMany_range {P : Program} {t : TypeId} {w : World} {g o : Nat} (cs : List Value) (ht : w.there g o cs.length) (hi : (P.info? t).map (·.size) = some cs.length) (h1 : ∀ v ∈ cs, v.oneCell' = true) :
    storeMany P t w g o (.agg cs.toArray) = .ok () (w.setCells g o cs) := run_storeAt_mid w g o t cs.toArray (by simpa using ht) (by simpa using hi) (all_oneCell_toArray h1)
theorem wpStill_loadMany {P : Program} {ops : Array Oper} {w : World} {Q : Act → Prop} {a : Act} {o : Oper} {rest : List Oper} (hg : o.guard = none) (ty : TypeId) (x : Operand) (ho : o.op = .load ty x) (b off : Nat) (hx : a.eval x = .pointer (some ⟨b, off, none⟩))
    (v : Value) (hl : loadMany P ty w b off = .ok v w) (h : wpStill P ops w Q rest (a.put o.dst v)) : wpStill P ops w Q (o :: rest) a := by
  have hw : Region.wanted o (yielded ops a.tmps) = true := by simp [Region.wanted, hg]
  refine wpStill_step (fun K hK => ?_)
  rw [if_pos hw]
  unfold Oper.still execOp
  unfold loadMany at hl
  simp only [ho, hx, Sem.run_bind, Sem.run_pure, Result.andThen_ok, hl]
  rw [Oper.stillUpon_value]
  exact hK _ h
theorem wpList_storeMany {P : Program} {ops : Array Oper} {rest : List Oper} {op : Oper} {a : Act} {w w' : World} {Q : Exit → Act → World → Prop} (hgd : op.guard = none) (ty : TypeId) (x y : Operand) (ho : op.op = .store ty x y)
    (b off : Nat) (v : Value) (hx : a.eval x = .pointer (some ⟨b, off, none⟩)) (hy : a.eval y = v) (hs : storeMany P ty w b off v = .ok () w') (h : wpList P ops Q rest (a.put op.dst undef) w') : wpList P ops Q (op :: rest) a w :=
  wpList_plain hgd fun _ hK => by
    unfold Oper.wp execOp
    unfold storeMany at hs
    simp only [ho, hx, hy, Sem.run_bind, Sem.run_pure, Result.andThen_ok, hs]
    exact hK _ _ h
theorem wpList_loadMany {P : Program} {ops : Array Oper} {rest : List Oper} {op : Oper} {a : Act} {w : World} {Q : Exit → Act → World → Prop} (hgd : op.guard = none) (ty : TypeId) (x : Operand) (ho : op.op = .load ty x)
    (b off : Nat) (hx : a.eval x = .pointer (some ⟨b, off, none⟩)) (v : Value) (hl : loadMany P ty w b off = .ok v w) (h : wpList P ops Q rest (a.put op.dst v) w) : wpList P ops Q (op :: rest) a w :=
  wpList_plain hgd fun _ hK => by
    unfold Oper.wp execOp
    unfold loadMany at hl
    simp only [ho, hx, Sem.run_bind, Sem.run_pure, Result.andThen_ok, hl]
    exact hK _ _ h
/-- A slice of one struct. -/
theorem run_buildOne {P : Program} (w : World) (t e : TypeId) (c : Array Value) (ie : TypeInfo) (z : Value) (hu : P.underlying t = some (.slice e)) (hie : P.info? e = some ie) (hz : ie.zero = some z) (hs : c.size = ie.size) (h0 : 0 < ie.size) (h1 : ie.size ≤ 16777216) :
    (Instr.buildSlice t 1 #[(0, .agg c)]).run P w = .ok (.slice (some ⟨w.heap.size, 0, none⟩) 1 1) (w.alloc (.cells c e)) := by
  refine run_buildSlice w t e 1 #[(0, .agg c)] c ie z hu hie hz (by omega) (by omega) ?_
  have h := Great.fill_whole (s := ie.size) h0 [.agg c] ((Array.range (1 * ie.size)).map (z.cells[· % z.cells.size]!)) (fun v hv => by
    rw [List.mem_singleton] at hv
    subst hv
    exact hs) (by simp)
  refine Eq.trans ?_ (h.trans ?_)
  · rfl
  · simp [Value.cells]
theorem wpList_buildOne {P : Program} {ops : Array Oper} {rest : List Oper} {op : Oper} {a : Act} {w : World} {Q : Exit → Act → World → Prop} (hgd : op.guard = none) (t e : TypeId) (x : Operand) (ho : op.op = .buildSlice t 1 #[(0, x)])
    (c : Array Value) (hx : a.eval x = .agg c) (hu : P.underlying t = some (.slice e)) (z : Value) (n b : Nat) (hi : (P.info? e).map (fun i => (i.zero, i.size, i.bytes)) = some (some z, n, b)) (hs : c.size = n) (h0 : 0 < n) (h1 : n ≤ 16777216)
    (h : wpList P ops Q rest (a.put op.dst (.slice (some ⟨w.heap.size, 0, none⟩) 1 1)) (w.alloc (.cells c e))) : wpList P ops Q (op :: rest) a w :=
  wpList_plain hgd fun _ hK => by
    obtain ⟨i, i1, i2, i3, _⟩ := info_parts hi
    have hr := run_buildOne (P := P) w t e c i z hu i1 i2 (by omega) (by omega) (by omega)
    unfold Oper.wp execOp
    simp only [ho, List.map_toArray, List.map_cons, List.map_nil, hx, Sem.run_bind, hr, Result.andThen_ok]
    exact hK _ _ h
theorem rangeAt_keep {w w' : World} {g o : Nat} {cs : List Value} (h : w.rangeAt g o cs) (e : w'.heap[g]? = w.heap[g]?) : w'.rangeAt g o cs := fun j v hv => (World.cell?_of_block (a := ⟨g, o + j, none⟩) e).trans (h j v hv)
theorem rangeAt_whole {w : World} {g : Nat} {cs : List Value} {t : TypeId} {fr : Nat × Nat} (h : w.heap[g]? = some (.cells cs.toArray t fr)) : w.rangeAt g 0 cs := fun j v hv => by
  rw [cell_of_row w g (0 + j) _ t fr h, Nat.zero_add]
  simpa using hv

/-! ### Texts as cells -/
/-- The first n bytes of a text, as cells. -/
def textCells (n : Nat) (s : ByteArray) : List Value := (List.range n).map fun j => .int .u8 (bt s j)
@[simp] theorem length_textCells (n : Nat) (s : ByteArray) : (textCells n s).length = n := by simp [textCells]
theorem textCells_get (n : Nat) (s : ByteArray) {j : Nat} (h : j < n) : (textCells n s)[j]? = some (.int .u8 (bt s j)) := by simp [textCells, h]
theorem textCells_one (n : Nat) (s : ByteArray) : ∀ v ∈ textCells n s, v.oneCell' = true := by
  intro v hv
  simp only [textCells, List.mem_map] at hv
  obtain ⟨_, _, rfl⟩ := hv
  rfl
/-- A text out of the bytes that a function tells. -/
def ofFn (n : Nat) (f : Nat → Int) : ByteArray := strOfNums ((List.range n).map f)
theorem ofFn_size (n : Nat) (f : Nat → Int) : (ofFn n f).size = n := by unfold ofFn; rw [strOfNums_size]; simp
theorem ofFn_bt (n : Nat) (f : Nat → Int) {k : Nat} (hk : k < n) (h0 : 0 ≤ f k) (h1 : f k ≤ 255) : bt (ofFn n f) k = f k := by
  have e : ((List.range n).map f).getD k 0 = f k := by simp [List.getD_eq_getElem?_getD, List.getElem?_map, List.getElem?_range hk]
  unfold ofFn
  rw [bt_strOfNums _ k (by rw [e]; exact h0) (by rw [e]; exact h1), e]
/-- Texts of one length with the same bytes are one. -/
theorem text_ext {a b : ByteArray} (hs : a.size = b.size) (h : ∀ k, k < a.size → bt a k = bt b k) : a = b := by
  apply ByteArray.ext
  apply Array.ext (by simpa using hs)
  intro i h1 h2
  have := h i (by simpa using h1)
  rw [bt_list, bt_list] at this
  simp only [List.getD_eq_getElem?_getD] at this
  rw [List.getElem?_eq_getElem (by simpa using h1), List.getElem?_eq_getElem (by simpa using h2)] at this
  simp only [Option.getD_some, Array.getElem_toList] at this
  exact UInt8.toNat_inj.1 (by omega)
theorem text_whole (s : ByteArray) : ofFn s.size (bt s) = s :=
  text_ext (ofFn_size _ _) fun k hk => by rw [ofFn_size] at hk; exact ofFn_bt _ _ hk (bt_nonneg _ _) (bt_le _ _)
theorem bt_append (a b : ByteArray) (k : Nat) : bt (a ++ b) k = if k < a.size then bt a k else bt b (k - a.size) := by
  rw [bt_list, bt_list, bt_list, ByteArray.data_append, Array.toList_append]
  simp only [List.getD_eq_getElem?_getD]
  have hl : a.data.toList.length = a.size := by simp
  by_cases c : k < a.size
  · rw [if_pos c, List.getElem?_append_left (by rw [hl]; exact c)]
  · rw [if_neg c, List.getElem?_append_right (by rw [hl]; omega), hl]
/-- A text's cells where a block has them. -/
theorem rangeAt_text {w : World} {b o n : Nat} {s : ByteArray} {cs : Array Value} {t : TypeId} {fr : Nat × Nat} (hb : w.heap[b]? = some (.cells cs t fr)) (h : ∀ j, j < n → cs[o + j]? = some (.int .u8 (bt s j))) : w.rangeAt b o (textCells n s) := fun j v hv => by
  have hj : j < n := by have := (List.getElem?_eq_some_iff.1 hv).1; simpa using this
  rw [cell_of_row w b (o + j) cs t fr hb, h j hj, ← textCells_get n s hj, hv]
/-- string(b) of a slice whose cells are a text's. -/
theorem conv_text {P : Program} (src e dst : TypeId) (hs : P.underlying src = some (.slice e)) (he : P.underlying e = some (.int .u8)) (hd : P.underlying dst = some .string)
    (w : World) (b o n cap : Nat) (s : ByteArray) (hn : s.size = n) (h : w.rangeAt b o (textCells n s)) : (convert src dst (.slice (some ⟨b, o, none⟩) n cap)).run P w = .ok (.string s) w := by
  have := run_convert_bytes_arg w src e hs he b o n cap ((List.range n).map (bt s)) (by simp) (fun i hi => by
    rw [h i _ (textCells_get n s hi)]
    simp [List.getD_eq_getElem?_getD, List.getElem?_map, List.getElem?_range hi]) dst hd
  rw [this]
  subst hn
  exact congrArg (fun z => Result.ok (Value.string z) w) (text_whole s)
end Go.Proofs.Ytpooekmogfkkjaa
namespace Go.Proofs.Ytpooekmogfkkjaa
set_option maxRecDepth 100000
open Go.ChangeShapes Go.WideShapes Go.ChangeAt Go.RowKit Go.PlainAid Go.Deep

/-- The numbers that a slice reads as, in world w. -/
def IntsOf (w : World) (v : Value) (l : List Int) : Prop :=
  (l = [] ∧ ∃ ao cap, v = .slice ao 0 cap) ∨ ∃ b o cap, v = .slice (some ⟨b, o, none⟩) l.length cap ∧ b < w.heap.size ∧ 0 < l.length ∧ (l.length : Int) ≤ 9223372036854775807 ∧ ∀ (i : Nat) (x : Int), l[i]? = some x → (-9223372036854775808 ≤ x ∧ x ≤ 9223372036854775807) ∧ w.cell? ⟨b, o + i, none⟩ = some (.int .i64 x)
theorem IntsOf.on {w w' : World} {v : Value} {l : List Int} (h : IntsOf w v l) (hb : Below w.heap.size w w') : IntsOf w' v l := by
  rcases h with h | ⟨b, o, cap, hv, hlt, h0, hm, hr⟩
  · exact .inl h
  · exact .inr ⟨b, o, cap, hv, Nat.lt_of_lt_of_le hlt hb.size, h0, hm, fun i x hx => ⟨(hr i x hx).1, (hb.cell (p := ⟨b, o + i, none⟩) hlt).trans (hr i x hx).2⟩⟩
theorem ints_open {H : Type} {enc : TypeId × Value → H} {w : World} {base b0 : Nat} {sp : Nat → Bool} {held : Bool} {r : Reach} {v : Value} {d : DataW H} {p : List MemPlace}
    (hv : Value.okWide Try.prog w r b0 36 v) (h : DataW.Trod enc Try.prog w base sp held 36 v d p) : ∃ l : List Int, IntsOf w v l := by
  obtain ⟨ao, len0, cap0, rfl⟩ := okWide_slice Try.underlying36 hv
  obtain ⟨fuel, hf⟩ := h
  rcases open_slice Try.underlying36 hf with ⟨h0, _⟩ | ⟨a, len, cap, m, n, Dt, Pl, hcs, hb, hl, hm, hmm, _, hi⟩
  · refine ⟨[], .inl ⟨rfl, ao, cap0, ?_⟩⟩
    have : Value.slice ao len0 cap0 = .slice none 0 0 := by simpa [Value.cells] using h0
    cases this
    rfl
  · have e : Value.slice ao len0 cap0 = .slice (some a) len cap := by simpa [Value.cells] using hcs
    cases e
    have hC : Try.prog.cellsOf 3 = 1 := by kernel_rfl
    have hlm : len0 ≤ m := by rw [hmm]; split <;> omega
    by_cases h0 : len0 = 0
    · subst h0
      exact ⟨[], .inl ⟨rfl, _, _, rfl⟩⟩
    · have each : ∀ i, ∃ y : Int, i < len0 → (-9223372036854775808 ≤ y ∧ y ≤ 9223372036854775807) ∧ w.cell? (a.add i) = some (.int .i64 y) := fun i => by
        by_cases c : i < len0
        · obtain ⟨cs', hc, ht⟩ := hi i (by omega)
          rw [hC] at hc
          obtain ⟨_, hcl, hat⟩ := World.cells?_some hc
          obtain ⟨y, hy, _, hw⟩ := DataW.trod_int Try.underlying3 ht
          refine ⟨y, fun _ => ⟨bounds_i64 hw, ?_⟩⟩
          have := hat 0 (by omega)
          rw [hy, Go.Deep.add_add, Nat.mul_one, Nat.add_zero] at this
          exact this
        · exact ⟨0, fun h => absurd h c⟩
      obtain ⟨f, hf'⟩ := Classical.axiomOfChoice each
      have h00 := (hf' 0 (by omega)).2
      obtain ⟨b, off, spot⟩ := a
      have hspot : spot = none := by simpa [Addr.add] using World.cell?_spot h00
      subst hspot
      refine ⟨(List.range len0).map f, .inr ⟨b, off, cap0, by simp, World.block_lt_of_cell? w _ h00, by simp; omega, by simp; unfold maxLen at hm; omega, fun i x hx => ?_⟩⟩
      have hil : i < len0 := by have := (List.getElem?_eq_some_iff.1 hx).1; simpa using this
      have hxf : f i = x := by simpa [List.getElem?_map, List.getElem?_range hil] using hx
      subst hxf
      obtain ⟨hw, hc⟩ := hf' i hil
      exact ⟨hw, by rw [← hc, Addr.add_mid]⟩
theorem heap_inI {w : World} {k : Nat} {o : Obj} (h : w.heap[k]? = some o) : k < w.heap.size := (Array.getElem?_eq_some_iff.1 h).1
theorem ownsRow_onI {w w' : World} {base : Nat} {e : TypeId} {size : Nat} {v : Value} {n : Nat} {xs : List Value} (h : w.ownsRow base e size v n xs) (b : Below w.heap.size w w') : w'.ownsRow base e size v n xs := by
  obtain ⟨h1, h2⟩ := h
  refine ⟨h1, ?_⟩
  rcases h2 with h2 | ⟨g, cap, cur, hv, hb, hg, h3⟩
  · exact .inl h2
  · exact .inr ⟨g, cap, cur, hv, hb, (b.block g (heap_inI hg)).trans hg, h3⟩
theorem ownsRow_baseI {w : World} {base base' : Nat} {e : TypeId} {size : Nat} {v : Value} {n : Nat} {xs : List Value} (h : w.ownsRow base e size v n xs) (b : base' ≤ base) : w.ownsRow base' e size v n xs := by
  obtain ⟨h1, h2⟩ := h
  refine ⟨h1, ?_⟩
  rcases h2 with h2 | ⟨g, cap, cur, hv, hb, h3⟩
  · exact .inl h2
  · exact .inr ⟨g, cap, cur, hv, Nat.le_trans b hb, h3⟩
theorem info_intI : (Try.prog.info? 3).map (fun i => (i.zero, i.size, i.bytes)) = some (some (.int .i64 0), 1, 8) := by kernel_rfl
/-- An append to a slice of numbers, as one action. -/
def appII (vs : Array Value) : Sem Value := Builtin.append_ #[36, 36] 36 vs
theorem app_intI (vs : Array Value) : Builtin.append_ #[36, 36] 36 vs = appII vs := rfl
/-- A slice of the call's own with these numbers. -/
def IntsOwn (n₀ : Nat) (W : World) (v : Value) (L : List Int) : Prop := W.ownsRow n₀ 3 1 v L.length (L.map (Value.int .i64))
/-- One number more. -/
theorem row_pushI {n₀ : Nat} {W : World} {L : List Int} {v : Value} (hrow : IntsOwn n₀ W v L) (hn : n₀ ≤ W.heap.size) (hlen : L.length ≤ 1048576) (x : Int) (m : Nat) (hm : L.length = m) :
    ∃ g cap w2, (appII #[v, .slice (some ⟨W.heap.size, 0, none⟩) 1 1]).run Try.prog (W.alloc (.cells #[.int .i64 x] 3)) = .ok (.slice (some ⟨g, 0, none⟩) (m + 1) cap) w2 ∧
      IntsOwn n₀ w2 (.slice (some ⟨g, 0, none⟩) (m + 1) cap) (L ++ [x]) ∧ (W.alloc (.cells #[.int .i64 x] 3)).grownBy w2 v.ownBlock ∧ Below n₀ W w2 := by
  subst hm
  obtain ⟨i0, hi, hz0, hz1, hz2⟩ := info_parts info_intI
  have hq := heap_alloc_new W (.cells #[.int .i64 x] 3)
  have hba : Below W.heap.size W (W.alloc (.cells #[.int .i64 x] 3)) := by go_grown
  obtain ⟨g, cap, w2, hr, h2, h3, _, _⟩ := run_append_lies (P := Try.prog) (w := W.alloc (.cells #[.int .i64 x] 3)) 36 36 n₀ 3 i0 (.int .i64 0) 1 8 Try.underlying36 hi hz0 hz1 hz2 rfl (by decide) v L.length (L.map (Value.int .i64)) (ownsRow_onI hrow hba) ⟨W.heap.size, 0, none⟩ 1 1 [.int .i64 x] rfl
    (fun j u hu => by
      rcases j with _ | j
      · have : Value.int .i64 x = u := by simpa using hu
        rw [← this]
        show (W.alloc (.cells #[.int .i64 x] 3)).cell? ⟨W.heap.size, 0, none⟩ = _
        rw [cell_of_row _ _ _ _ _ _ hq]
        rfl
      · simp at hu) (fun u hu => by have : u = .int .i64 x := by simpa using hu
                                    rw [this]; rfl) (by decide) (by unfold maxLen; omega) (by omega) (by rw [World.size_alloc]; omega) _ rfl
  refine ⟨g, cap, w2, hr, ?_, h3, (hba.mono hn).grown h3 (by rw [World.size_alloc]; omega) (fun k e => (hrow.lt k e).1)⟩
  unfold IntsOwn
  rw [List.length_append, List.map_append]
  exact h2
/-- A slice of the call's own reads as its numbers. -/
theorem IntsOwn.reads {n₀ : Nat} {W : World} {v : Value} {L : List Int} (h : IntsOwn n₀ W v L) (hm : L.length ≤ 1048576) (hb : ∀ x ∈ L, -9223372036854775808 ≤ x ∧ x ≤ 9223372036854775807) : IntsOf W v L := by
  obtain ⟨h1, h2⟩ := h
  rcases h2 with ⟨rfl, h0⟩ | ⟨g, cap, cur, rfl, _, hg, hn, hc, hsz, ht⟩
  · refine .inl ⟨List.length_eq_zero_iff.1 (by simpa using h0), none, 0, rfl⟩
  · by_cases h0 : L.length = 0
    · exact .inl ⟨List.length_eq_zero_iff.1 h0, _, _, by rw [h0]⟩
    · refine .inr ⟨g, 0, cap, rfl, heap_inI hg, by omega, by omega, fun i x hx => ⟨hb x (List.mem_of_getElem? hx), ?_⟩⟩
      rw [Nat.zero_add, cell_of_row _ _ _ _ _ _ hg]
      have hi : i < L.length := (List.getElem?_eq_some_iff.1 hx).1
      have := congrArg (fun l => l[i]?) ht
      simp only [List.getElem?_map, hx, Option.map_some] at this
      rw [← this, Nat.mul_one, List.getElem?_take_of_lt hi, Array.getElem?_toList]
end Go.Proofs.Ytpooekmogfkkjaa
