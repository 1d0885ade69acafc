/- strings.Repeat, the copy of a text, and the counts of a byte: contracts of the shelf at this program Contracts of package bitmap, and of its reference: room, bit, Has. Contracts of package bitmap, and of its reference: Has. Contracts of package bitmap: With. Contracts of the reference of bitmap: With; plain facts of sets. -/
import Derived.Shelf.Strings.Builder1
import Derived.Shelf.Strings.Builder2
import Derived.Shelf.Small.Bits
import Derived.Shelf.Strings.BuilderF
import Derived.Shelf.Strings.BuilderK
import Derived.Shelf.Strings.Builder2Cap
import Derived.Shelf.LaysM
import Derived.Shelf.Strconv.Clone
import Derived.Shelf.Strings.Prefix
import Derived.Shelf.Bits.Mul64
import Derived.Shelf.Strings.Repeat
import Derived.Shelf.Strings.BuilderCap
import Derived.Test.YtkdhlofcdcnjgaaGreatRows
import Derived.Test.YtkdhlofcdcnjgaaGreatGA
import Derived.Deep.RegionWith
import Derived.BigQuiet
import Derived.Deep.QuietTactic
import Derived.IntWalk
import Derived.StillTactics
import Derived.StillTailTactics
import Derived.Lib.ConvBytes
namespace Go.Proofs.YtkdhlofcdcnjgaaGreat
set_option maxRecDepth 100000
open Go.Shelf
def sh_lays136_ren : Go.Shelf.Ren := ⟨fun | 136 => 113 | n => n, fun | 5 => 5 | 3 => 3 | 9 => 9 | n => n, fun | n => n⟩
theorem sh_lays136 : Go.Proofs.Lays.n136 Tryz.prog sh_lays136_ren := {
  mixed := by kernel_rfl
  f136 := Tryz.func113.trans (congrArg some (by kernel_rfl))
  t3 := Tryz.underlying3
  a3 := Tryz.isAgg3
  z3 := Tryz.sizeOf3
  v3 := Tryz.zeroValue3
  t5 := Tryz.underlying5
  a5 := Tryz.isAgg5
  z5 := Tryz.sizeOf5
  v5 := Tryz.zeroValue5
  t9 := Tryz.underlying9
  a9 := Tryz.isAgg9
  z9 := Tryz.sizeOf9
  v9 := Tryz.zeroValue9 }
/-- bits.TrailingZeros8: "TrailingZeros8 returns the number of trailing zero bits in x; the result is 8 for x == 0.": IT RETURNS 'Lib.trailingZeros8 x'; the world is as it was. ('h0', 'h1': x is a uint8.) (LAID: no walk: one application.) -/
theorem sh_bits_TrailingZeros8 (x : Int) (w : World) (h0 : 0 ≤ x) (h1 : x ≤ 255) :
    Calls Tryz.prog 113 #[.int .u8 x] w fun e w' => e = .returned (.int .i64 (Lib.trailingZeros8 x.toNat)) ∧ w' = w := Any.bits_TrailingZeros8 sh_lays136 x w h0 h1
def sh_laysM316_ren : Go.Shelf.Ren := ⟨fun | 316 => 81 | n => n, fun | 9 => 9 | 3 => 3 | 4 => 4 | 37 => 143 | 0 => 0 | 127 => 181 | 5 => 5 | n => n, fun | n => n⟩
theorem sh_laysM316 : Go.Proofs.LaysM.n316 Tryz.prog sh_laysM316_ren := {
  mixed := by kernel_rfl
  f316 := Tryz.func81.trans (congrArg some (by kernel_rfl))
  t0 := Tryz.underlying0
  a0 := Tryz.isAgg0
  z0 := Tryz.sizeOf0
  v0 := Tryz.zeroValue0
  t3 := Tryz.underlying3
  a3 := Tryz.isAgg3
  z3 := Tryz.sizeOf3
  v3 := Tryz.zeroValue3
  t4 := Tryz.underlying4
  a4 := Tryz.isAgg4
  z4 := Tryz.sizeOf4
  v4 := Tryz.zeroValue4
  t9 := Tryz.underlying9
  a9 := Tryz.isAgg9
  z9 := Tryz.sizeOf9
  v9 := Tryz.zeroValue9
  t37 := Tryz.underlying143
  a37 := Tryz.isAgg143
  z37 := Tryz.sizeOf143
  v37 := Tryz.zeroValue143
  t127 := Tryz.underlying181
  a127 := Tryz.isAgg181
  z127 := Tryz.sizeOf181
  v127 := Tryz.zeroValue181
  t5 := Tryz.underlying5
  a5 := Tryz.isAgg5
  z5 := Tryz.sizeOf5
  v5 := Tryz.zeroValue5
  i0 := by kernel_rfl
  i3 := by kernel_rfl
  i4 := by kernel_rfl
  i5 := by kernel_rfl
  i9 := by kernel_rfl
  i37 := by kernel_rfl
  i127 := by kernel_rfl }
open Go.RowKit in
/-- internal/stringslite.Clone (what strings.Clone calls): "Clone returns a fresh copy of s.": THE SAME BYTES. Of what was there nothing has turned (a new row is laid, and frozen, where s is not empty). (LAID: no walk: one application.) -/
theorem sh_stringslite_Clone (s : ByteArray) (w : World) (hlim : s.size ≤ 281474976710656) :
    Calls Tryz.prog 81 #[.string s] w fun e w' => e = .returned (.string s) ∧ Below w.heap.size w w' := Any.stringslite_Clone sh_laysM316 s w hlim
def sh_lays105_ren : Go.Shelf.Ren := ⟨fun | 105 => 100 | 212 => 135 | 99 => 136 | 165 => 137 | 166 => 138 | 170 => 139 | 169 => 140 | 263 => 155 | 264 => 156 | 206 => 157 | 240 => 158 | 241 => 159 | 276 => 165 | 277 => 166 | n => n, fun | 9 => 9 | 3 => 3 | 4 => 4 | 20 => 20 | 0 => 0 | 46 => 174 | 109 => 188 | 5 => 5 | 72 => 192 | 76 => 196 | 51 => 209 | 146 => 210 | 53 => 101 | 148 => 212 | 70 => 190 | 37 => 143 | 75 => 195 | 127 => 181 | 164 => 220 | 80 => 166 | n => n, fun | n => n⟩
theorem sh_lays105 : Go.Proofs.Lays.n105 Tryz.prog sh_lays105_ren := {
  mixed := by kernel_rfl
  f99 := Tryz.func136.trans (congrArg some (by kernel_rfl))
  f105 := Tryz.func100.trans (congrArg some (by kernel_rfl))
  f165 := Tryz.func137.trans (congrArg some (by kernel_rfl))
  f166 := Tryz.func138.trans (congrArg some (by kernel_rfl))
  f169 := Tryz.func140.trans (congrArg some (by kernel_rfl))
  f170 := Tryz.func139.trans (congrArg some (by kernel_rfl))
  f206 := Tryz.func157.trans (congrArg some (by kernel_rfl))
  f212 := Tryz.func135.trans (congrArg some (by kernel_rfl))
  f240 := Tryz.func158.trans (congrArg some (by kernel_rfl))
  f241 := Tryz.func159.trans (congrArg some (by kernel_rfl))
  f263 := Tryz.func155.trans (congrArg some (by kernel_rfl))
  f264 := Tryz.func156.trans (congrArg some (by kernel_rfl))
  f276 := Tryz.func165.trans (congrArg some (by kernel_rfl))
  f277 := Tryz.func166.trans (congrArg some (by kernel_rfl))
  t0 := Tryz.underlying0
  a0 := Tryz.isAgg0
  z0 := Tryz.sizeOf0
  v0 := Tryz.zeroValue0
  t3 := Tryz.underlying3
  a3 := Tryz.isAgg3
  z3 := Tryz.sizeOf3
  v3 := Tryz.zeroValue3
  t4 := Tryz.underlying4
  a4 := Tryz.isAgg4
  z4 := Tryz.sizeOf4
  v4 := Tryz.zeroValue4
  t5 := Tryz.underlying5
  a5 := Tryz.isAgg5
  z5 := Tryz.sizeOf5
  v5 := Tryz.zeroValue5
  t9 := Tryz.underlying9
  a9 := Tryz.isAgg9
  z9 := Tryz.sizeOf9
  v9 := Tryz.zeroValue9
  t20 := Tryz.underlying20
  a20 := Tryz.isAgg20
  z20 := Tryz.sizeOf20
  v20 := Tryz.zeroValue20
  t37 := Tryz.underlying143
  a37 := Tryz.isAgg143
  z37 := Tryz.sizeOf143
  v37 := Tryz.zeroValue143
  t46 := Tryz.underlying174
  a46 := Tryz.isAgg174
  z46 := Tryz.sizeOf174
  v46 := Tryz.zeroValue174
  t51 := Tryz.underlying209
  a51 := Tryz.isAgg209
  z51 := Tryz.sizeOf209
  v51 := Tryz.zeroValue209
  t53 := Tryz.underlying101
  a53 := Tryz.isAgg101
  z53 := Tryz.sizeOf101
  v53 := Tryz.zeroValue101
  t70 := Tryz.underlying190
  a70 := Tryz.isAgg190
  z70 := Tryz.sizeOf190
  v70 := Tryz.zeroValue190
  t72 := Tryz.underlying192
  a72 := Tryz.isAgg192
  z72 := Tryz.sizeOf192
  v72 := Tryz.zeroValue192
  t75 := Tryz.underlying195
  a75 := Tryz.isAgg195
  z75 := Tryz.sizeOf195
  v75 := Tryz.zeroValue195
  t76 := Tryz.underlying196
  a76 := Tryz.isAgg196
  z76 := Tryz.sizeOf196
  v76 := Tryz.zeroValue196
  t109 := Tryz.underlying188
  a109 := Tryz.isAgg188
  z109 := Tryz.sizeOf188
  v109 := Tryz.zeroValue188
  t127 := Tryz.underlying181
  a127 := Tryz.isAgg181
  z127 := Tryz.sizeOf181
  v127 := Tryz.zeroValue181
  t146 := Tryz.underlying210
  a146 := Tryz.isAgg210
  z146 := Tryz.sizeOf210
  v146 := Tryz.zeroValue210
  t148 := Tryz.underlying212
  a148 := Tryz.isAgg212
  z148 := Tryz.sizeOf212
  v148 := Tryz.zeroValue212
  t164 := Tryz.underlying220
  a164 := Tryz.isAgg220
  z164 := Tryz.sizeOf220
  v164 := Tryz.zeroValue220 }
theorem sh_Builder_Extra_105 : Builder.Extra Tryz.prog sh_lays105_ren := {
  sizeBuilder := by kernel_rfl
  liesBuilder := by kernel_rfl
  t5 := Tryz.underlying5
  a5 := Tryz.isAgg5
  z5 := Tryz.sizeOf5
  v5 := Tryz.zeroValue5
  infoByte := by kernel_rfl
  cellsByte := by kernel_rfl
  sizeByte := by kernel_rfl
  neB5 := by decide }
open Go.RowKit Go.Lib in
/-- **strings.Repeat: count ≥ 0, the result within one allocation: count copies of s.** (LAID: no walk: one application.) -/
theorem sh_strings_Repeat (s : ByteArray) (c : Nat) (w : World) (hc : c ≤ 9223372036854775807) (hlen : s.size * c ≤ 140737488355328) :
    Calls Tryz.prog 100 #[.string s, .int .i64 c] w fun e w' => e = .returned (.string ⟨(Lib.repeatL s.data.toList c).toArray⟩) ∧ Below w.heap.size w w' := Any.strings_Repeat sh_lays105 sh_Builder_Extra_105 s c w hc hlen
end Go.Proofs.YtkdhlofcdcnjgaaGreat
namespace Go.Proofs.YtkdhlofcdcnjgaaGreat
set_option maxRecDepth 100000
open Go.ChangeShapes Go.WideShapes Go.ChangeAt Go.RowKit Go.PlainAid

/-- Halved so many times. -/
def hv (c : Int) : Nat → Int | 0 => c | k + 1 => hv c k / 2
/-- The bit k of a byte. -/
def bitBM (c : Int) (k : Nat) : Bool := hv c k % 2 == 1
def p2 : Nat → Int | 0 => 1 | k + 1 => 2 * p2 k
/-- A byte with the bit k so. -/
def setB (c : Int) (k : Nat) (b : Bool) : Int := if bitBM c k = b then c else if b then c + p2 k else c - p2 k
theorem hv_b (c : Int) (h0 : 0 ≤ c) (h1 : c ≤ 255) : ∀ k, 0 ≤ hv c k ∧ hv c k ≤ 255
  | 0 => ⟨h0, h1⟩
  | k + 1 => by
    have := hv_b c h0 h1 k
    simp only [hv]
    omega
theorem p2_b : ∀ k : Fin 8, 1 ≤ p2 k.val ∧ p2 k.val ≤ 128 := by decide +kernel
theorem and_all : ∀ z : Fin 256, ∀ k : Fin 8, bits .and .u8 (z.val : Int) (p2 k.val) = if bitBM z.val k.val then p2 k.val else 0 := by decide +kernel
theorem or_all : ∀ z : Fin 256, ∀ k : Fin 8, bits .or .u8 (z.val : Int) (p2 k.val) = setB z.val k.val true := by decide +kernel
theorem not_all : ∀ z : Fin 256, ∀ k : Fin 8, bits .andNot .u8 (z.val : Int) (p2 k.val) = setB z.val k.val false := by decide +kernel
theorem set_all : ∀ z : Fin 256, ∀ k : Fin 8, ∀ b : Bool, 0 ≤ setB z.val k.val b ∧ setB z.val k.val b ≤ 255 := by decide +kernel
theorem set_bit : ∀ z : Fin 256, ∀ k j : Fin 8, ∀ b : Bool, bitBM (setB z.val k.val b) j.val = if j = k then b else bitBM z.val j.val := by decide +kernel
theorem set_back : ∀ z : Fin 256, ∀ k : Fin 8, ∀ b : Bool, setB (setB z.val k.val b) k.val (bitBM z.val k.val) = z.val := by decide +kernel
theorem byte_fin {c : Int} (h0 : 0 ≤ c) (h1 : c ≤ 255) : ∃ z : Fin 256, c = z.val := ⟨⟨c.toNat, by omega⟩, by simp only; omega⟩

/-- Room for a number. -/
def roomB (s : ByteArray) (i : Int) : Bool := decide (0 ≤ i) && decide (i / 8 < s.size)
/-- A number in a set. -/
def hasB (s : ByteArray) (i : Int) : Bool := roomB s i && bitBM (bt s (i / 8).toNat) (i % 8).toNat
theorem room_neg {s : ByteArray} {i : Int} (h : i < 0) : roomB s i = false := by unfold roomB; rw [decide_eq_false (by omega), Bool.false_and]
theorem room_far {s : ByteArray} {i : Int} (h : s.size ≤ i / 8) : roomB s i = false := by unfold roomB; rw [decide_eq_false (p := i / 8 < s.size) (by omega), Bool.and_false]
theorem room_in {s : ByteArray} {i : Int} (h : 0 ≤ i) (h2 : i / 8 < s.size) : roomB s i = true := by unfold roomB; rw [decide_eq_true h, decide_eq_true h2]; rfl
theorem has_no {s : ByteArray} {i : Int} (h : roomB s i = false) : hasB s i = false := by unfold hasB; rw [h, Bool.false_and]
theorem has_in {s : ByteArray} {i : Int} {j k : Nat} (hj : j < s.size) (hq : i / 8 = j) (hr : i % 8 = k) : hasB s i = bitBM (bt s j) k := by
  unfold hasB
  rw [room_in (by omega) (by omega), hq, hr]
  rfl
/-- The ways of a number. -/
theorem ways (s : ByteArray) (i : Int) : i < 0 ∨ (0 ≤ i ∧ s.size ≤ i / 8) ∨ ∃ j k : Nat, j < s.size ∧ k < 8 ∧ 0 ≤ i ∧ i / 8 = j ∧ i % 8 = k := by
  by_cases h : i < 0
  · exact .inl h
  · by_cases h2 : s.size ≤ i / 8
    · exact .inr (.inl ⟨by omega, h2⟩)
    · exact .inr (.inr ⟨(i / 8).toNat, (i % 8).toNat, by omega, by omega, by omega, by omega, by omega⟩)

theorem room_any (s : ByteArray) (i : Int) (w : World) (_hs : s.size ≤ 140737488351232) (b : -9223372036854775808 ≤ i) (c : i ≤ 9223372036854775807) :
    Calls Tryz.prog 101 #[.string s, .int .i64 i] w fun e w' => e = .returned (.bool (roomB s i)) ∧ w = w' := by
  rcases ways s i with h | ⟨h, h2⟩ | ⟨j, k, hj, hk, h, hq, hr⟩
  · have HR := Lib.hid (room_neg (s := s) h)
    go_enter Tryz.func101, Tryz.ntmps101
    go_wp2
    go_returns
    exact ⟨by rw [HR.out]; rfl, rfl⟩
  · have HR := Lib.hid (room_far (s := s) h2)
    have hd : decide (i / 8 < (s.size : Int)) = false := decide_eq_false (by omega)
    go_enter Tryz.func101, Tryz.ntmps101
    go_wp2
    go_returns
    exact ⟨by rw [HR.out]; rfl, rfl⟩
  · have HR := Lib.hid (room_in (s := s) h (by omega))
    have h2 : i / 8 < s.size := by omega
    clear hq hr
    go_enter Tryz.func101, Tryz.ntmps101
    go_wp2
    go_returns
    exact ⟨by rw [HR.out]; rfl, rfl⟩
theorem bit_any (i : Int) (k : Nat) (w : World) (hk : k < 8) (h : 0 ≤ i) (c : i ≤ 9223372036854775807) (hr : i % 8 = k) :
    Calls Tryz.prog 102 #[.int .i64 i] w fun e w' => e = .returned (.int .u8 (p2 k)) ∧ w = w' := by
  rcases k with _ | _ | _ | _ | _ | _ | _ | _ | k
  iterate 8
    · first
        | have hr2 : i % 8 = 0 := by omega
        | have hr2 : i % 8 = 1 := by omega
        | have hr2 : i % 8 = 2 := by omega
        | have hr2 : i % 8 = 3 := by omega
        | have hr2 : i % 8 = 4 := by omega
        | have hr2 : i % 8 = 5 := by omega
        | have hr2 : i % 8 = 6 := by omega
        | have hr2 : i % 8 = 7 := by omega
      clear hr
      go_enter Tryz.func102, Tryz.ntmps102
      go_wp2
      go_returns
      exact ⟨rfl, rfl⟩
  omega
end Go.Proofs.YtkdhlofcdcnjgaaGreat
namespace Go.Proofs.YtkdhlofcdcnjgaaGreat
set_option maxRecDepth 100000
open Go.ChangeShapes Go.WideShapes Go.ChangeAt Go.RowKit Go.PlainAid

theorem Same.turn {P : Program} {f : FuncId} {args : Array Value} {w : World} {v : Value} (h : Calls P f args w fun e w' => e = .returned v ∧ w = w') : Calls P f args w fun e w' => e = .returned v ∧ w' = w :=
  h.mono fun _ _ ⟨a, b⟩ => ⟨a, b.symm⟩
theorem room_is {s : ByteArray} {i : Int} {r : Bool} (hr : roomB s i = r) (w : World) (hs : s.size ≤ 140737488351232) (b : -9223372036854775808 ≤ i) (c : i ≤ 9223372036854775807) :
    Calls Tryz.prog 101 #[.string s, .int .i64 i] w fun e w' => e = .returned (.bool r) ∧ w' = w :=
  hr ▸ Same.turn (room_any s i w hs b c)
def Drawn (w w' : World) : Prop := ∃ n, w' = w.drewN n
set_option maxHeartbeats 400000 in
theorem has_any (s : ByteArray) (i : Int) (w : World) (hs : s.size ≤ 140737488351232) (b : -9223372036854775808 ≤ i) (c : i ≤ 9223372036854775807) :
    Calls Tryz.prog 69 #[.string s, .int .i64 i] w fun e w' => e = .returned (.bool (hasB s i)) ∧ Drawn w w' := by
  have gb := get_bt s
  rcases ways s i with h | ⟨h, h2⟩ | ⟨j, k, hj, hk, h, hq, hr⟩
  · have HR := Lib.hid (has_no (room_neg (s := s) h))
    have HC := Lib.hid fun w => room_is (room_neg (s := s) h) w hs b c
    go_enter Tryz.func69, Tryz.ntmps69
    go_wp2_with fail
    go_quiet (with_reducible exact Calls.quiet_of_same (HC.out _))
    go_wp2
    go_returns
    exact ⟨by rw [HR.out]; rfl, nq, rfl⟩
  · have HR := Lib.hid (has_no (room_far (s := s) h2))
    have HC := Lib.hid fun w => room_is (room_far (s := s) h2) w hs b c
    go_enter Tryz.func69, Tryz.ntmps69
    go_wp2_with fail
    go_quiet (with_reducible exact Calls.quiet_of_same (HC.out _))
    go_wp2
    go_returns
    exact ⟨by rw [HR.out]; rfl, nq, rfl⟩
  · have HR := Lib.hid (has_in (s := s) hj hq hr)
    have HB := Lib.hid fun w => Same.turn (bit_any i k w hk h c hr)
    have HC := Lib.hid fun w => room_is (room_in (s := s) h (show i / 8 < s.size by omega)) w hs b c
    have hc := And.intro (bt_nonneg s j) (bt_le s j)
    have ha : bits .and .u8 (bt s j) (p2 k) = if bitBM (bt s j) k then p2 k else 0 := by
      obtain ⟨z, hz⟩ := byte_fin hc.1 hc.2
      rw [hz]
      exact and_all z ⟨k, hk⟩
    have hp := p2_b ⟨k, hk⟩
    simp only at hp
    have HE : Hid ((bitBM (bt s j) k) = !(bits .and .u8 (bt s j) (p2 k) == 0)) := by
      refine Lib.hid ?_
      rw [ha]
      cases bitBM (bt s j) k
      · rfl
      · simp; omega
    clear ha
    go_enter Tryz.func69, Tryz.ntmps69
    go_wp2_with fail
    go_quiet (first | with_reducible exact Calls.quiet_of_same (HC.out _) | with_reducible exact Calls.quiet_of_same (HB.out _))
    go_wp2
    go_returns
    exact ⟨by rw [HR.out, HE.out]; rfl, nq, rfl⟩
end Go.Proofs.YtkdhlofcdcnjgaaGreat
namespace Go.Proofs.YtkdhlofcdcnjgaaGreat
set_option maxRecDepth 100000
open Go.ChangeShapes Go.WideShapes Go.ChangeAt Go.RowKit Go.PlainAid

/-- A set with the bit k of the byte j so. -/
def withB (s : ByteArray) (j k : Nat) (b : Bool) : ByteArray := strOfNums ((List.range s.size).map fun m => if m = j then setB (bt s m) k b else bt s m)
/-- A set with a number, or without it. -/
def withS (s : ByteArray) (i : Int) (b : Bool) : ByteArray := if roomB s i then withB s (i / 8).toNat (i % 8).toNat b else s
theorem with_no {s : ByteArray} {i : Int} (b : Bool) (h : roomB s i = false) : withS s i b = s := by unfold withS; rw [h]; rfl
theorem with_in {s : ByteArray} {i : Int} {j k : Nat} (b : Bool) (hj : j < s.size) (hq : i / 8 = j) (hr : i % 8 = k) : withS s i b = withB s j k b := by
  unfold withS
  rw [room_in (by omega) (by omega), hq, hr]
  rfl
theorem RowI.drew {w wr : World} {n : Nat} {f : Nat → Int} (h : RowI w n f wr) : RowI w n f wr.drew := ⟨h.below.drew, h.size, h.cells, h.thawed⟩

set_option maxHeartbeats 400000 in
theorem clone_any (s : ByteArray) (w : World) (hs : s.size ≤ 140737488351232) :
    Calls Tryz.prog 40 #[.string s] w fun e w' => e = .returned (.string s) ∧ Below w.heap.size w w' := by
  go_enter Tryz.func40, Tryz.ntmps40
  go_wp2_with fail
  refine (sh_stringslite_Clone s _ (by omega)).mono ?_
  rintro e w1 ⟨rfl, hb⟩
  go_wp2
  go_returns
  exact ⟨rfl, hb⟩
set_option maxHeartbeats 1000000 in
theorem with_any (s : ByteArray) (i : Int) (x : Bool) (w : World) (hs : s.size ≤ 140737488351232) (b : -9223372036854775808 ≤ i) (c : i ≤ 9223372036854775807) :
    Calls Tryz.prog 57 #[.string s, .int .i64 i, .bool x] w fun e w' => e = .returned (.tuple #[.string (withS s i x), .bool (roomB s i)]) ∧ Below w.heap.size w w' := by
  rcases ways s i with h | ⟨h, h2⟩ | ⟨j, k, hj, hk, h, hq, hr⟩
  · have hx := room_neg (s := s) h
    have HR := Lib.hid (with_no x hx)
    have HC := Lib.hid fun w => Calls.mono (room_is hx w hs b c) fun _ _ ⟨p, q⟩ => And.intro p q.symm
    have HX := Lib.hid hx
    clear hx
    go_enter Tryz.func57, Tryz.ntmps57
    go_wp2_with fail
    refine (HC.out _).mono ?_
    rintro e _ ⟨rfl, rfl⟩
    go_wp2_with fail
    refine (clone_any s _ hs).mono ?_
    rintro e w1 ⟨rfl, hb⟩
    go_wp2
    go_returns
    exact ⟨by rw [HR.out, HX.out]; rfl, hb⟩
  · have hx := room_far (s := s) h2
    have HR := Lib.hid (with_no x hx)
    have HC := Lib.hid fun w => Calls.mono (room_is hx w hs b c) fun _ _ ⟨p, q⟩ => And.intro p q.symm
    have HX := Lib.hid hx
    clear hx
    go_enter Tryz.func57, Tryz.ntmps57
    go_wp2_with fail
    refine (HC.out _).mono ?_
    rintro e _ ⟨rfl, rfl⟩
    go_wp2_with fail
    refine (clone_any s _ hs).mono ?_
    rintro e w1 ⟨rfl, hb⟩
    go_wp2
    go_returns
    exact ⟨by rw [HR.out, HX.out]; rfl, hb⟩
  · have hx := room_in (s := s) h (show i / 8 < s.size by omega)
    have HR := Lib.hid (with_in x hj hq hr)
    have HC := Lib.hid fun w => Calls.mono (room_is hx w hs b c) fun _ _ ⟨p, q⟩ => And.intro p q.symm
    have HX := Lib.hid hx
    clear hx
    have HB := Lib.hid fun w => Same.turn (bit_any i k w hk h c hr)
    have HZ := Lib.hid (show withB s j k x = strOfNums ((List.range s.size).map fun m => if m = j then setB (bt s m) k x else bt s m) from rfl)
    have HK := Lib.hid (fun w => Lib.run_convert_string_bytes (P := Tryz.prog) w 9 143 5 s Tryz.underlying9 Tryz.underlying143 Tryz.underlying5)
    have hc := And.intro (bt_nonneg s j) (bt_le s j)
    have hp := p2_b ⟨k, hk⟩
    simp only at hp
    obtain ⟨z, hz⟩ := byte_fin hc.1 hc.2
    have HO : Hid (bits .or .u8 (bt s j) (p2 k) = setB (bt s j) k true) := Lib.hid (by rw [hz]; exact or_all z ⟨k, hk⟩)
    have HN : Hid (bits .andNot .u8 (bt s j) (p2 k) = setB (bt s j) k false) := Lib.hid (by rw [hz]; exact not_all z ⟨k, hk⟩)
    clear hz
    have hdv : IntKind.i64.wrap (i.tdiv 8) = (j : Int) := by rw [Int.tdiv_eq_ediv_of_nonneg h, hq]; exact IntWalk.i64_in _ (by omega)
    have hj0 : (0 : Int) ≤ (j : Int) := by omega
    have hj1 : (j : Int) < (s.size : Int) := by omega
    cases x
    · go_enter Tryz.func57, Tryz.ntmps57
      go_wp2_with fail
      refine (HC.out _).mono ?_
      rintro e _ ⟨rfl, rfl⟩
      go_wp2_with fail
      rw [HK.out]
      have hb1 := RowI.ofBytes w 5 s
      generalize Lib.bytesWorld w 5 s = w1 at *
      have hcell := hb1.cells j hj
      have hfro := hb1.thawed j hj
      go_wp2_with fail
      refine wp_region_still_tail 9 (by kernel_rfl) (by kernel_rfl) ?_
      simp only [List.take_succ_cons, List.take_zero, List.drop_succ_cons, List.drop_zero]
      repeat still_step
      refine wpStill_step (fun K hK => ?_)
      go_simp
      refine ⟨.int .u8 (p2 k), HB.out _, hK _ ?_⟩
      clear hK K
      repeat still_step
      refine wpStill_nil ?_
      rw [HN.out]
      change wpList _ _ _ _ _ w1.drew
      have hb2 := (hb1.set (g := fun m => if m = j then setB (bt s m) k false else bt s m) hj (setB (bt s j) k false) (if_pos rfl) (fun m _ hm => if_neg hm)).drew
      have HCS := Lib.hid (row_str hb2)
      have HB2 := Lib.hid hb2.below
      clear hb1 hb2
      go_wp2_with fail
      rw [run_convert_bytes_arg (w1.setCell ⟨w.heap.size, j, none⟩ (.int .u8 (setB (bt s j) k false))).drew 143 5 Tryz.underlying143 Tryz.underlying5 _ 0 _ _ _ (len_range s.size _) HCS.out 9 Tryz.underlying9]
      go_wp2
      go_returns
      exact ⟨by rw [HR.out, HX.out, HZ.out]; rfl, HB2.out⟩
    · go_enter Tryz.func57, Tryz.ntmps57
      go_wp2_with fail
      refine (HC.out _).mono ?_
      rintro e _ ⟨rfl, rfl⟩
      go_wp2_with fail
      rw [HK.out]
      have hb1 := RowI.ofBytes w 5 s
      generalize Lib.bytesWorld w 5 s = w1 at *
      have hcell := hb1.cells j hj
      have hfro := hb1.thawed j hj
      go_wp2_with fail
      refine wp_region_still_tail 9 (by kernel_rfl) (by kernel_rfl) ?_
      simp only [List.take_succ_cons, List.take_zero, List.drop_succ_cons, List.drop_zero]
      repeat still_step
      refine wpStill_step (fun K hK => ?_)
      go_simp
      refine ⟨.int .u8 (p2 k), HB.out _, hK _ ?_⟩
      clear hK K
      repeat still_step
      refine wpStill_nil ?_
      rw [HO.out]
      change wpList _ _ _ _ _ w1.drew
      have hb2 := (hb1.set (g := fun m => if m = j then setB (bt s m) k true else bt s m) hj (setB (bt s j) k true) (if_pos rfl) (fun m _ hm => if_neg hm)).drew
      have HCS := Lib.hid (row_str hb2)
      have HB2 := Lib.hid hb2.below
      clear hb1 hb2
      go_wp2_with fail
      rw [run_convert_bytes_arg (w1.setCell ⟨w.heap.size, j, none⟩ (.int .u8 (setB (bt s j) k true))).drew 143 5 Tryz.underlying143 Tryz.underlying5 _ 0 _ _ _ (len_range s.size _) HCS.out 9 Tryz.underlying9]
      go_wp2
      go_returns
      exact ⟨by rw [HR.out, HX.out, HZ.out]; rfl, HB2.out⟩
end Go.Proofs.YtkdhlofcdcnjgaaGreat
namespace Go.Proofs.YtkdhlofcdcnjgaaGreat
set_option maxRecDepth 100000
open Go.ChangeShapes Go.WideShapes Go.ChangeAt Go.RowKit Go.PlainAid

theorem u8_bt (s : ByteArray) (m : Nat) (h : m < s.data.toList.length) : UInt8.ofNat (bt s m).toNat = s.data.toList[m] := by
  rw [bt_list]
  apply UInt8.toNat_inj.1
  rw [List.getD_eq_getElem?_getD, List.getElem?_eq_getElem h]
  simp
theorem withB_cut (s : ByteArray) (j k : Nat) (x : Bool) (hj : j < s.size) : s.extract 0 j ++ strOfNums [setB (bt s j) k x] ++ s.extract (j + 1) s.size = withB s j k x := by
  have hl : s.data.toList.length = s.size := by simp
  apply ByteArray.ext
  apply Array.ext'
  unfold withB
  simp only [ByteArray.data_append, Array.toList_append, Lib.extract_data, strOfNums_data, List.map_cons, List.map_nil]
  apply List.ext_getElem?
  intro m
  have e1 : (List.take (j - 0) (List.drop 0 s.data.toList)).length = j := by simp; omega
  have e2 : List.take (s.size - (j + 1)) (List.drop (j + 1) s.data.toList) = List.drop (j + 1) s.data.toList := List.take_of_length_le (by simp)
  rw [List.getElem?_map, List.getElem?_map]
  rcases Nat.lt_trichotomy m j with h | h | h
  · rw [List.append_assoc, List.getElem?_append_left (by omega), List.getElem?_range (by omega), List.getElem?_take_of_lt (by omega)]
    simp only [Option.map_some, if_neg (Nat.ne_of_lt h), List.drop_zero]
    rw [u8_bt s m (by omega), List.getElem?_eq_getElem (by omega)]
  · subst h
    rw [List.append_assoc, List.getElem?_append_right (by omega), e1, List.getElem?_range (by omega)]
    simp
  · rw [List.getElem?_append_right (by rw [List.length_append, e1, List.length_singleton]; omega), List.length_append, e1, List.length_singleton, e2, List.getElem?_drop, show j + 1 + (m - (j + 1)) = m by omega]
    by_cases hm : m < s.size
    · rw [List.getElem?_range hm]
      simp only [Option.map_some, if_neg (Nat.ne_of_gt h)]
      rw [u8_bt s m (by omega), List.getElem?_eq_getElem (by omega)]
    · rw [List.getElem?_eq_none (by omega), List.getElem?_eq_none (by simp; omega)]
      rfl
theorem withB_size (s : ByteArray) (j k : Nat) (x : Bool) : (withB s j k x).size = s.size := by
  unfold withB
  rw [strOfNums_size]
  simp
theorem set_b {s : ByteArray} {j k : Nat} (hk : k < 8) (x : Bool) : 0 ≤ setB (bt s j) k x ∧ setB (bt s j) k x ≤ 255 := by
  obtain ⟨z, hz⟩ := byte_fin (bt_nonneg s j) (bt_le s j)
  rw [hz]
  exact set_all z ⟨k, hk⟩ x
theorem withB_bt (s : ByteArray) (j k : Nat) (x : Bool) (hk : k < 8) (m : Nat) (hm : m < s.size) : bt (withB s j k x) m = if m = j then setB (bt s j) k x else bt s m := by
  have e : ((List.range s.size).map fun m => if m = j then setB (bt s m) k x else bt s m).getD m 0 = if m = j then setB (bt s j) k x else bt s m := by
    rw [List.getD_eq_getElem?_getD, List.getElem?_map, List.getElem?_range hm]
    by_cases h : m = j
    · subst h; simp
    · simp [h]
  have hb : 0 ≤ (if m = j then setB (bt s j) k x else bt s m) ∧ (if m = j then setB (bt s j) k x else bt s m) ≤ 255 := by
    split
    · exact set_b hk x
    · exact ⟨bt_nonneg s m, bt_le s m⟩
  unfold withB
  rw [bt_strOfNums _ m (by rw [e]; exact hb.1) (by rw [e]; exact hb.2), e]
theorem room_with (s : ByteArray) (i l : Int) (x : Bool) : roomB (withS s i x) l = roomB s l := by
  unfold withS
  split
  · unfold roomB; rw [withB_size]
  · rfl
theorem with_size (s : ByteArray) (i : Int) (x : Bool) : (withS s i x).size = s.size := by
  unfold withS
  split
  · exact withB_size _ _ _ _
  · rfl
/-- A set with a number or without it, asked. -/
theorem has_with (s : ByteArray) (i l : Int) (x : Bool) (hi : roomB s i = true) : hasB (withS s i x) l = if l = i then x else hasB s l := by
  rcases ways s i with h | ⟨h, h2⟩ | ⟨j, k, hj, hk, h, hq, hr⟩
  · rw [room_neg h] at hi; cases hi
  · rw [room_far h2] at hi; cases hi
  rw [with_in x hj hq hr]
  rcases ways s l with h' | ⟨h', h2'⟩ | ⟨j', k', hj', hk', h', hq', hr'⟩
  · rw [has_no (room_neg h'), has_no (room_neg h'), if_neg (by omega)]
  · rw [has_no (room_far (by rw [withB_size]; exact h2')), has_no (room_far h2'), if_neg (by omega)]
  · rw [has_in (by rw [withB_size]; exact hj') hq' hr', has_in hj' hq' hr', withB_bt s j k x hk j' hj']
    obtain ⟨z, hz⟩ := byte_fin (bt_nonneg s j) (bt_le s j)
    have hs := set_bit z ⟨k, hk⟩ ⟨k', hk'⟩ x
    by_cases e : j' = j
    · subst e
      rw [if_pos rfl, hz]
      simp only at hs
      rw [hs]
      by_cases e2 : k' = k
      · subst e2
        rw [if_pos rfl, if_pos (by omega)]
      · rw [if_neg (by simpa using e2), if_neg (by omega)]
    · rw [if_neg e, if_neg (by omega)]
theorem list_bt {a b : ByteArray} (hz : a.size = b.size) (h : ∀ m, m < a.size → bt a m = bt b m) : a = b := by
  have la : a.data.toList.length = a.size := by simp
  have lb : b.data.toList.length = b.size := by simp
  apply ByteArray.ext
  apply Array.ext'
  apply List.ext_getElem
  · omega
  · intro m h1 h2
    rw [← u8_bt a m h1, ← u8_bt b m h2, h m (by omega)]
/-- Taken back, a set is what it was. -/
theorem with_back (s : ByteArray) (i : Int) (x : Bool) (hi : roomB s i = true) : withS (withS s i x) i (hasB s i) = s := by
  rcases ways s i with h | ⟨h, h2⟩ | ⟨j, k, hj, hk, h, hq, hr⟩
  · rw [room_neg h] at hi; cases hi
  · rw [room_far h2] at hi; cases hi
  rw [with_in x hj hq hr, has_in hj hq hr, with_in _ (by rw [withB_size]; exact hj) hq hr]
  refine list_bt (by rw [withB_size, withB_size]) fun m hm => ?_
  rw [withB_size, withB_size] at hm
  rw [withB_bt _ j k _ hk m (by rw [withB_size]; exact hm)]
  by_cases e : m = j
  · subst e
    rw [if_pos rfl, withB_bt s m k x hk m hm, if_pos rfl]
    obtain ⟨z, hz⟩ := byte_fin (bt_nonneg s m) (bt_le s m)
    rw [hz]
    exact set_back z ⟨k, hk⟩ x
  · rw [if_neg e, withB_bt s j k x hk m hm, if_neg e]
end Go.Proofs.YtkdhlofcdcnjgaaGreat
