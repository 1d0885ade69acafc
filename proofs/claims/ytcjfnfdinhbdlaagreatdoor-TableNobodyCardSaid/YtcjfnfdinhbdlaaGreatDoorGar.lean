import Derived.Test.YtcjfnfdinhbdlaaGreatDoorGai
import Derived.Test.YtcjfnfdinhbdlaaGreatDoorGao
import Derived.Test.YtcjfnfdinhbdlaaGreatDoorRows
import Derived.Test.YtcjfnfdinhbdlaaGreatDoorGaa
import Derived.Shelf.Strings.BuilderK
import Derived.RangeFuncNested
import Derived.RangeFuncBound
import Derived.RangeFuncCalls
import Derived.RangeFuncLeaves
import Derived.Shelf.Abstract
import Derived.Shelf.RegionOpen
import Derived.OwnWalkIn
import Derived.TacticsInMore
import Derived.LoopNIn
import Derived.LoopIn
import Derived.Deep.QuietTactic
import Derived.IntWalk
import Derived.RangeFuncBox
import Derived.OwnWalk
import Derived.Deep.AppendLies
import Derived.Test.YtcjfnfdinhbdlaaGreatDoorGap
import Derived.BigQuiet
import Derived.Lib.QuietBelow
import Derived.StillTailTactics
import Derived.Deep.RegionLaw
import Derived.Maps.OwnSet
import Derived.Maps.RangeWalk
import Derived.Test.YtcjfnfdinhbdlaaGreatDoorGan
import Derived.StringKeys
namespace Go.Proofs.YtcjfnfdinhbdlaaGreatDoor
set_option maxRecDepth 100000
open Go.ChangeShapes Go.WideShapes Go.ChangeAt Go.RowKit Go.PlainAid
def zeroes (n : Nat) : ByteArray := ofFn n fun _ => 0
theorem zeroes_size (n : Nat) : (zeroes n).size = n := ofFn_size _ _
theorem zeroes_bt (n k : Nat) : bt (zeroes n) k = 0 := by
  by_cases h : k < n
  · exact ofFn_bt n (fun _ => 0) h (Int.le_refl _) (by decide)
  · exact bt_end _ (by rw [zeroes_size]; omega)
theorem filled_cat {s : ByteArray} (h : s.size ≤ 256) : s ++ zeroes (256 - s.size) = filled s := by
  have e : (s ++ zeroes (256 - s.size)).size = 256 := by rw [ByteArray.size_append, zeroes_size]; omega
  refine text_ext (by rw [e, filled_size]) fun k hk => ?_
  rw [filled_bt s (by omega), bt_append]
  split
  · rfl
  · rw [zeroes_bt, bt_end s (by omega)]
end Go.Proofs.YtcjfnfdinhbdlaaGreatDoor
namespace Go.Proofs.YtcjfnfdinhbdlaaGreatDoor
set_option maxRecDepth 100000
open Go.ChangeShapes Go.WideShapes Go.ChangeAt Go.RowKit Go.PlainAid
def zero256 : Array Value := Array.replicate 256 (.int .u8 0)
theorem copy_fill {P : Program} (w : World) (dT sT ty elem t : TypeId) (s : ByteArray) (hu : P.underlying dT = some (.slice elem)) (hs : (P.info? elem).map (·.size) = some 1) (hsz : s.size ≤ 256) :
    (Builtin.copy_ #[dT, sT] ty #[.slice (some ⟨w.heap.size, 0, none⟩) 256 256, .string s]).run P (w.alloc (.cells zero256 t)) = .ok (goInt s.size) (w.alloc (.cells (textCells 256 s).toArray t)) := by
  have hlen : (Lib.byteCells s.data.toList).length = s.size := by rw [Lib.byteCells_length, ← Lib.size_eq]
  have hcl : ((Lib.byteCells s.data.toList).take (min s.size 256)).length = s.size := by rw [List.length_take, hlen]; omega
  have e256 : zero256.size = 256 := by simp [zero256]
  have hst := run_storeCells_at P w.heap.size 0 t ((Lib.byteCells s.data.toList).take (min s.size 256)) 0 _ _ (heap_alloc_new w (.cells zero256 t)) (by rw [hcl, e256]; omega) (fun v hv => Lib.byteCells_one _ v (List.mem_of_mem_take hv))
  have hst' := hst
  simp only [Nat.add_zero, hcl, setRow_alloc] at hst'
  have hrow : ∀ l : List Value, l = zero256.toList → (l.take 0 ++ (Lib.byteCells s.data.toList).take (min s.size 256) ++ l.drop (0 + s.size)).toArray = (textCells 256 s).toArray := by
    intro l hl
    have hg : ∀ i, l[i]? = if i < 256 then some (.int .u8 0) else none := fun i => by rw [hl, Array.getElem?_toList, zero256, Array.getElem?_replicate]
    apply congrArg List.toArray
    apply List.ext_getElem?
    intro i
    rw [List.take_zero, List.nil_append, Nat.zero_add]
    by_cases c : i < s.size
    · rw [List.getElem?_append_left (by rw [hcl]; exact c), List.getElem?_take_of_lt (by omega), textCells_get 256 s (by omega), bt_list]
      have hlt : i < s.data.toList.length := by simpa using c
      simp [Lib.byteCells, List.getElem?_eq_getElem hlt, List.getD_eq_getElem?_getD]
    · rw [List.getElem?_append_right (by rw [hcl]; omega), hcl, List.getElem?_drop, show s.size + (i - s.size) = i by omega, hg]
      by_cases c2 : i < 256
      · rw [if_pos c2, textCells_get 256 s c2, bt_end s (by omega)]
      · rw [if_neg c2, List.getElem?_eq_none (by rw [length_textCells]; omega)]
  cases hq : P.info? elem with
  | none => simp [hq] at hs
  | some i =>
    have hi : i.size = 1 := by simpa [hq] using hs
    simp [Builtin.copy_, run_underlying hu, Builtin.lenOf, Builtin.firstCells, sizeOf, typeInfo, hq]
    rw [hrow _ rfl] at hst'
    have hmin : min s.size 256 = s.size := Nat.min_eq_left hsz
    have hmin2 : s.size.min 256 = s.size := hmin
    rw [hmin] at hst'
    rw [hmin2]
    show ((Sem.run P (storeCells ⟨w.heap.size, 0, none⟩ ((Lib.byteCells s.data.toList).take s.size)) _).andThen fun a w' => Result.ok (goInt (s.size : Int)) w') = _
    rw [hst']
    rfl
end Go.Proofs.YtcjfnfdinhbdlaaGreatDoor
namespace Go.Proofs.YtcjfnfdinhbdlaaGreatDoor
set_option maxRecDepth 100000
open Go.ChangeShapes Go.WideShapes Go.ChangeAt Go.RowKit Go.PlainAid
attribute [local go_sem] Oper.semAt_some
theorem bt_ext (s : ByteArray) (a b j : Nat) (_hb : b ≤ s.size) (hj : j < b - a) : bt (s.extract a b) j = bt s (a + j) := by
  rw [bt_list, bt_list]
  have e : (s.extract a b).data.toList = (s.data.toList.drop a).take (b - a) := by
    simp only [ByteArray.data_extract, Array.toList_extract, List.extract_eq_take_drop]
  rw [e, List.getD_eq_getElem?_getD, List.getD_eq_getElem?_getD, List.getElem?_take_of_lt hj, List.getElem?_drop]
end Go.Proofs.YtcjfnfdinhbdlaaGreatDoor
namespace Go.Proofs.YtcjfnfdinhbdlaaGreatDoor
set_option maxRecDepth 100000
open Go.ChangeShapes Go.WideShapes Go.ChangeAt Go.RowKit Go.PlainAid
theorem bt_fix (n : Int) (z : Int) (h0 : 0 ≤ n) (h1 : n ≤ 18446744073709551615) (k : Nat) (hz0 : 0 ≤ z) (hz : z ≤ 8) : bt (fixS n z) k = if k < z.toNat then (l8 n).getD k 0 else 0 := by
  have e : fixS n z = strOfNums ((l8 n).take z.toNat) := by unfold fixS; rw [show (min (max z 0) 8) = z by omega]
  rw [e]
  have hx : ∀ x ∈ l8 n, 0 ≤ x ∧ x ≤ 255 := by
    intro x hx
    simp only [l8, List.mem_cons, List.not_mem_nil, or_false] at hx
    omega
  have eg : ((l8 n).take z.toNat).getD k 0 = if k < z.toNat then (l8 n).getD k 0 else 0 := by
    simp only [List.getD_eq_getElem?_getD]
    by_cases c : k < z.toNat
    · rw [List.getElem?_take_of_lt c, if_pos c]
    · rw [if_neg c, List.getElem?_eq_none (by rw [List.length_take]; omega)]
      rfl
  have hb : 0 ≤ ((l8 n).take z.toNat).getD k 0 ∧ ((l8 n).take z.toNat).getD k 0 ≤ 255 := by
    by_cases c : k < ((l8 n).take z.toNat).length
    · rw [List.getD_eq_getElem?_getD, List.getElem?_eq_getElem c]
      exact hx _ (List.mem_of_mem_take (List.getElem_mem c))
    · rw [List.getD_eq_getElem?_getD, List.getElem?_eq_none (by omega)]
      exact ⟨Int.le_refl _, by decide⟩
  rw [bt_strOfNums _ k hb.1 hb.2, eg]
theorem back_fix8 (n : Int) (h0 : 0 ≤ n) (h1 : n ≤ 18446744073709551615) : unfixZ (fixS n 8) = n := by
  have b := fun k => bt_fix n 8 h0 h1 k (by omega) (by omega)
  unfold unfixZ
  rw [b 0, b 1, b 2, b 3, b 4, b 5, b 6, b 7]
  have e : (8 : Int).toNat = 8 := rfl
  simp only [e, l8, n8, List.getD_cons_zero, List.getD_cons_succ, Nat.reduceLT, if_true]
  omega
theorem back_fix4 (n : Int) (h0 : 0 ≤ n) (h1 : n ≤ 18446744073709551615) : unfixZ (fixS n 4) = n % 4294967296 := by
  have b := fun k => bt_fix n 4 h0 h1 k (by omega) (by omega)
  unfold unfixZ
  rw [b 0, b 1, b 2, b 3, b 4, b 5, b 6, b 7]
  have e : (4 : Int).toNat = 4 := rfl
  simp only [e, l8, n8, List.getD_cons_zero, List.getD_cons_succ, Nat.reduceLT, if_true, if_false]
  omega
theorem notS_get (s : ByteArray) (i : Nat) (h : i < s.size) : ((List.range s.size).map fun j => 255 - bt s j).getD i 0 = 255 - bt s i := by
  simp [List.getD_eq_getElem?_getD, List.getElem?_map, List.getElem?_range h]
theorem headB_size (s u r p : Int) : (headB s u r p).size = 20 := by
  unfold headB
  rw [ByteArray.size_append, ByteArray.size_append, ByteArray.size_append, fixS8_size, fixS4_size, fixS4_size, fixS4_size]
theorem writeB_size (s u r p : Int) : (writeB s u r p).size = 40 := by
  unfold writeB
  rw [ByteArray.size_append, notS_size, headB_size]
theorem ext_left (a b : ByteArray) (i j : Nat) (h : j ≤ a.size) : (a ++ b).extract i j = a.extract i j := by
  refine text_ext (by rw [ByteArray.size_extract, ByteArray.size_extract, ByteArray.size_append]; omega) fun k hk => ?_
  rw [ByteArray.size_extract, ByteArray.size_append] at hk
  rw [bt_ext _ _ _ _ (by rw [ByteArray.size_append]; omega) (by omega), bt_ext _ _ _ _ h (by omega), bt_append, if_pos (by omega)]
theorem ext_right (a b : ByteArray) (i j : Nat) (h : a.size ≤ i) (hj : j ≤ a.size + b.size) : (a ++ b).extract i j = b.extract (i - a.size) (j - a.size) := by
  refine text_ext (by rw [ByteArray.size_extract, ByteArray.size_extract, ByteArray.size_append]; omega) fun k hk => ?_
  rw [ByteArray.size_extract, ByteArray.size_append] at hk
  rw [bt_ext _ _ _ _ (by rw [ByteArray.size_append]; omega) (by omega), bt_ext _ _ _ _ (by omega) (by omega), bt_append, if_neg (by omega)]
  congr 1
  omega
theorem ext_full (a : ByteArray) {n : Nat} (h : a.size = n) : a.extract 0 n = a := by
  refine text_ext (by rw [ByteArray.size_extract]; omega) fun k hk => ?_
  rw [ByteArray.size_extract] at hk
  rw [bt_ext _ _ _ _ (by omega) (by omega), Nat.zero_add]
def fieldsV (h : ByteArray) : Value := .agg #[.int .u64 (unfixZ (h.extract 0 8)), .int .i64 (unfixZ (h.extract 8 12)), .int .i64 (unfixZ (h.extract 12 16)), .int .i64 (unfixZ (h.extract 16 20))]
theorem fields_of (b h : ByteArray) (e : b.extract 0 20 = h) : fieldsV b = fieldsV h := by
  subst e
  unfold fieldsV
  rw [ext_ext b 0 20 0 8 (by omega), ext_ext b 0 20 8 12 (by omega), ext_ext b 0 20 12 16 (by omega), ext_ext b 0 20 16 20 (by omega)]
theorem head_back (s u r p : Int) (h0 : 0 ≤ s) (h1 : s ≤ 18446744073709551615) : fieldsV (headB s u r p) = .agg #[.int .u64 s, .int .i64 (uZ u % 4294967296), .int .i64 (uZ r % 4294967296), .int .i64 (uZ p % 4294967296)] := by
  have z8 := fixS8_size s
  have zu := fixS4_size (uZ u)
  have zr := fixS4_size (uZ r)
  have zp := fixS4_size (uZ p)
  have a1 : (fixS s 8 ++ fixS (uZ u) 4).size = 12 := by rw [ByteArray.size_append]; omega
  have a2 : (fixS s 8 ++ fixS (uZ u) 4 ++ fixS (uZ r) 4).size = 16 := by rw [ByteArray.size_append]; omega
  have e0 : (headB s u r p).extract 0 8 = fixS s 8 := by
    unfold headB
    rw [ext_left _ _ _ _ (by omega), ext_left _ _ _ _ (by omega), ext_left _ _ _ _ (by omega), ext_full _ z8]
  have e1 : (headB s u r p).extract 8 12 = fixS (uZ u) 4 := by
    unfold headB
    rw [ext_left _ _ _ _ (by omega), ext_left _ _ _ _ (by omega), ext_right _ _ _ _ (by omega) (by omega), z8, ext_full _ zu]
  have e2 : (headB s u r p).extract 12 16 = fixS (uZ r) 4 := by
    unfold headB
    rw [ext_left _ _ _ _ (by omega), ext_right _ _ _ _ (by omega) (by omega), a1, ext_full _ zr]
  have e3 : (headB s u r p).extract 16 20 = fixS (uZ p) 4 := by
    unfold headB
    rw [ext_right _ _ _ _ (by omega) (by omega), a2, ext_full _ zp]
  unfold fieldsV
  rw [e0, e1, e2, e3, back_fix8 s h0 h1, back_fix4 _ (uZ_b u).1 (uZ_b u).2, back_fix4 _ (uZ_b r).1 (uZ_b r).2, back_fix4 _ (uZ_b p).1 (uZ_b p).2]
theorem written_ok (h t : ByteArray) (hh : h.size = 20) : headOk (h ++ notS h ++ t) ∧ (h ++ notS h ++ t).extract 0 20 = h := by
  have zn : (notS h).size = 20 := by rw [notS_size, hh]
  have z2 : (h ++ notS h).size = 40 := by rw [ByteArray.size_append]; omega
  have e0 : (h ++ notS h ++ t).extract 0 20 = h := by rw [ext_left _ _ _ _ (by omega), ext_left _ _ _ _ (by omega), ext_full _ hh]
  refine ⟨⟨by rw [ByteArray.size_append]; omega, ?_⟩, e0⟩
  rw [e0, ext_left _ _ _ _ (by omega), ext_right _ _ _ _ (by omega) (by omega), hh, ext_full _ zn]
theorem rhead_val (b : ByteArray) (w : World) (h : headOk b) (hm : b.size ≤ maxLen) :
    Calls Tryz.prog 138 #[.string b] w fun e w' => e = .returned (.tuple #[fieldsV b, .bool true]) ∧ Below w.heap.size w w' := rhead_yes b w h hm
end Go.Proofs.YtcjfnfdinhbdlaaGreatDoor
namespace Go.Proofs.YtcjfnfdinhbdlaaGreatDoor
set_option maxRecDepth 100000
open Go.ChangeShapes Go.WideShapes Go.ChangeAt Go.RowKit Go.PlainAid
structure Hd where
  seq : Nat
  used : Nat
  room : Nat
  pages : Nat
structure Hd.Wf (h : Hd) : Prop where
  seq : h.seq ≤ 1000000
  used : h.used ≤ 2048
  room : h.room ≤ 2048
  pages : h.pages ≤ 1024
def storeO (p bm : Nat) (h : Hd) (dead : Bool) : Obj :=
  .cells #[.pointer (some ⟨p, 0, none⟩), .int .u64 h.seq, .int .i64 h.used, .int .i64 h.room, .int .i64 h.pages, .map (some bm), .bool dead] 144 (0, 0)
theorem store_cells {w : World} {q p bm : Nat} {h : Hd} {dead : Bool} (hq : w.heap[q]? = some (storeO p bm h dead)) :
    w.cell? ⟨q, 0, none⟩ = some (.pointer (some ⟨p, 0, none⟩)) ∧ w.cell? ⟨q, 1, none⟩ = some (.int .u64 h.seq) ∧ w.cell? ⟨q, 2, none⟩ = some (.int .i64 h.used) ∧ w.cell? ⟨q, 3, none⟩ = some (.int .i64 h.room) ∧
    w.cell? ⟨q, 4, none⟩ = some (.int .i64 h.pages) ∧ w.cell? ⟨q, 5, none⟩ = some (.map (some bm)) ∧ w.cell? ⟨q, 6, none⟩ = some (.bool dead) := by
  refine ⟨?_, ?_, ?_, ?_, ?_, ?_, ?_⟩ <;> rw [cell_of_row _ _ _ _ _ _ hq] <;> rfl
theorem store_thaw {w : World} {q p bm : Nat} {h : Hd} {dead : Bool} (hq : w.heap[q]? = some (storeO p bm h dead)) (i : Nat) : w.frozen? ⟨q, i, none⟩ = false := frozen_of_row _ _ _ _ _ hq
theorem slen_any (w : World) (q p bm : Nat) (h : Hd) (dead : Bool) (hq : w.heap[q]? = some (storeO p bm h dead)) :
    Calls Tryz.prog 54 #[.pointer (some ⟨q, 0, none⟩)] w fun e w' => e = .returned (.int .i64 h.pages) ∧ w = w' := by
  obtain ⟨c0, c1, c2, c3, c4, c5, c6⟩ := store_cells hq
  clear hq
  go_enter Tryz.func54, Tryz.ntmps54
  go_wp2
  go_returns
  exact ⟨rfl, rfl⟩
theorem place_any (w : World) (q p bm : Nat) (h : Hd) (dead : Bool) (k : Int) (hq : w.heap[q]? = some (storeO p bm h dead)) (hr : h.room ≤ 2048) (hk0 : 0 ≤ k) (hk : k ≤ 2048) :
    Calls Tryz.prog 143 #[.pointer (some ⟨q, 0, none⟩), .int .i64 k] w fun e w' => e = .returned (.int .i64 ((2 + h.room : Nat) + k : Int)) ∧ w = w' := by
  obtain ⟨c0, c1, c2, c3, c4, c5, c6⟩ := store_cells hq
  clear hq
  go_enter Tryz.func143, Tryz.ntmps143
  go_wp2
  go_returns
  exact ⟨ret_i (by omega), rfl⟩
def sreadyE (dead : Bool) : Int := if dead = true then 11 else 0
theorem sready_any (w : World) (q p bm : Nat) (h : Hd) (dead : Bool) (hq : w.heap[q]? = some (storeO p bm h dead)) :
    Calls Tryz.prog 151 #[.pointer (some ⟨q, 0, none⟩)] w fun e w' => e = .returned (.int .i64 (sreadyE dead)) ∧ w = w' := by
  obtain ⟨c0, c1, c2, c3, c4, c5, c6⟩ := store_cells hq
  clear hq
  unfold sreadyE
  cases dead
  all_goals
    go_enter Tryz.func151, Tryz.ntmps151
    go_wp2
    go_returns
    exact ⟨rfl, rfl⟩
def sreachE (h : Hd) (dead : Bool) (k : Int) : Int := if dead = true then 11 else if k < 0 ∨ h.pages ≤ k then 10 else 0
theorem sreach_any (w : World) (q p bm : Nat) (h : Hd) (dead : Bool) (k : Int) (hq : w.heap[q]? = some (storeO p bm h dead)) (h0 : -9223372036854775808 ≤ k) (h1 : k ≤ 9223372036854775807) :
    Calls Tryz.prog 142 #[.pointer (some ⟨q, 0, none⟩), .int .i64 k] w fun e w' => e = .returned (.int .i64 (sreachE h dead k)) ∧ w = w' := by
  have HQ := Lib.hid hq
  clear hq
  unfold sreachE
  cases dead
  · rw [if_neg (by decide)]
    rcases Int.lt_or_le k 0 with a | a
    · have hb : decide (k < 0) = true := by simpa using a
      rw [if_pos (.inl a)]
      go_enter Tryz.func142, Tryz.ntmps142
      go_wp2_with fail
      refine (sready_any _ q p bm h false HQ.out).mono ?_
      rintro e _ ⟨rfl, rfl⟩
      rw [show sreadyE false = 0 from rfl]
      go_wp2
      go_returns
      exact ⟨rfl, rfl⟩
    · have hb : decide (k < 0) = false := by simpa using a
      rcases Int.lt_or_le k h.pages with b | b
      · have hb2 : decide ((h.pages : Int) ≤ k) = false := by simpa using b
        rw [if_neg (by omega)]
        go_enter Tryz.func142, Tryz.ntmps142
        go_wp2_with fail
        refine (sready_any _ q p bm h false HQ.out).mono ?_
        rintro e _ ⟨rfl, rfl⟩
        rw [show sreadyE false = 0 from rfl]
        go_wp2_with fail
        refine (slen_any _ q p bm h false HQ.out).mono ?_
        rintro e _ ⟨rfl, rfl⟩
        go_wp2
        go_returns
        exact ⟨rfl, rfl⟩
      · have hb2 : decide ((h.pages : Int) ≤ k) = true := by simpa using b
        rw [if_pos (.inr b)]
        go_enter Tryz.func142, Tryz.ntmps142
        go_wp2_with fail
        refine (sready_any _ q p bm h false HQ.out).mono ?_
        rintro e _ ⟨rfl, rfl⟩
        rw [show sreadyE false = 0 from rfl]
        go_wp2_with fail
        refine (slen_any _ q p bm h false HQ.out).mono ?_
        rintro e _ ⟨rfl, rfl⟩
        go_wp2
        go_returns
        exact ⟨rfl, rfl⟩
  · rw [if_pos rfl]
    go_enter Tryz.func142, Tryz.ntmps142
    go_wp2_with fail
    refine (sready_any _ q p bm h true HQ.out).mono ?_
    rintro e _ ⟨rfl, rfl⟩
    rw [show sreadyE true = 11 from rfl]
    go_wp2
    go_returns
    exact ⟨rfl, rfl⟩
end Go.Proofs.YtcjfnfdinhbdlaaGreatDoor
namespace Go.Proofs.YtcjfnfdinhbdlaaGreatDoor
set_option maxRecDepth 100000
open Go.ChangeShapes Go.WideShapes Go.ChangeAt Go.RowKit Go.PlainAid
inductive DOp where
  | wr (k : Int) (s : ByteArray)
  | fl
def D.op (d : D) : DOp → D
  | .wr k s => d.write k s
  | .fl => d.flush
def opE (d : D) : DOp → Int
  | .wr k s => writeE d k s
  | .fl => flushE d
def D.ops (d : D) : List DOp → D
  | [] => d
  | o :: l => if opE d o = 0 then (d.op o).ops l else d.op o
def opsE (d : D) : List DOp → Int
  | [] => 0
  | o :: l => if opE d o = 0 then opsE (d.op o) l else opE d o
theorem ops_cons_ok {d : D} {o : DOp} (l : List DOp) (h : opE d o = 0) : d.ops (o :: l) = (d.op o).ops l ∧ opsE d (o :: l) = opsE (d.op o) l := by simp [D.ops, opsE, h]
theorem ops_cons_err {d : D} {o : DOp} (l : List DOp) (h : opE d o ≠ 0) : d.ops (o :: l) = d.op o ∧ opsE d (o :: l) = opE d o := by simp [D.ops, opsE, h]
theorem ops_one (d : D) (o : DOp) : d.ops [o] = d.op o ∧ opsE d [o] = opE d o := by
  by_cases h : opE d o = 0
  · rw [(ops_cons_ok [] h).1, (ops_cons_ok [] h).2, h]; exact ⟨rfl, rfl⟩
  · exact ops_cons_err [] h
theorem op_n (d : D) (o : DOp) : (d.op o).n = d.n := by
  cases o with
  | wr k s => simp only [D.op, D.write]; split <;> (try split) <;> (try split) <;> first | rfl | exact (spent_same d).1
  | fl => simp only [D.op, D.flush, D.flushed]; split <;> (try split) <;> first | rfl | exact (spent_same d).1
theorem op_late (d : D) (o : DOp) : (d.op o).late.length ≤ d.late.length + 1 := by
  have hs := (spent_same d).2.2
  cases o with
  | wr k s =>
    simp only [D.op, D.write]
    split <;> (try split) <;> (try split) <;> simp [hs]
  | fl =>
    simp only [D.op, D.flush, D.flushed]
    split <;> (try split) <;> simp [hs]
def Hd.text (h : Hd) : ByteArray := writeB h.seq h.used h.room h.pages
theorem Hd.text_size (h : Hd) : h.text.size = 40 := writeB_size _ _ _ _
def putOps (h : Hd) : List DOp := [.wr ((h.seq % 2 : Nat) : Int) h.text, .fl]
theorem putOps_ok {d : D} {h : Hd} (e : writeE d ((h.seq % 2 : Nat) : Int) h.text = 0) : d.ops (putOps h) = (d.write ((h.seq % 2 : Nat) : Int) h.text).flush ∧ opsE d (putOps h) = flushE (d.write ((h.seq % 2 : Nat) : Int) h.text) := by
  have h1 := ops_cons_ok (d := d) (o := .wr ((h.seq % 2 : Nat) : Int) h.text) [.fl] e
  have h2 := ops_one (d.write ((h.seq % 2 : Nat) : Int) h.text) .fl
  exact ⟨h1.1.trans h2.1, h1.2.trans h2.2⟩
theorem putOps_err {d : D} {h : Hd} (e : writeE d ((h.seq % 2 : Nat) : Int) h.text ≠ 0) : d.ops (putOps h) = d.write ((h.seq % 2 : Nat) : Int) h.text ∧ opsE d (putOps h) = writeE d ((h.seq % 2 : Nat) : Int) h.text :=
  ops_cons_err (d := d) (o := .wr ((h.seq % 2 : Nat) : Int) h.text) [.fl] e
end Go.Proofs.YtcjfnfdinhbdlaaGreatDoor
namespace Go.Proofs.YtcjfnfdinhbdlaaGreatDoor
set_option maxRecDepth 100000
open Go.ChangeShapes Go.WideShapes Go.ChangeAt Go.RowKit Go.PlainAid
open Go.Sort (grow)
def headV (h : Hd) : Value := .agg #[.int .u64 h.seq, .int .i64 h.used, .int .i64 h.room, .int .i64 h.pages]
set_option maxHeartbeats 1000000 in
theorem put_any {w0 w : World} {p : Nat} {d : D} {L : List (Nat × Obj)} (H : OwnL w0 p d L w) (h : Hd) (hw : h.Wf) (hl : d.late.length < 1000000) :
    Calls Tryz.prog 82 #[.pointer (some ⟨p, 0, none⟩), headV h] w fun e w' => e = .returned (.int .i64 (opsE d (putOps h))) ∧ OwnL w0 p (d.ops (putOps h)) L w' := by
  unfold headV
  obtain ⟨h1, h2, h3, h4⟩ := hw
  have hb0 : Below w.heap.size w (w.alloc (.cells #[.int .u64 h.seq, .int .i64 h.used, .int .i64 h.room, .int .i64 h.pages] 139)) := by go_grown
  have hq := heap_alloc_new w (.cells #[.int .u64 h.seq, .int .i64 h.used, .int .i64 h.room, .int .i64 h.pages] 139)
  have H1 := H.on hb0
  have hlt : w.heap.size < (w.alloc (.cells #[.int .u64 h.seq, .int .i64 h.used, .int .i64 h.room, .int .i64 h.pages] 139)).heap.size := by simp
  go_enter Tryz.func82, Tryz.ntmps82
  go_wp2_with fail
  generalize w.alloc (.cells #[.int .u64 h.seq, .int .i64 h.used, .int .i64 h.room, .int .i64 h.pages] 139) = W at *
  obtain ⟨c0, c1, c2, c3, _⟩ := cells4' hq
  have HW := Lib.hid (fun w => whead_any h.seq h.used h.room h.pages w (by omega) (by omega))
  have HO := Lib.hid (fun (w1 : World) (b : Below W.heap.size W w1) => H1.on b)
  have hpu := putOps_ok (d := d) (h := h)
  have hpe := putOps_err (d := d) (h := h)
  obtain ⟨m, hm⟩ : ∃ m : Nat, m = h.seq % 2 := ⟨_, rfl⟩
  have hm2 : m < 2 := by omega
  have e1 : (h.seq : Int).tmod 2 = (m : Int) := by rw [Int.tmod_eq_emod_of_nonneg (by omega)]; omega
  have e2 : IntKind.i64.wrap (m : Int) = (m : Int) := IntWalk.i64_in _ (by omega)
  rw [← hm] at hpu hpe
  have HPU := Lib.hid hpu
  have HPE := Lib.hid hpe
  have HK := Lib.hid (fun (w1 : World) (b : Below W.heap.size W w1) => q_write (H1.on b) (m : Int) h.text (by omega) (by omega) (by omega))
  have HKF := Lib.hid (fun (w1 : World) (d' : D) (hh : OwnL w0 p d' L w1) (hll : d'.late.length ≤ d.late.length + 1) => q_flush hh (by omega))
  have HLL := Lib.hid (op_late d (.wr (m : Int) h.text))
  have ht : writeB h.seq h.used h.room h.pages = h.text := rfl
  rw [ht] at HW
  clear hb0 H H1 hpu hpe hm ht h1 h2 h3 h4 hl
  go_region_law (first
    | (go_simp; (with_reducible refine (HW.out _).mono ?_); rintro e w1 ⟨rfl, hb1⟩; have hb1' : Below W.heap.size W w1 := (show Below W.heap.size W W.drew by go_grown).on hb1; have y0 := (hb1'.cell (p := ⟨w.heap.size, 0, none⟩) hlt).trans c0; have HB1 := Lib.hid hb1'; clear hb1 hb1')
    | (go_simp; (with_reducible refine (HK.out _ HB1.out).mono ?_); rintro e w2 ⟨rfl, H2⟩; have HH2 := Lib.hid H2; clear H2)
    | fail)
  all_goals
    clear e1 e2
    by_cases z : writeE d (m : Int) h.text = 0
    · have HP := Lib.hid (HPU.out z)
      rw [z]
      clear z
      go_wp2_with fail
      refine (HKF.out _ _ HH2.out HLL.out).mono ?_
      rintro e w3 ⟨rfl, H3⟩
      have HH3 := Lib.hid H3
      clear H3
      go_wp2
      go_returns
      exact ⟨ret_i HP.out.2.symm, by rw [HP.out.1]; exact HH3.out⟩
    · have HP := Lib.hid (HPE.out z)
      have hz : (writeE d (m : Int) h.text == 0) = false := by simpa using z
      clear z
      go_wp2
      go_returns
      exact ⟨ret_i HP.out.2.symm, by rw [HP.out.1]; exact HH2.out⟩
structure StR (w0 : World) (p q bm : Nat) (d : D) (h : Hd) (dead : Bool) (R : List (Nat × Obj)) (w : World) : Prop where
  own : OwnL w0 p d ((q, storeO p bm h dead) :: R) w
  lo : w0.heap.size ≤ q
  ne : ∀ x ∈ R, x.1 ≠ q
section
variable {w0 w w' : World} {p q bm : Nat} {d : D} {h : Hd} {dead : Bool} {R : List (Nat × Obj)}
theorem StR.on (H : StR w0 p q bm d h dead R w) (b : Below w.heap.size w w') : StR w0 p q bm d h dead R w' := ⟨H.own.on b, H.lo, H.ne⟩
theorem StR.at (H : StR w0 p q bm d h dead R w) : w.heap[q]? = some (storeO p bm h dead) := H.own.mem (List.mem_cons_self)
theorem StR.mem (H : StR w0 p q bm d h dead R w) {x : Nat × Obj} (hx : x ∈ R) : w.heap[x.1]? = some x.2 := H.own.mem (List.mem_cons_of_mem _ hx)
theorem StR.set (H : StR w0 p q bm d h dead R w) (i : Nat) (v : Value) (h' : Hd) (dead' : Bool)
    (e : (#[.pointer (some ⟨p, 0, none⟩), .int .u64 h.seq, .int .i64 h.used, .int .i64 h.room, .int .i64 h.pages, .map (some bm), .bool dead] : Array Value).setIfInBounds i v = #[.pointer (some ⟨p, 0, none⟩), .int .u64 h'.seq, .int .i64 h'.used, .int .i64 h'.room, .int .i64 h'.pages, .map (some bm), .bool dead']) :
    StR w0 p q bm d h' dead' R (w.setCell ⟨q, i, none⟩ v) :=
  ⟨H.own.set (q := q) (List.mem_cons_self) H.lo _ (fun x hx => by
    rcases List.mem_cons.1 hx with rfl | hx
    · left; rw [e]; rfl
    · exact .inr ⟨List.mem_cons_of_mem _ hx, H.ne x hx⟩), H.lo, H.ne⟩
end
end Go.Proofs.YtcjfnfdinhbdlaaGreatDoor
namespace Go.Proofs.YtcjfnfdinhbdlaaGreatDoor
set_option maxRecDepth 100000
open Go.ChangeShapes Go.WideShapes Go.ChangeAt Go.RowKit Go.PlainAid
open Go.Sort (grow)
theorem OwnL.add {w0 w w1 : World} {p g : Nat} {d : D} {L : List (Nat × Obj)} {o : Obj} (h : OwnL w0 p d L w) (b : Below w.heap.size w w1) (hg : w.heap.size ≤ g) (ho : w1.heap[g]? = some o) : OwnL w0 p d ((g, o) :: L) w1 := by
  have h1 := h.on b
  obtain ⟨F, hp, hd, hb, hown, hL⟩ := h
  refine ⟨F, hp, DiskAt.below hd b, hb.on b, hown, fun x hx => ?_⟩
  rcases List.mem_cons.1 hx with rfl | hx
  · refine ⟨fun c => ?_, ho⟩
    have := DiskAt.own_lt hd c
    exact Nat.lt_irrefl _ (Nat.lt_of_lt_of_le this hg)
  · exact ⟨(hL x hx).1, (b.block x.1 (heap_lt (hL x hx).2)).trans (hL x hx).2⟩
theorem StR.add {w0 w w1 : World} {p q bm g : Nat} {d : D} {h : Hd} {dead : Bool} {R : List (Nat × Obj)} {o : Obj} (H : StR w0 p q bm d h dead R w) (b : Below w.heap.size w w1) (hg : w.heap.size ≤ g) (ho : w1.heap[g]? = some o) :
    StR w0 p q bm d h dead ((g, o) :: R) w1 := by
  have hq := heap_lt H.at
  refine ⟨(H.own.add b hg ho).sub _ fun x hx => ?_, H.lo, fun x hx => ?_⟩
  · simp only [List.mem_cons] at hx ⊢
    rcases hx with h | h | h <;> simp [h]
  · rcases List.mem_cons.1 hx with rfl | hx
    · show g ≠ q; omega
    · exact H.ne x hx
theorem StR.sub {w0 w : World} {p q bm : Nat} {d : D} {h : Hd} {dead : Bool} {R : List (Nat × Obj)} (H : StR w0 p q bm d h dead R w) (R' : List (Nat × Obj)) (hs : ∀ x ∈ R', x ∈ R) : StR w0 p q bm d h dead R' w := by
  refine ⟨H.own.sub _ fun x hx => ?_, H.lo, fun x hx => H.ne x (hs x hx)⟩
  simp only [List.mem_cons] at hx ⊢
  rcases hx with h | h
  · exact .inl h
  · exact .inr (hs x h)
end Go.Proofs.YtcjfnfdinhbdlaaGreatDoor
namespace Go.Proofs.YtcjfnfdinhbdlaaGreatDoor
set_option maxRecDepth 100000
open Go.ChangeShapes Go.WideShapes Go.ChangeAt Go.RowKit Go.PlainAid
open Go.Sort (grow)
end Go.Proofs.YtcjfnfdinhbdlaaGreatDoor
namespace Go.Proofs.YtcjfnfdinhbdlaaGreatDoor
set_option maxRecDepth 100000
open Go.ChangeShapes Go.WideShapes Go.ChangeAt Go.RowKit Go.PlainAid Go.ChangeMaps Go.MapKept
open Go.WideElems (rd rg pl)
open Go.Maps (Keyed)
def pgV (s : ByteArray) : Value := .agg (textCells 256 s).toArray
theorem pgV_inj {a b : ByteArray} (ha : a.size = 256) (hb : b.size = 256) (h : pgV a = pgV b) : a = b := by
  refine text_ext (ha.trans hb.symm) fun k hk => ?_
  unfold pgV at h
  have h2 : textCells 256 a = textCells 256 b := by simpa using h
  have h3 : (textCells 256 a)[k]? = (textCells 256 b)[k]? := by rw [h2]
  rw [textCells_get 256 a (by omega), textCells_get 256 b (by omega)] at h3
  simpa using h3
open Classical in
/-- How a page in the map reads. -/
noncomputable def pgR (v : Value) : Option (DataW Unit × List MemPlace) :=
  if h : ∃ s : ByteArray, s.size = 256 ∧ v = pgV s then some (.lit (.string h.choose.data.toList), []) else none
theorem pgR_mk {s : ByteArray} (hs : s.size = 256) : pgR (pgV s) = some (.lit (.string s.data.toList), []) := by
  have hex : ∃ t : ByteArray, t.size = 256 ∧ pgV s = pgV t := ⟨s, hs, rfl⟩
  unfold pgR
  rw [dif_pos hex]
  have := hex.choose_spec
  rw [← pgV_inj hs this.1 this.2]
theorem pgR_inv {v : Value} {y : DataW Unit × List MemPlace} (h : pgR v = some y) : ∃ s : ByteArray, s.size = 256 ∧ v = pgV s ∧ y = (.lit (.string s.data.toList), []) := by
  unfold pgR at h
  split at h
  · rename_i hex
    have hc := hex.choose_spec
    refine ⟨_, hc.1, hc.2, ?_⟩
    simpa using h.symm
  · cases h
theorem list_text {a b : ByteArray} (h : a.data.toList = b.data.toList) : a = b := ByteArray.ext (Array.toList_inj.1 h)
noncomputable def Dm (es : Array MapEntry) : DataW Unit := .map ((es.toList.map (rg Tryz.prog 3 pgR)).foldr DataW.insert [])
theorem keyed : Keyed Tryz.prog 3 := Maps.int_keyed Tryz.underlying3
structure TxIs (es : Array MapEntry) (clock c : Nat) (T : Int → Option ByteArray) : Prop where
  fit : Go.WideElems.Fit Tryz.prog 3 pgR es clock
  size : es.size ≤ c
  has : ∀ k, Maps.has (Dm es) (.int .i64 k) = (T k).isSome
  get : ∀ k s, T k = some s → s.size = 256 ∧ ∀ zd, (Dm es).atKey (.int .i64 k) zd = .lit (.string s.data.toList)
def noPages : Int → Option ByteArray := fun _ => none
theorem tx_empty (clock c : Nat) : TxIs #[] clock c noPages := ⟨⟨by simp, stamped_empty clock, by simp⟩, Nat.zero_le _, fun k => rfl, fun k s h => (by cases h)⟩
def put (T : Int → Option ByteArray) (k : Int) (s : ByteArray) : Int → Option ByteArray := fun i => if i = k then some s else T i
theorem key_of {k : Int} (h0 : -9223372036854775808 ≤ k) (h1 : k ≤ 9223372036854775807) : keyOf Tryz.prog 3 (.int .i64 k) = some (.int .i64 k) :=
  Maps.keyOf_int_mk Tryz.underlying3 (WalkArith.wf_i64 ⟨h0, h1⟩)
theorem zero_page (w : World) : (zeroValue 207).run Tryz.prog w = .ok (.agg zero256) w := (zero_of_info (P := Tryz.prog) (t := 207) (v := .agg zero256) (n := 256) (by kernel_rfl)).1 w
theorem TxIs.look {es : Array MapEntry} {clock c : Nat} {T : Int → Option ByteArray} (h : TxIs es clock c T) {w : World} {b : Nat} (hb : w.heap[b]? = some (.map es clock)) (k : Int) (h0 : -9223372036854775808 ≤ k) (h1 : k ≤ 9223372036854775807) :
    (T k = none ∧ ∀ ok, (Instr.lookup 142 (.map (some b)) (.int .i64 k) ok).run Tryz.prog w = .ok (if ok then .tuple #[.agg zero256, .bool false] else .agg zero256) w) ∨
    ∃ s, T k = some s ∧ s.size = 256 ∧ ∀ ok, (Instr.lookup 142 (.map (some b)) (.int .i64 k) ok).run Tryz.prog w = .ok (if ok then .tuple #[pgV s, .bool true] else pgV s) w := by
  have hk := key_of h0 h1
  cases hT : T k with
  | none =>
    left
    refine ⟨rfl, fun ok => ?_⟩
    rcases Maps.fit_look ok keyed Tryz.underlying142 (zero_page w) hb h.fit hk with ⟨hrun, _, _⟩ | ⟨e0, y, _, _, _, _, hat, _⟩
    · exact hrun
    · have h1 : Maps.has (Dm es) (.int .i64 k) = true := Maps.has_true_of_atKey hat
      rw [h.has k, hT] at h1
      cases h1
  | some s =>
    right
    obtain ⟨hs, hget⟩ := h.get k s hT
    refine ⟨s, rfl, hs, fun ok => ?_⟩
    rcases Maps.fit_look ok keyed Tryz.underlying142 (zero_page w) hb h.fit hk with ⟨_, _, hat⟩ | ⟨e0, y, _, _, hrun, hR, hat, _⟩
    · have h1 : Maps.has (Dm es) (.int .i64 k) = false := Maps.has_false_of_atKey hat
      rw [h.has k, hT] at h1
      cases h1
    · obtain ⟨t, ht, hv, rfl⟩ := pgR_inv hR
      have e := (hget .nil).symm.trans (hat .nil)
      have : s = t := list_text (by simpa using e)
      subst this
      rw [hv] at hrun
      exact hrun
theorem TxIs.put {es : Array MapEntry} {clock c : Nat} {T : Int → Option ByteArray} (h : TxIs es clock c T) {w : World} {b : Nat} (hb : w.heap[b]? = some (.map es clock)) (hc : c < 1000000) (k : Int) (h0 : -9223372036854775808 ≤ k) (h1 : k ≤ 9223372036854775807) (s : ByteArray) (hs : s.size = 256) :
    ∃ es' clock', (Instr.mapUpdate 142 (.map (some b)) (.int .i64 k) (pgV s)).run Tryz.prog w = .ok () (setBlock w b (.map es' clock')) ∧ TxIs es' clock' (c + 1) (put T k s) := by
  have hk := key_of h0 h1
  have hsz := h.size
  obtain ⟨es', clock', hrun, F', hput, _⟩ := Maps.fit_store (R' := pgR) keyed Tryz.underlying142 hb h.fit (by unfold maxLen; omega) (fun _ _ _ _ hz => hz) hk (pgR_mk hs)
  have hD : Dm es' = (Dm es).put (.int .i64 k) (.lit (.string s.data.toList)) := by unfold Dm; rw [hput]; rfl
  have hM : Maps.IsMap (Dm es) := ⟨_, rfl⟩
  have hKL : WideAt.IsKeyLit (.int .i64 k) := by unfold WideAt.IsKeyLit; trivial
  refine ⟨es', clock', hrun, F', ?_, fun j => ?_, fun j t hj => ?_⟩
  · have e1 : es'.size = ((es'.toList.map (rg Tryz.prog 3 pgR)).foldr DataW.insert []).length := by rw [length_sorted]; simp
    have e2 : es.size = ((es.toList.map (rg Tryz.prog 3 pgR)).foldr DataW.insert []).length := by rw [length_sorted]; simp
    rw [e1, hput]
    unfold putKey
    rw [length_insert]
    have e3 := List.length_filter_le (notKey (.int .i64 k)) ((es.toList.map (rg Tryz.prog 3 pgR)).foldr DataW.insert [])
    omega
  · rw [hD]
    by_cases e : j = k
    · subst e
      rw [Maps.has_put_same hM hKL]; simp [Go.Proofs.YtcjfnfdinhbdlaaGreatDoor.put]
    · rw [Maps.has_put_other (by intro c; exact e (by simpa using c)), h.has j]; simp [Go.Proofs.YtcjfnfdinhbdlaaGreatDoor.put, e]
  · rw [hD]
    by_cases e : j = k
    · subst e
      obtain rfl : s = t := by simpa [Go.Proofs.YtcjfnfdinhbdlaaGreatDoor.put] using hj
      exact ⟨hs, fun zd => Maps.atKey_put_same hM hKL _ _⟩
    · have hj2 : T j = some t := by simpa [Go.Proofs.YtcjfnfdinhbdlaaGreatDoor.put, e] using hj
      obtain ⟨a, b⟩ := h.get j t hj2
      exact ⟨a, fun zd => by rw [Maps.atKey_put_other (by intro c; exact e (by simpa using c)), b]⟩
theorem OwnL.block {w0 w : World} {p b : Nat} {d : D} {L : List (Nat × Obj)} {es : Array MapEntry} {clock : Nat} (h : OwnL w0 p d L w) (hb : (b, Obj.map es clock) ∈ L) (h0 : w0.heap.size ≤ b) (o' : Obj) (L' : List (Nat × Obj)) (hL' : ∀ x ∈ L', x = (b, o') ∨ (x ∈ L ∧ x.1 ≠ b)) :
    OwnL w0 p d L' (setBlock w b o') := by
  obtain ⟨F, hp, hd, hbl, ho, hL⟩ := h
  obtain ⟨hn, hbb⟩ := hL _ hb
  have hsz : (setBlock w b o').heap.size = w.heap.size := by simp [setBlock]
  have hoth : ∀ k, k ≠ b → (setBlock w b o').heap[k]? = w.heap[k]? := fun k hk => heap_setBlock_other (show w.heap[b]? = some (.map es clock) from hbb) _ hk
  refine ⟨F, hp, DiskAt.keep hd (by omega) (fun k hk => hoth k (fun e => by subst e; exact hn hk)), ?_, ho, fun x hx => ?_⟩
  · exact ⟨hbl.os, hbl.tape, hbl.output, by rw [hsz]; exact hbl.size, fun k hk => (hoth k (by omega)).trans (hbl.block k hk)⟩
  · rcases hL' x hx with rfl | ⟨h1, h2⟩
    · exact ⟨hn, heap_setBlock_same (show w.heap[b]? = some (.map es clock) from hbb) _⟩
    · exact ⟨(hL x h1).1, (hoth _ h2).trans (hL x h1).2⟩
structure StT (w0 : World) (p q bm c : Nat) (d : D) (h : Hd) (T : Int → Option ByteArray) (dead : Bool) (R : List (Nat × Obj)) (w : World) : Prop where
  ex : ∃ es clock, TxIs es clock c T ∧ StR w0 p q bm d h dead ((bm, .map es clock) :: R) w
  lo : w0.heap.size ≤ bm
  ne : ∀ x ∈ R, x.1 ≠ bm
section
variable {w0 w w' : World} {p q bm c : Nat} {d : D} {h : Hd} {T : Int → Option ByteArray} {dead : Bool} {R : List (Nat × Obj)}
theorem StT.on (H : StT w0 p q bm c d h T dead R w) (b : Below w.heap.size w w') : StT w0 p q bm c d h T dead R w' := by
  obtain ⟨⟨es, clock, hT, hS⟩, h1, h2⟩ := H
  exact ⟨⟨es, clock, hT, hS.on b⟩, h1, h2⟩
theorem StT.at (H : StT w0 p q bm c d h T dead R w) : w.heap[q]? = some (storeO p bm h dead) := by
  obtain ⟨⟨es, clock, hT, hS⟩, h1, h2⟩ := H
  exact hS.at
theorem StT.own (H : StT w0 p q bm c d h T dead R w) : OwnL w0 p d R w := by
  obtain ⟨⟨es, clock, hT, hS⟩, h1, h2⟩ := H
  exact hS.own.sub R fun x hx => List.mem_cons_of_mem _ (List.mem_cons_of_mem _ hx)
theorem StT.mem (H : StT w0 p q bm c d h T dead R w) {x : Nat × Obj} (hx : x ∈ R) : w.heap[x.1]? = some x.2 := H.own.mem hx
theorem StT.below (H : StT w0 p q bm c d h T dead R w) : Below w0.heap.size w0 w := H.own.below
theorem StT.sub (H : StT w0 p q bm c d h T dead R w) (R' : List (Nat × Obj)) (hs : ∀ x ∈ R', x ∈ R) : StT w0 p q bm c d h T dead R' w := by
  obtain ⟨⟨es, clock, hT, hS⟩, h1, h2⟩ := H
  refine ⟨⟨es, clock, hT, hS.sub _ fun x hx => ?_⟩, h1, fun x hx => h2 x (hs x hx)⟩
  rcases List.mem_cons.1 hx with rfl | hx
  · exact List.mem_cons_self
  · exact List.mem_cons_of_mem _ (hs x hx)
theorem StT.add {g : Nat} {o : Obj} (H : StT w0 p q bm c d h T dead R w) (b : Below w.heap.size w w') (hg : w.heap.size ≤ g) (ho : w'.heap[g]? = some o) : StT w0 p q bm c d h T dead ((g, o) :: R) w' := by
  obtain ⟨⟨es, clock, hT, hS⟩, h1, h2⟩ := H
  have hbm := heap_lt (hS.mem (x := (bm, .map es clock)) List.mem_cons_self)
  refine ⟨⟨es, clock, hT, (hS.add b hg ho).sub _ fun x hx => ?_⟩, h1, fun x hx => ?_⟩
  · simp only [List.mem_cons] at hx ⊢
    rcases hx with h | h | h <;> simp [h]
  · rcases List.mem_cons.1 hx with rfl | hx
    · show g ≠ bm; omega
    · exact h2 x hx
end
end Go.Proofs.YtcjfnfdinhbdlaaGreatDoor
namespace Go.Proofs.YtcjfnfdinhbdlaaGreatDoor
set_option maxRecDepth 100000
open Go.ChangeShapes Go.WideShapes Go.ChangeAt Go.RowKit Go.PlainAid Go.MapKept Go.ChangeMaps
section
variable {K V : Type}
theorem use_perm {L : List (Ent K V)} {i : Nat} : (useL i L).Perm L := by
  by_cases h : i < L.length
  · rw [useL_some (List.getElem?_eq_getElem h)]
    rw [erase_cut]
    refine (List.perm_middle (l₁ := L.take i) (a := L[i]) (l₂ := L.drop (i + 1))).symm.trans ?_
    rw [← List.drop_eq_getElem_cons h, List.take_append_drop]
  · unfold useL
    rw [List.getElem?_eq_none (by omega), List.eraseIdx_of_length_le (by omega)]
    exact List.Perm.refl _
theorem get_perm [DecidableEq K] {L : List (Ent K V)} {k : K} : (getL k L).Perm L := by
  unfold getL
  split
  · exact use_perm
  · exact List.Perm.refl _
theorem once_perm {L M : List (Ent K V)} (h : Once L) (p : M.Perm L) : Once M := (List.Perm.map (fun e : Ent K V => e.key) p).nodup_iff.2 (show (L.map fun e => e.key).Nodup from h)
theorem getV_some [DecidableEq K] {L : List (Ent K V)} {k : K} {v : V} (h : getV k L = some v) : ∃ e ∈ L, e.key = k ∧ e.val = v := by
  unfold getV at h
  split at h
  · rename_i hp
    obtain ⟨x, hx, hk⟩ := posK_at hp
    rw [hx] at h
    exact ⟨x, List.mem_of_getElem? hx, hk, Option.some.inj h⟩
  · cases h
theorem put_zero [DecidableEq K] {L : List (Ent K V)} {most : Nat} (h : Once L) (hz : ∀ e ∈ L, e.pins = 0) (hm : 1 ≤ most) (k : K) (v : V) :
    putE most k L = 0 ∧ ∃ M, putL most k v L = ⟨k, v, 0⟩ :: M ∧ ∀ x ∈ M, x ∈ L ∧ x.key ≠ k := by
  unfold putE putL
  by_cases hp : posK k L < L.length
  · obtain ⟨x, hx, hk⟩ := posK_at hp
    rw [if_pos hp, if_pos hp]
    refine ⟨rfl, L.eraseIdx (posK k L), ?_, fun y hy => ?_⟩
    · rw [hx]
      have h0 := hz x (List.mem_of_getElem? hx)
      subst hk
      rw [← h0]
      rfl
    · have := mem_erase h hx hy
      rw [hk] at this
      exact this
  · rw [if_neg hp, if_neg hp]
    by_cases hl : L.length < most
    · rw [if_pos hl, if_pos hl]
      exact ⟨rfl, L, rfl, fun x hx => ⟨hx, posK_none hp x hx⟩⟩
    · rw [if_neg hl, if_neg hl]
      have ho : oldL L < L.length := by
        cases L with
        | nil => simp at hl; omega
        | cons a L => exact oldL_yes List.mem_cons_self (hz a List.mem_cons_self)
      rw [if_pos ho, if_pos ho]
      exact ⟨rfl, _, rfl, fun x hx => ⟨(List.eraseIdx_sublist _ _).subset hx, posK_none hp x ((List.eraseIdx_sublist _ _).subset hx)⟩⟩
end
namespace KA
end KA
end Go.Proofs.YtcjfnfdinhbdlaaGreatDoor
