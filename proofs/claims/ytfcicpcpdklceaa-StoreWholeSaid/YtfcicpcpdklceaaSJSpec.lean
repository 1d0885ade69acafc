/- Plain facts on heads: their sizes, their parts, there and back, and torn. -/
import Derived.Test.YtfcicpcpdklceaaSJHeadN
import Derived.Test.YtfcicpcpdklceaaSJPackB
namespace Go.Proofs.Ytfcicpcpdklceaa
set_option maxRecDepth 100000
open Go.ChangeShapes Go.WideShapes Go.ChangeAt Go.RowKit Go.PlainAid

theorem bt_fix (n : Int) (z : Int) (h0 : 0 ≤ n) (h1 : n ≤ 18446744073709551615) (k : Nat) (hz0 : 0 ≤ z) (hz : z ≤ 8) : bt (fixS n z) k = if k < z.toNat then (l8 n).getD k 0 else 0 := by
  have e : fixS n z = strOfNums ((l8 n).take z.toNat) := by unfold fixS; rw [show (min (max z 0) 8) = z by omega]
  rw [e]
  have hx : ∀ x ∈ l8 n, 0 ≤ x ∧ x ≤ 255 := by
    intro x hx
    simp only [l8, List.mem_cons, List.not_mem_nil, or_false] at hx
    omega
  have eg : ((l8 n).take z.toNat).getD k 0 = if k < z.toNat then (l8 n).getD k 0 else 0 := by
    simp only [List.getD_eq_getElem?_getD]
    by_cases c : k < z.toNat
    · rw [List.getElem?_take_of_lt c, if_pos c]
    · rw [if_neg c, List.getElem?_eq_none (by rw [List.length_take]; omega)]
      rfl
  have hb : 0 ≤ ((l8 n).take z.toNat).getD k 0 ∧ ((l8 n).take z.toNat).getD k 0 ≤ 255 := by
    by_cases c : k < ((l8 n).take z.toNat).length
    · rw [List.getD_eq_getElem?_getD, List.getElem?_eq_getElem c]
      exact hx _ (List.mem_of_mem_take (List.getElem_mem c))
    · rw [List.getD_eq_getElem?_getD, List.getElem?_eq_none (by omega)]
      exact ⟨Int.le_refl _, by decide⟩
  rw [bt_strOfNums _ k hb.1 hb.2, eg]
theorem back_fix8 (n : Int) (h0 : 0 ≤ n) (h1 : n ≤ 18446744073709551615) : unfixZ (fixS n 8) = n := by
  have b := fun k => bt_fix n 8 h0 h1 k (by omega) (by omega)
  unfold unfixZ
  rw [b 0, b 1, b 2, b 3, b 4, b 5, b 6, b 7]
  have e : (8 : Int).toNat = 8 := rfl
  simp only [e, l8, n8, List.getD_cons_zero, List.getD_cons_succ, Nat.reduceLT, if_true]
  omega
theorem back_fix4 (n : Int) (h0 : 0 ≤ n) (h1 : n ≤ 18446744073709551615) : unfixZ (fixS n 4) = n % 4294967296 := by
  have b := fun k => bt_fix n 4 h0 h1 k (by omega) (by omega)
  unfold unfixZ
  rw [b 0, b 1, b 2, b 3, b 4, b 5, b 6, b 7]
  have e : (4 : Int).toNat = 4 := rfl
  simp only [e, l8, n8, List.getD_cons_zero, List.getD_cons_succ, Nat.reduceLT, if_true, if_false]
  omega
theorem notS_get (s : ByteArray) (i : Nat) (h : i < s.size) : ((List.range s.size).map fun j => 255 - bt s j).getD i 0 = 255 - bt s i := by
  simp [List.getD_eq_getElem?_getD, List.getElem?_map, List.getElem?_range h]
theorem back (s : ByteArray) : notS (notS s) = s := by
  apply ByteArray.ext
  apply Array.ext'
  apply List.ext_getElem?
  intro i
  have h : ∀ t : ByteArray, (notS t).data.toList = ((List.range t.size).map fun j => 255 - bt t j).map fun n => UInt8.ofNat n.toNat := fun t => strOfNums_data _
  rw [h, notS_size, List.getElem?_map, List.getElem?_map]
  by_cases c : i < s.size
  · rw [List.getElem?_range c]
    have e : bt (notS s) i = 255 - bt s i := by
      have g := notS_get s i c
      have b := bt_nonneg s i
      have b' := bt_le s i
      unfold notS
      rw [bt_strOfNums _ i (by rw [g]; omega) (by rw [g]; omega), g]
    have hl : i < s.data.toList.length := by simpa using c
    rw [List.getElem?_eq_getElem hl]
    simp only [Option.map_some, e]
    rw [bt_list, List.getD_eq_getElem?_getD, List.getElem?_eq_getElem hl]
    simp only [Option.getD_some]
    congr 1
    rw [show (255 - (255 - ((s.data.toList[i]).toNat : Int))).toNat = (s.data.toList[i]).toNat by omega]
    simp
  · rw [List.getElem?_eq_none (by simp; omega), List.getElem?_eq_none (by simp; omega)]
    rfl
theorem not_inj {a b : ByteArray} (h : notS a = notS b) : a = b := by rw [← back a, h, back]
theorem headB_size (s u r p : Int) : (headB s u r p).size = 20 := by
  unfold headB
  rw [ByteArray.size_append, ByteArray.size_append, ByteArray.size_append, fixS8_size, fixS4_size, fixS4_size, fixS4_size]
theorem writeB_size (s u r p : Int) : (writeB s u r p).size = 40 := by
  unfold writeB
  rw [ByteArray.size_append, notS_size, headB_size]
theorem ext_left (a b : ByteArray) (i j : Nat) (h : j ≤ a.size) : (a ++ b).extract i j = a.extract i j := by
  refine text_ext (by rw [ByteArray.size_extract, ByteArray.size_extract, ByteArray.size_append]; omega) fun k hk => ?_
  rw [ByteArray.size_extract, ByteArray.size_append] at hk
  rw [bt_ext _ _ _ _ (by rw [ByteArray.size_append]; omega) (by omega), bt_ext _ _ _ _ h (by omega), bt_append, if_pos (by omega)]
theorem ext_right (a b : ByteArray) (i j : Nat) (h : a.size ≤ i) (hj : j ≤ a.size + b.size) : (a ++ b).extract i j = b.extract (i - a.size) (j - a.size) := by
  refine text_ext (by rw [ByteArray.size_extract, ByteArray.size_extract, ByteArray.size_append]; omega) fun k hk => ?_
  rw [ByteArray.size_extract, ByteArray.size_append] at hk
  rw [bt_ext _ _ _ _ (by rw [ByteArray.size_append]; omega) (by omega), bt_ext _ _ _ _ (by omega) (by omega), bt_append, if_neg (by omega)]
  congr 1
  omega
theorem ext_full (a : ByteArray) {n : Nat} (h : a.size = n) : a.extract 0 n = a := by
  refine text_ext (by rw [ByteArray.size_extract]; omega) fun k hk => ?_
  rw [ByteArray.size_extract] at hk
  rw [bt_ext _ _ _ _ (by omega) (by omega), Nat.zero_add]
/-- A head's fields, out of its first twenty bytes. -/
def fieldsV (h : ByteArray) : Value := .agg #[.int .u64 (unfixZ (h.extract 0 8)), .int .i64 (unfixZ (h.extract 8 12)), .int .i64 (unfixZ (h.extract 12 16)), .int .i64 (unfixZ (h.extract 16 20))]
theorem fields_of (b h : ByteArray) (e : b.extract 0 20 = h) : fieldsV b = fieldsV h := by
  subst e
  unfold fieldsV
  rw [ext_ext b 0 20 0 8 (by omega), ext_ext b 0 20 8 12 (by omega), ext_ext b 0 20 12 16 (by omega), ext_ext b 0 20 16 20 (by omega)]
theorem head_back (s u r p : Int) (h0 : 0 ≤ s) (h1 : s ≤ 18446744073709551615) : fieldsV (headB s u r p) = .agg #[.int .u64 s, .int .i64 (uZ u % 4294967296), .int .i64 (uZ r % 4294967296), .int .i64 (uZ p % 4294967296)] := by
  have z8 := fixS8_size s
  have zu := fixS4_size (uZ u)
  have zr := fixS4_size (uZ r)
  have zp := fixS4_size (uZ p)
  have a1 : (fixS s 8 ++ fixS (uZ u) 4).size = 12 := by rw [ByteArray.size_append]; omega
  have a2 : (fixS s 8 ++ fixS (uZ u) 4 ++ fixS (uZ r) 4).size = 16 := by rw [ByteArray.size_append]; omega
  have e0 : (headB s u r p).extract 0 8 = fixS s 8 := by
    unfold headB
    rw [ext_left _ _ _ _ (by omega), ext_left _ _ _ _ (by omega), ext_left _ _ _ _ (by omega), ext_full _ z8]
  have e1 : (headB s u r p).extract 8 12 = fixS (uZ u) 4 := by
    unfold headB
    rw [ext_left _ _ _ _ (by omega), ext_left _ _ _ _ (by omega), ext_right _ _ _ _ (by omega) (by omega), z8, ext_full _ zu]
  have e2 : (headB s u r p).extract 12 16 = fixS (uZ r) 4 := by
    unfold headB
    rw [ext_left _ _ _ _ (by omega), ext_right _ _ _ _ (by omega) (by omega), a1, ext_full _ zr]
  have e3 : (headB s u r p).extract 16 20 = fixS (uZ p) 4 := by
    unfold headB
    rw [ext_right _ _ _ _ (by omega) (by omega), a2, ext_full _ zp]
  unfold fieldsV
  rw [e0, e1, e2, e3, back_fix8 s h0 h1, back_fix4 _ (uZ_b u).1 (uZ_b u).2, back_fix4 _ (uZ_b r).1 (uZ_b r).2, back_fix4 _ (uZ_b p).1 (uZ_b p).2]
/-- A head of twenty bytes that is written, with whatever behind it, is one. -/
theorem written_ok (h t : ByteArray) (hh : h.size = 20) : headOk (h ++ notS h ++ t) ∧ (h ++ notS h ++ t).extract 0 20 = h := by
  have zn : (notS h).size = 20 := by rw [notS_size, hh]
  have z2 : (h ++ notS h).size = 40 := by rw [ByteArray.size_append]; omega
  have e0 : (h ++ notS h ++ t).extract 0 20 = h := by rw [ext_left _ _ _ _ (by omega), ext_left _ _ _ _ (by omega), ext_full _ hh]
  refine ⟨⟨by rw [ByteArray.size_append]; omega, ?_⟩, e0⟩
  rw [e0, ext_left _ _ _ _ (by omega), ext_right _ _ _ _ (by omega) (by omega), hh, ext_full _ zn]
theorem written_ok0 (h : ByteArray) (hh : h.size = 20) : headOk (h ++ notS h) ∧ (h ++ notS h).extract 0 20 = h := by
  have := written_ok h ⟨#[]⟩ hh
  rwa [show h ++ notS h ++ (⟨#[]⟩ : ByteArray) = h ++ notS h by apply ByteArray.ext; simp [ByteArray.data_append]] at this
/-- A torn head is one of both, or none. -/
theorem torn (a b : ByteArray) (ha : a.size = 20) (hb : b.size = 20) (k : Nat) (hk : k ≤ 40) (h : headOk ((a ++ notS a).extract 0 k ++ (b ++ notS b).extract k 40)) :
    ((a ++ notS a).extract 0 k ++ (b ++ notS b).extract k 40).extract 0 20 = a ∨ ((a ++ notS a).extract 0 k ++ (b ++ notS b).extract k 40).extract 0 20 = b := by
  have na : (notS a).size = 20 := by rw [notS_size, ha]
  have nb : (notS b).size = 20 := by rw [notS_size, hb]
  have za : (a ++ notS a).size = 40 := by rw [ByteArray.size_append]; omega
  have zb : (b ++ notS b).size = 40 := by rw [ByteArray.size_append]; omega
  have z1 : ((a ++ notS a).extract 0 k).size = k := by rw [ByteArray.size_extract]; omega
  have z2 : ((b ++ notS b).extract k 40).size = 40 - k := by rw [ByteArray.size_extract]; omega
  obtain ⟨_, h⟩ := h
  by_cases c : k ≤ 20
  · right
    rw [ext_right _ _ 20 40 (by omega) (by omega), z1, ext_ext _ _ _ _ _ (by omega), show k + (20 - k) = 20 by omega, show k + (40 - k) = 40 by omega, ext_right b (notS b) 20 40 (by omega) (by omega), hb, show 20 - 20 = 0 from rfl, show 40 - 20 = 20 from rfl, ext_full _ nb] at h
    exact not_inj h
  · left
    rw [ext_left _ _ 0 20 (by omega), ext_ext _ _ _ _ _ (by omega), ext_left _ _ _ _ (by omega), Nat.zero_add, ext_full _ ha]
/-- A block that has a head is read. -/
theorem rhead_val (b : ByteArray) (w : World) (h : headOk b) (hm : b.size ≤ maxLen) :
    Calls Try.prog 44 #[.string b] w fun e w' => e = .returned (.tuple #[fieldsV b, .bool true]) ∧ Below w.heap.size w w' := rhead_yes b w h hm
theorem slice_to (b : ByteArray) (j : Nat) (h2 : j ≤ b.size) : ∀ w, (Instr.slice 9 (.string b) none (some (.int .i64 (j : Int))) none).run Try.prog w = .ok (.string (b.extract 0 j)) w := fun w => by
  rw [run_slice_string_to_if w 9 b .i64 j Try.underlying9, if_pos ⟨by omega, by omega⟩]
  rfl
theorem slice_of (b : ByteArray) (j n : Nat) (h2 : j ≤ b.size) (hn : b.size = n) : ∀ w, (Instr.slice 9 (.string b) (some (.int .i64 (j : Int))) none none).run Try.prog w = .ok (.string (b.extract j n)) w := fun w => by
  rw [run_slice_string_from_if w 9 b .i64 j Try.underlying9, if_pos ⟨by omega, by omega⟩, hn]
  rfl
/-- What is read of a text: nothing, or four numbers that are those of its fields. -/
theorem rhead_three (b : ByteArray) (hm : b.size ≤ maxLen) : ∃ (q0 q1 q2 q3 : Int) (ok : Bool), (∀ w, Calls Try.prog 44 #[.string b] w fun e w' => e = .returned (.tuple #[.agg #[.int .u64 q0, .int .i64 q1, .int .i64 q2, .int .i64 q3], .bool ok]) ∧ Below w.heap.size w w') ∧
    (ok = false ∨ (headOk b ∧ fieldsV b = .agg #[.int .u64 q0, .int .i64 q1, .int .i64 q2, .int .i64 q3])) := by
  by_cases h : headOk b
  · exact ⟨_, _, _, _, true, fun w => rhead_yes b w h hm, .inr ⟨h, rfl⟩⟩
  · exact ⟨0, 0, 0, 0, false, fun w => rhead_no b w h hm, .inl rfl⟩
end Go.Proofs.Ytfcicpcpdklceaa
