import Derived.Test.YtcjfnfdinhbdlaaGreatDoorGad
import Derived.Test.YtcjfnfdinhbdlaaGreatDoorGal
import Derived.BigQuiet
import Derived.Deep.QuietTactic
import Derived.Deep.RegionWith
import Derived.Test.YtcjfnfdinhbdlaaGreatDoorGap
namespace Go.Proofs.YtcjfnfdinhbdlaaGreatDoor
set_option maxRecDepth 100000
open Go.ChangeShapes Go.WideShapes Go.ChangeAt Go.RowKit Go.PlainAid
def keyL (l : List Int) : List Int := l.flatMap fun n => h8 (n + 9223372036854775808)
def keyS (l : List Int) : ByteArray := strOfNums (keyL l)
theorem keyS_nil : keyS [] = ⟨#[]⟩ := rfl
theorem keyS_snoc (l : List Int) (x : Int) : keyS (l ++ [x]) = keyS l ++ ordS x := by
  unfold keyS ordS
  rw [str_app]
  congr 1
  simp [keyL]
theorem keyS_cons (l : List Int) (x : Int) : keyS (x :: l) = ordS x ++ keyS l := by
  unfold keyS ordS
  rw [str_app]
  rfl
theorem ordS_size (n : Int) : (ordS n).size = 8 := by unfold ordS; rw [strOfNums_size]; rfl
theorem keyS_size : ∀ l : List Int, (keyS l).size = 8 * l.length
  | [] => rfl
  | x :: l => by rw [keyS_cons, ByteArray.size_append, ordS_size, keyS_size l, List.length_cons]; omega
def ofV (l : List Int) : Value := if 4 < l.length then .tuple #[.string ⟨#[]⟩, .int .i64 22] else .tuple #[.string (keyS l), .int .i64 0]
theorem IntsOf.parts {w : World} {v : Value} {l : List Int} (h : IntsOf w v l) : ∃ ao cap, v = .slice ao l.length cap ∧ (l.length : Int) ≤ 9223372036854775807 ∧
    ∀ (i : Nat) (x : Int), l[i]? = some x → ∃ b o, ao = some ⟨b, o, none⟩ ∧ b < w.heap.size ∧ (-9223372036854775808 ≤ x ∧ x ≤ 9223372036854775807) ∧ w.cell? ⟨b, o + i, none⟩ = some (.int .i64 x) := by
  rcases h with ⟨rfl, ao, cap, rfl⟩ | ⟨b, o, cap, rfl, hlt, h0, hm, hr⟩
  · exact ⟨ao, cap, rfl, by simp, fun i x hx => by simp at hx⟩
  · exact ⟨_, cap, rfl, hm, fun i x hx => ⟨b, o, rfl, hlt, (hr i x hx).1, (hr i x hx).2⟩⟩
set_option maxHeartbeats 400000 in
theorem keyOf_any (v : Value) (l : List Int) (w : World) (hl : IntsOf w v l) :
    Calls Tryz.prog 49 #[v] w fun e w' => e = .returned (ofV l) ∧ Below w.heap.size w w' := by
  obtain ⟨ao, cap, rfl, hm, hx⟩ := hl.parts
  have HX := Lib.hid hx
  clear hl hx
  by_cases h4 : 4 < l.length
  · have hv := Lib.hid (show ofV l = .tuple #[.string ⟨#[]⟩, .int .i64 22] from if_pos h4)
    have h4' : (4 : Int) < l.length := by omega
    go_enter Tryz.func49, Tryz.ntmps49
    go_wp2
    go_returns
    exact ⟨by rw [hv.out]; rfl, Below.refl _ _⟩
  · have hv := Lib.hid (show ofV l = .tuple #[.string (keyS l), .int .i64 0] from if_neg h4)
    have h4' : ¬ (4 : Int) < l.length := by omega
    go_enter Tryz.func49, Tryz.ntmps49
    go_wp2_with fail
    go_loopw [4, 12] (fun s i wr => ∃ k : Nat, k ≤ l.length ∧ i = .int .i64 k ∧ s = .string (keyS (l.take k)) ∧ Below w.heap.size w wr) (fun _ i _ => l.length - (intOf i).toNat)
    case atStart => exact ⟨0, Nat.zero_le _, rfl, rfl, Below.refl _ _⟩
    case round =>
      obtain ⟨k, hk, rfl, rfl, hb⟩ := hrel
      have HB := Lib.hid hb
      clear hb
      by_cases hlt : k < l.length
      · obtain ⟨x, hxk⟩ : ∃ x, l[k]? = some x := ⟨l[k], List.getElem?_eq_getElem hlt⟩
        obtain ⟨b, o, rfl, hbl, ⟨x0, x1⟩, hc⟩ := HX.out k x hxk
        have hc2 := (HB.out.cell (p := ⟨b, o + k, none⟩) hbl).trans hc
        have hs := keyS_size (l.take k)
        have hs1 : (keyS (l.take k)).size ≤ 32 := by rw [hs, List.length_take]; omega
        have hs2 : (ordS x).size ≤ 8 := by rw [ordS_size]; exact Nat.le_refl _
        have hn : Hid (keyS (l.take (k + 1)) = keyS (l.take k) ++ ordS x) := by
          unfold Hid
          rw [List.take_add_one, hxk]
          exact keyS_snoc _ _
        clear hs hc hxk
        go_wp2_with fail
        refine (ordered_any x _ x0 x1).mono ?_
        rintro e w1 ⟨rfl, hb1⟩
        have HB1 := Lib.hid (HB.out.on hb1)
        clear hb1 hc2
        go_wp2
        go_roundw
        case rel => exact ⟨k + 1, by omega, by go_num, by rw [hn.out], HB1.out⟩
        case measure => simp [intOf]; omega
      · obtain rfl : k = l.length := by omega
        have ht := Lib.hid (List.take_length (l := l))
        go_wp2
        go_returns
        exact ⟨by rw [hv.out, ht.out]; rfl, HB.out⟩
end Go.Proofs.YtcjfnfdinhbdlaaGreatDoor
namespace Go.Proofs.YtcjfnfdinhbdlaaGreatDoor
set_option maxRecDepth 100000
open Go.ChangeShapes Go.WideShapes Go.ChangeAt Go.RowKit Go.PlainAid
def befI : List Int → List Int → Bool
  | [], [] => false
  | [], _ :: _ => true
  | _ :: _, [] => false
  | x :: a, y :: b => if x = y then befI a b else decide (x < y)
def sameB (a b : List Int) : Bool := !befI a b && !befI b a
theorem sameB_eq : ∀ a b : List Int, sameB a b = (a == b)
  | [], [] => rfl
  | [], _ :: _ => rfl
  | _ :: _, [] => rfl
  | x :: a, y :: b => by
    by_cases h : x = y
    · subst h
      have ih := sameB_eq a b
      unfold sameB at ih ⊢
      simp only [befI, if_true]
      rw [ih]
      simp
    · have h' : ¬ y = x := fun e => h e.symm
      unfold sameB
      simp only [befI, if_neg h, if_neg h']
      rw [show ((x :: a) == (y :: b)) = false by simp [h]]
      by_cases c : x < y
      · simp [c]
      · have : y < x := by omega
        simp [this]
end Go.Proofs.YtcjfnfdinhbdlaaGreatDoor
namespace Go.Proofs.YtcjfnfdinhbdlaaGreatDoor
set_option maxRecDepth 100000
open Go.ChangeShapes Go.WideShapes Go.ChangeAt Go.RowKit Go.PlainAid
def bvU : List UInt8 → Nat | [] => 0 | x :: r => x.toNat * 256 ^ r.length + bvU r
theorem bvU_lt : ∀ l : List UInt8, bvU l < 256 ^ l.length
  | [] => by simp [bvU]
  | x :: r => by
    have h := bvU_lt r
    have hx := x.toNat_lt
    simp only [bvU, List.length_cons, Nat.pow_succ]
    have : x.toNat * 256 ^ r.length ≤ 255 * 256 ^ r.length := Nat.mul_le_mul_right _ (by omega)
    omega
theorem step_lt (a b M p q : Nat) (hp : p < M) (h : a < b) : a * M + p < b * M + q := by
  have : (a + 1) * M ≤ b * M := Nat.mul_le_mul_right _ h
  rw [Nat.add_mul] at this
  omega
theorem less_bvU : ∀ xs ys : List UInt8, xs.length = ys.length → Op.bytesLess xs ys = decide (bvU xs < bvU ys)
  | [], [], _ => rfl
  | x :: xs, y :: ys, h => by
    have hl : xs.length = ys.length := by simpa using h
    have ih := less_bvU xs ys hl
    have b1 := bvU_lt xs
    have b2 := bvU_lt ys
    rw [Op.bytesLess, ih]
    simp only [bvU, hl] at b1 ⊢
    rcases Nat.lt_trichotomy x.toNat y.toNat with c | c | c
    · have e : decide (x < y) = true := by simpa [UInt8.lt_iff_toNat_lt] using c
      rw [e, Bool.true_or]
      exact (decide_eq_true (step_lt _ _ _ _ _ b1 c)).symm
    · have e : x = y := UInt8.toNat_inj.1 c
      subst e
      have e1 : decide (x < x) = false := by simp
      rw [e1, Bool.false_or, beq_self_eq_true, Bool.true_and]
      congr 1
      exact propext ⟨fun h => by omega, fun h => by omega⟩
    · have e1 : decide (x < y) = false := by simp [UInt8.lt_iff_toNat_lt]; omega
      have e2 : (x == y) = false := by
        apply beq_eq_false_iff_ne.2
        intro e
        subst e
        omega
      rw [e1, e2]
      have := step_lt _ _ _ (bvU ys) (bvU xs) b2 c
      exact (decide_eq_false (by omega)).symm
theorem toN (x : Int) (h0 : 0 ≤ x) (h1 : x < 256) : (UInt8.ofNat x.toNat).toNat = x.toNat := by rw [UInt8.toNat_ofNat']; omega
theorem val8 (x0 x1 x2 x3 x4 x5 x6 x7 : Int) (h0 : 0 ≤ x0 ∧ x0 < 256) (h1 : 0 ≤ x1 ∧ x1 < 256) (h2 : 0 ≤ x2 ∧ x2 < 256) (h3 : 0 ≤ x3 ∧ x3 < 256) (h4 : 0 ≤ x4 ∧ x4 < 256) (h5 : 0 ≤ x5 ∧ x5 < 256) (h6 : 0 ≤ x6 ∧ x6 < 256) (h7 : 0 ≤ x7 ∧ x7 < 256) :
    (bvU ([x0, x1, x2, x3, x4, x5, x6, x7].map fun n => UInt8.ofNat n.toNat) : Int) = x0 * 72057594037927936 + x1 * 281474976710656 + x2 * 1099511627776 + x3 * 4294967296 + x4 * 16777216 + x5 * 65536 + x6 * 256 + x7 := by
  simp only [List.map_cons, List.map_nil, bvU, List.length_cons, List.length_nil, toN x0 h0.1 h0.2, toN x1 h1.1 h1.2, toN x2 h2.1 h2.2, toN x3 h3.1 h3.2, toN x4 h4.1 h4.2, toN x5 h5.1 h5.2, toN x6 h6.1 h6.2, toN x7 h7.1 h7.2, Nat.reduceAdd, Nat.reducePow]
  omega
theorem ord_list (n : Int) : (ordS n).toList = (h8 (n + 9223372036854775808)).map fun n => UInt8.ofNat n.toNat := by
  rw [ByteArray.toList_eq]; exact strOfNums_data _
theorem ord_len (n : Int) : (ordS n).toList.length = 8 := by rw [ord_list, List.length_map, h8_length]
theorem ord_val (n : Int) (h0 : -9223372036854775808 ≤ n) (h1 : n ≤ 9223372036854775807) : (bvU (ordS n).toList : Int) = n + 9223372036854775808 := by
  rw [ord_list]
  obtain ⟨u, hu⟩ : ∃ u, u = n + 9223372036854775808 := ⟨_, rfl⟩
  rw [← hu]
  unfold h8
  rw [val8 _ _ _ _ _ _ _ _ (by omega) (by omega) (by omega) (by omega) (by omega) (by omega) (by omega) (by omega)]
  omega
theorem ord_less (a b : Int) (h0 : -9223372036854775808 ≤ a) (h1 : a ≤ 9223372036854775807) (h2 : -9223372036854775808 ≤ b) (h3 : b ≤ 9223372036854775807) : Op.bytesLess (ordS a).toList (ordS b).toList = decide (a < b) := by
  have e1 := ord_val a h0 h1
  have e2 := ord_val b h2 h3
  have l1 := ord_len a
  have l2 := ord_len b
  rw [less_bvU _ _ (by rw [l1, l2])]
  congr 1
  exact propext ⟨fun h => by omega, fun h => by omega⟩
theorem ord_eq (a b : Int) (h0 : -9223372036854775808 ≤ a) (h1 : a ≤ 9223372036854775807) (h2 : -9223372036854775808 ≤ b) (h3 : b ≤ 9223372036854775807) : ((ordS a).toList == (ordS b).toList) = (a == b) := by
  by_cases c : a = b
  · subst c
    simp
  · have e1 := ord_val a h0 h1
    have e2 := ord_val b h2 h3
    rw [beq_eq_false_iff_ne.2 c]
    apply beq_eq_false_iff_ne.2
    intro h
    rw [h] at e1
    omega
theorem txt_ext {a b : ByteArray} (hs : a.size = b.size) (h : ∀ k, k < a.size → bt a k = bt b k) : a = b := by
  apply ByteArray.ext
  apply Array.ext (by simpa using hs)
  intro i h1 h2
  have := h i (by simpa using h1)
  rw [bt_list, bt_list] at this
  simp only [List.getD_eq_getElem?_getD] at this
  rw [List.getElem?_eq_getElem (by simpa using h1), List.getElem?_eq_getElem (by simpa using h2)] at this
  simp only [Option.getD_some, Array.getElem_toList] at this
  exact UInt8.toNat_inj.1 (by omega)
theorem unord_ord (s : ByteArray) (h8 : s.size = 8) : ordS (unordV s) = s := by
  have hx := unordZ_bounds s
  have hb := fun k => bt_b s k
  have e : Go.Proofs.YtcjfnfdinhbdlaaGreatDoor.h8 (unordV s + 9223372036854775808) = [bt s 0, bt s 1, bt s 2, bt s 3, bt s 4, bt s 5, bt s 6, bt s 7] := by
    rw [show unordV s + 9223372036854775808 = unordZ s by unfold unordV; omega]
    have h0 := hb 0
    have h1 := hb 1
    have h2 := hb 2
    have h3 := hb 3
    have h4 := hb 4
    have h5 := hb 5
    have h6 := hb 6
    have h7 := hb 7
    unfold Go.Proofs.YtcjfnfdinhbdlaaGreatDoor.h8 unordZ n8
    simp only [List.cons.injEq, and_true]
    refine ⟨?_, ?_, ?_, ?_, ?_, ?_, ?_, ?_⟩ <;> omega
  unfold ordS
  rw [e]
  refine txt_ext (by rw [strOfNums_size, h8]; rfl) fun k hk => ?_
  rw [strOfNums_size] at hk
  have hk8 : k < 8 := hk
  have hg : [bt s 0, bt s 1, bt s 2, bt s 3, bt s 4, bt s 5, bt s 6, bt s 7].getD k 0 = bt s k := by
    match k, hk8 with
    | 0, _ => rfl
    | 1, _ => rfl
    | 2, _ => rfl
    | 3, _ => rfl
    | 4, _ => rfl
    | 5, _ => rfl
    | 6, _ => rfl
    | 7, _ => rfl
  rw [bt_strOfNums _ k (by rw [hg]; exact (hb k).1) (by rw [hg]; exact (hb k).2), hg]
theorem unordV_bounds (s : ByteArray) : -9223372036854775808 ≤ unordV s ∧ unordV s ≤ 9223372036854775807 := by
  have := unordZ_bounds s
  unfold unordV
  omega
def InI (l : List Int) : Prop := ∀ x ∈ l, -9223372036854775808 ≤ x ∧ x ≤ 9223372036854775807
theorem IntsOf.inI {w : World} {v : Value} {l : List Int} (h : IntsOf w v l) : InI l := by
  rcases h with ⟨rfl, _⟩ | ⟨b, o, cap, rfl, hlt, h0, hm, hr⟩
  · intro x hx
    cases hx
  · intro x hx
    obtain ⟨i, hi⟩ := List.getElem?_of_mem hx
    exact (hr i x hi).1
theorem bytesLess_same : ∀ (p q r t : List UInt8), p.length = q.length → Op.bytesLess (p ++ r) (q ++ t) = if p = q then Op.bytesLess r t else Op.bytesLess p q
  | [], [], r, t, _ => by simp
  | x :: p, y :: q, r, t, h => by
    have ih := bytesLess_same p q r t (by simpa using h)
    rw [List.cons_append, List.cons_append, Op.bytesLess, ih]
    by_cases hx : x = y
    · subst hx
      by_cases hp : p = q
      · subst hp
        simp
      · rw [if_neg hp, if_neg (by simpa using hp), Op.bytesLess]
    · have hne : ¬ (x :: p = y :: q) := fun e => hx (List.cons.inj e).1
      have hb : (x == y) = false := beq_eq_false_iff_ne.2 hx
      rw [if_neg hne, Op.bytesLess, hb]
      rfl
theorem empty_list : (⟨#[]⟩ : ByteArray).toList = [] := by rw [ByteArray.toList_eq]
theorem key_less : ∀ a b : List Int, InI a → InI b → Op.bytesLess (keyS a).toList (keyS b).toList = befI a b
  | [], [], _, _ => by rw [keyS_nil, empty_list]; rfl
  | [], y :: b, _, _ => by
    rw [keyS_nil, keyS_cons, empty_list]
    have h : (ordS y ++ keyS b).toList ≠ [] := by
      intro e
      have := congrArg List.length e
      rw [ByteArray.toList_eq, ByteArray.data_append, Array.toList_append, List.length_append] at this
      have e2 : (ordS y).data.toList.length = 8 := by have := ord_len y; rwa [ByteArray.toList_eq] at this
      rw [e2] at this
      simp at this
    obtain ⟨z, r, hz⟩ := List.exists_cons_of_ne_nil h
    rw [hz]
    rfl
  | x :: a, [], _, _ => by
    rw [keyS_nil, empty_list]
    cases h : (keyS (x :: a)).toList <;> rfl
  | x :: a, y :: b, ha, hb => by
    have hx := ha x (by simp)
    have hy := hb y (by simp)
    rw [keyS_cons, keyS_cons]
    have e1 : (ordS x ++ keyS a).toList = (ordS x).toList ++ (keyS a).toList := by simp only [ByteArray.toList_eq, ByteArray.data_append, Array.toList_append]
    have e2 : (ordS y ++ keyS b).toList = (ordS y).toList ++ (keyS b).toList := by simp only [ByteArray.toList_eq, ByteArray.data_append, Array.toList_append]
    rw [e1, e2, bytesLess_same _ _ _ _ (by rw [ord_len, ord_len]), key_less a b (fun u h => ha u (by simp [h])) (fun u h => hb u (by simp [h])), befI]
    have he := ord_eq x y hx.1 hx.2 hy.1 hy.2
    by_cases c : x = y
    · subst c
      rw [if_pos rfl, if_pos rfl]
    · rw [if_neg c, if_neg (fun e => by rw [e, beq_self_eq_true, eq_comm, beq_iff_eq] at he; exact c he), ord_less x y hx.1 hx.2 hy.1 hy.2]
theorem bytesLess_irr : ∀ l : List UInt8, Op.bytesLess l l = false
  | [] => rfl
  | x :: l => by rw [Op.bytesLess, bytesLess_irr l]; simp
theorem key_inj (a b : List Int) (ha : InI a) (hb : InI b) (h : keyS a = keyS b) : a = b := by
  have h1 := key_less a b ha hb
  have h2 := key_less b a hb ha
  rw [h, bytesLess_irr] at h1
  rw [h, bytesLess_irr] at h2
  have := sameB_eq a b
  rw [sameB, ← h1, ← h2] at this
  simpa using this.symm
def splitOk (s : ByteArray) : Bool := decide (s.size ≤ 32) && decide (s.size % 8 = 0)
def numAt (s : ByteArray) (k : Nat) : Int := unordV (s.extract (8 * k) (8 * k + 8))
def splitL (s : ByteArray) : List Int := if splitOk s = true then (List.range (s.size / 8)).map (numAt s) else []
theorem splitL_no {s : ByteArray} (h : splitOk s = false) : splitL s = [] := by unfold splitL; rw [h]; rfl
theorem splitL_ok {s : ByteArray} (h : splitOk s = true) : splitL s = (List.range (s.size / 8)).map (numAt s) := by unfold splitL; rw [h]; rfl
theorem splitL_len (s : ByteArray) : (splitL s).length ≤ 4 := by
  cases h : splitOk s
  · rw [splitL_no h]; simp
  · rw [splitL_ok h, List.length_map, List.length_range]
    have : s.size ≤ 32 := by simp [splitOk] at h; exact h.1
    omega
theorem splitL_in (s : ByteArray) : InI (splitL s) := by
  intro x hx
  unfold splitL at hx
  split at hx
  · obtain ⟨k, _, rfl⟩ := List.mem_map.1 hx
    exact unordV_bounds _
  · cases hx
theorem key_rows (s : ByteArray) (h8 : s.size % 8 = 0) : ∀ k, 8 * k ≤ s.size → keyS ((List.range k).map (numAt s)) = s.extract 0 (8 * k)
  | 0, _ => by
    apply ByteArray.ext
    simp [keyS, keyL, strOfNums]
  | k + 1, h => by
    rw [List.range_succ, List.map_append, List.map_singleton, keyS_snoc, key_rows s h8 k (by omega), numAt, unord_ord _ (by rw [ByteArray.size_extract]; omega)]
    apply ByteArray.ext
    simp only [ByteArray.data_append, ByteArray.data_extract]
    rw [Array.extract_append_extract]
    congr 1
    omega
theorem key_split (s : ByteArray) (h : splitOk s = true) : keyS (splitL s) = s := by
  have h2 : s.size ≤ 32 ∧ s.size % 8 = 0 := by simpa [splitOk] using h
  rw [splitL_ok h, key_rows s h2.2 _ (by omega), show 8 * (s.size / 8) = s.size by omega]
  apply ByteArray.ext
  simp
theorem split_key (l : List Int) (hl : l.length ≤ 4) (hi : InI l) : splitOk (keyS l) = true ∧ splitL (keyS l) = l := by
  have h1 : splitOk (keyS l) = true := by
    unfold splitOk
    rw [keyS_size]
    simp
    omega
  exact ⟨h1, key_inj _ _ (splitL_in _) hi (key_split _ h1)⟩
end Go.Proofs.YtcjfnfdinhbdlaaGreatDoor
namespace Go.Proofs.YtcjfnfdinhbdlaaGreatDoor
set_option maxRecDepth 100000
open Go.ChangeShapes Go.WideShapes Go.ChangeAt Go.RowKit Go.PlainAid
attribute [local go_sem ↓ high] app_intI
def SplitPost (s : ByteArray) (w : World) (e : Ending) (w' : World) : Prop :=
  ∃ v, e = .returned (.tuple #[v, .int .i64 (if splitOk s = true then 0 else 22)]) ∧ IntsOf w' v (splitL s) ∧ Below w.heap.size w w'
theorem own_in {n₀ : Nat} {w : World} {s : ByteArray} {v : Value} {k : Nat} (h : IntsOwn n₀ w v ((List.range k).map (numAt s))) (hk : k ≤ 4) : IntsOf w v ((List.range k).map (numAt s)) := by
  refine h.reads (by simp; omega) fun x hx => ?_
  obtain ⟨k, _, rfl⟩ := List.mem_map.1 hx
  exact unordV_bounds _
theorem own_nil (n₀ : Nat) (w : World) : IntsOwn n₀ w (.slice none 0 0) [] := ⟨rfl, .inl ⟨rfl, rfl⟩⟩
theorem rest_facts (s : ByteArray) (k : Nat) (h : 8 * k + 8 ≤ s.size) :
    (s.extract (8 * k) s.size).size = s.size - 8 * k ∧ (s.extract (8 * k) s.size).toList.isEmpty = false ∧
    (s.extract (8 * k) s.size).extract 0 8 = s.extract (8 * k) (8 * k + 8) ∧ (s.extract (8 * k) s.size).extract 8 (s.size - 8 * k) = s.extract (8 * (k + 1)) s.size := by
  have hz : (s.extract (8 * k) s.size).size = s.size - 8 * k := by rw [ByteArray.size_extract]; omega
  refine ⟨hz, ?_, ?_, ?_⟩
  · rw [← Bool.not_eq_true, List.isEmpty_iff]
    intro e
    have := congrArg List.length e
    rw [ByteArray.toList_eq, Array.length_toList] at this
    have hz' : (s.extract (8 * k) s.size).data.size = s.size - 8 * k := hz
    rw [hz'] at this
    simp at this
    omega
  · apply ByteArray.ext
    simp only [ByteArray.data_extract, Array.extract_extract]
    congr 1
    have : s.data.size = s.size := rfl
    omega
  · apply ByteArray.ext
    simp only [ByteArray.data_extract, Array.extract_extract]
    congr 1
    have : s.data.size = s.size := rfl
    omega
set_option maxHeartbeats 800000 in
theorem split9_any (s : ByteArray) (w : World) (hs : s.size ≤ 140737488351232) :
    Calls Tryz.prog 157 #[.string s] w (SplitPost s w) := by
  cases hok : splitOk s
  · have hp : ∀ w' : World, Below w.heap.size w w' → SplitPost s w (.returned (.tuple #[.slice none 0 0, .int .i64 22])) w' := fun w' hb =>
      ⟨_, by rw [hok]; rfl, by rw [splitL_no hok]; exact .inl ⟨rfl, _, _, rfl⟩, hb⟩
    have HP := Lib.hid hp
    have hcase : 32 < s.size ∨ (s.size ≤ 32 ∧ s.size % 8 ≠ 0) := by
      simp only [splitOk, Bool.and_eq_false_iff, decide_eq_false_iff_not] at hok
      omega
    clear hp hok
    rcases hcase with h | ⟨h, h8⟩
    · have h' : (32 : Int) < s.size := by omega
      go_enter Tryz.func157, Tryz.ntmps157
      go_wp2
      go_returns
      exact HP.out _ (Below.refl _ _)
    · have h' : ¬ (32 : Int) < s.size := by omega
      obtain ⟨m, hm⟩ : ∃ m : Int, (s.size : Int).tmod 8 = m := ⟨_, rfl⟩
      have hm0 : (m == 0) = false := beq_eq_false_iff_ne.2 (by rw [Int.tmod_eq_emod_of_nonneg (by omega)] at hm; omega)
      go_enter Tryz.func157, Tryz.ntmps157
      go_wp2
      go_returns
      exact HP.out _ (Below.refl _ _)
  · have h2 : s.size ≤ 32 ∧ s.size % 8 = 0 := by simpa [splitOk] using hok
    have hp : ∀ (w' : World) (v : Value), IntsOwn w.heap.size w' v ((List.range (s.size / 8)).map (numAt s)) → Below w.heap.size w w' → SplitPost s w (.returned (.tuple #[v, .int .i64 0])) w' := fun w' v hv hb =>
      ⟨_, by rw [hok]; rfl, by rw [splitL_ok hok]; exact own_in hv (by omega), hb⟩
    have HP := Lib.hid hp
    clear hp hok
    obtain ⟨n, hn⟩ : ∃ n, s.size = 8 * n := ⟨s.size / 8, by omega⟩
    have hn4 : n ≤ 4 := by omega
    have HN := Lib.hid hn
    have h' : ¬ (32 : Int) < s.size := by omega
    have hm0 : (s.size : Int).tmod 8 = 0 := by rw [Int.tmod_eq_emod_of_nonneg (by omega)]; omega
    have h0 : (s.extract (8 * 0) s.size) = s := by
      apply ByteArray.ext
      simp
    have H0 := Lib.hid h0
    clear h2 h0 hn
    go_enter Tryz.func157, Tryz.ntmps157
    go_wp2_with fail
    go_loopw [0, 4] (fun t v wr => ∃ k : Nat, k ≤ n ∧ t = .string (s.extract (8 * k) s.size) ∧ IntsOwn w.heap.size wr v ((List.range k).map (numAt s)) ∧ Below w.heap.size w wr) (fun t _ _ => match t with | .string t => t.size | _ => 0)
    case atStart => exact ⟨0, Nat.zero_le _, by rw [H0.out], own_nil _ _, Below.refl _ _⟩
    case round =>
      obtain ⟨k, hk, rfl, hv, hb⟩ := hrel
      have HV := Lib.hid hv
      have HB := Lib.hid hb
      clear hv hb
      by_cases hlt : k < n
      · obtain ⟨f1, f2, f3, f4⟩ := rest_facts s k (by have := HN.out; omega)
        obtain ⟨z, hz⟩ : ∃ z, s.size - 8 * k = z := ⟨_, rfl⟩
        have hz8 : 8 ≤ z := by have := HN.out; omega
        have hzm : z ≤ 32 := by have := HN.out; omega
        rw [hz] at f1 f4
        have F3 := Lib.hid f3
        have F4 := Lib.hid f4
        have hsz : (s.extract (8 * k) (8 * k + 8)).size = 8 := by
          have := HN.out
          rw [ByteArray.size_extract]; omega
        have HSZ := Lib.hid hsz
        have hsm : (s.extract (8 * (k + 1)) s.size).size < z := by
          have := HN.out
          rw [ByteArray.size_extract]; omega
        have HSM := Lib.hid hsm
        have HF1 := Lib.hid f1
        clear hz f3 f4 hsz hsm
        generalize s.extract (8 * k) s.size = t at *
        go_wp2_with fail
        rw [F3.out]
        refine (unordered_any _ _ HSZ.out).mono ?_
        rintro e w1 ⟨rfl, hb1⟩
        obtain ⟨g, cap, w2, p1, p2, _, p3⟩ := row_pushI (ownsRow_onI HV.out hb1) (Nat.le_trans HB.out.size hb1.size) (by simp; omega) (unordV (s.extract (8 * k) (8 * k + 8))) k (by simp)
        have P2 := Lib.hid p2
        have P3 := Lib.hid ((HB.out.on hb1).trans p3)
        clear p2 p3 hb1
        go_wp2
        go_roundw
        case rel => exact ⟨k + 1, by omega, by rw [← F4.out], by rw [List.range_succ, List.map_append]; exact P2.out, P3.out⟩
        case measure => have := HSM.out; have := HF1.out; rw [F4.out]; show (s.extract (8 * (k + 1)) s.size).size < t.size; omega
      · obtain rfl : k = n := by omega
        have he : (s.extract (8 * k) s.size).toList.isEmpty = true := by
          rw [← HN.out, show s.extract s.size s.size = ⟨#[]⟩ from ByteArray.ext (by simp), empty_list]
          rfl
        have HK : Hid (s.size / 8 = k) := by unfold Hid; have := HN.out; omega
        go_wp2
        go_returns
        exact HP.out _ _ (by rw [HK.out]; exact HV.out) HB.out
end Go.Proofs.YtcjfnfdinhbdlaaGreatDoor
namespace Go.Proofs.YtcjfnfdinhbdlaaGreatDoor
set_option maxRecDepth 100000
open Go.ChangeShapes Go.WideShapes Go.ChangeAt Go.RowKit Go.PlainAid
def pastL : List UInt8 → List UInt8
  | [] => []
  | x :: r => if pastL r = [] then (if x = 255 then [] else [x + 1]) else x :: pastL r
theorem pastL_top : ∀ l : List UInt8, pastL (l ++ [255]) = pastL l
  | [] => rfl
  | x :: r => by rw [List.cons_append, pastL, pastL, pastL_top r]
theorem pastL_low (c : UInt8) (hc : c ≠ 255) : ∀ l : List UInt8, pastL (l ++ [c]) = l ++ [c + 1]
  | [] => by rw [List.nil_append, pastL, pastL, if_pos rfl, if_neg hc]; rfl
  | x :: r => by
    rw [List.cons_append, pastL, pastL_low c hc r, if_neg (by simp)]
    rfl
theorem succ_lt (x : UInt8) (h : x ≠ 255) (y : UInt8) : (decide (y < x + 1)) = decide (y ≤ x) := by
  have hx : x.toNat < 255 := by
    have := x.toNat_lt
    rcases Nat.lt_or_ge x.toNat 255 with c | c
    · exact c
    · exact absurd (UInt8.toNat_inj.1 (show x.toNat = (255 : UInt8).toNat from (by show x.toNat = 255; omega))) h
  have e : (x + 1).toNat = x.toNat + 1 := by
    rw [UInt8.toNat_add]
    show (x.toNat + 1) % 256 = _
    omega
  refine decide_eq_decide.2 ?_
  rw [UInt8.lt_iff_toNat_lt, UInt8.le_iff_toNat_le, e]
  omega
theorem fronts : ∀ (s f : List UInt8), f.isPrefixOf s = (!Op.bytesLess s f && (decide (pastL f = []) || Op.bytesLess s (pastL f)))
  | s, [] => by cases s <;> simp [pastL, Op.bytesLess]
  | [], x :: r => by simp [Op.bytesLess]
  | y :: t, x :: r => by
    have ih := fronts t r
    rw [List.isPrefixOf, ih, pastL, Op.bytesLess]
    by_cases h : pastL r = []
    · rw [if_pos h]
      by_cases hx : x = 255
      · subst hx
        rw [if_pos rfl, h]
        by_cases hy : y = 255
        · subst hy; simp
        · have : y < 255 := by
            rw [UInt8.lt_iff_toNat_lt]
            have := y.toNat_lt
            have hn : y.toNat ≠ 255 := fun e => hy (UInt8.toNat_inj.1 e)
            show y.toNat < 255
            omega
          have e1 : ((255 : UInt8) == y) = false := beq_eq_false_iff_ne.2 fun e => hy e.symm
          have e2 : (y == (255 : UInt8)) = false := beq_eq_false_iff_ne.2 hy
          rw [e1, e2, decide_eq_true this]
          rfl
      · rw [if_neg hx, h]
        have hs := succ_lt x hx y
        rw [show Op.bytesLess (y :: t) [x + 1] = (decide (y < x + 1) || (y == x + 1 && Op.bytesLess t [])) from rfl, hs]
        have hn : Op.bytesLess t [] = false := by cases t <;> rfl
        rw [hn]
        by_cases c : y = x
        · subst c
          have : ¬ y < y := UInt8.lt_irrefl y
          simp [this]
        · have e1 : (x == y) = false := beq_eq_false_iff_ne.2 fun e => c e.symm
          by_cases d : y < x
          · rw [e1, decide_eq_true d]
            rfl
          · have : ¬ y ≤ x := fun e => c (UInt8.le_antisymm e (UInt8.not_lt.1 d))
            rw [e1, decide_eq_false d, decide_eq_false this]
            simp
    · rw [if_neg h]
      rw [show Op.bytesLess (y :: t) (x :: pastL r) = (decide (y < x) || (y == x && Op.bytesLess t (pastL r))) from rfl]
      by_cases c : y = x
      · subst c
        have : ¬ y < y := UInt8.lt_irrefl y
        simp [this, h]
      · have e1 : (x == y) = false := beq_eq_false_iff_ne.2 fun e => c e.symm
        have e2 : (y == x) = false := beq_eq_false_iff_ne.2 c
        by_cases d : y < x
        · rw [e1, e2, decide_eq_true d]
          rfl
        · rw [e1, e2, decide_eq_false d, decide_eq_false h]
          rfl
def pn (s : ByteArray) : Nat → Nat | 0 => 0 | k + 1 => if bt s k = 255 then pn s k else k + 1
theorem pn_top {s : ByteArray} {k : Nat} (h : bt s k = 255) : pn s (k + 1) = pn s k := if_pos h
theorem pn_low {s : ByteArray} {k : Nat} (h : bt s k ≠ 255) : pn s (k + 1) = k + 1 := if_neg h
def pastS (s : ByteArray) : ByteArray := match pn s s.size with | 0 => ⟨#[]⟩ | j + 1 => s.extract 0 j ++ strOfNums [bt s j + 1]
theorem pastS_none {s : ByteArray} (h : pn s s.size = 0) : pastS s = ⟨#[]⟩ := by unfold pastS; rw [h]
theorem pastS_some {s : ByteArray} {j : Nat} (h : pn s s.size = j + 1) : pastS s = s.extract 0 j ++ strOfNums [bt s j + 1] := by unfold pastS; rw [h]
theorem take_next (s : ByteArray) (k : Nat) (h : k < s.size) : s.toList.take (k + 1) = s.toList.take k ++ [UInt8.ofNat (bt s k).toNat] := by
  have hl : k < s.toList.length := by rw [ByteArray.toList_eq, Array.length_toList]; exact h
  rw [List.take_add_one, List.getElem?_eq_getElem hl]
  congr 1
  show [_] = [_]
  congr 1
  rw [bt_list, ← ByteArray.toList_eq, List.getD_eq_getElem?_getD, List.getElem?_eq_getElem hl]
  simp
theorem past_take (s : ByteArray) : ∀ k, k ≤ s.size → pastL (s.toList.take k) = match pn s k with | 0 => [] | j + 1 => s.toList.take j ++ [UInt8.ofNat (bt s j + 1).toNat]
  | 0, _ => by simp [pastL, pn]
  | k + 1, h => by
    have b0 := bt_nonneg s k
    have b1 := bt_le s k
    rw [take_next s k (by omega)]
    by_cases c : bt s k = 255
    · rw [pn_top c, c]
      exact (pastL_top _).trans (past_take s k (by omega))
    · rw [pn_low c, pastL_low _ (fun e => by
        have := congrArg UInt8.toNat e
        rw [UInt8.toNat_ofNat'] at this
        have : (bt s k).toNat % 256 = 255 := this
        omega)]
      show s.toList.take k ++ [_] = s.toList.take k ++ [_]
      congr 2
      apply UInt8.toNat_inj.1
      rw [UInt8.toNat_add, UInt8.toNat_ofNat', UInt8.toNat_ofNat']
      show ((bt s k).toNat % 256 + 1) % 256 = _
      omega
theorem pastS_list (s : ByteArray) : (pastS s).toList = pastL s.toList := by
  have h := past_take s s.size (Nat.le_refl _)
  rw [show s.toList.take s.size = s.toList by rw [ByteArray.toList_eq]; exact List.take_of_length_le (by rw [Array.length_toList]; exact Nat.le_refl _)] at h
  rw [h]
  cases hp : pn s s.size with
  | zero => rw [pastS_none hp, empty_list]
  | succ j =>
    rw [pastS_some hp]
    simp only [ByteArray.toList_eq, ByteArray.data_append, Array.toList_append, ByteArray.data_extract, Array.toList_extract, strOfNums_data]
    simp
def underB (s f : ByteArray) : Bool := f.toList.isPrefixOf s.toList
theorem cut_bt (s : ByteArray) (n k : Nat) (h : k < n) : bt (s.extract 0 n) k = bt s k := by
  rw [bt_list, bt_list]
  simp only [ByteArray.data_extract, Array.toList_extract, List.extract_eq_take_drop, List.drop_zero, List.getD_eq_getElem?_getD]
  rw [List.getElem?_take_of_lt (by omega)]
theorem cut_row (s : ByteArray) (j : Nat) (hj : j + 1 ≤ s.size) (x : Int) : strOfNums ((List.range (j + 1)).map fun i => if i = j then x else bt (s.extract 0 (j + 1)) i) = s.extract 0 j ++ strOfNums [x] := by
  have e : ∀ (s : ByteArray) (j : Nat), j ≤ s.size → strOfNums ((List.range j).map (bt s)) = s.extract 0 j := fun s j hj => by
    refine txt_ext (by rw [strOfNums_size, ByteArray.size_extract]; simp; omega) fun k hk => ?_
    rw [strOfNums_size] at hk
    have hk' : k < j := by simpa using hk
    have hg : ((List.range j).map (bt s)).getD k 0 = bt s k := by simp [List.getD_eq_getElem?_getD, hk']
    rw [bt_strOfNums _ k (by rw [hg]; exact bt_nonneg _ _) (by rw [hg]; exact bt_le _ _), hg, cut_bt s j k hk']
  rw [← e s j (by omega), str_app, List.range_succ, List.map_append]
  congr 2
  · refine List.map_congr_left fun i hi => ?_
    have := List.mem_range.1 hi
    rw [if_neg (by omega), cut_bt s (j + 1) i (by omega)]
  · simp
set_option maxHeartbeats 800000 in
theorem past_any (s : ByteArray) (w : World) (hs : s.size ≤ 140737488351232) :
    Calls Tryz.prog 52 #[.string s] w fun e w' => e = .returned (.string (pastS s)) ∧ Below w.heap.size w w' := by
  have gb := get_bt s
  have HK := Lib.hid (fun w s => Lib.run_convert_string_bytes (P := Tryz.prog) w 9 160 5 s Tryz.underlying9 Tryz.underlying160 Tryz.underlying5)
  go_enter Tryz.func52, Tryz.ntmps52
  go_wp2_with fail
  go_loopw [3] (fun i wr => ∃ k : Nat, k ≤ s.size ∧ i = .int .i64 k ∧ Hid (pn s k = pn s s.size) ∧ w = wr) (fun i _ => (intOf i).toNat)
  case atStart => exact ⟨s.size, Nat.le_refl _, rfl, rfl, rfl⟩
  case round =>
    obtain ⟨k, hk, rfl, HP, rfl⟩ := hrel
    cases k with
    | zero =>
      have hv := Lib.hid (pastS_none HP.out.symm)
      go_wp2
      go_returns
      exact ⟨by rw [hv.out]; rfl, Below.refl _ _⟩
    | succ j =>
      have b0 := bt_nonneg s j
      have b1 := bt_le s j
      by_cases c : bt s j = 255
      · have HP2 : Hid (pn s j = pn s s.size) := by rw [← HP.out, pn_top c]; rfl
        have hc : (bt s j == 255) = true := beq_iff_eq.2 c
        clear c
        go_wp2_with fail
        go_roundw
        case rel => exact ⟨j, by omega, by go_num, HP2, trivial⟩
        case measure => simp [intOf]
      · have hpn : pn s s.size = j + 1 := by rw [← HP.out, pn_low c]
        have hv := Lib.hid (pastS_some hpn)
        have hc : (bt s j == 255) = false := beq_eq_false_iff_ne.2 c
        have hb255 : bt s j ≤ 254 := by omega
        clear c hpn
        go_wp2_with fail
        have hz : (s.extract 0 (j + 1)).size = j + 1 := by rw [ByteArray.size_extract]; omega
        have HR := RowI.ofBytes w 5 (s.extract 0 (j + 1))
        rw [hz] at HR
        rw [HK.out, hz]
        have hx := HR.cells j (by omega)
        rw [cut_bt s (j + 1) j (by omega)] at hx
        have hf := HR.thawed j (by omega)
        have HF := Lib.hid (HR.set (g := fun i => if i = j then bt s j + 1 else bt (s.extract 0 (j + 1)) i) (k := j) (by omega) (bt s j + 1) (if_pos rfl) (fun i _ h => if_neg h))
        clear HR
        generalize Lib.bytesWorld w 5 (s.extract 0 (j + 1)) = w1 at *
        go_wp2_with fail
        rw [run_convert_bytes_arg _ 160 5 Tryz.underlying160 Tryz.underlying5 _ 0 _ _ _ (len_range (j + 1) _) (row_str HF.out) 9 Tryz.underlying9, cut_row s j (by omega)]
        go_wp2
        go_returns
        exact ⟨by rw [hv.out]; rfl, HF.out.below⟩
end Go.Proofs.YtcjfnfdinhbdlaaGreatDoor
namespace Go.Proofs.YtcjfnfdinhbdlaaGreatDoor
set_option maxRecDepth 100000
open Go.ChangeShapes Go.WideShapes Go.ChangeAt Go.RowKit Go.PlainAid
theorem load_op (v : Value) : Instr.loadAt 32 v = loadS 32 v := rfl
theorem OpAt.load {w : World} {b : Nat} {o : OpV} (h : OpAt w b o) : (loadS 32 (.pointer (some ⟨b, 0, none⟩))).run Tryz.prog w = .ok (Value.agg #[Value.int .i64 o.id, Value.int .i64 o.proc, Value.int .i64 o.obj, Value.int .i64 o.kind, Value.int .i64 o.meth, Value.int .i64 o.arg, Value.int .i64 o.sec, Value.bool o.done, Value.int .i64 o.res, Value.int .i64 o.inv, Value.int .i64 o.ret]) w :=
  run_loadAt_mid w b 0 32 [Value.int .i64 o.id, Value.int .i64 o.proc, Value.int .i64 o.obj, Value.int .i64 o.kind, Value.int .i64 o.meth, Value.int .i64 o.arg, Value.int .i64 o.sec, Value.bool o.done, Value.int .i64 o.res, Value.int .i64 o.inv, Value.int .i64 o.ret] _ (fun j v hj => by rw [cell_of_row _ _ _ _ _ _ h, Nat.zero_add, ← hj]; simp) Tryz.underlying32 rfl (by kernel_rfl)
attribute [local go_sem ↓ high] load_op
theorem check_30 {o : OpV} (h : namedB o = false) : checkZ o = 30 := by unfold checkZ; rw [h]; rfl
theorem check_33 {o : OpV} (h : namedB o = true) (h2 : ruledB o = false) : checkZ o = 33 := by unfold checkZ; rw [h, h2]; rfl
theorem check_31 {o : OpV} (h : namedB o = true) (h2 : ruledB o = true) (h3 : timedB o = false) : checkZ o = 31 := by unfold checkZ; rw [h, h2, h3]; rfl
theorem check_0 {o : OpV} (h : namedB o = true) (h2 : ruledB o = true) (h3 : timedB o = true) : checkZ o = 0 := by unfold checkZ; rw [h, h2, h3]; rfl
set_option maxHeartbeats 2000000 in
theorem ocheck_any (o : OpV) (w : World) (hR : RulesAt w) : Calls Tryz.prog 75 #[Value.agg #[Value.int .i64 o.id, Value.int .i64 o.proc, Value.int .i64 o.obj, Value.int .i64 o.kind, Value.int .i64 o.meth, Value.int .i64 o.arg, Value.int .i64 o.sec, Value.bool o.done, Value.int .i64 o.res, Value.int .i64 o.inv, Value.int .i64 o.ret]] w fun e w' => e = .returned (.int .i64 (checkZ o)) ∧ Below w.heap.size w w' := by
  have HB := Lib.hid (show Below w.heap.size w (w.alloc (.cells #[Value.int .i64 o.id, Value.int .i64 o.proc, Value.int .i64 o.obj, Value.int .i64 o.kind, Value.int .i64 o.meth, Value.int .i64 o.arg, Value.int .i64 o.sec, Value.bool o.done, Value.int .i64 o.res, Value.int .i64 o.inv, Value.int .i64 o.ret] 32)) by go_grown)
  have l0 := (OpAt.box w o).load
  have HR := Lib.hid (hR.on HB.out)
  clear hR
  go_enter Tryz.func75, Tryz.ntmps75
  go_wp2_with fail
  refine (named_any o _).mono ?_
  rintro _ w1 ⟨rfl, hb1⟩
  have l1 := ((OpAt.box w o).on hb1).load
  have HO1 := Lib.hid ((OpAt.box w o).on hb1)
  have HR1 := Lib.hid (HR.out.on hb1)
  have HB1 := Lib.hid (HB.out.on hb1)
  clear hb1
  cases h1 : namedB o
  · have hn := Lib.hid (check_30 h1)
    clear h1
    go_wp2_with fail
    go_returns
    exact ⟨by rw [hn.out]; rfl, HB1.out⟩
  · have h1' := Lib.hid h1
    clear h1
    go_wp2_with fail
    refine (ruled_any o _ HR1.out).mono ?_
    rintro _ w2 ⟨rfl, hb2⟩
    have l2 := (HO1.out.on hb2).load
    have HB2 := Lib.hid (HB1.out.on hb2)
    clear hb2
    cases h2 : ruledB o
    · have hn := Lib.hid (check_33 h1'.out h2)
      clear h2
      go_wp2_with fail
      go_returns
      exact ⟨by rw [hn.out]; rfl, HB2.out⟩
    · have h2' := Lib.hid h2
      clear h2
      go_wp2_with fail
      refine (timed_any o _).mono ?_
      rintro _ w3 ⟨rfl, hb3⟩
      have HB3 := Lib.hid (HB2.out.on hb3)
      clear hb3
      cases h3 : timedB o
      · have hn := Lib.hid (check_31 h1'.out h2'.out h3)
        clear h3
        go_wp2_with fail
        go_returns
        exact ⟨by rw [hn.out]; rfl, HB3.out⟩
      · have hn := Lib.hid (check_0 h1'.out h2'.out h3)
        clear h3
        go_wp2_with fail
        go_returns
        exact ⟨by rw [hn.out]; rfl, HB3.out⟩
attribute [local go_sem ↓ high] store_r
end Go.Proofs.YtcjfnfdinhbdlaaGreatDoor
