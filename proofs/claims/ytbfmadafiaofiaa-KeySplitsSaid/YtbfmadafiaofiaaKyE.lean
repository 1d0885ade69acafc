/- What is past a text, and which texts begin with one: plain facts, and contracts of Past (both) and Under. -/
import Derived.Test.YtbfmadafiaofiaaKyC
import Derived.Deep.RegionWith
namespace Go.Proofs.Ytbfmadafiaofiaa
set_option maxRecDepth 100000
open Go.ChangeShapes Go.WideShapes Go.ChangeAt Go.RowKit Go.PlainAid

/-- The bytes past all that begin with these; none: there are none. -/
def pastL : List UInt8 → List UInt8
  | [] => []
  | x :: r => if pastL r = [] then (if x = 255 then [] else [x + 1]) else x :: pastL r
theorem pastL_top : ∀ l : List UInt8, pastL (l ++ [255]) = pastL l
  | [] => rfl
  | x :: r => by rw [List.cons_append, pastL, pastL, pastL_top r]
theorem pastL_low (c : UInt8) (hc : c ≠ 255) : ∀ l : List UInt8, pastL (l ++ [c]) = l ++ [c + 1]
  | [] => by rw [List.nil_append, pastL, pastL, if_pos rfl, if_neg hc]; rfl
  | x :: r => by
    rw [List.cons_append, pastL, pastL_low c hc r, if_neg (by simp)]
    rfl
theorem succ_lt (x : UInt8) (h : x ≠ 255) (y : UInt8) : (decide (y < x + 1)) = decide (y ≤ x) := by
  have hx : x.toNat < 255 := by
    have := x.toNat_lt
    rcases Nat.lt_or_ge x.toNat 255 with c | c
    · exact c
    · exact absurd (UInt8.toNat_inj.1 (show x.toNat = (255 : UInt8).toNat from (by show x.toNat = 255; omega))) h
  have e : (x + 1).toNat = x.toNat + 1 := by
    rw [UInt8.toNat_add]
    show (x.toNat + 1) % 256 = _
    omega
  refine decide_eq_decide.2 ?_
  rw [UInt8.lt_iff_toNat_lt, UInt8.le_iff_toNat_le, e]
  omega
/-- A text begins with these bytes just if it is not below them, and below what is past them. -/
theorem fronts : ∀ (s f : List UInt8), f.isPrefixOf s = (!Op.bytesLess s f && (decide (pastL f = []) || Op.bytesLess s (pastL f)))
  | s, [] => by cases s <;> simp [pastL, Op.bytesLess]
  | [], x :: r => by simp [Op.bytesLess]
  | y :: t, x :: r => by
    have ih := fronts t r
    rw [List.isPrefixOf, ih, pastL, Op.bytesLess]
    by_cases h : pastL r = []
    · rw [if_pos h]
      by_cases hx : x = 255
      · subst hx
        rw [if_pos rfl, h]
        by_cases hy : y = 255
        · subst hy; simp
        · have : y < 255 := by
            rw [UInt8.lt_iff_toNat_lt]
            have := y.toNat_lt
            have hn : y.toNat ≠ 255 := fun e => hy (UInt8.toNat_inj.1 e)
            show y.toNat < 255
            omega
          have e1 : ((255 : UInt8) == y) = false := beq_eq_false_iff_ne.2 fun e => hy e.symm
          have e2 : (y == (255 : UInt8)) = false := beq_eq_false_iff_ne.2 hy
          rw [e1, e2, decide_eq_true this]
          rfl
      · rw [if_neg hx, h]
        have hs := succ_lt x hx y
        rw [show Op.bytesLess (y :: t) [x + 1] = (decide (y < x + 1) || (y == x + 1 && Op.bytesLess t [])) from rfl, hs]
        have hn : Op.bytesLess t [] = false := by cases t <;> rfl
        rw [hn]
        by_cases c : y = x
        · subst c
          have : ¬ y < y := UInt8.lt_irrefl y
          simp [this]
        · have e1 : (x == y) = false := beq_eq_false_iff_ne.2 fun e => c e.symm
          by_cases d : y < x
          · rw [e1, decide_eq_true d]
            rfl
          · have : ¬ y ≤ x := fun e => c (UInt8.le_antisymm e (UInt8.not_lt.1 d))
            rw [e1, decide_eq_false d, decide_eq_false this]
            simp
    · rw [if_neg h]
      rw [show Op.bytesLess (y :: t) (x :: pastL r) = (decide (y < x) || (y == x && Op.bytesLess t (pastL r))) from rfl]
      by_cases c : y = x
      · subst c
        have : ¬ y < y := UInt8.lt_irrefl y
        simp [this, h]
      · have e1 : (x == y) = false := beq_eq_false_iff_ne.2 fun e => c e.symm
        have e2 : (y == x) = false := beq_eq_false_iff_ne.2 c
        by_cases d : y < x
        · rw [e1, e2, decide_eq_true d]
          rfl
        · rw [e1, e2, decide_eq_false d, decide_eq_false h]
          rfl
/-- How many bytes stand up to the last one below 255. -/
def pn (s : ByteArray) : Nat → Nat | 0 => 0 | k + 1 => if bt s k = 255 then pn s k else k + 1
theorem pn_le (s : ByteArray) : ∀ k, pn s k ≤ k
  | 0 => Nat.le_refl _
  | k + 1 => by
    have := pn_le s k
    rw [pn]
    split <;> omega
theorem pn_top {s : ByteArray} {k : Nat} (h : bt s k = 255) : pn s (k + 1) = pn s k := if_pos h
theorem pn_low {s : ByteArray} {k : Nat} (h : bt s k ≠ 255) : pn s (k + 1) = k + 1 := if_neg h
theorem pn_at (s : ByteArray) : ∀ k j, pn s k = j + 1 → bt s j ≠ 255
  | 0, j, h => by cases h
  | k + 1, j, h => by
    by_cases c : bt s k = 255
    · rw [pn_top c] at h
      exact pn_at s k j h
    · rw [pn_low c] at h
      obtain rfl : k = j := by omega
      exact c
/-- What Past answers. -/
def pastS (s : ByteArray) : ByteArray := match pn s s.size with | 0 => ⟨#[]⟩ | j + 1 => s.extract 0 j ++ strOfNums [bt s j + 1]
theorem pastS_none {s : ByteArray} (h : pn s s.size = 0) : pastS s = ⟨#[]⟩ := by unfold pastS; rw [h]
theorem pastS_some {s : ByteArray} {j : Nat} (h : pn s s.size = j + 1) : pastS s = s.extract 0 j ++ strOfNums [bt s j + 1] := by unfold pastS; rw [h]
theorem take_next (s : ByteArray) (k : Nat) (h : k < s.size) : s.toList.take (k + 1) = s.toList.take k ++ [UInt8.ofNat (bt s k).toNat] := by
  have hl : k < s.toList.length := by rw [ByteArray.toList_eq, Array.length_toList]; exact h
  rw [List.take_add_one, List.getElem?_eq_getElem hl]
  congr 1
  show [_] = [_]
  congr 1
  rw [bt_list, ← ByteArray.toList_eq, List.getD_eq_getElem?_getD, List.getElem?_eq_getElem hl]
  simp
theorem past_take (s : ByteArray) : ∀ k, k ≤ s.size → pastL (s.toList.take k) = match pn s k with | 0 => [] | j + 1 => s.toList.take j ++ [UInt8.ofNat (bt s j + 1).toNat]
  | 0, _ => by simp [pastL, pn]
  | k + 1, h => by
    have b0 := bt_nonneg s k
    have b1 := bt_le s k
    rw [take_next s k (by omega)]
    by_cases c : bt s k = 255
    · rw [pn_top c, c]
      exact (pastL_top _).trans (past_take s k (by omega))
    · rw [pn_low c, pastL_low _ (fun e => by
        have := congrArg UInt8.toNat e
        rw [UInt8.toNat_ofNat'] at this
        have : (bt s k).toNat % 256 = 255 := this
        omega)]
      show s.toList.take k ++ [_] = s.toList.take k ++ [_]
      congr 2
      apply UInt8.toNat_inj.1
      rw [UInt8.toNat_add, UInt8.toNat_ofNat', UInt8.toNat_ofNat']
      show ((bt s k).toNat % 256 + 1) % 256 = _
      omega
theorem pastS_list (s : ByteArray) : (pastS s).toList = pastL s.toList := by
  have h := past_take s s.size (Nat.le_refl _)
  rw [show s.toList.take s.size = s.toList by rw [ByteArray.toList_eq]; exact List.take_of_length_le (by rw [Array.length_toList]; exact Nat.le_refl _)] at h
  rw [h]
  cases hp : pn s s.size with
  | zero => rw [pastS_none hp, empty_list]
  | succ j =>
    rw [pastS_some hp]
    simp only [ByteArray.toList_eq, ByteArray.data_append, Array.toList_append, ByteArray.data_extract, Array.toList_extract, strOfNums_data]
    simp
/-- Does a text begin with another one? -/
def underB (s f : ByteArray) : Bool := f.toList.isPrefixOf s.toList
theorem list_empty (s : ByteArray) : s.toList = [] ↔ s = ⟨#[]⟩ := by
  constructor
  · intro h
    rw [ByteArray.toList_eq] at h
    exact ByteArray.ext (Array.ext' h)
  · rintro rfl
    exact empty_list
theorem under_between (s f : ByteArray) : underB s f = (!Op.bytesLess s.toList f.toList && ((pastS f).toList.isEmpty || Op.bytesLess s.toList (pastS f).toList)) := by
  rw [underB, fronts, pastS_list]
  congr 2
  cases pastL f.toList <;> rfl
theorem under_cat (f s : ByteArray) : underB (f ++ s) f = true := by
  unfold underB
  rw [List.isPrefixOf_iff_prefix, ByteArray.toList_eq, ByteArray.toList_eq, ByteArray.data_append, Array.toList_append]
  exact List.prefix_append _ _
theorem under_long {s f : ByteArray} (h : ¬ f.size ≤ s.size) : underB s f = false := by
  unfold underB
  rw [← Bool.not_eq_true, List.isPrefixOf_iff_prefix]
  intro e
  have := e.length_le
  rw [ByteArray.toList_eq, ByteArray.toList_eq, Array.length_toList, Array.length_toList] at this
  exact h this
theorem under_cut (s f : ByteArray) : ((s.extract 0 f.size).toList == f.toList) = underB s f := by
  unfold underB
  rw [Bool.eq_iff_iff, beq_iff_eq, List.isPrefixOf_iff_prefix, List.prefix_iff_eq_take]
  simp only [ByteArray.toList_eq, ByteArray.data_extract, Array.toList_extract, List.extract_eq_take_drop, List.drop_zero, Nat.sub_zero, Array.length_toList]
  exact ⟨fun h => h.symm, fun h => h.symm⟩

set_option maxHeartbeats 400000 in
theorem prefix_any (s f : ByteArray) (w : World) :
    Calls Try.prog 26 #[.string s, .string f] w fun e w' => e = .returned (.bool (underB s f)) ∧ w = w' := by
  by_cases h : f.size ≤ s.size
  · have hu := under_cut s f
    have h' : (f.size : Int) ≤ s.size := by omega
    cases hb : underB s f
    · rw [hb] at hu
      go_enter Try.func26, Try.ntmps26
      go_wp2
      go_returns
      exact ⟨rfl, rfl⟩
    · rw [hb] at hu
      go_enter Try.func26, Try.ntmps26
      go_wp2
      go_returns
      exact ⟨rfl, rfl⟩
  · have hu := Lib.hid (under_long h)
    have h' : ¬ (f.size : Int) ≤ s.size := by omega
    go_enter Try.func26, Try.ntmps26
    go_wp2
    go_returns
    exact ⟨by rw [hu.out]; rfl, rfl⟩
theorem hasPrefix_any (s f : ByteArray) (w : World) :
    Calls Try.prog 22 #[.string s, .string f] w fun e w' => e = .returned (.bool (underB s f)) ∧ w = w' := by
  go_enter Try.func22, Try.ntmps22
  go_wp2_with fail
  refine (prefix_any s f _).mono ?_
  rintro e _ ⟨rfl, rfl⟩
  go_wp2
  go_returns
  exact ⟨rfl, rfl⟩
theorem under_any (s f : ByteArray) (w : World) :
    Calls Try.prog 17 #[.string s, .string f] w fun e w' => e = .returned (.bool (underB s f)) ∧ w = w' := by
  go_enter Try.func17, Try.ntmps17
  go_wp2_with fail
  refine (hasPrefix_any s f _).mono ?_
  rintro e _ ⟨rfl, rfl⟩
  go_wp2
  go_returns
  exact ⟨rfl, rfl⟩
theorem cut_bt (s : ByteArray) (n k : Nat) (h : k < n) : bt (s.extract 0 n) k = bt s k := by
  rw [bt_list, bt_list]
  simp only [ByteArray.data_extract, Array.toList_extract, List.extract_eq_take_drop, List.drop_zero, List.getD_eq_getElem?_getD]
  rw [List.getElem?_take_of_lt (by omega)]
theorem cut_row (s : ByteArray) (j : Nat) (hj : j + 1 ≤ s.size) (x : Int) : strOfNums ((List.range (j + 1)).map fun i => if i = j then x else bt (s.extract 0 (j + 1)) i) = s.extract 0 j ++ strOfNums [x] := by
  have e : ∀ (s : ByteArray) (j : Nat), j ≤ s.size → strOfNums ((List.range j).map (bt s)) = s.extract 0 j := fun s j hj => by
    refine txt_ext (by rw [strOfNums_size, ByteArray.size_extract]; simp; omega) fun k hk => ?_
    rw [strOfNums_size] at hk
    have hk' : k < j := by simpa using hk
    have hg : ((List.range j).map (bt s)).getD k 0 = bt s k := by simp [List.getD_eq_getElem?_getD, hk']
    rw [bt_strOfNums _ k (by rw [hg]; exact bt_nonneg _ _) (by rw [hg]; exact bt_le _ _), hg, cut_bt s j k hk']
  rw [← e s j (by omega), str_app, List.range_succ, List.map_append]
  congr 2
  · refine List.map_congr_left fun i hi => ?_
    have := List.mem_range.1 hi
    rw [if_neg (by omega), cut_bt s (j + 1) i (by omega)]
  · simp

set_option maxHeartbeats 800000 in
theorem past_any (s : ByteArray) (w : World) (hs : s.size ≤ 140737488351232) :
    Calls Try.prog 15 #[.string s] w fun e w' => e = .returned (.string (pastS s)) ∧ Below w.heap.size w w' := by
  have gb := get_bt s
  have HK := Lib.hid (fun w s => Lib.run_convert_string_bytes (P := Try.prog) w 9 44 5 s Try.underlying9 Try.underlying44 Try.underlying5)
  go_enter Try.func15, Try.ntmps15
  go_wp2_with fail
  go_loopw [3] (fun i wr => ∃ k : Nat, k ≤ s.size ∧ i = .int .i64 k ∧ Hid (pn s k = pn s s.size) ∧ w = wr) (fun i _ => (intOf i).toNat)
  case atStart => exact ⟨s.size, Nat.le_refl _, rfl, rfl, rfl⟩
  case round =>
    obtain ⟨k, hk, rfl, HP, rfl⟩ := hrel
    cases k with
    | zero =>
      have hv := Lib.hid (pastS_none HP.out.symm)
      go_wp2
      go_returns
      exact ⟨by rw [hv.out]; rfl, Below.refl _ _⟩
    | succ j =>
      have b0 := bt_nonneg s j
      have b1 := bt_le s j
      by_cases c : bt s j = 255
      · have HP2 : Hid (pn s j = pn s s.size) := by rw [← HP.out, pn_top c]; rfl
        have hc : (bt s j == 255) = true := beq_iff_eq.2 c
        clear c
        go_wp2_with fail
        go_roundw
        case rel => exact ⟨j, by omega, by go_num, HP2, trivial⟩
        case measure => simp [intOf]
      · have hpn : pn s s.size = j + 1 := by rw [← HP.out, pn_low c]
        have hv := Lib.hid (pastS_some hpn)
        have hc : (bt s j == 255) = false := beq_eq_false_iff_ne.2 c
        have hb255 : bt s j ≤ 254 := by omega
        clear c hpn
        go_wp2_with fail
        have hz : (s.extract 0 (j + 1)).size = j + 1 := by rw [ByteArray.size_extract]; omega
        have HR := RowI.ofBytes w 5 (s.extract 0 (j + 1))
        rw [hz] at HR
        rw [HK.out, hz]
        have hx := HR.cells j (by omega)
        rw [cut_bt s (j + 1) j (by omega)] at hx
        have hf := HR.thawed j (by omega)
        have HF := Lib.hid (HR.set (g := fun i => if i = j then bt s j + 1 else bt (s.extract 0 (j + 1)) i) (k := j) (by omega) (bt s j + 1) (if_pos rfl) (fun i _ h => if_neg h))
        clear HR
        generalize Lib.bytesWorld w 5 (s.extract 0 (j + 1)) = w1 at *
        go_wp2_with fail
        rw [run_convert_bytes_arg _ 44 5 Try.underlying44 Try.underlying5 _ 0 _ _ _ (len_range (j + 1) _) (row_str HF.out) 9 Try.underlying9, cut_row s j (by omega)]
        go_wp2
        go_returns
        exact ⟨by rw [hv.out]; rfl, HF.out.below⟩

set_option maxHeartbeats 800000 in
theorem rpast_any (s : ByteArray) (w : World) (hs : s.size ≤ 140737488351232) :
    Calls Try.prog 16 #[.string s] w fun e w' => e = .returned (.string (pastS s)) ∧ Below w.heap.size w w' := by
  have gb := get_bt s
  have HK := Lib.hid (fun w b c => run_conv_one (P := Try.prog) 44 5 9 Try.underlying44 Try.underlying5 Try.underlying9 w b c)
  go_enter Try.func16, Try.ntmps16
  go_wp2_with fail
  go_loopw [3] (fun i wr => ∃ k : Nat, k ≤ s.size ∧ i = .int .i64 k ∧ Hid (pn s k = pn s s.size) ∧ w = wr) (fun i _ => (intOf i).toNat)
  case atStart => exact ⟨s.size, Nat.le_refl _, rfl, rfl, rfl⟩
  case round =>
    obtain ⟨k, hk, rfl, HP, rfl⟩ := hrel
    cases k with
    | zero =>
      have hv := Lib.hid (pastS_none HP.out.symm)
      go_wp2
      go_returns
      exact ⟨by rw [hv.out]; rfl, Below.refl _ _⟩
    | succ j =>
      have b0 := bt_nonneg s j
      have b1 := bt_le s j
      by_cases c : bt s j = 255
      · have HP2 : Hid (pn s j = pn s s.size) := by rw [← HP.out, pn_top c]; rfl
        have hc : (bt s j == 255) = true := beq_iff_eq.2 c
        clear c
        go_wp2_with fail
        go_roundw
        case rel => exact ⟨j, by omega, by go_num, HP2, trivial⟩
        case measure => simp [intOf]
      · have hpn : pn s s.size = j + 1 := by rw [← HP.out, pn_low c]
        have hv := Lib.hid (pastS_some hpn)
        have hc : (bt s j == 255) = false := beq_eq_false_iff_ne.2 c
        have hb255 : bt s j ≤ 254 := by omega
        have hz : (s.extract 0 j).size ≤ 140737488351232 := by rw [ByteArray.size_extract]; omega
        have hz1 : (strOfNums [bt s j + 1]).size ≤ 1 := by rw [strOfNums_size]; exact Nat.le_refl _
        clear c hpn
        have HC := fun w b => HK.out w b 1
        have HO := fun w b x => convOne_some Try.prog 44 9 w b 1 x
        have hj : j ≤ s.size := by omega
        have hw5 : IntKind.i64.wrap (j : Int) = j := IntWalk.i64_in _ (by omega)
        have hj2 : j < s.size := by omega
        have hw8 : IntKind.u8.wrap (bt s j + 1) = bt s j + 1 := IntWalk.u8_in _ (by omega)
        have hj0 : (0 : Int) ≤ (j : Int) := by omega
        have hj3 : (j : Int) ≤ (s.size : Int) := by omega
        obtain ⟨t, ht⟩ : ∃ t, s.extract 0 j = t := ⟨_, rfl⟩
        rw [ht] at hz hv
        go_wp2_with fail
        go_region_with fail
        all_goals
          go_wp2
          go_returns
          refine ⟨by rw [hv.out]; rfl, ?_⟩
          exact ((Below.refl _ _).alloc (Nat.le_refl _) _).drew
end Go.Proofs.Ytbfmadafiaofiaa
