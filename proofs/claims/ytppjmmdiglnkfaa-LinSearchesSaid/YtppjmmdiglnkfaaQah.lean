/- Contracts: Var and the reference's Var. Contracts: Unvar and the reference's Unvar. Plain: the text that Var writes of the number that a text's groups make is that text, or it is not. -/
import Derived.Test.YtppjmmdiglnkfaaRows
import Derived.Test.YtppjmmdiglnkfaaQaa
import Derived.Deep.RegionWith
import Derived.Deep.RegionHeld3
import Derived.Deep.QuietTactic
import Derived.BigQuiet
namespace Go.Proofs.Ytppjmmdiglnkfaa
set_option maxRecDepth 100000
open Go.ChangeShapes Go.WideShapes Go.ChangeAt Go.RowKit Go.PlainAid

/-- A number in groups of seven bits, the lowest first. -/
def varL (n : Nat) : List Int := if n < 128 then [(n : Int)] else ((n % 128 + 128 : Nat) : Int) :: varL (n / 128)
termination_by n
decreasing_by omega
theorem varL_lt {n : Nat} (h : n < 128) : varL n = [(n : Int)] := by rw [varL, if_pos h]
theorem varL_ge {n : Nat} (h : 128 ≤ n) : varL n = ((n % 128 + 128 : Nat) : Int) :: varL (n / 128) := by rw [varL, if_neg (by omega)]
theorem varL_len : ∀ (k n : Nat), n < 128 ^ (k + 1) → (varL n).length ≤ k + 1
  | 0, n, h => by rw [varL_lt (by omega)]; exact Nat.le_refl _
  | k + 1, n, h => by
    by_cases c : n < 128
    · rw [varL_lt c]; simp
    · rw [varL_ge (by omega), List.length_cons]
      have := varL_len k (n / 128) (by rw [Nat.pow_succ] at h; omega)
      omega
theorem varL_ten (n : Nat) (h : n < 18446744073709551616) : (varL n).length ≤ 10 := varL_len 9 n (by omega)
theorem varL_pos (n : Nat) : 1 ≤ (varL n).length := by
  by_cases c : n < 128
  · rw [varL_lt c]; simp
  · rw [varL_ge (by omega)]; simp
def varS (m : Int) : ByteArray := strOfNums (varL m.toNat)
theorem varS_size (m : Int) (h0 : 0 ≤ m) (h : m ≤ 18446744073709551615) : (varS m).size ≤ 10 := by unfold varS; rw [strOfNums_size]; exact varL_ten _ (by omega)
theorem varS_lt {m : Int} (h0 : 0 ≤ m) (h : m < 128) : strOfNums [m] = varS m := by unfold varS; rw [varL_lt (by omega), show ((m.toNat : Nat) : Int) = m by omega]
theorem varS_ge {m : Int} (h : 128 ≤ m) : strOfNums [m % 128 + 128] ++ varS (m / 128) = varS m := by
  unfold varS
  rw [str_app, varL_ge (n := m.toNat) (by omega), show (m / 128).toNat = m.toNat / 128 by omega, show ((m.toNat % 128 + 128 : Nat) : Int) = m % 128 + 128 by omega]
  rfl

set_option maxHeartbeats 1000000 in
theorem rvar_k : ∀ (k : Nat) (m : Int), 0 ≤ m → m ≤ 18446744073709551615 → m < ((128 ^ (k + 1) : Nat) : Int) → ∀ (w : World),
    Calls Try.prog 81 #[.int .u64 m] w fun e w' => e = .returned (.string (varS m)) ∧ Below w.heap.size w w' := by
  intro k
  induction k with
  | zero =>
    intro m h0 h1 hk w
    have c : m < 128 := by simpa using hk
    have HC := fun w b => run_conv_one (P := Try.prog) 105 5 9 Try.underlying105 Try.underlying5 Try.underlying9 w b 1
    have HO := fun w b x => convOne_some Try.prog 105 9 w b 1 x
    have hf := Lib.hid (varS_lt h0 c)
    clear hk
    go_enter Try.func81, Try.ntmps81
    go_wp2
    go_returns
    exact ⟨by rw [← hf.out]; rfl, by go_grown⟩
  | succ k ih =>
    intro m h0 h1 hk w
    have HC := fun w b => run_conv_one (P := Try.prog) 105 5 9 Try.underlying105 Try.underlying5 Try.underlying9 w b 1
    have HO := fun w b x => convOne_some Try.prog 105 9 w b 1 x
    by_cases c : m < 128
    · have hf := Lib.hid (varS_lt h0 c)
      clear ih hk
      go_enter Try.func81, Try.ntmps81
      go_wp2
      go_returns
      exact ⟨by rw [← hf.out]; rfl, by go_grown⟩
    · have hf := Lib.hid (varS_ge (m := m) (by omega))
      have hq := varS_size (m / 128) (by omega) (by omega)
      have hq1 : (strOfNums [m % 128 + 128]).size ≤ 1 := by rw [strOfNums_size]; exact Nat.le_refl _
      have IH := Lib.hid (ih (m / 128) (by omega) (by omega) (by rw [Nat.pow_succ] at hk; omega))
      clear ih hk
      have e1 : IntKind.u64.wrap (m.tdiv 128) = m / 128 := IntWalk.u64_quo _ _ ⟨h0, h1, by omega⟩
      have e2 : m.tmod 128 = m % 128 := IntWalk.rem_in _ _ h0
      have e3 : IntKind.u64.wrap (m % 128 + 128) = m % 128 + 128 := IntWalk.u64_in _ (by omega)
      have e4 : IntKind.u8.wrap (m % 128 + 128) = m % 128 + 128 := IntWalk.u8_in _ (by omega)
      have e5 : IntKind.u64.wrap (m % 128) = m % 128 := IntWalk.u64_in _ (by omega)
      go_enter Try.func81, Try.ntmps81
      go_wp2_with fail
      go_region_with (go_at_call 81; (with_reducible refine (IH.out _).mono ?_); rintro e w1 ⟨rfl, hb⟩; obtain ⟨hc, hf2⟩ := bcell hb)
      all_goals
        go_wp2
        go_returns
        refine ⟨by rw [← hf.out]; rfl, ?_⟩
        first
          | exact (((Below.refl _ _).alloc (Nat.le_refl _) _).drew).trans (hb.mono (by simp))
          | exact ((Below.refl _ _).drew.trans hb).alloc hb.size _
theorem rvar_any (m : Int) (h0 : 0 ≤ m) (h1 : m ≤ 18446744073709551615) (w : World) :
    Calls Try.prog 81 #[.int .u64 m] w fun e w' => e = .returned (.string (varS m)) ∧ Below w.heap.size w w' :=
  rvar_k 9 m h0 h1 (by omega) w

theorem infoG : (Try.prog.info? 5).map (fun i => (i.zero, i.size, i.bytes)) = some (some (.int .u8 0), 1, 1) := by kernel_rfl

/-- What Var's loop has laid: L, and m is still to come. -/
structure VarI (n : Int) (w : World) (m : Int) (v : Value) (L : List Int) (wr : World) : Prop where
  lo : 0 ≤ m
  hi : m ≤ 18446744073709551615
  len : L.length + (varL m.toNat).length ≤ 10
  list : L ++ varL m.toNat = varL n.toNat
  own : wr.ownsRow w.heap.size 5 1 v L.length (L.map (Value.int .u8))
  below : Below w.heap.size w wr

set_option maxHeartbeats 1000000 in
theorem var_any (n : Int) (h0 : 0 ≤ n) (h1 : n ≤ 18446744073709551615) (w : World) :
    Calls Try.prog 65 #[.int .u64 n] w fun e w' => e = .returned (.string (varS n)) ∧ Below w.heap.size w w' := by
  obtain ⟨i0, hi, hz0, hz1, hz2⟩ := info_parts infoG
  have hl := varL_ten n.toNat (by omega)
  have HL := Lib.hid hl
  clear hl
  go_enter Try.func65, Try.ntmps65
  go_wp2
  go_loopw [0, 3] (fun x v wr => ∃ m L, x = .int .u64 m ∧ VarI n w m v L wr) (fun x _ _ => (intOf x).toNat)
  case atStart => exact ⟨n, [], rfl, h0, h1, by simpa using HL.out, rfl, ⟨rfl, Or.inl ⟨rfl, rfl⟩⟩, Below.refl _ _⟩
  case round =>
    obtain ⟨m, L, rfl, hI⟩ := hrel
    have hm0 := hI.lo
    have hm1 := hI.hi
    by_cases hlt : 128 ≤ m
    · have hor := u8_or_128 (m % 256) (by omega) (by omega)
      have hown := Lib.hid hI.own
      have hlen := Lib.hid hI.len
      have hpos := Lib.hid (varL_pos m.toNat)
      have hbel := hI.below
      have hq := Lib.hid (varL_ge (n := m.toNat) (by omega))
      have hq2 := Lib.hid (show (m / 128).toNat = m.toNat / 128 by omega)
      go_wp2_with (at_builtin; refine wpList_append_own _ rfl _ _ 105 rfl w.heap.size 5 i0 (.int .u8 0) 1 1 Try.underlying105 hi hz0 hz1 hz2 rfl (by decide) _ _ _ rfl (hown.out.alloc _) ⟨wr.heap.size, 0, none⟩ 1 1 [.int .u8 (m % 128 + 128)] rfl rfl ?c1 ?c2 ?c3 ?c4 ?c5 ?_)
      case c1 => exact one_new _ _ _
      case c2 => exact one_cell _
      case c3 => have a := hlen.out; unfold maxLen; omega
      case c4 => have a := hlen.out; omega
      case c5 => have a := hbel.size; simp; omega
      intro v1 w1 hown1 hgrow1 _
      have HO1 := Lib.hid hown1
      have HG1 := Lib.hid hgrow1
      clear hown1 hgrow1
      go_wp2
      go_roundw
      case rel =>
        refine ⟨m / 128, L ++ [m % 128 + 128], rfl, by omega, by omega, ?_, ?_, ?_, ?_⟩
        · have a := hlen.out
          rw [hq.out] at a
          rw [hq2.out]
          simp at a ⊢
          omega
        · have a := hI.list
          rw [hq.out] at a
          rw [hq2.out, ← a, List.append_assoc, show ((m.toNat % 128 + 128 : Nat) : Int) = m % 128 + 128 by omega]
          rfl
        · have a := HO1.out
          rw [List.length_append, List.map_append]
          exact a
        · have a := hbel.size
          exact (hbel.alloc a _).grown HG1.out (by simp; omega) (fun k hk => (hown.out.lt k hk).1)
      case measure => simp [intOf]; omega
    · have hown := Lib.hid hI.own
      have hlen := Lib.hid hI.len
      have hpos := Lib.hid (varL_pos m.toNat)
      have hbel := hI.below
      have hq := Lib.hid (varL_lt (n := m.toNat) (by omega))
      go_wp2_with (at_builtin; refine wpList_append_own _ rfl _ _ 105 rfl w.heap.size 5 i0 (.int .u8 0) 1 1 Try.underlying105 hi hz0 hz1 hz2 rfl (by decide) _ _ _ rfl (hown.out.alloc _) ⟨wr.heap.size, 0, none⟩ 1 1 [.int .u8 m] rfl rfl ?d1 ?d2 ?d3 ?d4 ?d5 ?_)
      case d2 => rfl
      case d3 => have a := hlen.out; unfold maxLen; omega
      case d4 => have a := hlen.out; omega
      case d5 => have a := hbel.size; simp; omega
      intro v1 w1 hown1 hgrow1 _
      have hv : w1.ownsRow w.heap.size 5 1 v1 (L.length + 1) ((L ++ [m]).map (Value.int .u8)) := by
        rw [List.map_append]; exact hown1
      have HO1 := Lib.hid hv
      have HG1 := Lib.hid hgrow1
      clear hown1 hgrow1 hv
      go_wp2
      rw [conv_own 105 5 9 Try.underlying105 Try.underlying5 Try.underlying9 (L ++ [m]) w1 _ _ _ HO1.out]
      go_wp2
      go_returns
      refine ⟨?_, ?_⟩
      · have a := hI.list
        rw [hq.out, show ((m.toNat : Nat) : Int) = m by omega] at a
        unfold varS
        rw [← a]
        rfl
      · have a := hbel.size
        exact (hbel.alloc a _).grown HG1.out (by simp; omega) (fun k hk => (hown.out.lt k hk).1)
end Go.Proofs.Ytppjmmdiglnkfaa
namespace Go.Proofs.Ytppjmmdiglnkfaa
open Go.ChangeShapes Go.WideShapes Go.ChangeAt Go.RowKit Go.PlainAid

/-- The number of a text's first k groups of seven bits. -/
def pv (s : ByteArray) : Nat → Int | 0 => 0 | k + 1 => pv s k + bt s k % 128 * 128 ^ k
/-- Is the group at k, the first one below 128, a last one as Var writes it? -/
def uvOk (s : ByteArray) (k : Nat) : Bool := !(k == 9 && decide (1 < bt s k)) && !(decide (0 < k) && bt s k == 0)
/-- What a text begins with: a number in groups, and how many; looked for from group k on. -/
def uv (s : ByteArray) : Nat → Nat → Int × Int
  | 0, _ => (0, 0)
  | f + 1, k => if k < s.size then (if bt s k < 128 then (if uvOk s k then (pv s (k + 1), ((k + 1 : Nat) : Int)) else (0, 0)) else uv s f (k + 1)) else (0, 0)
def unvarP (s : ByteArray) : Int × Int := uv s 10 0

theorem p128 (k : Nat) : (2 : Int) ^ (7 * k) = 128 ^ k := by rw [Int.pow_mul]; rfl
theorem p128_pos (k : Nat) : (1 : Int) ≤ 128 ^ k := by
  induction k with
  | zero => simp
  | succ k ih => rw [Int.pow_succ]; omega
theorem pv_b (s : ByteArray) : ∀ k, 0 ≤ pv s k ∧ pv s k < 128 ^ k
  | 0 => by simp [pv]
  | k + 1 => by
    have ih := pv_b s k
    have hp := p128_pos k
    have hb : 0 ≤ bt s k % 128 ∧ bt s k % 128 ≤ 127 := by have := bt_nonneg s k; omega
    have h1 : bt s k % 128 * 128 ^ k ≤ 127 * 128 ^ k := Int.mul_le_mul_of_nonneg_right hb.2 (by omega)
    have h2 : 0 ≤ bt s k % 128 * 128 ^ k := Int.mul_nonneg hb.1 (by omega)
    simp only [pv]
    rw [Int.pow_succ]
    omega
theorem p128_le {j k : Nat} (h : j ≤ k) : (128 : Int) ^ j ≤ 128 ^ k := by
  obtain ⟨d, rfl⟩ := Nat.exists_eq_add_of_le h
  rw [Int.pow_add]
  have a := p128_pos j
  have b := p128_pos d
  have := Int.mul_le_mul_of_nonneg_left b (show (0 : Int) ≤ 128 ^ j by omega)
  omega
theorem or_pv (s : ByteArray) (k : Nat) (h : k ≤ 8 ∨ (k = 9 ∧ bt s k ≤ 1)) : bits .or .u64 (pv s k) (IntKind.u64.wrap (bt s k % 128 * 2 ^ (7 * k))) = pv s (k + 1) := by
  have b := pv_b s k
  have hn := bt_nonneg s k
  have hX : 0 ≤ bt s k % 128 * 128 ^ k ∧ bt s k % 128 * 128 ^ k < 18446744073709551616 ∧ (128 : Int) ^ k ≤ 18446744073709551616 := by
    have hp := p128_pos k
    rcases h with h | ⟨rfl, h⟩
    · have q := p128_le h
      have q8 : (128 : Int) ^ 8 = 72057594037927936 := by decide
      have h1 : bt s k % 128 * 128 ^ k ≤ 127 * 128 ^ k := Int.mul_le_mul_of_nonneg_right (by omega) (by omega)
      exact ⟨Int.mul_nonneg (by omega) (by omega), by omega, by omega⟩
    · have q9 : (128 : Int) ^ 9 = 9223372036854775808 := by decide
      rw [q9]
      omega
  rw [p128, IntKind.wrap_u64, Int.emod_eq_of_lt hX.1 hX.2.1]
  rw [u64_or_add (pv s k) (bt s k % 128) (7 * k) _ (128 ^ k) (by rw [p128]) (by rw [p128]) b.1 b.2 (by omega) hX.2.1 hX.2.2]
  rfl
theorem uv_go (s : ByteArray) (f k : Nat) (h : k < s.size) (c : ¬ bt s k < 128) : uv s (f + 1) k = uv s f (k + 1) := by rw [uv, if_pos h, if_neg c]
theorem uv_ok (s : ByteArray) (f k : Nat) (h : k < s.size) (c : bt s k < 128) (o : uvOk s k = true) : uv s (f + 1) k = (pv s (k + 1), ((k + 1 : Nat) : Int)) := by rw [uv, if_pos h, if_pos c, if_pos o]
theorem uv_bad (s : ByteArray) (f k : Nat) (h : k < s.size) (c : bt s k < 128) (o : uvOk s k = false) : uv s (f + 1) k = (0, 0) := by rw [uv, if_pos h, if_pos c, if_neg (by rw [o]; simp)]
theorem uv_end (s : ByteArray) (f k : Nat) (h : ¬ k < s.size) : uv s f k = (0, 0) := by cases f with | zero => rfl | succ f => rw [uv, if_neg h]
theorem ret_uv {s : ByteArray} {a b : Int} (h : (a, b) = unvarP s) : Ending.returned (.tuple #[.int .u64 a, .int .i64 b]) = .returned (.tuple #[.int .u64 (unvarP s).1, .int .i64 (unvarP s).2]) := by rw [← h]

set_option maxHeartbeats 1000000 in
theorem unvar_any (s : ByteArray) (hs : s.size ≤ maxLen) (w : World) :
    Calls Try.prog 90 #[.string s] w fun e w' => e = .returned (.tuple #[.int .u64 (unvarP s).1, .int .i64 (unvarP s).2]) ∧ w = w' := by
  unfold maxLen at hs
  have gb := get_bt s
  rcases Nat.lt_or_ge 10 s.size with c10 | c10
  all_goals
    go_enter Try.func90, Try.ntmps90
    go_wp2
    go_loop [4, 10] (fun n i => ∃ k : Nat, k ≤ s.size ∧ k ≤ 10 ∧ i = .int .i64 k ∧ n = .int .u64 (pv s k) ∧ Hid (uv s (10 - k) k = unvarP s)) (fun _ i => 10 - (intOf i).toNat)
    case atStart => exact ⟨0, by omega, by omega, rfl, rfl, rfl⟩
    case round =>
      obtain ⟨k, hk, hk10, rfl, rfl, HU⟩ := hrel
      have hc := And.intro (bt_nonneg s k) (bt_le s k)
      by_cases hlt : k < s.size ∧ k < 10
      · obtain ⟨hlt, hl10⟩ := hlt
        have hq := u8_andNot_128 (bt s k) (by omega) (by omega)
        by_cases hl : k < 9
        · have HP := Lib.hid (or_pv s k (Or.inl (by omega)))
          by_cases c : bt s k < 128
          · by_cases hz : bt s k = 0 ∧ 0 < k
            · have HB := Lib.hid (uv_bad s (9 - k) k hlt c (by simp [uvOk, hz]))
              obtain ⟨hz1, hz2⟩ := hz
              go_wp2
              go_returns
              exact ⟨ret_uv (by rw [← HU.out, ← HB.out]; congr 1; omega), rfl⟩
            · have HB := Lib.hid (uv_ok s (9 - k) k hlt c (by
                have h9 : (k == 9) = false := by simp; omega
                by_cases hz1 : bt s k = 0
                · have hz2 : ¬ 0 < k := fun h => hz ⟨hz1, h⟩
                  simp [uvOk, h9, hz2]
                · simp [uvOk, h9, hz1]))
              by_cases hz1 : bt s k = 0
              · obtain rfl : k = 0 := by
                  have hz2 : ¬ 0 < k := fun h => hz ⟨hz1, h⟩
                  omega
                clear hz
                have HP0 := Lib.hid (show bits .or .u64 (pv s 0) (IntKind.u64.wrap 0) = pv s 1 by
                  have h := HP.out
                  rw [hz1] at h
                  exact h)
                go_wp2
                go_returns
                exact ⟨ret_uv (by rw [← HU.out, show 10 - 0 = 9 - 0 + 1 by omega, HB.out]; exact Prod.ext HP0.out rfl), rfl⟩
              · clear hz
                go_wp2
                go_returns
                exact ⟨ret_uv (by rw [← HU.out, show 10 - k = 9 - k + 1 by omega, HB.out]; exact Prod.ext HP.out rfl), rfl⟩
          · have HB := Lib.hid (uv_go s (9 - k) k hlt c)
            go_wp2
            go_round
            case rel => exact ⟨k + 1, by omega, by omega, by go_num, by rw [HP.out], by show uv s (10 - (k + 1)) (k + 1) = _; rw [← HU.out, show 10 - k = 9 - k + 1 by omega, HB.out]; congr 1; omega⟩
            case measure => simp [intOf]; omega
        · obtain rfl : k = 9 := by omega
          by_cases c : 1 < bt s 9
          · have HB := Lib.hid (show uv s 1 9 = (0, 0) by
              by_cases c2 : bt s 9 < 128
              · exact uv_bad s 0 9 hlt c2 (by simp [uvOk, c])
              · rw [uv_go s 0 9 hlt c2]; rfl)
            go_wp2
            go_returns
            exact ⟨ret_uv (by rw [← HU.out, ← HB.out]), rfl⟩
          · have HP := Lib.hid (or_pv s 9 (Or.inr ⟨rfl, by omega⟩))
            by_cases hz1 : bt s 9 = 0
            · have HB := Lib.hid (uv_bad s 0 9 hlt (by omega) (by simp [uvOk, hz1]))
              go_wp2
              go_returns
              exact ⟨ret_uv (by rw [← HU.out, ← HB.out]), rfl⟩
            · have HB := Lib.hid (uv_ok s 0 9 hlt (by omega) (by simp [uvOk, hz1, c]))
              have HP9 := Lib.hid (show bits .or .u64 (pv s 9) (bt s 9 % 128 * 9223372036854775808) = pv s 10 by
                have h := HP.out
                rw [show (2 : Int) ^ (7 * 9) = 9223372036854775808 by decide, IntWalk.u64_in _ (by omega)] at h
                exact h)
              go_wp2
              go_returns
              exact ⟨ret_uv (by rw [← HU.out, show 10 - 9 = 0 + 1 by omega, HB.out]; exact Prod.ext HP9.out rfl), rfl⟩
      · have HE := Lib.hid (show uv s (10 - k) k = (0, 0) by
          by_cases h : k < s.size
          · obtain rfl : k = 10 := by omega
            rfl
          · exact uv_end s _ k h)
        by_cases h10 : k = s.size
        · first
            | (exfalso; omega)
            | (subst h10
               clear hlt
               go_wp2
               go_returns
               exact ⟨ret_uv (by rw [← HU.out, HE.out]), rfl⟩)
        · first
            | (exfalso; omega)
            | (rcases Nat.lt_or_ge k 10 with h | h
               · exfalso; omega
               · have e := Nat.le_antisymm hk10 h
                 subst e
                 clear hlt h10
                 go_wp2
                 go_returns
                 exact ⟨ret_uv (by rw [← HU.out, HE.out]), rfl⟩)
end Go.Proofs.Ytppjmmdiglnkfaa
namespace Go.Proofs.Ytppjmmdiglnkfaa
open Go.ChangeShapes Go.WideShapes Go.ChangeAt Go.RowKit Go.PlainAid

/-- The number that groups make. -/
def dec : List Int → Int | [] => 0 | x :: r => x % 128 + 128 * dec r
theorem dec_nonneg : ∀ l, 0 ≤ dec l
  | [] => Int.le_refl _
  | x :: r => by have := dec_nonneg r; simp only [dec]; omega
theorem dec_varL : ∀ (k n : Nat), n < 128 ^ (k + 1) → dec (varL n) = n
  | 0, n, h => by rw [varL_lt (by omega)]; simp only [dec]; omega
  | k + 1, n, h => by
    by_cases c : n < 128
    · rw [varL_lt c]; simp only [dec]; omega
    · rw [varL_ge (by omega)]
      simp only [dec]
      rw [dec_varL k (n / 128) (by rw [Nat.pow_succ] at h; omega)]
      omega
theorem dec_snoc (x : Int) : ∀ l : List Int, dec (l ++ [x]) = dec l + x % 128 * 128 ^ l.length
  | [] => by simp [dec]
  | y :: r => by
    simp only [List.cons_append, dec, dec_snoc x r, List.length_cons, Int.pow_succ]
    rw [Int.mul_add, ← Int.mul_assoc, Int.mul_comm 128 (x % 128), Int.mul_assoc, Int.mul_comm 128 (128 ^ r.length)]
    omega
/-- The first k bytes of a text, as numbers. -/
def firsts (s : ByteArray) (k : Nat) : List Int := (List.range k).map (bt s)
theorem firsts_next (s : ByteArray) (k : Nat) : firsts s (k + 1) = firsts s k ++ [bt s k] := by simp [firsts, List.range_succ]
theorem firsts_len (s : ByteArray) (k : Nat) : (firsts s k).length = k := by simp [firsts]
theorem dec_firsts (s : ByteArray) : ∀ k, dec (firsts s k) = pv s k
  | 0 => rfl
  | k + 1 => by rw [firsts_next, dec_snoc, dec_firsts s k, firsts_len]; rfl
/-- Groups as Var writes them: all but the last one bear the mark, the last one is not 0 unless it is alone. -/
def Good : List Int → Prop | [] => False | [x] => 0 ≤ x ∧ x < 128 | x :: y :: r => 128 ≤ x ∧ x < 256 ∧ Good (y :: r) ∧ 1 ≤ dec (y :: r)
theorem varL_dec : ∀ l : List Int, Good l → varL (dec l).toNat = l
  | [], h => h.elim
  | [x], h => by
    obtain ⟨h0, h1⟩ := h
    have e : (dec [x]).toNat = x.toNat := by simp only [dec]; omega
    rw [e, varL_lt (by omega), show ((x.toNat : Nat) : Int) = x by omega]
  | x :: y :: r, h => by
    obtain ⟨h0, h1, h2, h3⟩ := h
    have ih := varL_dec (y :: r) h2
    have e1 : dec (x :: y :: r) = x % 128 + 128 * dec (y :: r) := rfl
    rw [e1, varL_ge (by omega), show ((x % 128 + 128 * dec (y :: r)).toNat) / 128 = (dec (y :: r)).toNat by omega, ih, show (((x % 128 + 128 * dec (y :: r)).toNat % 128 + 128 : Nat) : Int) = x by omega]
theorem good_firsts (s : ByteArray) : ∀ (k j : Nat), (∀ i, i < k → 128 ≤ bt s (j + i)) → bt s (j + k) < 128 → (k = 0 ∨ 1 ≤ bt s (j + k)) → Good ((List.range (k + 1)).map fun i => bt s (j + i))
  | 0, j, _, h, _ => by
    show 0 ≤ bt s (j + 0) ∧ bt s (j + 0) < 128
    exact ⟨bt_nonneg _ _, h⟩
  | k + 1, j, hm, h, hz => by
    have hz1 : 1 ≤ bt s (j + (k + 1)) := by rcases hz with hz | hz <;> first | omega | exact hz
    have ih := good_firsts s k (j + 1) (fun i hi => by have := hm (i + 1) (by omega); rw [show j + 1 + i = j + (i + 1) by omega]; exact this) (by rw [show j + 1 + k = j + (k + 1) by omega]; exact h) (Or.inr (by rw [show j + 1 + k = j + (k + 1) by omega]; exact hz1))
    have e : (List.range (k + 1 + 1)).map (fun i => bt s (j + i)) = bt s j :: (List.range (k + 1)).map (fun i => bt s (j + 1 + i)) := by
      rw [List.range_succ_eq_map, List.map_cons, List.map_map]
      congr 1
      apply List.map_congr_left
      intro i _
      show bt s (j + (i + 1)) = _
      rw [show j + 1 + i = j + (i + 1) by omega]
    rw [e]
    have hpos : 1 ≤ dec ((List.range (k + 1)).map (fun i => bt s (j + 1 + i))) := by
      rw [List.range_succ, List.map_append, List.map_cons, List.map_nil, dec_snoc]
      have a := dec_nonneg ((List.range k).map (fun i => bt s (j + 1 + i)))
      have b := p128_pos ((List.range k).map (fun i => bt s (j + 1 + i))).length
      rw [show j + 1 + k = j + (k + 1) by omega] at *
      have c : 1 ≤ bt s (j + (k + 1)) % 128 := by omega
      have d := Int.mul_le_mul_of_nonneg_right c (show (0 : Int) ≤ 128 ^ ((List.range k).map (fun i => bt s (j + 1 + i))).length by omega)
      omega
    have h0 := hm 0 (by omega)
    have hl := bt_le s (j + 0)
    rw [Nat.add_zero] at h0 hl
    generalize hL : (List.range (k + 1)).map (fun i => bt s (j + 1 + i)) = L at *
    cases L with
    | nil => exact ih.elim
    | cons y r => exact ⟨h0, by omega, ih, hpos⟩
theorem varL_bytes : ∀ (k n : Nat), n < 128 ^ (k + 1) → ∀ x ∈ varL n, 0 ≤ x ∧ x < 256
  | 0, n, h => by
    rw [varL_lt (by omega)]
    intro x hx
    rw [List.mem_singleton] at hx
    subst hx
    omega
  | k + 1, n, h => by
    by_cases c : n < 128
    · rw [varL_lt c]
      intro x hx
      rw [List.mem_singleton] at hx
      subst hx
      omega
    · rw [varL_ge (by omega)]
      intro x hx
      rcases List.mem_cons.1 hx with rfl | hx
      · omega
      · exact varL_bytes k (n / 128) (by rw [Nat.pow_succ] at h; omega) x hx
theorem map_inj : ∀ (a b : List Int), (∀ x ∈ a, 0 ≤ x ∧ x < 256) → (∀ x ∈ b, 0 ≤ x ∧ x < 256) → (a.map fun n => UInt8.ofNat n.toNat) = (b.map fun n => UInt8.ofNat n.toNat) → a = b
  | [], [], _, _, _ => rfl
  | x :: a, y :: b, ha, hb, h => by
    simp only [List.map_cons, List.cons.injEq] at h
    have hx := ha x (by simp)
    have hy := hb y (by simp)
    have e := congrArg UInt8.toNat h.1
    rw [UInt8.toNat_ofNat', UInt8.toNat_ofNat'] at e
    rw [show x = y by omega, map_inj a b (fun z hz => ha z (by simp [hz])) (fun z hz => hb z (by simp [hz])) h.2]
  | [], _ :: _, _, _, h => by simp at h
  | _ :: _, [], _, _, h => by simp at h
theorem firsts_str (s : ByteArray) (k : Nat) (hk : k ≤ s.size) : (s.extract 0 k).toList = (firsts s k).map fun n => UInt8.ofNat n.toNat := by
  rw [ByteArray.toList_eq, Lib.extract_data]
  have hl : s.data.toList.length = s.size := by simp
  apply List.ext_getElem?
  intro i
  simp only [firsts, List.getElem?_map]
  by_cases c : i < k
  · rw [List.getElem?_range c]
    simp only [List.drop_zero, Option.map_some]
    rw [List.getElem?_take_of_lt (by omega), List.getElem?_eq_getElem (by omega), bt_list, List.getD_eq_getElem?_getD, List.getElem?_eq_getElem (by omega)]
    simp
  · rw [List.getElem?_eq_none (by simp; omega), List.getElem?_eq_none (by simp; omega)]
    rfl
/-- n of a text's first k groups, in 64 bits. -/
def nv (s : ByteArray) (k : Nat) : Int := pv s k % 18446744073709551616
theorem nv_b (s : ByteArray) (k : Nat) : 0 ≤ nv s k ∧ nv s k ≤ 18446744073709551615 := by unfold nv; omega
theorem pow9 : (128 : Int) ^ 9 = 9223372036854775808 := by decide
theorem eq_var (s : ByteArray) (k : Nat) (hk : k ≤ 9) (hs : k < s.size) (hm : ∀ j, j < k → 128 ≤ bt s j) (hc : bt s k < 128) : ((varS (nv s (k + 1))).toList == (s.extract 0 (k + 1)).toList) = uvOk s k := by
  have hn := nv_b s (k + 1)
  have hb := bt_nonneg s k
  have hp := pv_b s k
  have hpk := p128_le hk
  have h9 := pow9
  have hN : (nv s (k + 1)).toNat < 128 ^ (9 + 1) := by
    have e : (128 : Nat) ^ (9 + 1) = 1180591620717411303424 := by decide
    omega
  have hd := dec_varL 9 _ hN
  have hF := dec_firsts s (k + 1)
  have hpv : pv s (k + 1) = pv s k + bt s k % 128 * 128 ^ k := rfl
  have hstr : (varS (nv s (k + 1))).toList = (varL (nv s (k + 1)).toNat).map fun n => UInt8.ofNat n.toNat := by
    rw [ByteArray.toList_eq]; exact strOfNums_data _
  have iff1 : (varS (nv s (k + 1))).toList = (s.extract 0 (k + 1)).toList ↔ varL (nv s (k + 1)).toNat = firsts s (k + 1) := by
    rw [hstr, firsts_str s (k + 1) (by omega)]
    constructor
    · intro h
      refine map_inj _ _ (varL_bytes 9 _ hN) (fun x hx => ?_) h
      obtain ⟨i, _, rfl⟩ := List.mem_map.1 hx
      have a := bt_nonneg s i
      have b := bt_le s i
      omega
    · intro h; rw [h]
  by_cases bad1 : k = 9 ∧ 1 < bt s k
  · obtain ⟨rfl, h1⟩ := bad1
    have ho : uvOk s 9 = false := by simp [uvOk, h1]
    rw [ho]
    apply beq_eq_false_iff_ne.2
    intro h
    have e := congrArg dec (iff1.1 h)
    rw [hd, hF] at e
    have : 2 * (128 : Int) ^ 9 ≤ bt s 9 % 128 * 128 ^ 9 := Int.mul_le_mul_of_nonneg_right (by omega) (by omega)
    omega
  · have hsmall : pv s (k + 1) ≤ 18446744073709551615 := by
      by_cases e9 : k = 9
      · subst e9
        have : bt s 9 % 128 * 128 ^ 9 ≤ 1 * 128 ^ 9 := Int.mul_le_mul_of_nonneg_right (by omega) (by omega)
        omega
      · have h8 := p128_le (show k ≤ 8 by omega)
        have e8 : (128 : Int) ^ 8 = 72057594037927936 := by decide
        have : bt s k % 128 * 128 ^ k ≤ 127 * 128 ^ k := Int.mul_le_mul_of_nonneg_right (by omega) (by omega)
        omega
    have hp1 := pv_b s (k + 1)
    have hnv : nv s (k + 1) = pv s (k + 1) := by unfold nv; omega
    by_cases bad2 : 0 < k ∧ bt s k = 0
    · obtain ⟨h1, h2⟩ := bad2
      have ho : uvOk s k = false := by simp [uvOk, h1, h2]
      rw [ho]
      apply beq_eq_false_iff_ne.2
      intro h
      have e := congrArg List.length (iff1.1 h)
      rw [firsts_len] at e
      obtain ⟨j, rfl⟩ : ∃ j, k = j + 1 := ⟨k - 1, by omega⟩
      have hlen := varL_len j (nv s (j + 1 + 1)).toNat (by
        have : ((128 ^ (j + 1) : Nat) : Int) = (128 : Int) ^ (j + 1) := by simp
        rw [hnv, hpv, h2]
        omega)
      omega
    · have ho : uvOk s k = true := by
        by_cases e0 : bt s k = 0
        · have : ¬ 0 < k := fun h => bad2 ⟨h, e0⟩
          have e9 : (k == 9) = false := by simp; omega
          simp [uvOk, e9, this]
        · by_cases e9 : k = 9
          · have : ¬ 1 < bt s k := fun h => bad1 ⟨e9, h⟩
            simp [uvOk, e0, this]
          · have e9' : (k == 9) = false := by simp [e9]
            simp [uvOk, e0, e9']
      rw [ho]
      apply beq_iff_eq.2
      apply iff1.2
      rw [hnv, ← hF]
      apply varL_dec
      have g := good_firsts s k 0 (fun i hi => by rw [Nat.zero_add]; exact hm i hi) (by rw [Nat.zero_add]; exact hc) (by
        rw [Nat.zero_add]
        by_cases e : k = 0
        · exact Or.inl e
        · right
          have : bt s k ≠ 0 := fun h => bad2 ⟨by omega, h⟩
          omega)
      have e : (fun i => bt s (0 + i)) = bt s := by funext i; rw [Nat.zero_add]
      rw [e] at g
      exact g
end Go.Proofs.Ytppjmmdiglnkfaa
