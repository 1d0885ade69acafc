/- Contracts of the small functions of package bits and of its reference: Fold, Unfold. Contracts: Var and the reference's Var. Contracts: Unvar and the reference's Unvar. Plain: the text that Var writes of the number that a text's groups make is that text, or it is not. Contract: the reference's Unvar. Plain facts of numbers in groups of seven bits: what is written is read, whatever stands behind it, and what is read is how it is written; numbers folded, and unfolded. -/
import Derived.Test.YtpooekmogfkkjaaRows
import Derived.Test.YtpooekmogfkkjaaGA
import Derived.Deep.RegionWith
import Derived.Deep.RegionHeld3
import Derived.Deep.QuietTactic
import Derived.BigQuiet
namespace Go.Proofs.Ytpooekmogfkkjaa
set_option maxRecDepth 100000
open Go.ChangeShapes Go.WideShapes Go.ChangeAt Go.RowKit Go.PlainAid

/-- Near numbers of either sign as small ones without a sign. -/
def foldZ (n : Int) : Int := if n < 0 then -2 * n - 1 else 2 * n
/-- What foldZ was made of. -/
def unfoldZ (u : Int) : Int := if u % 2 = 0 then u / 2 else -1 - u / 2
theorem foldZ_neg {n : Int} (h : n < 0) : foldZ n = -2 * n - 1 := if_pos h
theorem foldZ_pos {n : Int} (h : 0 ≤ n) : foldZ n = 2 * n := if_neg (by omega)
theorem unfoldZ_even {u : Int} (h : u % 2 = 0) : unfoldZ u = u / 2 := if_pos h
theorem unfoldZ_odd {u : Int} (h : u % 2 = 1) : unfoldZ u = -1 - u / 2 := if_neg (by omega)
set_option maxHeartbeats 400000 in
theorem fold_any (n : Int) (w : World) (h1 : -9223372036854775808 ≤ n) (h2 : n ≤ 9223372036854775807) :
    Calls Try.prog 50 #[.int .i64 n] w fun e w' => e = .returned (.int .u64 (foldZ n)) ∧ w = w' := by
  rcases Int.lt_or_le n 0 with c | c
  · have hf := Lib.hid (foldZ_neg c)
    go_enter Try.func50, Try.ntmps50
    go_wp2
    go_returns
    refine ⟨ret_i ?_, rfl⟩
    rw [hf.out, u64_not _ (by rw [IntKind.wrap_u64]; omega) (by rw [IntKind.wrap_u64]; omega)]
    simp only [IntKind.wrap_u64]; omega
  · have hf := Lib.hid (foldZ_pos c)
    go_enter Try.func50, Try.ntmps50
    go_wp2
    go_returns
    exact ⟨ret_i (by rw [hf.out]; omega), rfl⟩
set_option maxHeartbeats 400000 in
theorem rfold_any (n : Int) (w : World) (h1 : -9223372036854775808 ≤ n) (h2 : n ≤ 9223372036854775807) :
    Calls Try.prog 57 #[.int .i64 n] w fun e w' => e = .returned (.int .u64 (foldZ n)) ∧ w = w' := by
  rcases Int.lt_or_le n 0 with c | c
  · have hf := Lib.hid (foldZ_neg c)
    go_enter Try.func57, Try.ntmps57
    go_wp2
    go_returns
    exact ⟨ret_i (by rw [hf.out]; omega), rfl⟩
  · have hf := Lib.hid (foldZ_pos c)
    go_enter Try.func57, Try.ntmps57
    go_wp2
    go_returns
    exact ⟨ret_i (by rw [hf.out]), rfl⟩
set_option maxHeartbeats 400000 in
theorem unfold_any (u : Int) (w : World) (h0 : 0 ≤ u) (h1 : u ≤ 18446744073709551615) :
    Calls Try.prog 55 #[.int .u64 u] w fun e w' => e = .returned (.int .i64 (unfoldZ u)) ∧ w = w' := by
  have hl := u64_low u h0 h1
  rcases Int.emod_two_eq u with c | c
  · have hf := Lib.hid (unfoldZ_even c)
    rw [c] at hl
    clear c
    go_enter Try.func55, Try.ntmps55
    go_wp2
    go_returns
    exact ⟨ret_i (by rw [hf.out]), rfl⟩
  · have hf := Lib.hid (unfoldZ_odd c)
    rw [c] at hl
    clear c
    go_enter Try.func55, Try.ntmps55
    go_wp2
    go_returns
    obtain ⟨a, ha⟩ := Int.eq_ofNat_of_zero_le (show 0 ≤ u / 2 by omega)
    exact ⟨ret_i (by rw [hf.out, ha, i64_not a (by omega)]), rfl⟩
end Go.Proofs.Ytpooekmogfkkjaa
namespace Go.Proofs.Ytpooekmogfkkjaa
set_option maxRecDepth 100000
open Go.ChangeShapes Go.WideShapes Go.ChangeAt Go.RowKit Go.PlainAid

/-- A number in groups of seven bits, the lowest first. -/
def varL (n : Nat) : List Int := if n < 128 then [(n : Int)] else ((n % 128 + 128 : Nat) : Int) :: varL (n / 128)
termination_by n
decreasing_by omega
theorem varL_lt {n : Nat} (h : n < 128) : varL n = [(n : Int)] := by rw [varL, if_pos h]
theorem varL_ge {n : Nat} (h : 128 ≤ n) : varL n = ((n % 128 + 128 : Nat) : Int) :: varL (n / 128) := by rw [varL, if_neg (by omega)]
theorem varL_len : ∀ (k n : Nat), n < 128 ^ (k + 1) → (varL n).length ≤ k + 1
  | 0, n, h => by rw [varL_lt (by omega)]; exact Nat.le_refl _
  | k + 1, n, h => by
    by_cases c : n < 128
    · rw [varL_lt c]; simp
    · rw [varL_ge (by omega), List.length_cons]
      have := varL_len k (n / 128) (by rw [Nat.pow_succ] at h; omega)
      omega
theorem varL_ten (n : Nat) (h : n < 18446744073709551616) : (varL n).length ≤ 10 := varL_len 9 n (by omega)
theorem varL_pos (n : Nat) : 1 ≤ (varL n).length := by
  by_cases c : n < 128
  · rw [varL_lt c]; simp
  · rw [varL_ge (by omega)]; simp
def varS (m : Int) : ByteArray := strOfNums (varL m.toNat)
theorem varS_size (m : Int) (h0 : 0 ≤ m) (h : m ≤ 18446744073709551615) : (varS m).size ≤ 10 := by unfold varS; rw [strOfNums_size]; exact varL_ten _ (by omega)
theorem varS_lt {m : Int} (h0 : 0 ≤ m) (h : m < 128) : strOfNums [m] = varS m := by unfold varS; rw [varL_lt (by omega), show ((m.toNat : Nat) : Int) = m by omega]
theorem varS_ge {m : Int} (h : 128 ≤ m) : strOfNums [m % 128 + 128] ++ varS (m / 128) = varS m := by
  unfold varS
  rw [str_app, varL_ge (n := m.toNat) (by omega), show (m / 128).toNat = m.toNat / 128 by omega, show ((m.toNat % 128 + 128 : Nat) : Int) = m % 128 + 128 by omega]
  rfl

set_option maxHeartbeats 1000000 in
theorem rvar_k : ∀ (k : Nat) (m : Int), 0 ≤ m → m ≤ 18446744073709551615 → m < ((128 ^ (k + 1) : Nat) : Int) → ∀ (w : World),
    Calls Try.prog 56 #[.int .u64 m] w fun e w' => e = .returned (.string (varS m)) ∧ Below w.heap.size w w' := by
  intro k
  induction k with
  | zero =>
    intro m h0 h1 hk w
    have c : m < 128 := by simpa using hk
    have HC := fun w b => run_conv_one (P := Try.prog) 103 5 9 Try.underlying103 Try.underlying5 Try.underlying9 w b 1
    have HO := fun w b x => convOne_some Try.prog 103 9 w b 1 x
    have hf := Lib.hid (varS_lt h0 c)
    clear hk
    go_enter Try.func56, Try.ntmps56
    go_wp2
    go_returns
    exact ⟨by rw [← hf.out]; rfl, by go_grown⟩
  | succ k ih =>
    intro m h0 h1 hk w
    have HC := fun w b => run_conv_one (P := Try.prog) 103 5 9 Try.underlying103 Try.underlying5 Try.underlying9 w b 1
    have HO := fun w b x => convOne_some Try.prog 103 9 w b 1 x
    by_cases c : m < 128
    · have hf := Lib.hid (varS_lt h0 c)
      clear ih hk
      go_enter Try.func56, Try.ntmps56
      go_wp2
      go_returns
      exact ⟨by rw [← hf.out]; rfl, by go_grown⟩
    · have hf := Lib.hid (varS_ge (m := m) (by omega))
      have hq := varS_size (m / 128) (by omega) (by omega)
      have hq1 : (strOfNums [m % 128 + 128]).size ≤ 1 := by rw [strOfNums_size]; exact Nat.le_refl _
      have IH := Lib.hid (ih (m / 128) (by omega) (by omega) (by rw [Nat.pow_succ] at hk; omega))
      clear ih hk
      have e1 : IntKind.u64.wrap (m.tdiv 128) = m / 128 := IntWalk.u64_quo _ _ ⟨h0, h1, by omega⟩
      have e2 : m.tmod 128 = m % 128 := IntWalk.rem_in _ _ h0
      have e3 : IntKind.u64.wrap (m % 128 + 128) = m % 128 + 128 := IntWalk.u64_in _ (by omega)
      have e4 : IntKind.u8.wrap (m % 128 + 128) = m % 128 + 128 := IntWalk.u8_in _ (by omega)
      have e5 : IntKind.u64.wrap (m % 128) = m % 128 := IntWalk.u64_in _ (by omega)
      go_enter Try.func56, Try.ntmps56
      go_wp2_with fail
      go_region_with (go_at_call 56; (with_reducible refine (IH.out _).mono ?_); rintro e w1 ⟨rfl, hb⟩; obtain ⟨hc, hf2⟩ := bcell hb)
      all_goals
        go_wp2
        go_returns
        refine ⟨by rw [← hf.out]; rfl, ?_⟩
        first
          | exact (((Below.refl _ _).alloc (Nat.le_refl _) _).drew).trans (hb.mono (by simp))
          | exact ((Below.refl _ _).drew.trans hb).alloc hb.size _
theorem rvar_any (m : Int) (h0 : 0 ≤ m) (h1 : m ≤ 18446744073709551615) (w : World) :
    Calls Try.prog 56 #[.int .u64 m] w fun e w' => e = .returned (.string (varS m)) ∧ Below w.heap.size w w' :=
  rvar_k 9 m h0 h1 (by omega) w

theorem infoG : (Try.prog.info? 5).map (fun i => (i.zero, i.size, i.bytes)) = some (some (.int .u8 0), 1, 1) := by kernel_rfl

/-- What Var's loop has laid: L, and m is still to come. -/
structure VarI (n : Int) (w : World) (m : Int) (v : Value) (L : List Int) (wr : World) : Prop where
  lo : 0 ≤ m
  hi : m ≤ 18446744073709551615
  len : L.length + (varL m.toNat).length ≤ 10
  list : L ++ varL m.toNat = varL n.toNat
  own : wr.ownsRow w.heap.size 5 1 v L.length (L.map (Value.int .u8))
  below : Below w.heap.size w wr

set_option maxHeartbeats 1000000 in
theorem var_any (n : Int) (h0 : 0 ≤ n) (h1 : n ≤ 18446744073709551615) (w : World) :
    Calls Try.prog 49 #[.int .u64 n] w fun e w' => e = .returned (.string (varS n)) ∧ Below w.heap.size w w' := by
  obtain ⟨i0, hi, hz0, hz1, hz2⟩ := info_parts infoG
  have hl := varL_ten n.toNat (by omega)
  have HL := Lib.hid hl
  clear hl
  go_enter Try.func49, Try.ntmps49
  go_wp2
  go_loopw [0, 3] (fun x v wr => ∃ m L, x = .int .u64 m ∧ VarI n w m v L wr) (fun x _ _ => (intOf x).toNat)
  case atStart => exact ⟨n, [], rfl, h0, h1, by simpa using HL.out, rfl, ⟨rfl, Or.inl ⟨rfl, rfl⟩⟩, Below.refl _ _⟩
  case round =>
    obtain ⟨m, L, rfl, hI⟩ := hrel
    have hm0 := hI.lo
    have hm1 := hI.hi
    by_cases hlt : 128 ≤ m
    · have hor := u8_or_128 (m % 256) (by omega) (by omega)
      have hown := Lib.hid hI.own
      have hlen := Lib.hid hI.len
      have hpos := Lib.hid (varL_pos m.toNat)
      have hbel := hI.below
      have hq := Lib.hid (varL_ge (n := m.toNat) (by omega))
      have hq2 := Lib.hid (show (m / 128).toNat = m.toNat / 128 by omega)
      go_wp2_with (at_builtin; refine wpList_append_own _ rfl _ _ 103 rfl w.heap.size 5 i0 (.int .u8 0) 1 1 Try.underlying103 hi hz0 hz1 hz2 rfl (by decide) _ _ _ rfl (hown.out.alloc _) ⟨wr.heap.size, 0, none⟩ 1 1 [.int .u8 (m % 128 + 128)] rfl rfl ?c1 ?c2 ?c3 ?c4 ?c5 ?_)
      case c1 => exact one_new _ _ _
      case c2 => exact one_cell _
      case c3 => have a := hlen.out; unfold maxLen; omega
      case c4 => have a := hlen.out; omega
      case c5 => have a := hbel.size; simp; omega
      intro v1 w1 hown1 hgrow1 _
      have HO1 := Lib.hid hown1
      have HG1 := Lib.hid hgrow1
      clear hown1 hgrow1
      go_wp2
      go_roundw
      case rel =>
        refine ⟨m / 128, L ++ [m % 128 + 128], rfl, by omega, by omega, ?_, ?_, ?_, ?_⟩
        · have a := hlen.out
          rw [hq.out] at a
          rw [hq2.out]
          simp at a ⊢
          omega
        · have a := hI.list
          rw [hq.out] at a
          rw [hq2.out, ← a, List.append_assoc, show ((m.toNat % 128 + 128 : Nat) : Int) = m % 128 + 128 by omega]
          rfl
        · have a := HO1.out
          rw [List.length_append, List.map_append]
          exact a
        · have a := hbel.size
          exact (hbel.alloc a _).grown HG1.out (by simp; omega) (fun k hk => (hown.out.lt k hk).1)
      case measure => simp [intOf]; omega
    · have hown := Lib.hid hI.own
      have hlen := Lib.hid hI.len
      have hpos := Lib.hid (varL_pos m.toNat)
      have hbel := hI.below
      have hq := Lib.hid (varL_lt (n := m.toNat) (by omega))
      go_wp2_with (at_builtin; refine wpList_append_own _ rfl _ _ 103 rfl w.heap.size 5 i0 (.int .u8 0) 1 1 Try.underlying103 hi hz0 hz1 hz2 rfl (by decide) _ _ _ rfl (hown.out.alloc _) ⟨wr.heap.size, 0, none⟩ 1 1 [.int .u8 m] rfl rfl ?d1 ?d2 ?d3 ?d4 ?d5 ?_)
      case d2 => rfl
      case d3 => have a := hlen.out; unfold maxLen; omega
      case d4 => have a := hlen.out; omega
      case d5 => have a := hbel.size; simp; omega
      intro v1 w1 hown1 hgrow1 _
      have hv : w1.ownsRow w.heap.size 5 1 v1 (L.length + 1) ((L ++ [m]).map (Value.int .u8)) := by
        rw [List.map_append]; exact hown1
      have HO1 := Lib.hid hv
      have HG1 := Lib.hid hgrow1
      clear hown1 hgrow1 hv
      go_wp2
      rw [conv_own 103 5 9 Try.underlying103 Try.underlying5 Try.underlying9 (L ++ [m]) w1 _ _ _ HO1.out]
      go_wp2
      go_returns
      refine ⟨?_, ?_⟩
      · have a := hI.list
        rw [hq.out, show ((m.toNat : Nat) : Int) = m by omega] at a
        unfold varS
        rw [← a]
        rfl
      · have a := hbel.size
        exact (hbel.alloc a _).grown HG1.out (by simp; omega) (fun k hk => (hown.out.lt k hk).1)
end Go.Proofs.Ytpooekmogfkkjaa
namespace Go.Proofs.Ytpooekmogfkkjaa
set_option maxRecDepth 100000
open Go.ChangeShapes Go.WideShapes Go.ChangeAt Go.RowKit Go.PlainAid

/-- The number of a text's first k groups of seven bits. -/
def pv (s : ByteArray) : Nat → Int | 0 => 0 | k + 1 => pv s k + bt s k % 128 * 128 ^ k
/-- Is the group at k, the first one below 128, a last one as Var writes it? -/
def uvOk (s : ByteArray) (k : Nat) : Bool := !(k == 9 && decide (1 < bt s k)) && !(decide (0 < k) && bt s k == 0)
/-- What a text begins with: a number in groups, and how many; looked for from group k on. -/
def uv (s : ByteArray) : Nat → Nat → Int × Int
  | 0, _ => (0, 0)
  | f + 1, k => if k < s.size then (if bt s k < 128 then (if uvOk s k then (pv s (k + 1), ((k + 1 : Nat) : Int)) else (0, 0)) else uv s f (k + 1)) else (0, 0)
def unvarP (s : ByteArray) : Int × Int := uv s 10 0

theorem p128 (k : Nat) : (2 : Int) ^ (7 * k) = 128 ^ k := by rw [Int.pow_mul]; rfl
theorem p128_pos (k : Nat) : (1 : Int) ≤ 128 ^ k := by
  induction k with
  | zero => simp
  | succ k ih => rw [Int.pow_succ]; omega
theorem pv_b (s : ByteArray) : ∀ k, 0 ≤ pv s k ∧ pv s k < 128 ^ k
  | 0 => by simp [pv]
  | k + 1 => by
    have ih := pv_b s k
    have hp := p128_pos k
    have hb : 0 ≤ bt s k % 128 ∧ bt s k % 128 ≤ 127 := by have := bt_nonneg s k; omega
    have h1 : bt s k % 128 * 128 ^ k ≤ 127 * 128 ^ k := Int.mul_le_mul_of_nonneg_right hb.2 (by omega)
    have h2 : 0 ≤ bt s k % 128 * 128 ^ k := Int.mul_nonneg hb.1 (by omega)
    simp only [pv]
    rw [Int.pow_succ]
    omega
theorem p128_le {j k : Nat} (h : j ≤ k) : (128 : Int) ^ j ≤ 128 ^ k := by
  obtain ⟨d, rfl⟩ := Nat.exists_eq_add_of_le h
  rw [Int.pow_add]
  have a := p128_pos j
  have b := p128_pos d
  have := Int.mul_le_mul_of_nonneg_left b (show (0 : Int) ≤ 128 ^ j by omega)
  omega
theorem or_pv (s : ByteArray) (k : Nat) (h : k ≤ 8 ∨ (k = 9 ∧ bt s k ≤ 1)) : bits .or .u64 (pv s k) (IntKind.u64.wrap (bt s k % 128 * 2 ^ (7 * k))) = pv s (k + 1) := by
  have b := pv_b s k
  have hn := bt_nonneg s k
  have hX : 0 ≤ bt s k % 128 * 128 ^ k ∧ bt s k % 128 * 128 ^ k < 18446744073709551616 ∧ (128 : Int) ^ k ≤ 18446744073709551616 := by
    have hp := p128_pos k
    rcases h with h | ⟨rfl, h⟩
    · have q := p128_le h
      have q8 : (128 : Int) ^ 8 = 72057594037927936 := by decide
      have h1 : bt s k % 128 * 128 ^ k ≤ 127 * 128 ^ k := Int.mul_le_mul_of_nonneg_right (by omega) (by omega)
      exact ⟨Int.mul_nonneg (by omega) (by omega), by omega, by omega⟩
    · have q9 : (128 : Int) ^ 9 = 9223372036854775808 := by decide
      rw [q9]
      omega
  rw [p128, IntKind.wrap_u64, Int.emod_eq_of_lt hX.1 hX.2.1]
  rw [u64_or_add (pv s k) (bt s k % 128) (7 * k) _ (128 ^ k) (by rw [p128]) (by rw [p128]) b.1 b.2 (by omega) hX.2.1 hX.2.2]
  rfl
theorem uv_go (s : ByteArray) (f k : Nat) (h : k < s.size) (c : ¬ bt s k < 128) : uv s (f + 1) k = uv s f (k + 1) := by rw [uv, if_pos h, if_neg c]
theorem uv_ok (s : ByteArray) (f k : Nat) (h : k < s.size) (c : bt s k < 128) (o : uvOk s k = true) : uv s (f + 1) k = (pv s (k + 1), ((k + 1 : Nat) : Int)) := by rw [uv, if_pos h, if_pos c, if_pos o]
theorem uv_bad (s : ByteArray) (f k : Nat) (h : k < s.size) (c : bt s k < 128) (o : uvOk s k = false) : uv s (f + 1) k = (0, 0) := by rw [uv, if_pos h, if_pos c, if_neg (by rw [o]; simp)]
theorem uv_end (s : ByteArray) (f k : Nat) (h : ¬ k < s.size) : uv s f k = (0, 0) := by cases f with | zero => rfl | succ f => rw [uv, if_neg h]
theorem ret_uv {s : ByteArray} {a b : Int} (h : (a, b) = unvarP s) : Ending.returned (.tuple #[.int .u64 a, .int .i64 b]) = .returned (.tuple #[.int .u64 (unvarP s).1, .int .i64 (unvarP s).2]) := by rw [← h]

set_option maxHeartbeats 1000000 in
theorem unvar_any (s : ByteArray) (hs : s.size ≤ maxLen) (w : World) :
    Calls Try.prog 54 #[.string s] w fun e w' => e = .returned (.tuple #[.int .u64 (unvarP s).1, .int .i64 (unvarP s).2]) ∧ w = w' := by
  unfold maxLen at hs
  have gb := get_bt s
  rcases Nat.lt_or_ge 10 s.size with c10 | c10
  all_goals
    go_enter Try.func54, Try.ntmps54
    go_wp2
    go_loop [4, 10] (fun n i => ∃ k : Nat, k ≤ s.size ∧ k ≤ 10 ∧ i = .int .i64 k ∧ n = .int .u64 (pv s k) ∧ Hid (uv s (10 - k) k = unvarP s)) (fun _ i => 10 - (intOf i).toNat)
    case atStart => exact ⟨0, by omega, by omega, rfl, rfl, rfl⟩
    case round =>
      obtain ⟨k, hk, hk10, rfl, rfl, HU⟩ := hrel
      have hc := And.intro (bt_nonneg s k) (bt_le s k)
      by_cases hlt : k < s.size ∧ k < 10
      · obtain ⟨hlt, hl10⟩ := hlt
        have hq := u8_andNot_128 (bt s k) (by omega) (by omega)
        by_cases hl : k < 9
        · have HP := Lib.hid (or_pv s k (Or.inl (by omega)))
          by_cases c : bt s k < 128
          · by_cases hz : bt s k = 0 ∧ 0 < k
            · have HB := Lib.hid (uv_bad s (9 - k) k hlt c (by simp [uvOk, hz]))
              obtain ⟨hz1, hz2⟩ := hz
              go_wp2
              go_returns
              exact ⟨ret_uv (by rw [← HU.out, ← HB.out]; congr 1; omega), rfl⟩
            · have HB := Lib.hid (uv_ok s (9 - k) k hlt c (by
                have h9 : (k == 9) = false := by simp; omega
                by_cases hz1 : bt s k = 0
                · have hz2 : ¬ 0 < k := fun h => hz ⟨hz1, h⟩
                  simp [uvOk, h9, hz2]
                · simp [uvOk, h9, hz1]))
              by_cases hz1 : bt s k = 0
              · obtain rfl : k = 0 := by
                  have hz2 : ¬ 0 < k := fun h => hz ⟨hz1, h⟩
                  omega
                clear hz
                have HP0 := Lib.hid (show bits .or .u64 (pv s 0) (IntKind.u64.wrap 0) = pv s 1 by
                  have h := HP.out
                  rw [hz1] at h
                  exact h)
                go_wp2
                go_returns
                exact ⟨ret_uv (by rw [← HU.out, show 10 - 0 = 9 - 0 + 1 by omega, HB.out]; exact Prod.ext HP0.out rfl), rfl⟩
              · clear hz
                go_wp2
                go_returns
                exact ⟨ret_uv (by rw [← HU.out, show 10 - k = 9 - k + 1 by omega, HB.out]; exact Prod.ext HP.out rfl), rfl⟩
          · have HB := Lib.hid (uv_go s (9 - k) k hlt c)
            go_wp2
            go_round
            case rel => exact ⟨k + 1, by omega, by omega, by go_num, by rw [HP.out], by show uv s (10 - (k + 1)) (k + 1) = _; rw [← HU.out, show 10 - k = 9 - k + 1 by omega, HB.out]; congr 1; omega⟩
            case measure => simp [intOf]; omega
        · obtain rfl : k = 9 := by omega
          by_cases c : 1 < bt s 9
          · have HB := Lib.hid (show uv s 1 9 = (0, 0) by
              by_cases c2 : bt s 9 < 128
              · exact uv_bad s 0 9 hlt c2 (by simp [uvOk, c])
              · rw [uv_go s 0 9 hlt c2]; rfl)
            go_wp2
            go_returns
            exact ⟨ret_uv (by rw [← HU.out, ← HB.out]), rfl⟩
          · have HP := Lib.hid (or_pv s 9 (Or.inr ⟨rfl, by omega⟩))
            by_cases hz1 : bt s 9 = 0
            · have HB := Lib.hid (uv_bad s 0 9 hlt (by omega) (by simp [uvOk, hz1]))
              go_wp2
              go_returns
              exact ⟨ret_uv (by rw [← HU.out, ← HB.out]), rfl⟩
            · have HB := Lib.hid (uv_ok s 0 9 hlt (by omega) (by simp [uvOk, hz1, c]))
              have HP9 := Lib.hid (show bits .or .u64 (pv s 9) (bt s 9 % 128 * 9223372036854775808) = pv s 10 by
                have h := HP.out
                rw [show (2 : Int) ^ (7 * 9) = 9223372036854775808 by decide, IntWalk.u64_in _ (by omega)] at h
                exact h)
              go_wp2
              go_returns
              exact ⟨ret_uv (by rw [← HU.out, show 10 - 9 = 0 + 1 by omega, HB.out]; exact Prod.ext HP9.out rfl), rfl⟩
      · have HE := Lib.hid (show uv s (10 - k) k = (0, 0) by
          by_cases h : k < s.size
          · obtain rfl : k = 10 := by omega
            rfl
          · exact uv_end s _ k h)
        by_cases h10 : k = s.size
        · first
            | (exfalso; omega)
            | (subst h10
               clear hlt
               go_wp2
               go_returns
               exact ⟨ret_uv (by rw [← HU.out, HE.out]), rfl⟩)
        · first
            | (exfalso; omega)
            | (rcases Nat.lt_or_ge k 10 with h | h
               · exfalso; omega
               · have e := Nat.le_antisymm hk10 h
                 subst e
                 clear hlt h10
                 go_wp2
                 go_returns
                 exact ⟨ret_uv (by rw [← HU.out, HE.out]), rfl⟩)
end Go.Proofs.Ytpooekmogfkkjaa
namespace Go.Proofs.Ytpooekmogfkkjaa
set_option maxRecDepth 100000
open Go.ChangeShapes Go.WideShapes Go.ChangeAt Go.RowKit Go.PlainAid

/-- The number that groups make. -/
def dec : List Int → Int | [] => 0 | x :: r => x % 128 + 128 * dec r
theorem dec_nonneg : ∀ l, 0 ≤ dec l
  | [] => Int.le_refl _
  | x :: r => by have := dec_nonneg r; simp only [dec]; omega
theorem dec_varL : ∀ (k n : Nat), n < 128 ^ (k + 1) → dec (varL n) = n
  | 0, n, h => by rw [varL_lt (by omega)]; simp only [dec]; omega
  | k + 1, n, h => by
    by_cases c : n < 128
    · rw [varL_lt c]; simp only [dec]; omega
    · rw [varL_ge (by omega)]
      simp only [dec]
      rw [dec_varL k (n / 128) (by rw [Nat.pow_succ] at h; omega)]
      omega
theorem dec_snoc (x : Int) : ∀ l : List Int, dec (l ++ [x]) = dec l + x % 128 * 128 ^ l.length
  | [] => by simp [dec]
  | y :: r => by
    simp only [List.cons_append, dec, dec_snoc x r, List.length_cons, Int.pow_succ]
    rw [Int.mul_add, ← Int.mul_assoc, Int.mul_comm 128 (x % 128), Int.mul_assoc, Int.mul_comm 128 (128 ^ r.length)]
    omega
/-- The first k bytes of a text, as numbers. -/
def firsts (s : ByteArray) (k : Nat) : List Int := (List.range k).map (bt s)
theorem firsts_next (s : ByteArray) (k : Nat) : firsts s (k + 1) = firsts s k ++ [bt s k] := by simp [firsts, List.range_succ]
theorem firsts_len (s : ByteArray) (k : Nat) : (firsts s k).length = k := by simp [firsts]
theorem dec_firsts (s : ByteArray) : ∀ k, dec (firsts s k) = pv s k
  | 0 => rfl
  | k + 1 => by rw [firsts_next, dec_snoc, dec_firsts s k, firsts_len]; rfl
/-- Groups as Var writes them: all but the last one bear the mark, the last one is not 0 unless it is alone. -/
def Good : List Int → Prop | [] => False | [x] => 0 ≤ x ∧ x < 128 | x :: y :: r => 128 ≤ x ∧ x < 256 ∧ Good (y :: r) ∧ 1 ≤ dec (y :: r)
theorem varL_dec : ∀ l : List Int, Good l → varL (dec l).toNat = l
  | [], h => h.elim
  | [x], h => by
    obtain ⟨h0, h1⟩ := h
    have e : (dec [x]).toNat = x.toNat := by simp only [dec]; omega
    rw [e, varL_lt (by omega), show ((x.toNat : Nat) : Int) = x by omega]
  | x :: y :: r, h => by
    obtain ⟨h0, h1, h2, h3⟩ := h
    have ih := varL_dec (y :: r) h2
    have e1 : dec (x :: y :: r) = x % 128 + 128 * dec (y :: r) := rfl
    rw [e1, varL_ge (by omega), show ((x % 128 + 128 * dec (y :: r)).toNat) / 128 = (dec (y :: r)).toNat by omega, ih, show (((x % 128 + 128 * dec (y :: r)).toNat % 128 + 128 : Nat) : Int) = x by omega]
theorem good_firsts (s : ByteArray) : ∀ (k j : Nat), (∀ i, i < k → 128 ≤ bt s (j + i)) → bt s (j + k) < 128 → (k = 0 ∨ 1 ≤ bt s (j + k)) → Good ((List.range (k + 1)).map fun i => bt s (j + i))
  | 0, j, _, h, _ => by
    show 0 ≤ bt s (j + 0) ∧ bt s (j + 0) < 128
    exact ⟨bt_nonneg _ _, h⟩
  | k + 1, j, hm, h, hz => by
    have hz1 : 1 ≤ bt s (j + (k + 1)) := by rcases hz with hz | hz <;> first | omega | exact hz
    have ih := good_firsts s k (j + 1) (fun i hi => by have := hm (i + 1) (by omega); rw [show j + 1 + i = j + (i + 1) by omega]; exact this) (by rw [show j + 1 + k = j + (k + 1) by omega]; exact h) (Or.inr (by rw [show j + 1 + k = j + (k + 1) by omega]; exact hz1))
    have e : (List.range (k + 1 + 1)).map (fun i => bt s (j + i)) = bt s j :: (List.range (k + 1)).map (fun i => bt s (j + 1 + i)) := by
      rw [List.range_succ_eq_map, List.map_cons, List.map_map]
      congr 1
      apply List.map_congr_left
      intro i _
      show bt s (j + (i + 1)) = _
      rw [show j + 1 + i = j + (i + 1) by omega]
    rw [e]
    have hpos : 1 ≤ dec ((List.range (k + 1)).map (fun i => bt s (j + 1 + i))) := by
      rw [List.range_succ, List.map_append, List.map_cons, List.map_nil, dec_snoc]
      have a := dec_nonneg ((List.range k).map (fun i => bt s (j + 1 + i)))
      have b := p128_pos ((List.range k).map (fun i => bt s (j + 1 + i))).length
      rw [show j + 1 + k = j + (k + 1) by omega] at *
      have c : 1 ≤ bt s (j + (k + 1)) % 128 := by omega
      have d := Int.mul_le_mul_of_nonneg_right c (show (0 : Int) ≤ 128 ^ ((List.range k).map (fun i => bt s (j + 1 + i))).length by omega)
      omega
    have h0 := hm 0 (by omega)
    have hl := bt_le s (j + 0)
    rw [Nat.add_zero] at h0 hl
    generalize hL : (List.range (k + 1)).map (fun i => bt s (j + 1 + i)) = L at *
    cases L with
    | nil => exact ih.elim
    | cons y r => exact ⟨h0, by omega, ih, hpos⟩
theorem varL_bytes : ∀ (k n : Nat), n < 128 ^ (k + 1) → ∀ x ∈ varL n, 0 ≤ x ∧ x < 256
  | 0, n, h => by
    rw [varL_lt (by omega)]
    intro x hx
    rw [List.mem_singleton] at hx
    subst hx
    omega
  | k + 1, n, h => by
    by_cases c : n < 128
    · rw [varL_lt c]
      intro x hx
      rw [List.mem_singleton] at hx
      subst hx
      omega
    · rw [varL_ge (by omega)]
      intro x hx
      rcases List.mem_cons.1 hx with rfl | hx
      · omega
      · exact varL_bytes k (n / 128) (by rw [Nat.pow_succ] at h; omega) x hx
theorem map_inj : ∀ (a b : List Int), (∀ x ∈ a, 0 ≤ x ∧ x < 256) → (∀ x ∈ b, 0 ≤ x ∧ x < 256) → (a.map fun n => UInt8.ofNat n.toNat) = (b.map fun n => UInt8.ofNat n.toNat) → a = b
  | [], [], _, _, _ => rfl
  | x :: a, y :: b, ha, hb, h => by
    simp only [List.map_cons, List.cons.injEq] at h
    have hx := ha x (by simp)
    have hy := hb y (by simp)
    have e := congrArg UInt8.toNat h.1
    rw [UInt8.toNat_ofNat', UInt8.toNat_ofNat'] at e
    rw [show x = y by omega, map_inj a b (fun z hz => ha z (by simp [hz])) (fun z hz => hb z (by simp [hz])) h.2]
  | [], _ :: _, _, _, h => by simp at h
  | _ :: _, [], _, _, h => by simp at h
theorem firsts_str (s : ByteArray) (k : Nat) (hk : k ≤ s.size) : (s.extract 0 k).toList = (firsts s k).map fun n => UInt8.ofNat n.toNat := by
  rw [ByteArray.toList_eq, Lib.extract_data]
  have hl : s.data.toList.length = s.size := by simp
  apply List.ext_getElem?
  intro i
  simp only [firsts, List.getElem?_map]
  by_cases c : i < k
  · rw [List.getElem?_range c]
    simp only [List.drop_zero, Option.map_some]
    rw [List.getElem?_take_of_lt (by omega), List.getElem?_eq_getElem (by omega), bt_list, List.getD_eq_getElem?_getD, List.getElem?_eq_getElem (by omega)]
    simp
  · rw [List.getElem?_eq_none (by simp; omega), List.getElem?_eq_none (by simp; omega)]
    rfl
/-- n of a text's first k groups, in 64 bits. -/
def nv (s : ByteArray) (k : Nat) : Int := pv s k % 18446744073709551616
theorem nv_b (s : ByteArray) (k : Nat) : 0 ≤ nv s k ∧ nv s k ≤ 18446744073709551615 := by unfold nv; omega
theorem pow9 : (128 : Int) ^ 9 = 9223372036854775808 := by decide
theorem eq_var (s : ByteArray) (k : Nat) (hk : k ≤ 9) (hs : k < s.size) (hm : ∀ j, j < k → 128 ≤ bt s j) (hc : bt s k < 128) : ((varS (nv s (k + 1))).toList == (s.extract 0 (k + 1)).toList) = uvOk s k := by
  have hn := nv_b s (k + 1)
  have hb := bt_nonneg s k
  have hp := pv_b s k
  have hpk := p128_le hk
  have h9 := pow9
  have hN : (nv s (k + 1)).toNat < 128 ^ (9 + 1) := by
    have e : (128 : Nat) ^ (9 + 1) = 1180591620717411303424 := by decide
    omega
  have hd := dec_varL 9 _ hN
  have hF := dec_firsts s (k + 1)
  have hpv : pv s (k + 1) = pv s k + bt s k % 128 * 128 ^ k := rfl
  have hstr : (varS (nv s (k + 1))).toList = (varL (nv s (k + 1)).toNat).map fun n => UInt8.ofNat n.toNat := by
    rw [ByteArray.toList_eq]; exact strOfNums_data _
  have iff1 : (varS (nv s (k + 1))).toList = (s.extract 0 (k + 1)).toList ↔ varL (nv s (k + 1)).toNat = firsts s (k + 1) := by
    rw [hstr, firsts_str s (k + 1) (by omega)]
    constructor
    · intro h
      refine map_inj _ _ (varL_bytes 9 _ hN) (fun x hx => ?_) h
      obtain ⟨i, _, rfl⟩ := List.mem_map.1 hx
      have a := bt_nonneg s i
      have b := bt_le s i
      omega
    · intro h; rw [h]
  by_cases bad1 : k = 9 ∧ 1 < bt s k
  · obtain ⟨rfl, h1⟩ := bad1
    have ho : uvOk s 9 = false := by simp [uvOk, h1]
    rw [ho]
    apply beq_eq_false_iff_ne.2
    intro h
    have e := congrArg dec (iff1.1 h)
    rw [hd, hF] at e
    have : 2 * (128 : Int) ^ 9 ≤ bt s 9 % 128 * 128 ^ 9 := Int.mul_le_mul_of_nonneg_right (by omega) (by omega)
    omega
  · have hsmall : pv s (k + 1) ≤ 18446744073709551615 := by
      by_cases e9 : k = 9
      · subst e9
        have : bt s 9 % 128 * 128 ^ 9 ≤ 1 * 128 ^ 9 := Int.mul_le_mul_of_nonneg_right (by omega) (by omega)
        omega
      · have h8 := p128_le (show k ≤ 8 by omega)
        have e8 : (128 : Int) ^ 8 = 72057594037927936 := by decide
        have : bt s k % 128 * 128 ^ k ≤ 127 * 128 ^ k := Int.mul_le_mul_of_nonneg_right (by omega) (by omega)
        omega
    have hp1 := pv_b s (k + 1)
    have hnv : nv s (k + 1) = pv s (k + 1) := by unfold nv; omega
    by_cases bad2 : 0 < k ∧ bt s k = 0
    · obtain ⟨h1, h2⟩ := bad2
      have ho : uvOk s k = false := by simp [uvOk, h1, h2]
      rw [ho]
      apply beq_eq_false_iff_ne.2
      intro h
      have e := congrArg List.length (iff1.1 h)
      rw [firsts_len] at e
      obtain ⟨j, rfl⟩ : ∃ j, k = j + 1 := ⟨k - 1, by omega⟩
      have hlen := varL_len j (nv s (j + 1 + 1)).toNat (by
        have : ((128 ^ (j + 1) : Nat) : Int) = (128 : Int) ^ (j + 1) := by simp
        rw [hnv, hpv, h2]
        omega)
      omega
    · have ho : uvOk s k = true := by
        by_cases e0 : bt s k = 0
        · have : ¬ 0 < k := fun h => bad2 ⟨h, e0⟩
          have e9 : (k == 9) = false := by simp; omega
          simp [uvOk, e9, this]
        · by_cases e9 : k = 9
          · have : ¬ 1 < bt s k := fun h => bad1 ⟨e9, h⟩
            simp [uvOk, e0, this]
          · have e9' : (k == 9) = false := by simp [e9]
            simp [uvOk, e0, e9']
      rw [ho]
      apply beq_iff_eq.2
      apply iff1.2
      rw [hnv, ← hF]
      apply varL_dec
      have g := good_firsts s k 0 (fun i hi => by rw [Nat.zero_add]; exact hm i hi) (by rw [Nat.zero_add]; exact hc) (by
        rw [Nat.zero_add]
        by_cases e : k = 0
        · exact Or.inl e
        · right
          have : bt s k ≠ 0 := fun h => bad2 ⟨by omega, h⟩
          omega)
      have e : (fun i => bt s (0 + i)) = bt s := by funext i; rw [Nat.zero_add]
      rw [e] at g
      exact g
end Go.Proofs.Ytpooekmogfkkjaa
namespace Go.Proofs.Ytpooekmogfkkjaa
set_option maxRecDepth 100000
open Go.ChangeShapes Go.WideShapes Go.ChangeAt Go.RowKit Go.PlainAid

/-- 128^k in 64 bits. -/
def uu (k : Nat) : Int := 128 ^ k % 18446744073709551616
theorem nv_step (s : ByteArray) (k : Nat) : IntKind.u64.wrap (nv s k + IntKind.u64.wrap (bt s k % 128 * uu k)) = nv s (k + 1) := by
  unfold nv uu
  simp only [IntKind.wrap_u64, pv]
  rw [Int.emod_add_emod, Int.add_emod_emod, Int.add_emod, Int.mul_emod, Int.emod_emod_of_dvd _ (Int.dvd_refl _), ← Int.mul_emod, ← Int.add_emod]
theorem uu_step (k : Nat) : IntKind.u64.wrap (uu k * 128) = uu (k + 1) := by
  unfold uu
  rw [IntKind.wrap_u64, Int.pow_succ]
  generalize (128 : Int) ^ k = x
  omega

theorem uvOk_nv (s : ByteArray) (k : Nat) (hk : k ≤ 9) (ho : uvOk s k = true) : nv s (k + 1) = pv s (k + 1) := by
  have hp := pv_b s k
  have hb := bt_nonneg s k
  have hpk := p128_le hk
  have h9 := pow9
  have hp1 := pv_b s (k + 1)
  have hpv : pv s (k + 1) = pv s k + bt s k % 128 * 128 ^ k := rfl
  unfold nv
  by_cases e9 : k = 9
  · subst e9
    have h1 : bt s 9 ≤ 1 := by
      by_cases h : 1 < bt s 9
      · simp [uvOk, h] at ho
      · omega
    have : bt s 9 % 128 * 128 ^ 9 ≤ 1 * 128 ^ 9 := Int.mul_le_mul_of_nonneg_right (by omega) (by omega)
    omega
  · have h8 := p128_le (show k ≤ 8 by omega)
    have e8 : (128 : Int) ^ 8 = 72057594037927936 := by decide
    have : bt s k % 128 * 128 ^ k ≤ 127 * 128 ^ k := Int.mul_le_mul_of_nonneg_right (by omega) (by omega)
    omega

end Go.Proofs.Ytpooekmogfkkjaa
namespace Go.Proofs.Ytpooekmogfkkjaa
set_option maxRecDepth 100000
open Go.ChangeShapes Go.WideShapes Go.ChangeAt Go.RowKit Go.PlainAid

theorem varL_shape : ∀ (k n : Nat), n < 128 ^ (k + 1) → (∀ i, i + 1 < (varL n).length → 128 ≤ (varL n).getD i 0) ∧ (varL n).getD ((varL n).length - 1) 0 < 128
  | 0, n, h => by
    rw [varL_lt (by omega)]
    refine ⟨fun i hi => ?_, ?_⟩
    · simp at hi
    · show (n : Int) < 128
      omega
  | k + 1, n, h => by
    by_cases c : n < 128
    · rw [varL_lt c]
      refine ⟨fun i hi => ?_, ?_⟩
      · simp at hi
      · show (n : Int) < 128
        omega
    · have ih := varL_shape k (n / 128) (by rw [Nat.pow_succ] at h; omega)
      have hp := varL_pos (n / 128)
      rw [varL_ge (by omega)]
      generalize varL (n / 128) = L at *
      refine ⟨fun i hi => ?_, ?_⟩
      · cases i with
        | zero => simp; omega
        | succ i =>
          have := ih.1 i (by simpa using hi)
          simpa using this
      · cases L with
        | nil => simp at hp
        | cons y r => simpa using ih.2
theorem bt_front (xs : List Int) (t : ByteArray) (i : Nat) (hi : i < xs.length) (hx : ∀ x ∈ xs, 0 ≤ x ∧ x < 256) : bt (strOfNums xs ++ t) i = xs.getD i 0 := by
  have hm := hx xs[i] (List.getElem_mem hi)
  rw [bt_list]
  have e : (strOfNums xs ++ t).data.toList = (xs.map fun n => UInt8.ofNat n.toNat) ++ t.data.toList := by
    rw [ByteArray.data_append, Array.toList_append, strOfNums_data]
  rw [e]
  simp only [List.getD_eq_getElem?_getD]
  rw [List.getElem?_append_left (by simpa using hi), List.getElem?_map, List.getElem?_eq_getElem hi]
  simp only [Option.map_some, Option.getD_some]
  rw [UInt8.toNat_ofNat']
  omega
theorem uv_reach (s : ByteArray) (k : Nat) (hk : k < s.size) (hc : bt s k < 128) (ho : uvOk s k = true) : ∀ (f j : Nat), (∀ i, j ≤ i → i < k → 128 ≤ bt s i) → j ≤ k → k < j + f → uv s f j = (pv s (k + 1), ((k + 1 : Nat) : Int))
  | 0, j, _, _, h => by omega
  | f + 1, j, hm, hj, hf => by
    by_cases e : j = k
    · subst e
      exact uv_ok s f j hk hc ho
    · rw [uv_go s f j (by omega) (by have := hm j (Nat.le_refl _) (by omega); omega)]
      exact uv_reach s k hk hc ho f (j + 1) (fun i h1 h2 => hm i (by omega) h2) (by omega) (by omega)
theorem back_var (n : Int) (t : ByteArray) (h0 : 0 ≤ n) (h1 : n ≤ 18446744073709551615) : unvarP (varS n ++ t) = (n, ((varS n).size : Int)) := by
  have hN : n.toNat < 128 ^ (9 + 1) := by
    have e : (128 : Nat) ^ (9 + 1) = 1180591620717411303424 := by decide
    omega
  have hsh := varL_shape 9 _ hN
  have hby := varL_bytes 9 _ hN
  have hd := dec_varL 9 _ hN
  have hten := varL_ten n.toNat (by omega)
  have hpos := varL_pos n.toNat
  have hsz : (varS n).size = (varL n.toNat).length := by unfold varS; rw [strOfNums_size]
  have hbt : ∀ i, i < (varL n.toNat).length → bt (varS n ++ t) i = (varL n.toNat).getD i 0 := fun i hi => bt_front _ t i hi hby
  have hsize : (varS n ++ t).size = (varS n).size + t.size := ByteArray.size_append
  have hfirst : firsts (varS n ++ t) (varL n.toNat).length = varL n.toNat := by
    apply List.ext_getElem?
    intro i
    by_cases c : i < (varL n.toNat).length
    · simp only [firsts, List.getElem?_map]
      rw [List.getElem?_range c]
      simp only [Option.map_some]
      rw [hbt i c, List.getD_eq_getElem?_getD, List.getElem?_eq_getElem c]
      rfl
    · rw [List.getElem?_eq_none (by rw [firsts_len]; omega), List.getElem?_eq_none (by omega)]
  obtain ⟨k, hk⟩ : ∃ k, (varL n.toNat).length = k + 1 := ⟨(varL n.toNat).length - 1, by omega⟩
  rw [hk] at hsh hbt hfirst hten
  have hpv : pv (varS n ++ t) (k + 1) = n := by
    rw [← dec_firsts, hfirst, hd]; omega
  have hnv : nv (varS n ++ t) (k + 1) = n := by unfold nv; rw [hpv]; omega
  have hm : ∀ j, j < k → 128 ≤ bt (varS n ++ t) j := fun j hj => by rw [hbt j (by omega)]; exact hsh.1 j (by omega)
  have hc : bt (varS n ++ t) k < 128 := by rw [hbt k (by omega)]; exact hsh.2
  have hks : k < (varS n ++ t).size := by omega
  have ho : uvOk (varS n ++ t) k = true := by
    rw [← eq_var _ k (by omega) hks hm hc, hnv]
    apply beq_iff_eq.2
    rw [firsts_str _ (k + 1) (by omega), hfirst, ByteArray.toList_eq]
    exact strOfNums_data _
  unfold unvarP
  rw [uv_reach _ k hks hc ho 10 0 (fun i _ h => hm i h) (by omega) (by omega), hpv, hsz, hk]
theorem foldZ_b (n : Int) (h1 : -9223372036854775808 ≤ n) (h2 : n ≤ 9223372036854775807) : 0 ≤ foldZ n ∧ foldZ n ≤ 18446744073709551615 := by unfold foldZ; split <;> omega
theorem unfoldZ_b (u : Int) (h1 : 0 ≤ u) (h2 : u ≤ 18446744073709551615) : -9223372036854775808 ≤ unfoldZ u ∧ unfoldZ u ≤ 9223372036854775807 := by unfold unfoldZ; split <;> omega
theorem unfold_fold (n : Int) : unfoldZ (foldZ n) = n := by unfold unfoldZ foldZ; split <;> split <;> omega
theorem fold_unfold (u : Int) (h : 0 ≤ u) : foldZ (unfoldZ u) = u := by unfold unfoldZ foldZ; split <;> split <;> omega
/-- What is read at a text's beginning is how it is written. -/
theorem uv_forth (s : ByteArray) : ∀ (f j : Nat), j + f = 10 → (∀ i, i < j → 128 ≤ bt s i) → ∀ {n k : Int}, uv s f j = (n, k) → k ≠ 0 →
    ∃ m : Nat, k = ((m + 1 : Nat) : Int) ∧ m ≤ 9 ∧ m < s.size ∧ n = nv s (m + 1) ∧ (varS (nv s (m + 1))).toList = (s.extract 0 (m + 1)).toList
  | 0, j, _, _, n, k, h, hk => by
    simp only [uv, Prod.mk.injEq] at h
    exact absurd h.2.symm hk
  | f + 1, j, hj, hm, n, k, h, hk => by
    by_cases hs : j < s.size
    · by_cases hc : bt s j < 128
      · cases ho : uvOk s j with
        | true =>
          rw [uv_ok s f j hs hc ho, Prod.mk.injEq] at h
          have e := eq_var s j (by omega) hs hm hc
          rw [ho] at e
          have hp := pv_b s j
          have hpk := p128_le (show j ≤ 9 by omega)
          have h9 := pow9
          have hb := bt_nonneg s j
          have hpv : pv s (j + 1) = pv s j + bt s j % 128 * 128 ^ j := rfl
          refine ⟨j, h.2.symm, by omega, hs, ?_, beq_iff_eq.1 e⟩
          rw [← h.1]
          unfold nv
          by_cases e9 : j = 9
          · subst e9
            have h1 : bt s 9 ≤ 1 := by
              by_cases h : 1 < bt s 9
              · simp [uvOk, h] at ho
              · omega
            have : bt s 9 % 128 * 128 ^ 9 ≤ 1 * 128 ^ 9 := Int.mul_le_mul_of_nonneg_right (by omega) (by omega)
            have hp1 := pv_b s (9 + 1)
            omega
          · have h8 := p128_le (show j ≤ 8 by omega)
            have e8 : (128 : Int) ^ 8 = 72057594037927936 := by decide
            have : bt s j % 128 * 128 ^ j ≤ 127 * 128 ^ j := Int.mul_le_mul_of_nonneg_right (by omega) (by omega)
            have hp1 := pv_b s (j + 1)
            omega
        | false =>
          rw [uv_bad s f j hs hc ho, Prod.mk.injEq] at h
          exact absurd h.2.symm hk
      · rw [uv_go s f j hs hc] at h
        exact uv_forth s f (j + 1) (by omega) (fun i hi => by
          by_cases e : i = j
          · subst e; omega
          · exact hm i (by omega)) h hk
    · rw [uv_end s (f + 1) j hs, Prod.mk.injEq] at h
      exact absurd h.2.symm hk
theorem text_of_list {a b : ByteArray} (h : a.toList = b.toList) : a = b := by
  rw [ByteArray.toList_eq, ByteArray.toList_eq] at h
  exact ByteArray.ext (Array.toList_inj.1 h)
/-- A text that begins with a number: the number's text, and what stands behind it. -/
theorem unvar_forth {s : ByteArray} {n k : Int} (h : unvarP s = (n, k)) (hk : k ≠ 0) :
    (0 ≤ n ∧ n ≤ 18446744073709551615) ∧ (0 < k ∧ k ≤ 10 ∧ k ≤ s.size) ∧ (varS n).size = k.toNat ∧ varS n ++ s.extract k.toNat s.size = s := by
  obtain ⟨m, rfl, hm, hs, rfl, he⟩ := uv_forth s 10 0 rfl (fun i hi => absurd hi (Nat.not_lt_zero _)) h hk
  have e := text_of_list he
  refine ⟨nv_b s (m + 1), ⟨by omega, by omega, by omega⟩, ?_, ?_⟩
  · rw [e, ByteArray.size_extract]; omega
  · rw [e, show ((m + 1 : Nat) : Int).toNat = m + 1 from rfl]
    apply ByteArray.ext
    rw [ByteArray.data_append, ByteArray.data_extract, ByteArray.data_extract]
    have : s.size = s.data.size := rfl
    rw [this, Array.extract_append_extract]
    simp
    exact .inr (Nat.le_max_right _ _)
theorem unvar_none {s : ByteArray} (h : s.size = 0) : unvarP s = (0, 0) := uv_end s 10 0 (by omega)
end Go.Proofs.Ytpooekmogfkkjaa
