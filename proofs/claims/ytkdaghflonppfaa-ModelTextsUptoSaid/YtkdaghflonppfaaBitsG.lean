/- Contracts: Var and the reference's Var. -/
import Derived.Test.YtkdaghflonppfaaRows
import Derived.Test.YtkdaghflonppfaaAid
import Derived.Deep.RegionWith
import Derived.Deep.RegionHeld3
namespace Go.Proofs.Ytkdaghflonppfaa
open Go.ChangeShapes Go.WideShapes Go.ChangeAt Go.RowKit Go.PlainAid

/-- A number in groups of seven bits, the lowest first. -/
def varL (n : Nat) : List Int := if n < 128 then [(n : Int)] else ((n % 128 + 128 : Nat) : Int) :: varL (n / 128)
termination_by n
decreasing_by omega
theorem varL_lt {n : Nat} (h : n < 128) : varL n = [(n : Int)] := by rw [varL, if_pos h]
theorem varL_ge {n : Nat} (h : 128 ≤ n) : varL n = ((n % 128 + 128 : Nat) : Int) :: varL (n / 128) := by rw [varL, if_neg (by omega)]
theorem varL_len : ∀ (k n : Nat), n < 128 ^ (k + 1) → (varL n).length ≤ k + 1
  | 0, n, h => by rw [varL_lt (by omega)]; exact Nat.le_refl _
  | k + 1, n, h => by
    by_cases c : n < 128
    · rw [varL_lt c]; simp
    · rw [varL_ge (by omega), List.length_cons]
      have := varL_len k (n / 128) (by rw [Nat.pow_succ] at h; omega)
      omega
theorem varL_ten (n : Nat) (h : n < 18446744073709551616) : (varL n).length ≤ 10 := varL_len 9 n (by omega)
theorem varL_pos (n : Nat) : 1 ≤ (varL n).length := by
  by_cases c : n < 128
  · rw [varL_lt c]; simp
  · rw [varL_ge (by omega)]; simp
def varS (m : Int) : ByteArray := strOfNums (varL m.toNat)
theorem varS_size (m : Int) (h0 : 0 ≤ m) (h : m ≤ 18446744073709551615) : (varS m).size ≤ 10 := by unfold varS; rw [strOfNums_size]; exact varL_ten _ (by omega)
theorem varS_lt {m : Int} (h0 : 0 ≤ m) (h : m < 128) : strOfNums [m] = varS m := by unfold varS; rw [varL_lt (by omega), show ((m.toNat : Nat) : Int) = m by omega]
theorem varS_ge {m : Int} (h : 128 ≤ m) : strOfNums [m % 128 + 128] ++ varS (m / 128) = varS m := by
  unfold varS
  rw [str_app, varL_ge (n := m.toNat) (by omega), show (m / 128).toNat = m.toNat / 128 by omega, show ((m.toNat % 128 + 128 : Nat) : Int) = m % 128 + 128 by omega]
  rfl

set_option maxHeartbeats 1000000 in
theorem rvar_k : ∀ (k : Nat) (m : Int), 0 ≤ m → m ≤ 18446744073709551615 → m < ((128 ^ (k + 1) : Nat) : Int) → ∀ (w : World),
    Calls Try.prog 38 #[.int .u64 m] w fun e w' => e = .returned (.string (varS m)) ∧ Below w.heap.size w w' := by
  intro k
  induction k with
  | zero =>
    intro m h0 h1 hk w
    have c : m < 128 := by simpa using hk
    have HC := fun w b => run_conv_one (P := Try.prog) 52 5 9 Try.underlying52 Try.underlying5 Try.underlying9 w b 1
    have HO := fun w b x => convOne_some Try.prog 52 9 w b 1 x
    have hf := Lib.hid (varS_lt h0 c)
    clear hk
    go_enter Try.func38, Try.ntmps38
    go_wp2
    go_returns
    exact ⟨by rw [← hf.out]; rfl, by go_grown⟩
  | succ k ih =>
    intro m h0 h1 hk w
    have HC := fun w b => run_conv_one (P := Try.prog) 52 5 9 Try.underlying52 Try.underlying5 Try.underlying9 w b 1
    have HO := fun w b x => convOne_some Try.prog 52 9 w b 1 x
    by_cases c : m < 128
    · have hf := Lib.hid (varS_lt h0 c)
      clear ih hk
      go_enter Try.func38, Try.ntmps38
      go_wp2
      go_returns
      exact ⟨by rw [← hf.out]; rfl, by go_grown⟩
    · have hf := Lib.hid (varS_ge (m := m) (by omega))
      have hq := varS_size (m / 128) (by omega) (by omega)
      have hq1 : (strOfNums [m % 128 + 128]).size ≤ 1 := by rw [strOfNums_size]; exact Nat.le_refl _
      have IH := Lib.hid (ih (m / 128) (by omega) (by omega) (by rw [Nat.pow_succ] at hk; omega))
      clear ih hk
      have e1 : IntKind.u64.wrap (m.tdiv 128) = m / 128 := IntWalk.u64_quo _ _ ⟨h0, h1, by omega⟩
      have e2 : m.tmod 128 = m % 128 := IntWalk.rem_in _ _ h0
      have e3 : IntKind.u64.wrap (m % 128 + 128) = m % 128 + 128 := IntWalk.u64_in _ (by omega)
      have e4 : IntKind.u8.wrap (m % 128 + 128) = m % 128 + 128 := IntWalk.u8_in _ (by omega)
      have e5 : IntKind.u64.wrap (m % 128) = m % 128 := IntWalk.u64_in _ (by omega)
      go_enter Try.func38, Try.ntmps38
      go_wp2_with fail
      go_region_with (go_at_call 38; (with_reducible refine (IH.out _).mono ?_); rintro e w1 ⟨rfl, hb⟩; obtain ⟨hc, hf2⟩ := bcell hb)
      all_goals
        go_wp2
        go_returns
        refine ⟨by rw [← hf.out]; rfl, ?_⟩
        first
          | exact (((Below.refl _ _).alloc (Nat.le_refl _) _).drew).trans (hb.mono (by simp))
          | exact ((Below.refl _ _).drew.trans hb).alloc hb.size _
theorem rvar_any (m : Int) (h0 : 0 ≤ m) (h1 : m ≤ 18446744073709551615) (w : World) :
    Calls Try.prog 38 #[.int .u64 m] w fun e w' => e = .returned (.string (varS m)) ∧ Below w.heap.size w w' :=
  rvar_k 9 m h0 h1 (by omega) w

theorem infoG : (Try.prog.info? 5).map (fun i => (i.zero, i.size, i.bytes)) = some (some (.int .u8 0), 1, 1) := by kernel_rfl

/-- What Var's loop has laid: L, and m is still to come. -/
structure VarI (n : Int) (w : World) (m : Int) (v : Value) (L : List Int) (wr : World) : Prop where
  lo : 0 ≤ m
  hi : m ≤ 18446744073709551615
  len : L.length + (varL m.toNat).length ≤ 10
  list : L ++ varL m.toNat = varL n.toNat
  own : wr.ownsRow w.heap.size 5 1 v L.length (L.map (Value.int .u8))
  below : Below w.heap.size w wr

set_option maxHeartbeats 1000000 in
theorem var_any (n : Int) (h0 : 0 ≤ n) (h1 : n ≤ 18446744073709551615) (w : World) :
    Calls Try.prog 35 #[.int .u64 n] w fun e w' => e = .returned (.string (varS n)) ∧ Below w.heap.size w w' := by
  obtain ⟨i0, hi, hz0, hz1, hz2⟩ := info_parts infoG
  have hl := varL_ten n.toNat (by omega)
  have HL := Lib.hid hl
  clear hl
  go_enter Try.func35, Try.ntmps35
  go_wp2
  go_loopw [0, 3] (fun x v wr => ∃ m L, x = .int .u64 m ∧ VarI n w m v L wr) (fun x _ _ => (intOf x).toNat)
  case atStart => exact ⟨n, [], rfl, h0, h1, by simpa using HL.out, rfl, ⟨rfl, Or.inl ⟨rfl, rfl⟩⟩, Below.refl _ _⟩
  case round =>
    obtain ⟨m, L, rfl, hI⟩ := hrel
    have hm0 := hI.lo
    have hm1 := hI.hi
    by_cases hlt : 128 ≤ m
    · have hor := u8_or_128 (m % 256) (by omega) (by omega)
      have hown := Lib.hid hI.own
      have hlen := Lib.hid hI.len
      have hpos := Lib.hid (varL_pos m.toNat)
      have hbel := hI.below
      have hq := Lib.hid (varL_ge (n := m.toNat) (by omega))
      have hq2 := Lib.hid (show (m / 128).toNat = m.toNat / 128 by omega)
      go_wp2_with (at_builtin; refine wpList_append_own _ rfl _ _ 52 rfl w.heap.size 5 i0 (.int .u8 0) 1 1 Try.underlying52 hi hz0 hz1 hz2 rfl (by decide) _ _ _ rfl (hown.out.alloc _) ⟨wr.heap.size, 0, none⟩ 1 1 [.int .u8 (m % 128 + 128)] rfl rfl ?c1 ?c2 ?c3 ?c4 ?c5 ?_)
      case c1 => exact one_new _ _ _
      case c2 => exact one_cell _
      case c3 => have a := hlen.out; unfold maxLen; omega
      case c4 => have a := hlen.out; omega
      case c5 => have a := hbel.size; simp; omega
      intro v1 w1 hown1 hgrow1 _
      have HO1 := Lib.hid hown1
      have HG1 := Lib.hid hgrow1
      clear hown1 hgrow1
      go_wp2
      go_roundw
      case rel =>
        refine ⟨m / 128, L ++ [m % 128 + 128], rfl, by omega, by omega, ?_, ?_, ?_, ?_⟩
        · have a := hlen.out
          rw [hq.out] at a
          rw [hq2.out]
          simp at a ⊢
          omega
        · have a := hI.list
          rw [hq.out] at a
          rw [hq2.out, ← a, List.append_assoc, show ((m.toNat % 128 + 128 : Nat) : Int) = m % 128 + 128 by omega]
          rfl
        · have a := HO1.out
          rw [List.length_append, List.map_append]
          exact a
        · have a := hbel.size
          exact (hbel.alloc a _).grown HG1.out (by simp; omega) (fun k hk => (hown.out.lt k hk).1)
      case measure => simp [intOf]; omega
    · have hown := Lib.hid hI.own
      have hlen := Lib.hid hI.len
      have hpos := Lib.hid (varL_pos m.toNat)
      have hbel := hI.below
      have hq := Lib.hid (varL_lt (n := m.toNat) (by omega))
      go_wp2_with (at_builtin; refine wpList_append_own _ rfl _ _ 52 rfl w.heap.size 5 i0 (.int .u8 0) 1 1 Try.underlying52 hi hz0 hz1 hz2 rfl (by decide) _ _ _ rfl (hown.out.alloc _) ⟨wr.heap.size, 0, none⟩ 1 1 [.int .u8 m] rfl rfl ?d1 ?d2 ?d3 ?d4 ?d5 ?_)
      case d2 => rfl
      case d3 => have a := hlen.out; unfold maxLen; omega
      case d4 => have a := hlen.out; omega
      case d5 => have a := hbel.size; simp; omega
      intro v1 w1 hown1 hgrow1 _
      have hv : w1.ownsRow w.heap.size 5 1 v1 (L.length + 1) ((L ++ [m]).map (Value.int .u8)) := by
        rw [List.map_append]; exact hown1
      have HO1 := Lib.hid hv
      have HG1 := Lib.hid hgrow1
      clear hown1 hgrow1 hv
      go_wp2
      rw [conv_own 52 5 9 Try.underlying52 Try.underlying5 Try.underlying9 (L ++ [m]) w1 _ _ _ HO1.out]
      go_wp2
      go_returns
      refine ⟨?_, ?_⟩
      · have a := hI.list
        rw [hq.out, show ((m.toNat : Nat) : Int) = m by omega] at a
        unfold varS
        rw [← a]
        rfl
      · have a := hbel.size
        exact (hbel.alloc a _).grown HG1.out (by simp; omega) (fun k hk => (hown.out.lt k hk).1)
end Go.Proofs.Ytkdaghflonppfaa
