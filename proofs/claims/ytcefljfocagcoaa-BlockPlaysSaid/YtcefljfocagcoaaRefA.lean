/- Contracts of the reference's disk: Read, spent, bit. -/
import Derived.Test.YtcefljfocagcoaaBlkG
namespace Go.Proofs.Ytcefljfocagcoaa
open Go.ChangeShapes Go.WideShapes Go.ChangeAt Go.RowKit Go.PlainAid

/-- The reference's safe blocks. -/
def SafeIn (w : World) (sv : Value) (n : Nat) (f : Nat → ByteArray) : Prop :=
  ∃ b cap, sv = .slice (some ⟨b, 0, none⟩) n cap ∧ b < w.heap.size ∧ ∀ k, k < n → w.cell? ⟨b, k, none⟩ = some (.string (f k))
/-- The reference's late writes. -/
def LateIn (w : World) (lv : Value) (l : List (Nat × ByteArray)) : Prop :=
  (lv = .slice none 0 0 ∧ l = []) ∨ ∃ b cap, lv = .slice (some ⟨b, 0, none⟩) l.length cap ∧ b < w.heap.size ∧ ∀ i x, l[i]? = some x → w.cell? ⟨b, i * 2, none⟩ = some (.int .i64 (x.1 : Int)) ∧ w.cell? ⟨b, i * 2 + 1, none⟩ = some (.string x.2)
theorem SafeIn.on {w w' : World} {sv : Value} {n : Nat} {f : Nat → ByteArray} (h : SafeIn w sv n f) (b : Below w.heap.size w w') : SafeIn w' sv n f := by
  obtain ⟨q, cap, hv, hb, hc⟩ := h
  exact ⟨q, cap, hv, Nat.lt_of_lt_of_le hb b.size, fun k hk => (b.cell (p := ⟨q, k, none⟩) hb).trans (hc k hk)⟩
theorem SafeIn.congr {w : World} {sv : Value} {n : Nat} {f g : Nat → ByteArray} (h : SafeIn w sv n f) (e : ∀ k, k < n → g k = f k) : SafeIn w sv n g := by
  obtain ⟨q, cap, hv, hb, hc⟩ := h
  exact ⟨q, cap, hv, hb, fun k hk => by rw [e k hk]; exact hc k hk⟩
theorem LateIn.on {w w' : World} {lv : Value} {l : List (Nat × ByteArray)} (h : LateIn w lv l) (b : Below w.heap.size w w') : LateIn w' lv l := by
  rcases h with h | ⟨q, cap, hv, hb, hc⟩
  · exact .inl h
  · exact .inr ⟨q, cap, hv, Nat.lt_of_lt_of_le hb b.size, fun i x hx => ⟨(b.cell (p := ⟨q, i * 2, none⟩) hb).trans (hc i x hx).1, (b.cell (p := ⟨q, i * 2 + 1, none⟩) hb).trans (hc i x hx).2⟩⟩
/-- The last late write of a block is what is told of it. -/
theorem done_found {f : Nat → ByteArray} {l : List (Nat × ByteArray)} {m : Nat} {x : Nat × ByteArray} (hx : l[m]? = some x) (h : ∀ j y, m < j → l[j]? = some y → y.1 ≠ x.1) : done f l x.1 = x.2 := by
  obtain ⟨hm, he⟩ := List.getElem?_eq_some_iff.1 hx
  have hs : l = l.take m ++ x :: l.drop (m + 1) := by
    rw [← he, List.getElem_cons_drop hm, List.take_append_drop]
  rw [hs]
  unfold done
  rw [List.foldl_append, List.foldl_cons]
  have := done_off (upd (List.foldl (fun g y => upd g y.1 y.2) f (l.take m)) x.1 x.2) x.1 (l.drop (m + 1)) (fun y hy => by
    obtain ⟨j, hj⟩ := List.getElem?_of_mem hy
    rw [List.getElem?_drop] at hj
    exact h _ y (by omega) hj)
  unfold done at this
  rw [this, upd_same]
set_option maxHeartbeats 1000000 in
theorem rread_any (w : World) (sv lv : Value) (lim : Int) (d : D) (k : Int) (hs : SafeIn w sv d.n d.safe) (hl : LateIn w lv d.late) (h0 : -9223372036854775808 ≤ k) (h1 : k ≤ 9223372036854775807) (hlen : d.late.length < 4294967296) :
    Calls Try.prog 10 #[.agg #[sv, lv, .int .i64 lim, .bool d.dark], .int .i64 k] w fun e w' => e = .returned (.tuple #[.string (readS d k), .int .i64 (reachE d k)]) ∧ Below w.heap.size w w' := by
  have hS : readS d k = if reachE d k = 0 then d.last k.toNat else ByteArray.empty := rfl
  have HS := Lib.hid hS
  clear hS
  obtain ⟨sb, scap, rfl, hsb, hsc⟩ := hs
  have HSC := Lib.hid hsc
  clear hsc
  rcases reachE_cases d k with ⟨a, hk, hkn, hd⟩ | ⟨a, hd⟩ | ⟨a, hd⟩
  · have hr := Lib.hid a
    rw [hd]
    clear a hd
    obtain ⟨i, rfl⟩ := Int.eq_ofNat_of_zero_le hk
    have hi : i < d.n := by omega
    rcases hl with ⟨rfl, hnil⟩ | ⟨lb, lcap, rfl, hlb, hlc⟩
    · have HN := Lib.hid hnil
      have hcell := HSC.out i hi
      clear hnil
      go_enter Try.func10, Try.ntmps10
      go_wp2
      go_rounds 1
      go_returns
      refine ⟨?_, by go_grown⟩
      rw [HS.out, hr.out, if_pos rfl, Int.toNat_natCast]
      unfold D.last
      rw [HN.out]
      rfl
    · have HLC := Lib.hid hlc
      clear hlc
      go_enter Try.func10, Try.ntmps10
      go_wp2
      go_loop [6] (fun z => ∃ m : Nat, m ≤ d.late.length ∧ z = .int .i64 ((m : Int) - 1) ∧ Hid (∀ j y, m ≤ j → d.late[j]? = some y → y.1 ≠ i)) (fun z => (intOf z + 1).toNat)
      case atStart => exact ⟨d.late.length, Nat.le_refl _, rfl, fun j y hj hy => by have := (List.getElem?_eq_some_iff.1 hy).1; omega⟩
      case round =>
        obtain ⟨m, hm, rfl, hno⟩ := hrel
        rcases m with _ | m
        · have hcell := HSC.out i hi
          rw [show (((0 : Nat) : Int) - 1) = -1 from rfl]
          go_wp2
          go_returns
          refine ⟨?_, by go_grown⟩
          rw [HS.out, hr.out, if_pos rfl, Int.toNat_natCast]
          have : d.last i = d.safe i := done_off d.safe i d.late fun y hy => by
            obtain ⟨j, hj⟩ := List.getElem?_of_mem hy
            exact hno.out j y (Nat.zero_le _) hj
          rw [this]
          rfl
        · rw [show (((m + 1 : Nat) : Int) - 1) = (m : Int) by omega]
          obtain ⟨x, hx⟩ : ∃ x, d.late[m]? = some x := ⟨_, List.getElem?_eq_getElem (by omega)⟩
          obtain ⟨e0, e1⟩ := HLC.out m x hx
          have HX := Lib.hid hx
          clear hx
          by_cases hxi : x.1 = i
          · have hb : ((x.1 : Int) == (i : Int)) = true := by rw [hxi]; simp
            have hb2 : (x.1 == i) = true := by rw [hxi]; simp
            have HE := Lib.hid hxi
            clear hxi
            go_wp2
            go_returns
            refine ⟨?_, by go_grown⟩
            rw [HS.out, hr.out, if_pos rfl, Int.toNat_natCast]
            have : d.last i = x.2 := by
              rw [← HE.out]
              exact done_found HX.out fun j y hj hy => by rw [HE.out]; exact hno.out j y (by omega) hy
            rw [this]
            rfl
          · have hb : ((x.1 : Int) == (i : Int)) = false := by simp; omega
            have hb2 : (x.1 == i) = false := by simpa using hxi
            have HE := Lib.hid hxi
            clear hxi
            go_wp2
            go_round
            case rel =>
              refine ⟨m, by omega, rfl, fun j y hj hy => ?_⟩
              by_cases e : j = m
              · subst e
                rw [HX.out] at hy
                cases hy
                exact HE.out
              · exact hno.out j y (by omega) hy
            case measure => simp [intOf]
  · have hr := Lib.hid a
    rw [hd]
    have hbad : k < 0 ∨ (d.n : Int) ≤ k := by
      unfold reachE at a
      rw [hd, if_neg (by decide)] at a
      by_cases c : k < 0 ∨ (d.n : Int) ≤ k
      · exact c
      · rw [if_neg c] at a; cases a
    clear a hd
    rcases Int.lt_or_le k 0 with c | c
    · go_enter Try.func10, Try.ntmps10
      go_wp2
      go_returns
      refine ⟨?_, by go_grown⟩
      rw [HS.out, hr.out, if_neg (by decide)]
      rfl
    · have c2 : (d.n : Int) ≤ k := by omega
      go_enter Try.func10, Try.ntmps10
      go_wp2
      go_returns
      refine ⟨?_, by go_grown⟩
      rw [HS.out, hr.out, if_neg (by decide)]
      rfl
  · have hr := Lib.hid a
    rw [hd]
    clear a hd
    go_enter Try.func10, Try.ntmps10
    go_wp2
    go_returns
    refine ⟨?_, by go_grown⟩
    rw [HS.out, hr.out, if_neg (by decide)]
    rfl

/-- The reference's limit says what the disk's does. -/
def LimR (lim : Int) (dl : Int) : Prop := lim = dl ∨ (lim < 0 ∧ dl = -1)
theorem LimR.spend {lim : Int} {d : D} (h : LimR lim d.limit) (h0 : -1 ≤ d.limit) : (lim = 0 → spendE d = 11 ∧ d.spent = { d with dark := true }) ∧ (lim ≠ 0 → spendE d = 0 ∧ d.spent.dark = d.dark ∧ LimR (if 0 < lim then lim - 1 else lim) d.spent.limit) := by
  refine ⟨fun e => ?_, fun e => ?_⟩
  · have hz : d.limit = 0 := by rcases h with h | ⟨h, h2⟩ <;> omega
    unfold spendE D.spent
    rw [if_pos hz, if_pos hz]
    exact ⟨rfl, rfl⟩
  · have hz : ¬ d.limit = 0 := by rcases h with h | ⟨h, h2⟩ <;> omega
    unfold spendE D.spent
    rw [if_neg hz, if_neg hz]
    refine ⟨rfl, ?_, ?_⟩
    · split <;> rfl
    · by_cases c : 0 < d.limit
      · rw [if_pos c]
        rcases h with h | ⟨h, h2⟩
        · rw [if_pos (by omega)]; left; show lim - 1 = d.limit - 1; omega
        · omega
      · rw [if_neg c]
        rcases h with h | ⟨h, h2⟩
        · rw [if_neg (by omega)]; exact .inl h
        · rw [if_neg (by omega)]; exact .inr ⟨h, h2⟩
set_option maxHeartbeats 1000000 in
theorem rspent_any (w : World) (sa la : Option Addr) (sn sc ln lc : Nat) (lim : Int) (g : Bool) (h0 : -9223372036854775808 ≤ lim) (h1 : lim ≤ 9223372036854775807) :
    Calls Try.prog 24 #[.agg #[.slice sa sn sc, .slice la ln lc, .int .i64 lim, .bool g]] w fun e w' =>
      e = .returned (.tuple #[.agg #[.slice sa sn sc, .slice la ln lc, .int .i64 (if 0 < lim then lim - 1 else lim), .bool (if lim = 0 then true else g)], .int .i64 (if lim = 0 then 11 else 0)]) ∧ Below w.heap.size w w' := by
  by_cases z : lim = 0
  · have hb : (lim == 0) = true := by simpa using z
    have HZ := Lib.hid z
    rw [if_pos z, if_pos z, if_neg (by omega)]
    clear z
    go_enter Try.func24, Try.ntmps24
    go_wp2
    go_returns
    exact ⟨rfl, by go_grown⟩
  · have hb : (lim == 0) = false := by simpa using z
    rw [if_neg z, if_neg z]
    clear z
    by_cases c : 0 < lim
    · have hc : decide (0 < lim) = true := by simpa using c
      rw [if_pos c]
      go_enter Try.func24, Try.ntmps24
      go_wp2
      go_returns
      exact ⟨rfl, by go_grown⟩
    · have hc : decide (0 < lim) = false := by simpa using c
      rw [if_neg c]
      go_enter Try.func24, Try.ntmps24
      go_wp2
      go_returns
      exact ⟨rfl, by go_grown⟩
theorem half_pow {m : Int} (h : 0 ≤ m) (k : Nat) : m / 2 ^ k / 2 = m / 2 ^ (k + 1) := by
  obtain ⟨a, rfl⟩ := Int.eq_ofNat_of_zero_le h
  have e : ∀ j : Nat, ((2 : Int) ^ j) = ((2 ^ j : Nat) : Int) := fun j => by simp
  rw [e k, e (k + 1)]
  have h2 : a / 2 ^ k / 2 = a / 2 ^ (k + 1) := by rw [Nat.div_div_eq_div_mul, Nat.pow_succ]
  exact congrArg Int.ofNat h2
set_option maxHeartbeats 1000000 in
theorem rbit_any (w : World) (m : Int) (i : Nat) (m0 : 0 ≤ m) (m1 : m ≤ 18446744073709551615) (hi : i < 4294967296) :
    Calls Try.prog 26 #[.int .u64 m, .int .i64 (i : Int)] w fun e w' => e = .returned (.bool (bitB m i)) ∧ w = w' := by
  have hdef : bitB m i = (m / 2 ^ (i % 64) % 2 == 1) := rfl
  have HD := Lib.hid hdef
  clear hdef
  go_enter Try.func26, Try.ntmps26
  go_wp2
  go_loop [0, 5] (fun a z => ∃ (k : Nat) (q : Int), k ≤ i % 64 ∧ z = .int .i64 k ∧ a = .int .u64 q ∧ 0 ≤ q ∧ q ≤ 18446744073709551615 ∧ Hid (q = m / 2 ^ k)) (fun _ z => i % 64 - (intOf z).toNat)
  case atStart => exact ⟨0, m, Nat.zero_le _, rfl, rfl, m0, m1, show m = m / 2 ^ 0 by simp⟩
  case round =>
    obtain ⟨k, q, hk, rfl, rfl, q0, q1, hq⟩ := hrel
    by_cases hlt : k < i % 64
    · go_wp2
      go_round
      case rel => exact ⟨k + 1, q / 2, by omega, by go_num, by first | rfl | (simp; done), by omega, by omega, show q / 2 = m / 2 ^ (k + 1) by rw [hq.out, half_pow m0]⟩
      case measure => simp [intOf]; omega
    · have hk2 : k = i % 64 := by omega
      have HK := Lib.hid hk2
      clear hk2
      go_wp2
      go_returns
      refine ⟨?_, rfl⟩
      rw [HD.out, ← HK.out, ← hq.out]
      rfl
end Go.Proofs.Ytcefljfocagcoaa
