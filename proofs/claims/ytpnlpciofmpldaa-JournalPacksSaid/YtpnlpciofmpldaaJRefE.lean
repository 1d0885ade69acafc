/- Contract of the reference's Pack, where it does not pack. -/
import Derived.Test.YtpnlpciofmpldaaJRefP
namespace Go.Proofs.Ytpnlpciofmpldaa
open Go.ChangeShapes Go.WideShapes Go.ChangeAt Go.RowKit Go.PlainAid

set_option maxRecDepth 100000 in
set_option maxHeartbeats 4000000 in
theorem rpack_bad (w : World) (v : Value) (l : List PageV) (hl : PagesIn w v l) (hlen : l.length ≤ 1024) (j : Nat) (z : PageV) (hz : l[j]? = some z) (hze : z.err ≠ 0) (hfirst : ∀ i x, i < j → l[i]? = some x → x.err = 0) :
    Calls Try.prog 14 #[v] w fun e w' => e = .returned (.tuple #[.slice none 0 0, .int .i64 z.err]) ∧ Below w.heap.size w w' := by
  have hv : ∃ ao cap, v = .slice ao l.length cap := by
    rcases hl with ⟨rfl, ao, cap, rfl⟩ | ⟨b, o, cap, rfl, _⟩
    · exact ⟨_, _, rfl⟩
    · exact ⟨_, _, rfl⟩
  obtain ⟨ao, cap, rfl⟩ := hv
  have H0 := Lib.hid hl
  clear hl
  have hjl : j < l.length := (List.getElem?_eq_some_iff.1 hz).1
  have HZ := Lib.hid hz
  have HZE := Lib.hid hze
  clear hz hze
  have hbig : decide ((1024 : Int) < (l.length : Int)) = false := decide_eq_false (by omega)
  have hu0 : IntKind.wrap .u64 (l.length : Int) = uZ (l.length : Int) := by rw [IntKind.wrap_u64]; rfl
  go_enter Try.func14, Try.ntmps14
  go_wp2_with fail
  refine (rfixed_any (uZ (l.length : Int)) 4 _ (uZ_b _).1 (uZ_b _).2 (by decide) (by decide)).mono ?_
  rintro e w1 ⟨rfl, hb1⟩
  have HB1 := Lib.hid hb1
  clear hb1
  go_wp2_with fail
  go_loopw [4, 5] (fun s i wr => ∃ k : Nat, k ≤ j ∧ i = .int .i64 k ∧ s = .string (headT (l.length : Int) (l.take k)) ∧ Below w.heap.size w wr) (fun _ i _ => l.length - (intOf i).toNat)
  case atStart => exact ⟨0, Nat.zero_le _, rfl, rfl, HB1.out⟩
  case round =>
    clear HB1
    obtain ⟨k, hk, rfl, rfl, hB⟩ := hrel
    have HB := Lib.hid hB
    clear hB
    by_cases hlt0 : k < j
    · have hlt : k < l.length := by omega
      obtain ⟨x, hx⟩ : ∃ x, l[k]? = some x := ⟨_, List.getElem?_eq_getElem hlt⟩
      rcases H0.out with ⟨rfl, _⟩ | ⟨b, o, cap', hvv, hbl, _, _, hr⟩
      · simp at hlt
      · cases hvv
        obtain ⟨hxw, hxr⟩ := hr k x hx
        have hxr2 := rangeAt_keep hxr (HB.out.block b hbl)
        obtain ⟨p0, p1, p2⟩ := err_zero (hfirst k x hlt0 hx)
        have e0 := hxr2 0 _ rfl
        have e1 := hxr2 1 _ rfl
        rw [Nat.add_zero] at e0
        have hx2 : l.take (k + 1) = l.take k ++ [x] := by rw [List.take_add_one, hx]; rfl
        have HT := Lib.hid hx2
        have d1 : decide (x.at_ < 0) = false := decide_eq_false (by omega)
        have d2 : decide (2048 ≤ x.at_) = false := decide_eq_false (by omega)
        have d3 : decide ((256 : Int) < (x.data.size : Int)) = false := decide_eq_false (by omega)
        have hu : IntKind.wrap .u64 x.at_ = uZ x.at_ := by rw [IntKind.wrap_u64]; rfl
        have hz := headT_size (l.length : Int) k l (by omega)
        have hcat := fun w => run_string_add_sum (P := Try.prog) w (headT (l.length : Int) (l.take k)) (fixS (uZ x.at_) 4) (by rw [hz, fixS4_size]; omega)
        clear hr hxr hxr2 hx hxw hx2 p0 p1 p2 hz
        go_wp2_with fail
        refine (rfixed_any (uZ x.at_) 4 _ (uZ_b _).1 (uZ_b _).2 (by decide) (by decide)).mono ?_
        rintro e w4 ⟨rfl, hb4⟩
        have HB4 := Lib.hid (HB.out.on hb4)
        clear hb4
        go_wp2
        go_roundw
        case rel => exact ⟨k + 1, by omega, by go_num, by rw [HT.out, headT_snoc], HB4.out⟩
        case measure => simp [intOf]; omega
    · obtain rfl : k = j := by omega
      rcases H0.out with ⟨rfl, _⟩ | ⟨b, o, cap', hvv, hbl, _, _, hr⟩
      · simp at hjl
      · cases hvv
        obtain ⟨hxw, hxr⟩ := hr k z HZ.out
        have hxr2 := rangeAt_keep hxr (HB.out.block b hbl)
        have e0 := hxr2 0 _ rfl
        have e1 := hxr2 1 _ rfl
        rw [Nat.add_zero] at e0
        have hX : z.err = if z.at_ < 0 ∨ 2048 ≤ z.at_ then 10 else if 256 < z.data.size then 21 else 0 := rfl
        clear hr hxr hxr2 hxw
        by_cases h1 : z.at_ < 0
        · have d1 : decide (z.at_ < 0) = true := decide_eq_true h1
          have HE : Hid (z.err = 10) := by show _ = _; rw [hX, if_pos (.inl h1)]
          clear hX
          go_wp2
          go_returns
          exact ⟨by rw [HE.out]; rfl, HB.out⟩
        · have d1 : decide (z.at_ < 0) = false := decide_eq_false h1
          by_cases h2 : 2048 ≤ z.at_
          · have d2 : decide (2048 ≤ z.at_) = true := decide_eq_true h2
            have HE : Hid (z.err = 10) := by show _ = _; rw [hX, if_pos (.inr h2)]
            clear hX
            go_wp2
            go_returns
            exact ⟨by rw [HE.out]; rfl, HB.out⟩
          · have d2 : decide (2048 ≤ z.at_) = false := decide_eq_false h2
            by_cases h3 : 256 < z.data.size
            · have d3 : decide ((256 : Int) < (z.data.size : Int)) = true := decide_eq_true (by omega)
              have HE : Hid (z.err = 21) := by show _ = _; rw [hX, if_neg (by omega), if_pos h3]
              clear hX
              go_wp2
              go_returns
              exact ⟨by rw [HE.out]; rfl, HB.out⟩
            · exact (HZE.out (by rw [hX, if_neg (by omega), if_neg h3])).elim
set_option maxHeartbeats 1000000 in
theorem rpack_big (w : World) (ao : Option Addr) (n cap : Nat) (hn : 1024 < n) :
    Calls Try.prog 14 #[.slice ao n cap] w fun e w' => e = .returned (.tuple #[.slice none 0 0, .int .i64 2]) ∧ Below w.heap.size w w' := by
  have hbig : decide ((1024 : Int) < (n : Int)) = true := decide_eq_true (by omega)
  go_enter Try.func14, Try.ntmps14
  go_wp2_with fail
  go_returns
  exact ⟨rfl, Below.refl _ _⟩
end Go.Proofs.Ytpnlpciofmpldaa
