/- Contracts: Each and its closure, the law's closure, each; the reference's All; ints. -/
import Derived.Test.YtkdcfacpapmgoaaMapG
import Derived.Laws.EntriesVeiled
namespace Go.Proofs.Ytkdcfacpapmgoaa
set_option maxRecDepth 100000
open Go.ChangeShapes Go.WideShapes Go.ChangeAt Go.RowKit Go.PlainAid
attribute [local go_sem ↓ high] app_int

theorem eq_yield (fn : Fn) (a b : Array Value) (w : World) : (binOp .eql 46 (.func fn a b) .nilFunc).run Try.prog w = .ok (.bool false) w := by kernel_rfl
theorem eq_seq (fn : Fn) (a b : Array Value) (w : World) : (binOp .eql 44 (.func fn a b) .nilFunc).run Try.prog w = .ok (.bool false) w := by kernel_rfl
theorem make_func (fn : Fn) (a b : Array Value) (w : World) : (Instr.makeFunc fn a b).run Try.prog w = .ok (.func fn a b) w := rfl
set_option maxHeartbeats 1000000 in
theorem each1_any (n₀ bl bm bs : Nat) (m x : Int) (s : ByteArray) (L : List Int) (w : World) (h : EachAt n₀ bl bm bs m s L w) (hn : n₀ ≤ w.heap.size) (hbl : n₀ ≤ bl) (hbm : bm < n₀) (hlen : L.length ≤ 1048576) (r : Bool) (hr : decide ((L.length : Int) + 1 < m) = r) :
    Calls Try.prog 28 #[.int .i64 x, .pointer (some ⟨bl, 0, none⟩), .pointer (some ⟨bm, 0, none⟩)] w fun e w' => e = .returned (.bool r) ∧ EachAt n₀ bl bm bs m s (L ++ [x]) w' ∧ Below n₀ w w' := by
  obtain ⟨⟨v, hv, hrow⟩, hm, hs⟩ := h
  obtain ⟨k, hk⟩ : ∃ k, L.length = k := ⟨_, rfl⟩
  obtain ⟨g, cap, w2, p1, p2, p3, p4, p5, p6⟩ := each_push hv hrow hm hs hn hbl hbm hlen x k hk
  rw [hk] at hr hlen
  have P5 := Lib.hid p5
  have P6 := Lib.hid p6
  have hc := hv.cell
  have hlt := hv.lt
  clear p5 p6 hk hs hm hrow hv
  go_enter Try.func28, Try.ntmps28
  go_wp2
  go_returns
  exact ⟨rfl, P5.out, P6.out⟩
set_option maxHeartbeats 2000000 in
theorem eachf_any (n₀ bl bm bs : Nat) (m : Int) (s : ByteArray) (w : World) (h : EachAt n₀ bl bm bs m s [] w) (hn : n₀ ≤ w.heap.size) (hbl : n₀ ≤ bl) (hbm : bm < n₀) (hs : s.size ≤ 1000) (hm : 1 ≤ m) :
    Calls Try.prog 36 #[.func (.func 28) #[] #[.pointer (some ⟨bl, 0, none⟩), .pointer (some ⟨bm, 0, none⟩)], .pointer (some ⟨bs, 0, none⟩)] w fun e w' => e = .returned (.tuple #[]) ∧ EachAt n₀ bl bm bs m s ((nums s s.size).take m.toNat) w' ∧ Below n₀ w w' := by
  have gb := get_bt s
  have hc0 := h.set.cell
  have hnil := eq_yield
  have H0 := Lib.hid h
  clear h
  go_enter Try.func36, Try.ntmps36
  go_wp2
  go_loopw [9] (fun i wr => ∃ k : Nat, k ≤ s.size ∧ i = .int .i64 k ∧ EachAt n₀ bl bm bs m s (nums s k) wr ∧ Below n₀ w wr ∧ ((nums s k).length : Int) < m) (fun i _ => s.size - (intOf i).toNat)
  case atStart => exact ⟨0, Nat.zero_le _, rfl, H0.out, Below.refl _ _, by show (0 : Int) < m; omega⟩
  case round =>
    obtain ⟨k, hk, rfl, hE, hB, hl⟩ := hrel
    have hcs := hE.set.cell
    have HE := Lib.hid hE
    have HB := Lib.hid hB
    clear hE hB hc0
    by_cases hlt : k < s.size
    · have hc := And.intro (bt_nonneg s k) (bt_le s k)
      have HN := Lib.hid (show nums s (k + 1) = nums s k ++ (byteL (bt s k)).map fun b : Nat => (k : Int) * 8 + (b : Int) from rfl)
      have HP := Lib.hid (nums_part (s := s) (show k + 1 ≤ s.size by omega))
      have HL := Lib.hid (show (nums s k).length ≤ 8 * k by rw [nums_len]; exact cnt_le s k)
      have HO := Lib.hid (show (byteL (bt s k)).length ≤ 8 from List.length_filter_le _ _)
      have HL0 := Lib.hid hl
      clear hl
      go_wp2
      go_loopw [4] (fun x wy => ∃ (c : Int) (ys : List Int), 0 ≤ c ∧ c ≤ 255 ∧ x = .int .u8 c ∧ EachAt n₀ bl bm bs m s (nums s k ++ ys) wy ∧ Below n₀ w wy ∧ ((nums s k ++ ys).length : Int) < m ∧
        ys ++ (byteL c).map (fun b : Nat => (k : Int) * 8 + (b : Int)) = (byteL (bt s k)).map (fun b : Nat => (k : Int) * 8 + (b : Int))) (fun x _ => (intOf x).toNat)
      case atStart => exact ⟨bt s k, [], hc.1, hc.2, rfl, by rw [List.append_nil]; exact HE.out, HB.out, by rw [List.append_nil]; exact HL0.out, rfl⟩
      case round =>
        clear HE HB hcs hc HL0
        obtain ⟨c, ys, c0, c1, rfl, hE, hB, hl, hys⟩ := hrel
        have HE := Lib.hid hE
        have HB := Lib.hid hB
        have HL1 := Lib.hid hl
        have HYS := Lib.hid hys
        have hyl : ys.length ≤ 8 := by
          have := congrArg List.length hys
          rw [List.length_append, List.length_map, List.length_map] at this
          have := HO.out
          omega
        have hll : (nums s k ++ ys).length ≤ 1048576 := by
          rw [List.length_append]
          have := HL.out
          omega
        clear hE hB hl hys
        by_cases hz : c = 0
        · subst hz
          go_wp2
          go_roundw
          case rel =>
            have e : ys = (byteL (bt s k)).map (fun b : Nat => (k : Int) * 8 + (b : Int)) := by
              have := HYS.out
              rw [byteL_zero, List.map_nil, List.append_nil] at this
              exact this
            refine ⟨k + 1, by omega, by go_num, ?_, HB.out, ?_⟩
            · rw [HN.out, ← e]; exact HE.out
            · rw [HN.out, ← e]; exact HL1.out
          case measure => simp [intOf]; omega
        · have hz2 : (c == 0) = false := beq_eq_false_iff_ne.2 hz
          have hst : byteL c = Lib.trailingZeros8 c.toNat :: byteL (bits .and .u8 c (c - 1)) ∧ 0 ≤ bits .and .u8 c (c - 1) ∧ bits .and .u8 c (c - 1) < c := by
            obtain ⟨z, hzz⟩ := byte_fin c0 c1
            subst hzz
            exact byteL_step z (by omega)
          have ht : Lib.trailingZeros8 c.toNat ≤ 8 := by
            obtain ⟨z, hzz⟩ := byte_fin c0 c1
            subst hzz
            exact Lib.trailingZeros8_le8 z
          have HT := Lib.hid fun w => Calls.mono (sh_bits_TrailingZeros8 c w c0 c1) fun _ _ ⟨p, q⟩ => And.intro p q.symm
          have HST := Lib.hid hst.1
          have h4 := hst.2.1
          have h5 := hst.2.2
          have HLL := Lib.hid hll
          have HYL := Lib.hid hyl
          clear hst hz hll hyl
          generalize Lib.trailingZeros8 c.toNat = t at *
          have hE2 : nums s k ++ (ys ++ [(k : Int) * 8 + (t : Int)]) = (nums s k ++ ys) ++ [(k : Int) * 8 + (t : Int)] := (List.append_assoc _ _ _).symm
          have HE2 := Lib.hid hE2
          have HYS2 : Hid ((ys ++ [(k : Int) * 8 + (t : Int)]) ++ (byteL (bits .and .u8 c (c - 1))).map (fun b : Nat => (k : Int) * 8 + (b : Int)) = (byteL (bt s k)).map (fun b : Nat => (k : Int) * 8 + (b : Int))) := by
            refine Lib.hid ?_
            have := HYS.out
            rw [HST.out, List.map_cons] at this
            rw [List.append_assoc]
            exact this
          clear hE2
          by_cases hgo : ((nums s k ++ ys).length : Int) + 1 < m
          · have HY := Lib.hid fun W hE hn => each1_any n₀ bl bm bs m ((k : Int) * 8 + (t : Int)) s (nums s k ++ ys) W hE hn hbl hbm HLL.out true (decide_eq_true hgo)
            have HGO := Lib.hid hgo
            clear hgo
            go_wp2_with fail
            refine (HT.out _).mono ?_
            rintro e _ ⟨rfl, rfl⟩
            go_wp2_with fail
            refine (HY.out _ HE.out (Nat.le_trans hn HB.out.size)).mono ?_
            rintro e w3 ⟨rfl, hE3, hB3⟩
            have HE3 := Lib.hid hE3
            have HB3 := Lib.hid (HB.out.trans hB3)
            clear hE3 hB3
            go_wp2
            go_roundw
            case rel => exact ⟨_, ys ++ [(k : Int) * 8 + (t : Int)], h4, by omega, rfl, by rw [HE2.out]; exact HE3.out, HB3.out, by rw [HE2.out, List.length_append]; have := HGO.out; simp only [List.length_singleton]; omega, HYS2.out⟩
            case measure => simp [intOf]; omega
          · have HY := Lib.hid fun W hE hn => each1_any n₀ bl bm bs m ((k : Int) * 8 + (t : Int)) s (nums s k ++ ys) W hE hn hbl hbm HLL.out false (decide_eq_false hgo)
            have HTK : Hid ((nums s s.size).take m.toNat = nums s k ++ (ys ++ [(k : Int) * 8 + (t : Int)])) := by
              refine Lib.hid ?_
              have p1 : nums s k ++ (ys ++ [(k : Int) * 8 + (t : Int)]) <+: nums s (k + 1) := by
                rw [HN.out, ← HYS2.out]
                exact ⟨(byteL (bits .and .u8 c (c - 1))).map (fun b : Nat => (k : Int) * 8 + (b : Int)), by simp only [List.append_assoc]⟩
              obtain ⟨r, hr⟩ := p1.trans HP.out
              rw [← hr]
              have hln : (nums s k ++ (ys ++ [(k : Int) * 8 + (t : Int)])).length = m.toNat := by
                rw [HE2.out, List.length_append, List.length_singleton]
                have := HL1.out
                omega
              rw [← hln]
              exact List.take_left
            clear hgo
            go_wp2_with fail
            refine (HT.out _).mono ?_
            rintro e _ ⟨rfl, rfl⟩
            go_wp2_with fail
            refine (HY.out _ HE.out (Nat.le_trans hn HB.out.size)).mono ?_
            rintro e w3 ⟨rfl, hE3, hB3⟩
            have HE3 := Lib.hid hE3
            have HB3 := Lib.hid (HB.out.trans hB3)
            clear hE3 hB3
            go_wp2
            go_returns
            exact ⟨rfl, by rw [HTK.out, HE2.out]; exact HE3.out, HB3.out⟩
    · obtain rfl : k = s.size := by omega
      go_wp2
      go_end0
      exact ⟨rfl, by rw [List.take_of_length_le (by omega)]; exact HE.out, HB.out⟩
end Go.Proofs.Ytkdcfacpapmgoaa
