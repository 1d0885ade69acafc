import Derived.Test.YtcjfnfdinhbdlaaGreatDoorGav
import Derived.RangeFuncNested
import Derived.RangeFuncBound
import Derived.RangeFuncCalls
import Derived.RangeFuncLeaves
import Derived.Shelf.Abstract
import Derived.Shelf.RegionOpen
import Derived.OwnWalkIn
import Derived.TacticsInMore
import Derived.LoopNIn
import Derived.LoopIn
namespace Go.Proofs.YtcjfnfdinhbdlaaGreatDoor
set_option maxRecDepth 100000
open Go.ChangeShapes Go.WideShapes Go.ChangeAt Go.RowKit Go.PlainAid Go.Shelf
attribute [local go_sem] Oper.semAt_some
def KpE (b : Nat) (W W' : World) : Prop := W'.heap[b]? = W.heap[b]?
def encI (x : Int) : Array Value := #[.int .i64 x]
set_option maxHeartbeats 2000000 in
theorem ieach_in (l bs : Nat) (s : ByteArray) (hs : s.size ≤ 1000) (J Jx : List Int → World → Prop)
    (hY : ∀ pre x W, J pre W → pre.length < (nums s s.size).length → YieldAt Fence.wide 7 Tryz.prog l (encI x) W fun e W' =>
      (e = .returned (.bool true) ∧ J (pre ++ [x]) W' ∧ KpE bs W W') ∨ (e = .returned (.bool false) ∧ Jx (pre ++ [x]) W'))
    (W : World) (hS : Boxed W bs 9 (.string s)) (h0 : J [] W) :
    CallsIn Fence.wide 8 Tryz.prog 102 #[.func (.yield l) #[] #[], .pointer (some ⟨bs, 0, none⟩)] W fun e W' => (∃ v, e = .returned v) ∧
      ((∃ ys, ys = nums s s.size ∧ J ys W') ∨ (∃ pre : List Int, True ∧ Jx pre W')) := by
  refine callsIn_of_wp Tryz.func102 rfl trivial ?_ rfl
  simp only [Tryz.ntmps102, List.size_toArray, List.length_cons, List.length_nil, Nat.reduceAdd, Nat.reduceSub, Array.replicate_succ, Array.replicate_zero, List.push_toArray, List.append_toArray, List.nil_append, List.cons_append]
  have gb := get_bt s
  have hc0 := hS.cell
  have hnil := eq_yield
  have HY := Lib.hid hY
  have H0 := Lib.hid h0
  have HS0 := Lib.hid hS
  clear hY h0 hS
  gi_wp2
  gi_loopw [9] (fun i wr => ∃ k : Nat, k ≤ s.size ∧ i = .int .i64 k ∧ J (nums s k) wr ∧ Boxed wr bs 9 (.string s)) (fun i _ => s.size - (intOf i).toNat)
  case atStart => exact ⟨0, Nat.zero_le _, rfl, H0.out, HS0.out⟩
  case round =>
    obtain ⟨k, hk, rfl, hE, hB⟩ := hrel
    have hcs := hB.cell
    have HE := Lib.hid hE
    have HB := Lib.hid hB
    clear hE hB hc0 H0 HS0
    by_cases hlt : k < s.size
    · have hc := And.intro (bt_nonneg s k) (bt_le s k)
      have HN := Lib.hid (show nums s (k + 1) = nums s k ++ (byteL (bt s k)).map fun b : Nat => (k : Int) * 8 + (b : Int) from rfl)
      have HP := Lib.hid (nums_part (s := s) (show k + 1 ≤ s.size by omega))
      gi_wp2
      gi_loopw [4] (fun x wy => ∃ (c : Int) (ys : List Int), 0 ≤ c ∧ c ≤ 255 ∧ x = .int .u8 c ∧ J (nums s k ++ ys) wy ∧ Boxed wy bs 9 (.string s) ∧
        ys ++ (byteL c).map (fun b : Nat => (k : Int) * 8 + (b : Int)) = (byteL (bt s k)).map (fun b : Nat => (k : Int) * 8 + (b : Int))) (fun x _ => (intOf x).toNat)
      case atStart => exact ⟨bt s k, [], hc.1, hc.2, rfl, by rw [List.append_nil]; exact HE.out, HB.out, rfl⟩
      case round =>
        clear HE HB hcs hc
        obtain ⟨c, ys, c0, c1, rfl, hE, hB, hys⟩ := hrel
        have HE := Lib.hid hE
        have HB := Lib.hid hB
        have HYS := Lib.hid hys
        clear hE hB hys
        by_cases hz : c = 0
        · subst hz
          gi_wp2
          go_roundw
          case rel =>
            have e : ys = (byteL (bt s k)).map (fun b : Nat => (k : Int) * 8 + (b : Int)) := by
              have := HYS.out
              rw [byteL_zero, List.map_nil, List.append_nil] at this
              exact this
            refine ⟨k + 1, by omega, by go_num, ?_, HB.out⟩
            rw [HN.out, ← e]; exact HE.out
          case measure => simp [intOf]; omega
        · have hz2 : (c == 0) = false := beq_eq_false_iff_ne.2 hz
          have hst : byteL c = Lib.trailingZeros8 c.toNat :: byteL (bits .and .u8 c (c - 1)) ∧ 0 ≤ bits .and .u8 c (c - 1) ∧ bits .and .u8 c (c - 1) < c := by
            obtain ⟨z, hzz⟩ := byte_fin c0 c1
            subst hzz
            exact byteL_step z (by omega)
          have ht : Lib.trailingZeros8 c.toNat ≤ 8 := by
            obtain ⟨z, hzz⟩ := byte_fin c0 c1
            subst hzz
            exact Lib.trailingZeros8_le8 z
          have HT := Lib.hid fun w => Calls.mono (sh_bits_TrailingZeros8 c w c0 c1) fun _ _ ⟨p, q⟩ => And.intro p q.symm
          have HST := Lib.hid hst.1
          have h4 := hst.2.1
          have h5 := hst.2.2
          clear hst hz
          generalize Lib.trailingZeros8 c.toNat = t at *
          have hE2 : nums s k ++ (ys ++ [(k : Int) * 8 + (t : Int)]) = (nums s k ++ ys) ++ [(k : Int) * 8 + (t : Int)] := (List.append_assoc _ _ _).symm
          have HE2 := Lib.hid hE2
          have HYS2 : Hid ((ys ++ [(k : Int) * 8 + (t : Int)]) ++ (byteL (bits .and .u8 c (c - 1))).map (fun b : Nat => (k : Int) * 8 + (b : Int)) = (byteL (bt s k)).map (fun b : Nat => (k : Int) * 8 + (b : Int))) := by
            refine Lib.hid ?_
            have := HYS.out
            rw [HST.out, List.map_cons] at this
            rw [List.append_assoc]
            exact this
          have hlen : (nums s k ++ ys).length < (nums s s.size).length := by
            have p1 : nums s k ++ (ys ++ [(k : Int) * 8 + (t : Int)]) <+: nums s (k + 1) := by
              rw [HN.out, ← HYS2.out]
              exact ⟨(byteL (bits .and .u8 c (c - 1))).map (fun b : Nat => (k : Int) * 8 + (b : Int)), by simp only [List.append_assoc]⟩
            have p2 := (p1.trans HP.out).length_le
            rw [hE2, List.length_append, List.length_singleton] at p2
            omega
          obtain ⟨fn, tmps, assign, body, hy, hR⟩ := HY.out (nums s k ++ ys) ((k : Int) * 8 + (t : Int)) _ HE.out hlen
          unfold encI at hy
          have HR := Lib.hid hR
          clear hE2 hlen hR
          gi_wp2_with fail
          refine ⟨trivial, (callsIn_wide.2 (HT.out _)).mono ?_⟩
          rintro e _ ⟨rfl, rfl⟩
          gi_wp2
          refine HR.out.mono ?_
          rintro e W3 (⟨rfl, hJ3, hk3⟩ | ⟨rfl, hJx3⟩)
          · have HJ3 := Lib.hid hJ3
            have HB3 : Hid (Boxed W3 bs 9 (.string s)) := Lib.hid (Eq.trans hk3 HB.out)
            clear hk3 hJ3
            gi_wp2
            go_roundw
            case rel => exact ⟨_, ys ++ [(k : Int) * 8 + (t : Int)], h4, by omega, rfl, by rw [HE2.out]; exact HJ3.out, HB3.out, HYS2.out⟩
            case measure => simp [intOf]; omega
          · have HJ3 := Lib.hid hJx3
            clear hJx3
            gi_wp2
            refine bodyPost_ret (results_none rfl _ _ _) rfl ?_
            exact ⟨⟨_, rfl⟩, .inr ⟨_, trivial, HJ3.out⟩⟩
    · obtain rfl : k = s.size := by omega
      gi_wp2
      go_end0
      exact ⟨⟨_, rfl⟩, .inl ⟨_, rfl, HE.out⟩⟩
theorem ieach_stops (bs : Nat) (s : ByteArray) (hs : s.size ≤ 1000) (w : World) (hS : Boxed w bs 9 (.string s)) :
    SeqStopsK Fence.wide 8 Tryz.prog 102 #[.pointer (some ⟨bs, 0, none⟩)] encI (KpE bs) (fun ys => ys = nums s s.size) (fun _ => True) (nums s s.size).length w := fun l J Jx W hW _ _ hY h0 =>
  ieach_in l bs s hs J Jx hY W ((hW.block bs hS.lt).trans hS) h0
end Go.Proofs.YtcjfnfdinhbdlaaGreatDoor
