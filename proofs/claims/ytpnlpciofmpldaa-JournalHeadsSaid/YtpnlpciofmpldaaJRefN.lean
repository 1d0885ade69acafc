/- Contract of the reference: a block that has no head; both readers beside each other. -/
import Derived.Test.YtpnlpciofmpldaaJRefH
import Derived.Test.YtpnlpciofmpldaaJHeadN
namespace Go.Proofs.Ytpnlpciofmpldaa
open Go.ChangeShapes Go.WideShapes Go.ChangeAt Go.RowKit Go.PlainAid
open Go.Sort (grow)

set_option maxHeartbeats 2000000 in
theorem rrhead_no (b : ByteArray) (w : World) (h : ¬ headOk b) :
    Calls Try.prog 8 #[.string b] w fun e w' => e = .returned (.tuple #[zeroHead, .bool false]) ∧ Below w.heap.size w w' := by
  have gb := get_bt b
  have hq0 : RBox w (w.alloc (.cells #[.int .u64 0, .int .i64 0, .int .i64 0, .int .i64 0] 24)) := ⟨by go_grown, heap_alloc_new w (.cells #[.int .u64 0, .int .i64 0, .int .i64 0, .int .i64 0] 24)⟩
  by_cases h40 : 40 ≤ b.size
  · have HP : Hid (¬ pairs b 20) := fun c => h ((head_pairs b h40).2 c)
    have hb1 : decide ((b.size : Int) < 40) = false := decide_eq_false (by omega)
    clear h
    go_enter Try.func8, Try.ntmps8
    go_wp2_with fail
    generalize w.alloc (.cells #[.int .u64 0, .int .i64 0, .int .i64 0, .int .i64 0] 24) = W0 at *
    go_loopw [4] (fun i wr => ∃ k : Nat, k ≤ 20 ∧ i = .int .i64 k ∧ pairs b k ∧ RBox w wr) (fun i _ => 20 - (intOf i).toNat)
    case atStart => exact ⟨0, Nat.zero_le _, rfl, fun j hj => by omega, hq0⟩
    case round =>
      clear hq0
      obtain ⟨k, hk, rfl, hP, hB⟩ := hrel
      have HB := Lib.hid hB
      have HPK := Lib.hid hP
      clear hB hP
      by_cases hlt : k < 20
      · have h1 := bt_b b k
        have h2 := bt_b b (20 + k)
        have hi1 : (k : Int) < (b.size : Int) := by omega
        have hi2 : 20 + (k : Int) < (b.size : Int) := by omega
        have hi3 : (20 + (k : Int)).toNat = 20 + k := by omega
        by_cases hx : bt b k + bt b (20 + k) = 255
        · go_wp2
          go_quiet (fail)
          have HB2 : Hid (RBox w (wr.drewN nq)) := HB.out.drewN nq
          have HP2 : Hid (pairs b (k + 1)) := fun j hj => by
            by_cases c : j = k
            · rw [c]; exact hx
            · exact HPK.out j (by omega)
          clear HB HPK
          go_wp2
          go_roundw
          case rel => exact ⟨k + 1, by omega, by go_num, HP2.out, HB2.out⟩
          case measure => simp [intOf]; omega
        · have hx1 : ¬ (bt b k + bt b (20 + k)) % 256 = 255 := by omega
          have hx2 : IntKind.u8.wrap (bt b k + bt b (20 + k)) = (bt b k + bt b (20 + k)) % 256 := by simp [IntKind.wrap, IntKind.signed, IntKind.bits]
          go_wp2
          go_quiet (fail)
          have hB2 : RBox w (wr.drewN nq) := HB.out.drewN nq
          obtain ⟨z0, z1, z2, z3, z4, z5, z6, z7⟩ := cells4' hB2.2
          have HB2 := Lib.hid hB2
          clear HB hB2
          go_wp2_with fail
          obtain ⟨x0, x1, x2, x3⟩ := four_read HB2.out.2 (.int .u64 0) (.int .i64 0) (.int .i64 0) (.int .i64 0)
          refine bodyPost_ret (v := .tuple #[zeroHead, .bool false]) (by simp [results, Try.results8, go_sem, x0, x1, x2, x3, zeroHead]) rfl ?_
          exact ⟨rfl, ((((HB2.out.1.setCell (p := ⟨w.heap.size, 0, none⟩) (Nat.le_refl _) _).setCell (p := ⟨w.heap.size, 1, none⟩) (Nat.le_refl _) _).setCell (p := ⟨w.heap.size, 2, none⟩) (Nat.le_refl _) _).setCell (p := ⟨w.heap.size, 3, none⟩) (Nat.le_refl _) _)⟩
      · obtain rfl : k = 20 := by omega
        exact (HP.out HPK.out).elim
  · clear h
    have hb1 : decide ((b.size : Int) < 40) = true := decide_eq_true (by omega)
    go_enter Try.func8, Try.ntmps8
    obtain ⟨z0, z1, z2, z3, z4, z5, z6, z7⟩ := cells4' hq0.2
    go_wp2_with fail
    refine bodyPost_ret (v := .tuple #[zeroHead, .bool false]) (by simp [results, Try.results8, go_sem, z0, z1, z2, z3, zeroHead]) rfl ?_
    exact ⟨rfl, hq0.1⟩
/-- Both readers beside each other. -/
theorem heads_both (b : ByteArray) (hm : b.size ≤ maxLen) : ∃ (q0 q1 q2 q3 : Int) (ok : Bool), (∀ w, Calls Try.prog 7 #[.string b] w fun e w' => e = .returned (.tuple #[.agg #[.int .u64 q0, .int .i64 q1, .int .i64 q2, .int .i64 q3], .bool ok]) ∧ Below w.heap.size w w') ∧
    ∀ w, Calls Try.prog 8 #[.string b] w fun e w' => e = .returned (.tuple #[.agg #[.int .u64 q0, .int .i64 q1, .int .i64 q2, .int .i64 q3], .bool ok]) ∧ Below w.heap.size w w' := by
  by_cases h : headOk b
  · exact ⟨_, _, _, _, true, fun w => rhead_yes b w h hm, fun w => rrhead_yes b w h hm⟩
  · exact ⟨0, 0, 0, 0, false, fun w => rhead_no b w h hm, fun w => rrhead_no b w h⟩
end Go.Proofs.Ytpnlpciofmpldaa
