/- Contracts of package bitmap, and of its reference: Has. -/
import Derived.Test.YtkdcfacpapmgoaaMapA
import Derived.StillTactics
namespace Go.Proofs.Ytkdcfacpapmgoaa
set_option maxRecDepth 100000
open Go.ChangeShapes Go.WideShapes Go.ChangeAt Go.RowKit Go.PlainAid

theorem Same.turn {P : Program} {f : FuncId} {args : Array Value} {w : World} {v : Value} (h : Calls P f args w fun e w' => e = .returned v ∧ w = w') : Calls P f args w fun e w' => e = .returned v ∧ w' = w :=
  h.mono fun _ _ ⟨a, b⟩ => ⟨a, b.symm⟩
theorem room_is {s : ByteArray} {i : Int} {r : Bool} (hr : roomB s i = r) (w : World) (hs : s.size ≤ 140737488351232) (b : -9223372036854775808 ≤ i) (c : i ≤ 9223372036854775807) :
    Calls Try.prog 21 #[.string s, .int .i64 i] w fun e w' => e = .returned (.bool r) ∧ w' = w :=
  hr ▸ Same.turn (room_any s i w hs b c)
def Drawn (w w' : World) : Prop := ∃ n, w' = w.drewN n
set_option maxHeartbeats 400000 in
theorem has_any (s : ByteArray) (i : Int) (w : World) (hs : s.size ≤ 140737488351232) (b : -9223372036854775808 ≤ i) (c : i ≤ 9223372036854775807) :
    Calls Try.prog 10 #[.string s, .int .i64 i] w fun e w' => e = .returned (.bool (hasB s i)) ∧ Drawn w w' := by
  have gb := get_bt s
  rcases ways s i with h | ⟨h, h2⟩ | ⟨j, k, hj, hk, h, hq, hr⟩
  · have HR := Lib.hid (has_no (room_neg (s := s) h))
    have HC := Lib.hid fun w => room_is (room_neg (s := s) h) w hs b c
    go_enter Try.func10, Try.ntmps10
    go_wp2_with fail
    go_quiet (with_reducible exact Calls.quiet_of_same (HC.out _))
    go_wp2
    go_returns
    exact ⟨by rw [HR.out]; rfl, nq, rfl⟩
  · have HR := Lib.hid (has_no (room_far (s := s) h2))
    have HC := Lib.hid fun w => room_is (room_far (s := s) h2) w hs b c
    go_enter Try.func10, Try.ntmps10
    go_wp2_with fail
    go_quiet (with_reducible exact Calls.quiet_of_same (HC.out _))
    go_wp2
    go_returns
    exact ⟨by rw [HR.out]; rfl, nq, rfl⟩
  · have HR := Lib.hid (has_in (s := s) hj hq hr)
    have HB := Lib.hid fun w => Same.turn (bit_any i k w hk h c hr)
    have HC := Lib.hid fun w => room_is (room_in (s := s) h (show i / 8 < s.size by omega)) w hs b c
    have hc := And.intro (bt_nonneg s j) (bt_le s j)
    have ha : bits .and .u8 (bt s j) (p2 k) = if bitB (bt s j) k then p2 k else 0 := by
      obtain ⟨z, hz⟩ := byte_fin hc.1 hc.2
      rw [hz]
      exact and_all z ⟨k, hk⟩
    have hp := p2_b ⟨k, hk⟩
    simp only at hp
    have HE : Hid ((bitB (bt s j) k) = !(bits .and .u8 (bt s j) (p2 k) == 0)) := by
      refine Lib.hid ?_
      rw [ha]
      cases bitB (bt s j) k
      · rfl
      · simp; omega
    clear ha
    go_enter Try.func10, Try.ntmps10
    go_wp2_with fail
    go_quiet (first | with_reducible exact Calls.quiet_of_same (HC.out _) | with_reducible exact Calls.quiet_of_same (HB.out _))
    go_wp2
    go_returns
    exact ⟨by rw [HR.out, HE.out]; rfl, nq, rfl⟩
set_option maxHeartbeats 400000 in
theorem rhas_any (s : ByteArray) (i : Int) (w : World) (_hs : s.size ≤ 140737488351232) (b : -9223372036854775808 ≤ i) (c : i ≤ 9223372036854775807) :
    Calls Try.prog 11 #[.string s, .int .i64 i] w fun e w' => e = .returned (.bool (hasB s i)) ∧ w = w' := by
  have gb := get_bt s
  rcases ways s i with h | ⟨h, h2⟩ | ⟨j, k, hj, hk, h, hq, hr⟩
  · have HR := Lib.hid (has_no (room_neg (s := s) h))
    go_enter Try.func11, Try.ntmps11
    go_wp2
    go_returns
    exact ⟨by rw [HR.out]; rfl, rfl⟩
  · have HR := Lib.hid (has_no (room_far (s := s) h2))
    go_enter Try.func11, Try.ntmps11
    go_wp2
    go_returns
    exact ⟨by rw [HR.out]; rfl, rfl⟩
  · have HR := Lib.hid (has_in (s := s) hj hq hr)
    have hc := And.intro (bt_nonneg s j) (bt_le s j)
    go_enter Try.func11, Try.ntmps11
    go_wp2_with fail
    refine (rbit_any (bt s j) k _ hk (by omega) (by omega)).mono ?_
    rintro e _ ⟨rfl, rfl⟩
    go_wp2
    go_returns
    exact ⟨by rw [HR.out]; rfl, rfl⟩
end Go.Proofs.Ytkdcfacpapmgoaa
