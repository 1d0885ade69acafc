/- Contracts: each, the reference's All, ints. -/
import Derived.Test.YtkdcfacpapmgoaaMapH
namespace Go.Proofs.Ytkdcfacpapmgoaa
set_option maxRecDepth 100000
open Go.ChangeShapes Go.WideShapes Go.ChangeAt Go.RowKit Go.PlainAid
attribute [local go_sem ↓ high] app_int

/-- A call gives a slice of its own with these numbers. -/
def Gives (L : List Int) (w : World) (e : Ending) (w' : World) : Prop := ∃ v, e = .returned v ∧ IntsIn w.heap.size w' v L ∧ Below w.heap.size w w'
theorem mk_each (s : ByteArray) (w : World) :
    Calls Try.prog 27 #[.string s] w fun e w' => e = .returned (.func (.func 36) #[] #[.pointer (some ⟨w.heap.size, 0, none⟩)]) ∧ w.alloc (.cells #[.string s] 9) = w' := by
  have hmf := make_func
  go_enter Try.func27, Try.ntmps27
  go_wp2
  go_returns
  exact ⟨rfl, rfl⟩
set_option maxHeartbeats 1000000 in
theorem each_any (s : ByteArray) (m : Int) (w : World) (hs : s.size ≤ 1000) :
    Calls Try.prog 20 #[.string s, .int .i64 m] w (Gives ((nums s s.size).take m.toNat) w) := by
  have hmf := make_func
  have hnil := eq_seq
  by_cases hm : 1 ≤ m
  · have hm2 : ¬ m ≤ 0 := by omega
    have HM := Lib.hid hm
    clear hm
    go_enter Try.func20, Try.ntmps20
    go_wp2_with fail
    refine (mk_each s _).mono ?_
    rintro e _ ⟨rfl, rfl⟩
    have hE : EachAt (w.heap.size + 1) (w.heap.size + 1) w.heap.size (w.heap.size + 1 + 1) m s [] (((w.alloc (.cells #[.int .i64 m] 3)).alloc (.cells #[.slice none 0 0] 33)).alloc (.cells #[.string s] 9)) := by
      have q0 := heap_alloc_new w (.cells #[.int .i64 m] 3)
      have q1 := heap_alloc_new (w.alloc (.cells #[.int .i64 m] 3)) (.cells #[.slice none 0 0] 33)
      have q2 := heap_alloc_new ((w.alloc (.cells #[.int .i64 m] 3)).alloc (.cells #[.slice none 0 0] 33)) (.cells #[.string s] 9)
      have z1 : (w.alloc (.cells #[.int .i64 m] 3)).heap.size = w.heap.size + 1 := by simp
      have z2 : ((w.alloc (.cells #[.int .i64 m] 3)).alloc (.cells #[.slice none 0 0] 33)).heap.size = w.heap.size + 1 + 1 := by simp
      rw [z1] at q1
      rw [z2] at q2
      refine ⟨⟨.slice none 0 0, (Below.heap_alloc _ _ _ (heap_in q1)).trans q1, rfl, .inl ⟨rfl, rfl⟩⟩, ?_, q2⟩
      exact (Below.heap_alloc _ _ _ (by rw [z2]; omega)).trans ((Below.heap_alloc _ _ _ (by rw [z1]; omega)).trans q0)
    have HB0 : Hid (Below w.heap.size w (((w.alloc (.cells #[.int .i64 m] 3)).alloc (.cells #[.slice none 0 0] 33)).alloc (.cells #[.string s] 9))) := Lib.hid (by go_grown)
    have HE := Lib.hid hE
    have hz : w.heap.size + 1 ≤ (((w.alloc (.cells #[.int .i64 m] 3)).alloc (.cells #[.slice none 0 0] 33)).alloc (.cells #[.string s] 9)).heap.size := by simp
    have HS := Lib.hid hz
    clear hE hz
    go_wp2_with fail
    refine (eachf_any (w.heap.size + 1) (w.heap.size + 1) w.heap.size (w.heap.size + 1 + 1) m s _ HE.out HS.out (Nat.le_refl _) (Nat.lt_succ_self _) hs HM.out).mono ?_
    rintro e w3 ⟨rfl, hE3, hB3⟩
    obtain ⟨⟨v, hv, hrow⟩, _, _⟩ := hE3
    have hc := hv.cell
    have HR := Lib.hid (ownsRow_base hrow (Nat.le_succ w.heap.size))
    have HB3 := Lib.hid (HB0.out.trans (hB3.mono (Nat.le_succ w.heap.size)))
    clear hv hrow hB3
    go_wp2
    go_returns
    exact ⟨v, rfl, HR.out, HB3.out⟩
  · have HT := Lib.hid (show (nums s s.size).take m.toNat = [] by rw [show m.toNat = 0 by omega]; exact List.take_zero)
    have hm2 : m ≤ 0 := by omega
    go_enter Try.func20, Try.ntmps20
    go_wp2
    go_returns
    refine ⟨.slice none 0 0, rfl, ?_, by go_grown⟩
    rw [HT.out]
    exact ⟨rfl, .inl ⟨rfl, rfl⟩⟩
set_option maxHeartbeats 1000000 in
theorem all_any (s : ByteArray) (w : World) (hs : s.size ≤ 1000) :
    Calls Try.prog 18 #[.string s] w (Gives (nums s s.size) w) := by
  have gb := get_bt s
  go_enter Try.func18, Try.ntmps18
  go_wp2
  go_loopw [3, 4] (fun v i wr => ∃ k : Nat, k ≤ s.size ∧ i = .int .i64 k ∧ IntsIn w.heap.size wr v (nums s k) ∧ Below w.heap.size w wr) (fun _ i _ => s.size - (intOf i).toNat)
  case atStart => exact ⟨0, Nat.zero_le _, rfl, ⟨rfl, .inl ⟨rfl, rfl⟩⟩, Below.refl _ _⟩
  case round =>
    obtain ⟨k, hk, rfl, hR, hB⟩ := hrel
    have HR := Lib.hid hR
    have HB := Lib.hid hB
    clear hR hB
    by_cases hlt : k < s.size
    · have HN := Lib.hid (show nums s (k + 1) = nums s k ++ (byteL (bt s k)).map fun b : Nat => (k : Int) * 8 + (b : Int) from rfl)
      have HL := Lib.hid (show (nums s k).length ≤ 8 * k by rw [nums_len]; exact cnt_le s k)
      have hc := And.intro (bt_nonneg s k) (bt_le s k)
      go_wp2
      go_loopw [3, 5] (fun v i wy => ∃ b : Nat, b ≤ 8 ∧ i = .int .i64 b ∧ IntsIn w.heap.size wy v (nums s k ++ (lowL (bt s k) b).map fun b : Nat => (k : Int) * 8 + (b : Int)) ∧ Below w.heap.size w wy) (fun _ i _ => 8 - (intOf i).toNat)
      case atStart => exact ⟨0, by omega, rfl, by show IntsIn _ _ _ (nums s k ++ []); rw [List.append_nil]; exact HR.out, HB.out⟩
      case round =>
        clear HR HB
        obtain ⟨b, hb, rfl, hR, hB⟩ := hrel
        have HR := Lib.hid hR
        have HB := Lib.hid hB
        clear hR hB
        by_cases hlt2 : b < 8
        · have HC := Lib.hid fun W => rbit_any (bt s k) b W hlt2 hc.1 hc.2
          have HS := Lib.hid (lowL_succ (bt s k) b)
          cases hbb : bitB (bt s k) b
          · rw [hbb] at HS HC
            have HS2 : Hid (lowL (bt s k) (b + 1) = lowL (bt s k) b) := HS
            clear HS
            go_wp2_with fail
            refine (HC.out _).mono ?_
            rintro e _ ⟨rfl, rfl⟩
            go_wp2
            go_roundw
            case rel => exact ⟨b + 1, by omega, by go_num, by rw [HS2.out]; exact HR.out, HB.out⟩
            case measure => simp [intOf]; omega
          · rw [hbb] at HS HC
            have HS2 : Hid (lowL (bt s k) (b + 1) = lowL (bt s k) b ++ [b]) := HS
            clear HS
            obtain ⟨n, hn⟩ : ∃ n, (nums s k ++ (lowL (bt s k) b).map fun b : Nat => (k : Int) * 8 + (b : Int)).length = n := ⟨_, rfl⟩
            have hlen : (nums s k ++ (lowL (bt s k) b).map fun b : Nat => (k : Int) * 8 + (b : Int)).length ≤ 1048576 := by
              rw [List.length_append, List.length_map]
              have := HL.out
              have h2 : (lowL (bt s k) b).length ≤ b := by
                have := List.length_filter_le (bitB (bt s k)) (List.range b)
                rw [List.length_range] at this
                exact this
              omega
            obtain ⟨g, cap, w2, p1, p2, _, p3⟩ := row_push HR.out HB.out.size hlen (8 * (k : Int) + (b : Int)) n hn
            rw [Int.mul_comm 8 (k : Int)] at p2
            have P2 := Lib.hid p2
            have P3 := Lib.hid p3
            clear hn hlen p2 p3
            go_wp2_with fail
            refine (HC.out _).mono ?_
            rintro e _ ⟨rfl, rfl⟩
            go_wp2
            go_roundw
            case rel => exact ⟨b + 1, by omega, by go_num, by rw [HS2.out, List.map_append, ← List.append_assoc, List.map_cons, List.map_nil]; exact P2.out, HB.out.trans P3.out⟩
            case measure => simp [intOf]; omega
        · obtain rfl : b = 8 := by omega
          go_wp2
          go_roundw
          case rel => exact ⟨k + 1, by omega, by go_num, by rw [HN.out]; exact HR.out, HB.out⟩
          case measure => simp [intOf]; omega
    · obtain rfl : k = s.size := by omega
      go_wp2
      go_returns
      exact ⟨u3, rfl, HR.out, HB.out⟩
/-- Two slices of the same numbers. -/
def Alike (p q : Option Addr) (L : List Int) (w : World) : Prop := L = [] ∨ ∃ ga gb, p = some ⟨ga, 0, none⟩ ∧ q = some ⟨gb, 0, none⟩ ∧
  (∀ j, j < L.length → w.cell? ⟨ga, j, none⟩ = some (.int .i64 (L.getD j 0))) ∧ (∀ j, j < L.length → w.cell? ⟨gb, j, none⟩ = some (.int .i64 (L.getD j 0)))
set_option maxHeartbeats 1000000 in
theorem ints_any (p q : Option Addr) (n ca cb : Nat) (L : List Int) (w : World) (hL : L.length = n) (h : Alike p q L w) (hn : (n : Int) ≤ 9223372036854775807) :
    Calls Try.prog 19 #[.slice p n ca, .slice q n cb] w fun e w' => e = .returned (.bool true) ∧ Below w.heap.size w w' := by
  have HH := Lib.hid h
  have HLL := Lib.hid hL
  clear h hL
  go_enter Try.func19, Try.ntmps19
  go_wp2
  go_loopw [5] (fun i wr => ∃ k : Nat, k ≤ n ∧ i = .int .i64 k ∧ Below w.heap.size w wr) (fun i _ => n - (intOf i).toNat)
  case atStart => exact ⟨0, Nat.zero_le _, rfl, Below.refl _ _⟩
  case round =>
    obtain ⟨k, hk, rfl, hB⟩ := hrel
    have HB := Lib.hid hB
    clear hB
    by_cases hlt : k < n
    · have hh := HH.out
      rcases hh with h0 | ⟨ga, gb, rfl, rfl, h1, h2⟩
      · have := HLL.out
        rw [h0] at this
        exact absurd this (by simp; omega)
      · have hk2 : k < L.length := by rw [HLL.out]; exact hlt
        have c1 := (HB.out.cell (p := ⟨ga, k, none⟩) (World.block_lt_of_cell? w _ (h1 k hk2))).trans (h1 k hk2)
        have c2 := (HB.out.cell (p := ⟨gb, k, none⟩) (World.block_lt_of_cell? w _ (h2 k hk2))).trans (h2 k hk2)
        clear h1 h2 hk2
        go_wp2_with fail
        go_quiet (fail)
        have HB2 : Hid (Below w.heap.size w (wr.drewN nq)) := HB.out.trans ⟨rfl, rfl, rfl, Nat.le_refl _, fun _ _ => rfl⟩
        clear HB c1 c2
        go_wp2
        go_roundw
        case rel => exact ⟨k + 1, by omega, by go_num, HB2.out⟩
        case measure => simp [intOf]; omega
    · obtain rfl : k = n := by omega
      go_wp2
      go_returns
      exact ⟨rfl, HB.out⟩
end Go.Proofs.Ytkdcfacpapmgoaa
