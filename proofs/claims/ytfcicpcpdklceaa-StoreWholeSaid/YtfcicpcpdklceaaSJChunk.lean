/- Contract of slices.Chunk and its closure, at chunks of 256 bytes. -/
import Derived.Test.YtfcicpcpdklceaaSJFill
import Derived.RangeFuncNested
import Derived.RangeFuncBound
import Derived.RangeFuncCalls
import Derived.RangeFuncLeaves
import Derived.Shelf.Abstract
import Derived.Shelf.RegionOpen
import Derived.OwnWalkIn
import Derived.TacticsInMore
import Derived.LoopNIn
import Derived.LoopIn
import Derived.Deep.QuietTactic
import Derived.IntWalk
namespace Go.Proofs.Ytfcicpcpdklceaa
set_option maxRecDepth 100000
open Go.ChangeShapes Go.WideShapes Go.ChangeAt Go.RowKit Go.PlainAid Go.Shelf
attribute [local go_sem] Oper.semAt_some

theorem chunk_any (g n c : Nat) (w : World) :
    Calls Try.prog 55 #[.slice (some ⟨g, 0, none⟩) n c, .int .i64 256] w fun e w' => e = .returned (.func (.func 79) #[] #[.pointer (some ⟨w.heap.size, 0, none⟩), .pointer (some ⟨w.heap.size + 1, 0, none⟩)]) ∧
      w' = (w.alloc (.cells #[.slice (some ⟨g, 0, none⟩) n c] 78)).alloc (.cells #[.int .i64 256] 3) := by
  have hmf : ∀ (fn : Fn) (first cap : Array Value) (w : World), (Instr.makeFunc fn first cap).run Try.prog w = .ok (.func fn first cap) w := fun _ _ _ _ => rfl
  go_enter Try.func55, Try.ntmps55
  go_wp2
  go_returns
  exact ⟨rfl, rfl⟩
/-- Chunk k of n bytes: how many it has. -/
def chunkN (n k : Nat) : Nat := min 256 (n - 256 * k)
/-- How many chunks n bytes have. -/
def chunks (n : Nat) : Nat := (n + 255) / 256
def chunkV (g n k : Nat) : Value := .slice (some ⟨g, 256 * k, none⟩) (chunkN n k) (chunkN n k)
/-- Two boxes hold what they held. -/
def KpB (a b : Nat) (W W' : World) : Prop := W'.heap[a]? = W.heap[a]? ∧ W'.heap[b]? = W.heap[b]?
theorem KpB.trans {a b : Nat} {A B C : World} (h : KpB a b A B) (k : KpB a b B C) : KpB a b A C := ⟨k.1.trans h.1, k.2.trans h.2⟩
theorem KpB.refl (a b : Nat) (A : World) : KpB a b A A := ⟨rfl, rfl⟩
theorem range_split {k n : Nat} (h : k ≤ n) : List.range k ++ (List.range n).drop k = List.range n := by
  conv => rhs; rw [← List.take_append_drop k (List.range n)]
  rw [List.take_range, Nat.min_eq_left h]
theorem elem_bytes : Try.prog.elem 78 = 5 := by kernel_rfl
theorem under_bytes : Try.prog.underlying 78 = some (.slice (Try.prog.elem 78)) := by kernel_rfl
theorem add_zero_off (g b : Nat) : (⟨g, 0, none⟩ : Addr).add b = ⟨g, b, none⟩ := by
  unfold Addr.add
  split
  · next h => rw [h]
  · rw [Nat.zero_add]
theorem slice_from (g n c b r : Nat) (hb : b < n) (hc : n ≤ c) (hr : n - b = r) : ∀ w, (Instr.slice 78 (.slice (some ⟨g, 0, none⟩) n c) (some (.int .i64 (b : Int))) none none).run Try.prog w = .ok (.slice (some ⟨g, b, none⟩) r (c - b)) w := fun w => by
  rw [run_slice_l (P := Try.prog) w 78 (some ⟨g, 0, none⟩) n c under_bytes .i64 b (by omega) (by omega), elem_bytes, Try.sizeOf5]
  show Result.ok (sliced _ _ _ _ _) w = _
  unfold sliced
  rw [if_neg (by omega), Nat.mul_one, Int.toNat_natCast, hr]
  simp only [Option.map_some, add_zero_off]
theorem slice_lhm (g n c b m : Nat) (hb : b + m ≤ n) (hc : n ≤ c) (hm : 0 < m) : ∀ w, (Instr.slice 78 (.slice (some ⟨g, 0, none⟩) n c) (some (.int .i64 (b : Int))) (some (.int .i64 ((b : Int) + (m : Int)))) (some (.int .i64 ((b : Int) + (m : Int))))).run Try.prog w = .ok (.slice (some ⟨g, b, none⟩) m m) w := fun w => by
  rw [run_slice_lhm (P := Try.prog) w 78 (some ⟨g, 0, none⟩) n c under_bytes .i64 .i64 .i64 b ((b : Int) + (m : Int)) ((b : Int) + (m : Int)) (by omega) (by omega) (by omega) (by omega), elem_bytes, Try.sizeOf5]
  show Result.ok (sliced _ _ _ _ _) w = _
  unfold sliced
  have e : ((b : Int) + (m : Int)).toNat = b + m := by omega
  rw [e, if_neg (by omega), Nat.mul_one, Int.toNat_natCast, Nat.add_sub_cancel_left]
  simp only [Option.map_some, add_zero_off]
set_option maxRecDepth 100000 in
set_option maxHeartbeats 4000000 in
theorem chunk1_in (l bs bn g n c : Nat) (hn : n ≤ 1048576) (hc : n ≤ c) (J Jx : List Nat → World → Prop) (hJd : ∀ s W n, J s W → J s (World.drewN W n))
    (hY : ∀ pre x W, J pre W → pre.length < chunks n → YieldAt Fence.wide 7 Try.prog l #[chunkV g n x] W fun e W' =>
      (e = .returned (.bool true) ∧ J (pre ++ [x]) W' ∧ KpB bs bn W W') ∨ (e = .returned (.bool false) ∧ Jx (pre ++ [x]) W'))
    (W : World) (hS : W.heap[bs]? = some (.cells #[.slice (some ⟨g, 0, none⟩) n c] 78 (0, 0))) (hN : W.heap[bn]? = some (.cells #[.int .i64 256] 3 (0, 0))) (h0 : J [] W) :
    CallsIn Fence.wide 8 Try.prog 79 #[.func (.yield l) #[] #[], .pointer (some ⟨bs, 0, none⟩), .pointer (some ⟨bn, 0, none⟩)] W fun e W' => (∃ v, e = .returned v) ∧
      ((∃ ys, ys = List.range (chunks n) ∧ J ys W') ∨ (∃ pre, pre <+: List.range (chunks n) ∧ Jx pre W')) := by
  refine callsIn_of_wp Try.func79 rfl trivial ?_ rfl
  simp only [Try.ntmps79, List.size_toArray, List.length_cons, List.length_nil, Nat.reduceAdd, Nat.reduceSub, Array.replicate_succ, Array.replicate_zero, List.push_toArray, List.append_toArray, List.nil_append, List.cons_append]
  gi_wp2
  gi_loopw [4] (fun i wr => ∃ k : Nat, k ≤ chunks n ∧ i = .int .i64 ((256 * k : Nat) : Int) ∧ J (List.range k) wr ∧ KpB bs bn W wr) (fun i _ => chunks n * 256 - (intOf i).toNat)
  case atStart => exact ⟨0, Nat.zero_le _, rfl, h0, KpB.refl _ _ _⟩
  case round =>
    obtain ⟨k, hk, rfl, hJs, hnx⟩ := hrel
    have hs1 := hnx.1.trans hS
    have hn1 := hnx.2.trans hN
    have hcs : wr.cell? ⟨bs, 0, none⟩ = some (.slice (some ⟨g, 0, none⟩) n c) := by rw [cell_of_row _ _ _ _ _ _ hs1]; rfl
    have hcn : wr.cell? ⟨bn, 0, none⟩ = some (.int .i64 256) := by rw [cell_of_row _ _ _ _ _ _ hn1]; rfl
    by_cases hlt : k < chunks n
    · have hlt' : 256 * k < n := by unfold chunks at hlt; omega
      obtain ⟨b0, hb0⟩ : ∃ b0, 256 * k = b0 := ⟨_, rfl⟩
      obtain ⟨r, hr⟩ : ∃ r, n - b0 = r := ⟨_, rfl⟩
      obtain ⟨m, hm⟩ : ∃ m, min 256 r = m := ⟨_, rfl⟩
      have hV : chunkV g n k = .slice (some ⟨g, b0, none⟩) m m := by unfold chunkV chunkN; rw [hb0, hr, hm]
      rw [hb0] at hlt'
      have hs2 := slice_from g n c b0 r hlt' hc hr
      have hs3 := slice_lhm g n c b0 m (by omega) hc (by omega)
      have hmin : min (256 : Int) (r : Int) = (m : Int) := by omega
      have hmin' : (if (r : Int) < 256 then (r : Int) else 256) = (m : Int) := by split <;> omega
      have hadd : wrap64 ((b0 : Int) + (m : Int)) = (b0 : Int) + (m : Int) := by unfold wrap64; omega
      have hbi : (b0 : Int) < (n : Int) := by omega
      rw [hb0]
      have HM := Lib.hid hm
      have HR := Lib.hid hr
      have HB := Lib.hid hb0
      have HVV := Lib.hid hV
      clear hm hr hb0 hV
      gi_wp2
      refine wpIn_wide.2 ?_
      go_quiet (fail)
      obtain ⟨fn, tmps, assign, body, hy, hR⟩ := hY (List.range k) k (wr.drewN nq) (hJd _ _ _ hJs) (by rw [List.length_range]; exact hlt)
      rw [HVV.out] at hy
      have HNX : Hid (KpB bs bn W (wr.drewN nq)) := hnx
      clear hnx hJs hs1 hn1 hlt' hmin hmin' hs2
      gi_wp2
      refine hR.mono ?_
      rintro e W3 (⟨rfl, hJ3, hk3⟩ | ⟨rfl, hJx3⟩)
      · have hN3 := HNX.out.trans hk3
        have hcn3 : W3.cell? ⟨bn, 0, none⟩ = some (.int .i64 256) := by rw [cell_of_row _ _ _ _ _ _ (hN3.2.trans hN)]; rfl
        have HN3 := Lib.hid hN3
        have HJ3 := Lib.hid hJ3
        have hadd2 : wrap64 ((b0 : Int) + 256) = (b0 : Int) + 256 := by unfold wrap64; omega
        clear hN3 hk3 hJ3 hs3 hadd
        gi_wp2
        go_roundw
        case rel => exact ⟨k + 1, by omega, by have := HB.out; first | (congr 1; omega) | (rw [hadd2]; congr 1; omega), by rw [List.range_succ]; exact HJ3.out, HN3.out⟩
        case measure =>
          have := HB.out
          simp only [intOf]
          omega
      · gi_wp2
        refine bodyPost_ret (results_none rfl _ _ _) rfl ?_
        exact ⟨⟨_, rfl⟩, .inr ⟨List.range k ++ [k], ⟨(List.range (chunks n)).drop (k + 1), by rw [← List.range_succ]; exact range_split (by omega)⟩, hJx3⟩⟩
    · have hge : ¬ 256 * k < n := by unfold chunks at hlt; omega
      obtain rfl : k = chunks n := by omega
      gi_wp2
      go_end0
      exact ⟨⟨_, rfl⟩, .inl ⟨_, rfl, hJs⟩⟩
theorem chunk_stops (bs bn g n c : Nat) (hn : n ≤ 1048576) (hc : n ≤ c) (w : World) (hS : w.heap[bs]? = some (.cells #[.slice (some ⟨g, 0, none⟩) n c] 78 (0, 0))) (hN : w.heap[bn]? = some (.cells #[.int .i64 256] 3 (0, 0))) :
    SeqStopsK Fence.wide 8 Try.prog 79 #[.pointer (some ⟨bs, 0, none⟩), .pointer (some ⟨bn, 0, none⟩)] (fun k : Nat => #[chunkV g n k]) (KpB bs bn) (fun ys => ys = List.range (chunks n)) (fun pre => pre <+: List.range (chunks n)) (chunks n) w := fun l J Jx W hW hJ _ hY h0 =>
  chunk1_in l bs bn g n c hn hc J Jx (fun s W n h => hJ s W _ none h ⟨rfl, rfl, rfl, Nat.le_refl _, fun _ _ _ => rfl⟩ (fun _ e => by cases e)) hY W ((hW.block bs (heap_lt' hS)).trans hS) ((hW.block bn (heap_lt' hN)).trans hN) h0
end Go.Proofs.Ytfcicpcpdklceaa
