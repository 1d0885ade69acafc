import Derived.Test.YtcjfnfdinhbdlaaGreatDoorGaa
import Derived.Test.YtcjfnfdinhbdlaaGreatDoorRows
import Derived.Recover
import Derived.Tactics2
import Derived.Laws.Pointers
import Derived.RangeFuncBox
import Derived.OwnWalk
import Derived.Deep.AppendLies
import Derived.Deep.QuietTactic
import Derived.BigQuiet
import Derived.IntWalk
namespace Go.Proofs.YtcjfnfdinhbdlaaGreatDoor
set_option maxRecDepth 100000
open Go.ChangeShapes Go.WideShapes Go.ChangeAt Go.RowKit Go.PlainAid
theorem make_func (fn : Fn) (a b : Array Value) (w : World) : (Instr.makeFunc fn a b).run Tryz.prog w = .ok (.func fn a b) w := rfl
namespace KA
theorem catch_idle (w : World) :
    CallsD Tryz.prog 231 #[] .returning w fun e u' w' => e = .returned (.tuple #[]) ∧ u' = .returning ∧ w' = w := by
  refine callsD_of_wpS Tryz.func231 rfl fun c₀ cs hu => ?_
  apply wpS_region
  simp [wpOpsS, go_sem, recoverD, hu, Tryz.ntmps231]
  cases c₀
  simp_all [bodyPostS, results, Tryz.results231]
theorem same_any (a b : Int) (w : World) : Calls Tryz.prog 207 #[.int .i64 a, .int .i64 b] w fun e w' => e = .returned (.bool (a == b)) ∧ w = w' := by
  have hmf := make_func
  go_enter_defers Tryz.func207, Tryz.ntmps207
  go_wp2
  refine leaves_cons (f := 231) (args := #[]) (by simp) (by simp [go_sem]) ?_
  refine (catch_idle _).mono ?_
  rintro e u' w'' ⟨rfl, rfl, rfl⟩
  simp [Leaves, settle, results, Tryz.results207, go_sem]
end KA
end Go.Proofs.YtcjfnfdinhbdlaaGreatDoor
namespace Go.Proofs.YtcjfnfdinhbdlaaGreatDoor
set_option maxRecDepth 100000
open Go.ChangeShapes Go.WideShapes Go.ChangeAt Go.RowKit Go.PlainAid
theorem heap_in {w : World} {k : Nat} {o : Obj} (h : w.heap[k]? = some o) : k < w.heap.size := (Array.getElem?_eq_some_iff.1 h).1
theorem ownsRow_onC {w w' : World} {base : Nat} {e : TypeId} {size : Nat} {v : Value} {n : Nat} {xs : List Value} (h : w.ownsRow base e size v n xs) (b : Below w.heap.size w w') : w'.ownsRow base e size v n xs := by
  obtain ⟨h1, h2⟩ := h
  refine ⟨h1, ?_⟩
  rcases h2 with h2 | ⟨g, cap, cur, hv, hb, hg, h3⟩
  · exact .inl h2
  · exact .inr ⟨g, cap, cur, hv, hb, (b.block g (heap_in hg)).trans hg, h3⟩
namespace KA
abbrev E := Ent Int ByteArray
def cE (e : E) : List Value := [.int .i64 e.key, .string e.val, .int .i64 (e.pins : Int)]
theorem three : Three cE := ⟨fun _ => rfl, fun e u hu => by
  simp only [cE, List.mem_cons, List.not_mem_nil, or_false] at hu
  rcases hu with rfl | rfl | rfl <;> rfl⟩
structure CaT (w0 : World) (p : Nat) (most : Int) (L : List E) (R : List (Nat × Obj)) (w : World) : Prop where
  below : Below w0.heap.size w0 w
  base : w0.heap.size ≤ p
  row : ∃ v, w.heap[p]? = some (.cells #[.int .i64 most, v] 212 (0, 0)) ∧ RowE cE 228 w0.heap.size w v L ∧ v.ownBlock ≠ some p ∧ ∀ b o, (b, o) ∈ R → v.ownBlock ≠ some b
  known : ∀ b o, (b, o) ∈ R → w.heap[b]? = some o ∧ b ≠ p
theorem CaT.on {w0 : World} {p : Nat} {most : Int} {L : List E} {R : List (Nat × Obj)} {w w' : World} (h : CaT w0 p most L R w) (b : Below w.heap.size w w') : CaT w0 p most L R w' := by
  obtain ⟨h1, h2, ⟨v, h3, h4, h5, h6⟩, h7⟩ := h
  exact ⟨h1.on b, h2, ⟨v, (b.block p (heap_in h3)).trans h3, ownsRow_onC h4 b, h5, h6⟩, fun k o hk => ⟨(b.block k (heap_in (h7 k o hk).1)).trans (h7 k o hk).1, (h7 k o hk).2⟩⟩
theorem CaT.sub {w0 : World} {p : Nat} {most : Int} {L : List E} {R R' : List (Nat × Obj)} {w : World} (h : CaT w0 p most L R w) (hs : ∀ b o, (b, o) ∈ R' → (b, o) ∈ R) : CaT w0 p most L R' w := by
  obtain ⟨h1, h2, ⟨v, h3, h4, h5, h6⟩, h7⟩ := h
  exact ⟨h1, h2, ⟨v, h3, h4, h5, fun b o hb => h6 b o (hs b o hb)⟩, fun b o hb => h7 b o (hs b o hb)⟩
theorem CaT.move {w0 : World} {p : Nat} {most : Int} {L : List E} {R : List (Nat × Obj)} {w w' : World} {v v' : Value} {M : List E} (h : CaT w0 p most L R w)
    (hv : w.heap[p]? = some (.cells #[.int .i64 most, v] 212 (0, 0)))
    (b : w0.heap.size ≤ w.heap.size → (∀ k, v.ownBlock = some k → w0.heap.size ≤ k) → w0.heap.size ≤ p → Below w0.heap.size w w')
    (hk : ∀ k, k < w.heap.size → k ≠ p → v.ownBlock ≠ some k → w'.heap[k]? = w.heap[k]?)
    (hp : w'.heap[p]? = some (.cells #[.int .i64 most, v'] 212 (0, 0))) (hr : RowE cE 228 w0.heap.size w' v' M)
    (ho : ∀ k, v'.ownBlock = some k → v.ownBlock = some k ∨ w.heap.size ≤ k) : CaT w0 p most M R w' := by
  obtain ⟨h1, h2, ⟨u, h3, h4, h5, h6⟩, h7⟩ := h
  obtain rfl : u = v := by
    rw [hv] at h3
    injection h3 with h3
    injection h3 with h3
    simpa using h3.symm
  refine ⟨h1.trans (b h1.size (fun k hk' => (h4.lt k hk').1) h2), h2, ⟨v', hp, hr, fun hc => ?_, fun b' o hb hc => ?_⟩, fun b' o hb => ⟨?_, (h7 b' o hb).2⟩⟩
  · rcases ho p hc with hc | hc
    · exact h5 hc
    · have := heap_in hv
      omega
  · rcases ho b' hc with hc | hc
    · exact h6 b' o hb hc
    · have := heap_in (h7 b' o hb).1
      omega
  · rw [hk b' (heap_in (h7 b' o hb).1) (h7 b' o hb).2 (h6 b' o hb)]
    exact (h7 b' o hb).1
theorem box_cells {p : Nat} {w : World} {most : Int} {v : Value} (h : w.heap[p]? = some (.cells #[.int .i64 most, v] 212 (0, 0))) : w.cell? ⟨p, 0, none⟩ = some (.int .i64 most) ∧ w.cell? ⟨p, 1, none⟩ = some v ∧ w.frozen? ⟨p, 1, none⟩ = false := by
  refine ⟨by rw [cell_of_row _ _ _ _ _ _ h]; rfl, by rw [cell_of_row _ _ _ _ _ _ h]; rfl, frozen_of_row _ _ _ _ _ h⟩
theorem row_cells {n₀ : Nat} {w : World} {g n cap : Nat} {L : List E} (h : RowE cE 228 n₀ w (.slice (some ⟨g, 0, none⟩) n cap) L) {i : Nat} {e : E} (he : L[i]? = some e) :
    w.cell? ⟨g, i * 3, none⟩ = some (.int .i64 e.key) ∧ w.cell? ⟨g, i * 3 + 1, none⟩ = some (.string e.val) ∧ w.cell? ⟨g, i * 3 + 2, none⟩ = some (.int .i64 (e.pins : Int)) := by
  rcases h.2 with ⟨hv, _⟩ | ⟨g', cap', cur, hv, _, hg, _, _, _, ht⟩
  · cases hv
  · cases hv
    have hlt := (List.getElem?_eq_some_iff.1 he).1
    have key : ∀ j, j < 3 → w.cell? ⟨g, i * 3 + j, none⟩ = (cE e)[j]? := fun j hj => by
      rw [cell_of_row _ _ _ _ _ _ hg, ← flat_at three he j hj, ← ht, List.getElem?_take_of_lt (by omega), Array.getElem?_toList]
    exact ⟨key 0 (by omega), key 1 (by omega), key 2 (by omega)⟩
def FindPost (k : Int) (L : List E) (w : World) (e : Ending) (w' : World) : Prop :=
  (∃ i x, L[i]? = some x ∧ x.key = k ∧ posK k L = i ∧ e = .returned (.tuple #[.int .i64 (i : Int), .bool true]) ∧ Below w.heap.size w w') ∨
  (¬ posK k L < L.length ∧ e = .returned (.tuple #[.int .i64 0, .bool false]) ∧ Below w.heap.size w w')
theorem below_drew (w : World) (n : Nat) : Below w.heap.size w (w.drewN n) := ⟨rfl, rfl, rfl, Nat.le_refl _, fun _ _ => rfl⟩
set_option maxHeartbeats 400000 in
theorem find_any {w0 : World} {p : Nat} {most : Int} {L : List E} {R : List (Nat × Obj)} {w : World} (h : CaT w0 p most L R w) (k : Int) (hl : L.length ≤ 4096) :
    Calls Tryz.prog 160 #[.pointer (some ⟨p, 0, none⟩), .int .i64 k] w (FindPost k L w) := by
  obtain ⟨v, hp, hr, _⟩ := h.row
  obtain ⟨hm, hu, _⟩ := box_cells hp
  obtain ⟨ao, n, cap, rfl, hn⟩ : ∃ ao n cap, v = .slice ao n cap ∧ n = L.length := by
    rcases hr.2 with ⟨hv, h0⟩ | ⟨g, cap, cur, hv, _⟩
    · exact ⟨_, _, _, hv, h0.symm⟩
    · exact ⟨_, _, _, hv, rfl⟩
  subst hn
  have HR := Lib.hid hr
  have HP := Lib.hid hp
  clear h hp hr
  go_enter Tryz.func160, Tryz.ntmps160
  go_wp2_with fail
  go_loopw [14] (fun i wr => ∃ j : Nat, j ≤ L.length ∧ i = .int .i64 j ∧ (∀ t x, t < j → L[t]? = some x → x.key ≠ k) ∧ Below w.heap.size w wr) (fun i _ => L.length - (intOf i).toNat)
  case atStart => exact ⟨0, Nat.zero_le _, rfl, fun _ _ h => absurd h (Nat.not_lt_zero _), Below.refl _ _⟩
  case round =>
    obtain ⟨j, hj, rfl, hb, hB⟩ := hrel
    have HN := Lib.hid hb
    have HB := Lib.hid hB
    have hu2 := (hB.cell (p := ⟨p, 1, none⟩) (heap_in HP.out)).trans hu
    clear hb hB hm hu
    by_cases hlt : j < L.length
    · obtain ⟨x, hx⟩ : ∃ x, L[j]? = some x := ⟨_, List.getElem?_eq_getElem hlt⟩
      obtain ⟨g, cap', cur, hv, _⟩ := HR.out.block (by omega)
      cases hv
      have hc := (row_cells (ownsRow_onC HR.out HB.out) hx).1
      have HX := Lib.hid hx
      by_cases hk : x.key = k
      · have hq : (x.key == k) = true := beq_iff_eq.2 hk
        have HS := Lib.hid fun w => hq ▸ same_any x.key k w
        have HK := Lib.hid hk
        clear hx hq hk
        go_wp2_with fail
        refine (HS.out _).mono ?_
        rintro e _ ⟨rfl, rfl⟩
        go_wp2
        go_returns
        exact .inl ⟨j, x, HX.out, HK.out, posK_eq HX.out HK.out HN.out, rfl, HB.out⟩
      · have hq : (x.key == k) = false := beq_eq_false_iff_ne.2 hk
        have HS := Lib.hid fun w => hq ▸ same_any x.key k w
        have HK := Lib.hid hk
        clear hx hq hk
        go_wp2_with fail
        refine (HS.out _).mono ?_
        rintro e _ ⟨rfl, rfl⟩
        go_wp2
        go_roundw
        case rel => exact ⟨j + 1, by omega, by go_num, fun t y ht hy => by
          by_cases e : t = j
          · subst e
            rw [HX.out] at hy
            cases hy
            exact HK.out
          · exact HN.out t y (by omega) hy, HB.out⟩
        case measure => simp [intOf]; omega
    · obtain rfl : j = L.length := by omega
      go_wp2
      go_returns
      refine .inr ⟨?_, rfl, HB.out⟩
      rw [posK_no fun t y hy => HN.out t y (List.getElem?_eq_some_iff.1 hy).1 hy]
      omega
end KA
end Go.Proofs.YtcjfnfdinhbdlaaGreatDoor
