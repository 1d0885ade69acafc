/- Contracts of the reference: Get. -/
import Derived.Test.YtomgiemnkbjebaaCacV
namespace Go.Proofs.Ytomgiemnkbjebaa
set_option maxRecDepth 100000
open Go.ChangeShapes Go.WideShapes Go.ChangeAt Go.RowKit Go.PlainAid

namespace KA
theorem find_some {k : Int} {L : List E} (h : posK k L < L.length) : ∃ x, L[posK k L]? = some x ∧ x.key = k ∧ findE k L = x := by
  obtain ⟨x, hx, hk⟩ := posK_at h
  exact ⟨x, hx, hk, by unfold findE; rw [hx]; rfl⟩
theorem find_none {k : Int} {L : List E} (h : ¬ posK k L < L.length) : findE k L = ⟨0, ⟨#[]⟩, 0⟩ := by
  unfold findE
  rw [List.getElem?_eq_none (by omega)]
  rfl
theorem noK_some {k : Int} {L : List E} {x : E} (hO : Once L) (hx : L[posK k L]? = some x) (hk : x.key = k) : noK k L = L.eraseIdx (posK k L) := by
  have := once_filter hO hx
  rw [hk] at this
  exact this
theorem noK_none {k : Int} {L : List E} (h : ¬ posK k L < L.length) : noK k L = L := once_none h
theorem two_boxes (w : World) (most : Int) (v : Value) : ∃ W2, (w.alloc (.cells #[.int .i64 most, v] 29)).alloc (.cells #[.int .i64 0, .slice none 0 0] 29) = W2 ∧ BoxC W2 w.heap.size most v ∧ BoxC W2 (w.heap.size + 1) 0 (.slice none 0 0) ∧ W2.heap.size = w.heap.size + 2 ∧ Below w.heap.size w W2 := by
  have z1 : (w.alloc (.cells #[.int .i64 most, v] 29)).heap.size = w.heap.size + 1 := by simp
  have q1 : BoxC (w.alloc (.cells #[.int .i64 most, v] 29)) w.heap.size most v := heap_alloc_new w _
  have hb1 : Below w.heap.size w (w.alloc (.cells #[.int .i64 most, v] 29)) := by go_grown
  generalize w.alloc (.cells #[.int .i64 most, v] 29) = W1 at *
  have q2 : BoxC (W1.alloc (.cells #[.int .i64 0, .slice none 0 0] 29)) (w.heap.size + 1) 0 (.slice none 0 0) := by
    rw [← z1]
    exact heap_alloc_new W1 _
  have hb2 : Below W1.heap.size W1 (W1.alloc (.cells #[.int .i64 0, .slice none 0 0] 29)) := by go_grown
  exact ⟨_, rfl, q1.on hb2 (by omega), q2, by simp [z1], hb1.on hb2⟩
/-- A box of an item. -/
def BoxI (w : World) (q : Nat) (x : E) : Prop := w.heap[q]? = some (.cells #[.int .i64 x.key, .string x.val, .int .i64 (x.pins : Int)] 51 (0, 0))
theorem BoxI.read {w : World} {q : Nat} {x : E} (h : BoxI w q x) : w.cell? ⟨q, 0, none⟩ = some (.int .i64 x.key) ∧ w.cell? ⟨q, 1, none⟩ = some (.string x.val) ∧ w.cell? ⟨q, 2, none⟩ = some (.int .i64 (x.pins : Int)) :=
  ⟨by rw [cell_of_row _ _ _ _ _ _ h]; rfl, by rw [cell_of_row _ _ _ _ _ _ h]; rfl, by rw [cell_of_row _ _ _ _ _ _ h]; rfl⟩
theorem BoxI.on {w w' : World} {q : Nat} {x : E} (h : BoxI w q x) {B : Nat} (b : Below B w w') (hq : q < B) : BoxI w' q x := (b.block q hq).trans h
theorem BoxI.val {w : World} {q : Nat} {x : E} (h : BoxI w q x) (s : ByteArray) : BoxI (w.setCell ⟨q, 1, none⟩ (.string s)) q ⟨x.key, s, x.pins⟩ := by
  unfold BoxI
  rw [heap_setCell_same w q 1 _ _ _ h]
  rfl
theorem one_box (w : World) (x : E) : ∃ W', w.alloc (.cells #[.int .i64 x.key, .string x.val, .int .i64 (x.pins : Int)] 51) = W' ∧ BoxI W' w.heap.size x ∧ W'.heap.size = w.heap.size + 1 ∧ Below w.heap.size w W' :=
  ⟨_, rfl, heap_alloc_new w _, by simp, by go_grown⟩
attribute [local go_sem ↓ high] store_i app_i build_i store_c
set_option maxHeartbeats 2000000 in
theorem rget_any {n₀ : Nat} {w : World} {v : Value} {L : List E} (h : Items n₀ w v L) (hn : n₀ ≤ w.heap.size) (hO : Once L) (most k : Int) (hl : L.length ≤ 4096) :
    Calls Try.prog 25 #[.agg #[.int .i64 most, v], .int .i64 k] w fun e w' => ∃ u, e = .returned (.tuple #[.agg #[.int .i64 most, u], .string ((getV k L).getD ⟨#[]⟩), .bool (getV k L).isSome]) ∧ Items n₀ w' u (getL k L) ∧ Below w.heap.size w w' := by
  have HR := Lib.hid (Reads.of_row h)
  obtain ⟨ao, nn, cap, rfl⟩ := items_slice h
  obtain ⟨W2, hW2, hq, hr, z2, hb2⟩ := two_boxes w most (.slice ao nn cap)
  obtain ⟨q0, q1, _⟩ := hq.read
  go_enter Try.func25, Try.ntmps25
  go_wp2_with fail
  have HF := Lib.hid (rfind_any (HR.out.on hb2) most k hl)
  have HI := Lib.hid h
  clear hW2 q0 q1 h
  by_cases hp : posK k L < L.length
  · obtain ⟨x, hx, hk, hf⟩ := find_some hp
    have hL : getV k L = some x.val ∧ getL k L = x :: noK k L := by
      unfold getV getL
      rw [if_pos hp, if_pos hp, hx, useL_some hx, noK_some hO hx hk]
      exact ⟨rfl, rfl⟩
    have hd : decide (posK k L < L.length) = true := decide_eq_true hp
    rw [hf, hd] at HF
    have HL := Lib.hid hL
    clear hL
    subst hk
    refine HF.out.mono ?_
    rintro e w3 ⟨rfl, hb3⟩
    unfold itemV
    have hst := store_newI w3 x #[.int .i64 0, .string ⟨#[]⟩, .int .i64 0] rfl
    obtain ⟨w4, hw4, hx4, z4, hb4⟩ := one_box w3 x
    rw [hw4] at hst
    have hz3 : w.heap.size + 2 ≤ w3.heap.size := by
      have := hb3.size
      omega
    have hb24 := hb3.on hb4
    obtain ⟨q0, q1, _⟩ := (hq.on hb24 (by omega)).read
    obtain ⟨x0, x1, x2⟩ := hx4.read
    have hq4 := hq.on hb24 (by omega)
    have hr4 := hr.on hb24 (by omega)
    have hb4w := hb2.on hb24
    have HA : Hid (Calls Try.prog 39 #[.agg #[.int .i64 most, .slice ao nn cap], .agg #[.int .i64 x.key, .string x.val, .int .i64 (x.pins : Int)]] w4.drew fun e w5 => ∃ ao5 nn5 cap5, e = .returned (.agg #[.int .i64 most, .slice ao5 nn5 cap5]) ∧ w5.cell? ⟨w3.heap.size, 1, none⟩ = some (.string x.val) ∧
        ∃ w6, (storeS 29 (.pointer (some ⟨w.heap.size + 1, 0, none⟩)) (.agg #[.int .i64 most, .slice ao5 nn5 cap5])).run Try.prog w5 = .ok () w6 ∧ w6.cell? ⟨w.heap.size + 1, 0, none⟩ = some (.int .i64 most) ∧ w6.cell? ⟨w.heap.size + 1, 1, none⟩ = some (.slice ao5 nn5 cap5) ∧ w6.cell? ⟨w3.heap.size, 1, none⟩ = some (.string x.val) ∧
          Hid (Items n₀ w6 (.slice ao5 nn5 cap5) (x :: noK x.key L) ∧ Below w.heap.size w w6)) := by
      have hd4 : Below w4.heap.size w4 w4.drew := ⟨rfl, rfl, rfl, Nat.le_refl _, fun _ _ => rfl⟩
      refine Lib.hid ((rahead_any (HR.out.on (hb4w.on hd4)) most x hl).mono ?_)
      rintro e w5 ⟨u, rfl, hI5, hb5⟩
      obtain ⟨ao5, nn5, cap5, rfl⟩ := items_slice hI5
      have hb45 : Below w4.heap.size w4 w5 := hd4.trans hb5
      have x5 := hx4.on hb45 (by omega)
      have hr5 := hr4.on hb45 (by omega)
      obtain ⟨w6, hst6, hbx6, hoth6, hbel6, _⟩ := hr5.store most (.slice ao5 nn5 cap5) rfl
      obtain ⟨r0, r1, _⟩ := hbx6.read
      have x6 : BoxI w6 w3.heap.size x := (hoth6 _ (by omega)).trans x5
      have hI5' : Items w4.heap.size w5 (.slice ao5 nn5 cap5) (x :: noK x.key L) := hI5
      exact ⟨ao5, nn5, cap5, rfl, x5.read.2.1, w6, hst6, r0, r1, x6.read.2.1, Lib.hid ⟨items_base (items_on hI5' fun k hk _ => hoth6 k (by omega)) (by omega), hbel6 _ _ (hb4w.on hb45) (Nat.le_succ _)⟩⟩
    clear hb3 hb4 hx4 hq hr hb2 hb24 hq4 hr4 hb4w
    go_wp2_with fail
    clear hst hw4
    go_region_with (first
      | (go_at_call 39; (with_reducible refine HA.out.mono ?_); rintro e w5 ⟨ao5, nn5, cap5, rfl, x15, w6, hst6, r0, r1, x16, HF⟩))
    all_goals go_wp2_with fail
    all_goals refine bodyPost_ret (v := .tuple #[.agg #[.int .i64 most, .slice ao5 nn5 cap5], .string x.val, .bool true]) (by simp [results, Try.results25, go_sem, r0, r1]) rfl ?_
    all_goals rw [HL.out.1, HL.out.2]
    all_goals exact ⟨_, rfl, HF.out.1, HF.out.2⟩
  · have hf := find_none hp
    have hL : getV k L = none ∧ getL k L = L := by
      unfold getV getL
      rw [if_neg hp, if_neg hp]
      exact ⟨rfl, rfl⟩
    have hd : decide (posK k L < L.length) = false := decide_eq_false hp
    rw [hf, hd] at HF
    have HL := Lib.hid hL
    refine HF.out.mono ?_
    rintro e w3 ⟨rfl, hb3⟩
    unfold itemV
    have hst : (storeS 51 (.pointer (some ⟨w3.heap.size, 0, none⟩)) (.agg #[.int .i64 0, .string ⟨#[]⟩, .int .i64 0])).run Try.prog (w3.alloc (.cells #[.int .i64 0, .string ⟨#[]⟩, .int .i64 0] 51)) = .ok () (w3.alloc (.cells #[.int .i64 0, .string ⟨#[]⟩, .int .i64 0] 51)) := store_newI w3 ⟨0, ⟨#[]⟩, 0⟩ #[.int .i64 0, .string ⟨#[]⟩, .int .i64 0] rfl
    obtain ⟨w4, hw4, hx4, z4, hb4⟩ := one_box w3 ⟨0, ⟨#[]⟩, 0⟩
    replace hw4 : w3.alloc (.cells #[.int .i64 0, .string ⟨#[]⟩, .int .i64 0] 51) = w4 := hw4
    rw [hw4] at hst
    have hz3 : w.heap.size + 2 ≤ w3.heap.size := by
      have := hb3.size
      omega
    have hb24 := hb3.on hb4
    obtain ⟨q0, q1, _⟩ := (hq.on hb24 (by omega)).read
    have hr5 := hr.on hb24 (by omega)
    obtain ⟨w6, hst6, hbx6, hoth6, hbel6, _⟩ := hr5.store most (.slice ao nn cap) rfl
    obtain ⟨r0, r1, _⟩ := hbx6.read
    have hb4w := hb2.on hb24
    have HI6 := Lib.hid (items_on HI.out fun k hk hlt => (hoth6 k (by omega)).trans (hb4w.block k hlt))
    have HB6 := Lib.hid (hbel6 _ _ hb4w (Nat.le_succ _))
    clear hb3 hb4 hx4 hq hr hb2 hb24 hL hb4w hr5 hbx6 hoth6 hbel6
    go_wp2_with fail
    refine bodyPost_ret (v := .tuple #[.agg #[.int .i64 most, .slice ao nn cap], .string ⟨#[]⟩, .bool false]) (by simp [results, Try.results25, go_sem, r0, r1]) rfl ?_
    rw [HL.out.1, HL.out.2]
    exact ⟨_, rfl, HI6.out, HB6.out⟩
end KA
end Go.Proofs.Ytomgiemnkbjebaa
