/- Contracts of the reference's Rows and Find. -/
import Derived.Test.YtgedlfilhpbfaaaOpT
namespace Go.Proofs.Ytgedlfilhpbfaaa
set_option maxRecDepth 100000
open Go.ChangeShapes Go.WideShapes Go.ChangeAt Go.RowKit Go.PlainAid

def RowV.rcells (r : RowV) : List Value := [.int .i64 r.kind, .int .i64 r.meth, .int .i64 r.needs, .int .i64 r.how]
def rtabCells : List Value := tab.flatMap RowV.rcells
set_option maxHeartbeats 1000000 in
theorem rows_any (w : World) : Calls Try.prog 35 #[] w fun e w' => e = .returned (.slice (some ⟨w.heap.size, 0, none⟩) 15 15) ∧ w' = w.alloc (.cells rtabCells.toArray 49) := by
  go_enter Try.func35, Try.ntmps35
  go_wp2
  go_returns
  exact ⟨rfl, rfl⟩
theorem rcell (k : Nat) (r : RowV) (h : tab[k]? = some r) : rtabCells.toArray[k * 4]? = some (.int .i64 r.kind) ∧ rtabCells.toArray[k * 4 + 1]? = some (.int .i64 r.meth) ∧ rtabCells.toArray[k * 4 + 2]? = some (.int .i64 r.needs) ∧ rtabCells.toArray[k * 4 + 3]? = some (.int .i64 r.how) :=
  match k, h with
  | 0, h => by cases h; exact ⟨rfl, rfl, rfl, rfl⟩
  | 1, h => by cases h; exact ⟨rfl, rfl, rfl, rfl⟩
  | 2, h => by cases h; exact ⟨rfl, rfl, rfl, rfl⟩
  | 3, h => by cases h; exact ⟨rfl, rfl, rfl, rfl⟩
  | 4, h => by cases h; exact ⟨rfl, rfl, rfl, rfl⟩
  | 5, h => by cases h; exact ⟨rfl, rfl, rfl, rfl⟩
  | 6, h => by cases h; exact ⟨rfl, rfl, rfl, rfl⟩
  | 7, h => by cases h; exact ⟨rfl, rfl, rfl, rfl⟩
  | 8, h => by cases h; exact ⟨rfl, rfl, rfl, rfl⟩
  | 9, h => by cases h; exact ⟨rfl, rfl, rfl, rfl⟩
  | 10, h => by cases h; exact ⟨rfl, rfl, rfl, rfl⟩
  | 11, h => by cases h; exact ⟨rfl, rfl, rfl, rfl⟩
  | 12, h => by cases h; exact ⟨rfl, rfl, rfl, rfl⟩
  | 13, h => by cases h; exact ⟨rfl, rfl, rfl, rfl⟩
  | 14, h => by cases h; exact ⟨rfl, rfl, rfl, rfl⟩
  | k + 15, h => by rw [List.getElem?_eq_none (by rw [tab_len]; omega)] at h; cases h
theorem store_w (p v : Value) : Instr.storeAt 49 p v = storeS 49 p v := rfl
attribute [local go_sem ↓ high] store_w
def cells4r (a b c d : Int) : Array Value := #[.int .i64 a, .int .i64 b, .int .i64 c, .int .i64 d]
theorem one4r (a b c d : Int) : (cells4r a b c d).all (·.oneCell') = true := by simp [cells4r, Value.oneCell']
/-- A row stored into a block that holds one. -/
theorem store_row {w : World} {b : Nat} {c : Array Value} (h : w.heap[b]? = some (.cells c 49 (0, 0))) (hc : c.size = 4) (x0 x1 x2 x3 : Int) :
    (storeS 49 (.pointer (some ⟨b, 0, none⟩)) (.agg #[.int .i64 x0, .int .i64 x1, .int .i64 x2, .int .i64 x3])).run Try.prog w = .ok () (w.setRow b (cells4r x0 x1 x2 x3)) := by
  have hsz : (Try.prog.info? 49).map (·.size) = some 4 := by kernel_rfl
  have h := run_storeVar_row (P := Try.prog) w b 49 49 c (cells4r x0 x1 x2 x3) h (by rw [hsz]; rfl) hc (one4r ..)
  unfold storeS
  simp only [Instr.storeAt, Instr.sureAddr, Sem.run_bind, Sem.run_pure, Result.andThen_ok]
  exact h
/-- What the reference's Find tells. -/
def rfoundV : Option RowV → Value
  | none => .tuple #[.agg #[.int .i64 0, .int .i64 0, .int .i64 0, .int .i64 0], .bool false]
  | some r => .tuple #[.agg #[.int .i64 r.kind, .int .i64 r.meth, .int .i64 r.needs, .int .i64 r.how], .bool true]
set_option maxHeartbeats 1000000 in
theorem rfind10_any (kind meth : Int) (w : World) :
    Calls Try.prog 31 #[.int .i64 kind, .int .i64 meth] w fun e w' => e = .returned (rfoundV (ruleOf kind meth)) ∧ Below w.heap.size w w' := by
  have q1 := heap_alloc_new w (.cells #[.int .i64 0, .int .i64 0, .int .i64 0, .int .i64 0] 49)
  have hb1 : Below w.heap.size w (w.alloc (.cells #[.int .i64 0, .int .i64 0, .int .i64 0, .int .i64 0] 49)) := by go_grown
  have z1 : (w.alloc (.cells #[.int .i64 0, .int .i64 0, .int .i64 0, .int .i64 0] 49)).heap.size = w.heap.size + 1 := by simp
  go_enter Try.func31, Try.ntmps31
  go_wp2_with fail
  generalize w.alloc (.cells #[.int .i64 0, .int .i64 0, .int .i64 0, .int .i64 0] 49) = W1 at *
  refine (rows_any W1).mono ?_
  rintro _ W2 ⟨rfl, hw2⟩
  have hq := heap_alloc_new W1 (.cells rtabCells.toArray 49)
  have hb2 : Below W1.heap.size W1 (W1.alloc (.cells rtabCells.toArray 49)) := by go_grown
  rw [← hw2, z1] at hq
  rw [← hw2] at hb2
  rw [z1]
  have Q2 := Lib.hid ((hb2.block w.heap.size (by rw [z1]; omega)).trans q1)
  have HB2 := Lib.hid (hb1.on hb2)
  have HC := Lib.hid fun (k : Nat) (i : Nat) v (h : rtabCells.toArray[i]? = some v) => (show W2.cell? ⟨w.heap.size + 1, i, none⟩ = some v by rw [cell_of_row _ _ _ _ _ _ hq]; exact h)
  clear hw2 hq hb2 q1 hb1 z1
  go_wp2_with fail
  go_loopw [7] (fun i wr => ∃ k : Nat, k ≤ 15 ∧ i = .int .i64 k ∧ Hid (∀ (j : Nat) r, j < k → tab[j]? = some r → ¬ (r.kind = kind ∧ r.meth = meth)) ∧ wr = W2) (fun i _ => 15 - (intOf i).toNat)
  case atStart => exact ⟨0, Nat.zero_le _, rfl, fun _ _ h => absurd h (Nat.not_lt_zero _), rfl⟩
  case round =>
    obtain ⟨k, hk, rfl, HN, rfl⟩ := hrel
    by_cases hlt : k < 15
    · obtain ⟨x, hx⟩ : ∃ x, tab[k]? = some x := ⟨_, List.getElem?_eq_getElem (by rw [tab_len]; exact hlt)⟩
      obtain ⟨r0, r1, r2, r3⟩ := rcell k x hx
      have c0 := HC.out 0 _ _ r0
      have c1 := HC.out 0 _ _ r1
      have c2 := HC.out 0 _ _ r2
      have c3 := HC.out 0 _ _ r3
      have HX := Lib.hid hx
      clear hx r0 r1 r2 r3
      by_cases e1 : x.kind = kind
      · by_cases e2 : x.meth = meth
        · subst e1
          subst e2
          have hs2 := store_row Q2.out rfl x.kind x.meth x.needs x.how
          have hq3 := setRow_heap _ _ _ (cells4r x.kind x.meth x.needs x.how) _ _ Q2.out
          have hk3 : Keeps (fun j => j = w.heap.size) wr (wr.setRow w.heap.size (cells4r x.kind x.meth x.needs x.how)) := Keeps.setRow (own := fun j => j = w.heap.size) (Keeps.refl _ _) (.inl rfl) _
          have hbw2 : Below w.heap.size w (wr.setRow w.heap.size (cells4r x.kind x.meth x.needs x.how)) :=
            HB2.out.trans (hk3.below (fun _ e => by rw [e]; exact Nat.le_refl _) HB2.out.size)
          obtain ⟨W3, hW3⟩ : ∃ W3, wr.setRow w.heap.size (cells4r x.kind x.meth x.needs x.how) = W3 := ⟨_, rfl⟩
          rw [hW3] at hs2 hq3 hbw2
          have HQ3 := Lib.hid hq3
          have HB3 := Lib.hid hbw2
          have HF := Lib.hid (rule_some HX.out rfl rfl HN.out)
          clear hq3 hk3 hbw2 hW3
          go_wp2_with fail
          have hq3 := HQ3.out
          refine bodyPost_ret (v := .tuple #[.agg #[.int .i64 x.kind, .int .i64 x.meth, .int .i64 x.needs, .int .i64 x.how], .bool true]) (by simp [results, Try.results31, go_sem, cell_of_row _ _ _ _ _ _ hq3, cells4r]) rfl ?_
          exact ⟨by rw [HF.out]; rfl, HB3.out⟩
        · have c' : (x.meth == meth) = false := beq_eq_false_iff_ne.2 e2
          subst e1
          go_wp2_with fail
          go_roundw
          case rel => exact ⟨k + 1, by omega, by go_num, fun j r hj hr => by
            by_cases e : j = k
            · subst e
              rw [HX.out] at hr
              cases hr
              exact fun d => e2 d.2
            · exact HN.out j r (by omega) hr, by first | rfl | trivial⟩
          case measure => simp [intOf]; omega
      · have c' : (x.kind == kind) = false := beq_eq_false_iff_ne.2 e1
        go_wp2_with fail
        go_roundw
        case rel => exact ⟨k + 1, by omega, by go_num, fun j r hj hr => by
          by_cases e : j = k
          · subst e
            rw [HX.out] at hr
            cases hr
            exact fun d => e1 d.1
          · exact HN.out j r (by omega) hr, by first | rfl | trivial⟩
        case measure => simp [intOf]; omega
    · obtain rfl : k = 15 := by omega
      have hs2 := store_row Q2.out rfl 0 0 0 0
      have hq3 := setRow_heap _ _ _ (cells4r 0 0 0 0) _ _ Q2.out
      have hk3 : Keeps (fun j => j = w.heap.size) wr (wr.setRow w.heap.size (cells4r 0 0 0 0)) := Keeps.setRow (own := fun j => j = w.heap.size) (Keeps.refl _ _) (.inl rfl) _
      have hbw2 : Below w.heap.size w (wr.setRow w.heap.size (cells4r 0 0 0 0)) :=
        HB2.out.trans (hk3.below (fun _ e => by rw [e]; exact Nat.le_refl _) HB2.out.size)
      obtain ⟨W3, hW3⟩ : ∃ W3, wr.setRow w.heap.size (cells4r 0 0 0 0) = W3 := ⟨_, rfl⟩
      rw [hW3] at hs2 hq3 hbw2
      have HQ3 := Lib.hid hq3
      have HB3 := Lib.hid hbw2
      have HF := Lib.hid (rule_none (kind := kind) (meth := meth) fun j r hr => HN.out j r (by have := (List.getElem?_eq_some_iff.1 hr).1; rw [tab_len] at this; exact this) hr)
      clear hq3 hk3 hbw2 hW3
      go_wp2_with fail
      have hq3 := HQ3.out
      refine bodyPost_ret (v := .tuple #[.agg #[.int .i64 0, .int .i64 0, .int .i64 0, .int .i64 0], .bool false]) (by simp [results, Try.results31, go_sem, cell_of_row _ _ _ _ _ _ hq3, cells4r]) rfl ?_
      exact ⟨by rw [HF.out]; rfl, HB3.out⟩
end Go.Proofs.Ytgedlfilhpbfaaa
