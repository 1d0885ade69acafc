/- Contracts of find, and of the reference's Rows and Find. -/
import Derived.Test.YtpjnmokofdldmaaDoorOpT
namespace Go.Proofs.YtpjnmokofdldmaaDoor
set_option maxRecDepth 100000
open Go.ChangeShapes Go.WideShapes Go.ChangeAt Go.RowKit Go.PlainAid

attribute [local go_sem ↓ high] index_rule load_tab
theorem store_r (p v : Value) : Instr.storeAt 69 p v = storeS 69 p v := rfl
attribute [local go_sem ↓ high] store_r
def cells5 (a b c d e : Int) : Array Value := #[.int .i64 a, .int .i64 b, .int .i64 c, .int .i64 d, .int .i64 e]
theorem one5 (a b c d e : Int) : (cells5 a b c d e).all (·.oneCell') = true := by simp [cells5, Value.oneCell']
/-- A rule stored into a block that holds one. -/
theorem store_rule {w : World} {b : Nat} {c : Array Value} (h : w.heap[b]? = some (.cells c 69 (0, 0))) (hc : c.size = 5) (x0 x1 x2 x3 x4 : Int) :
    (storeS 69 (.pointer (some ⟨b, 0, none⟩)) (.agg #[.int .i64 x0, .int .i64 x1, .int .i64 x2, .int .i64 x3, .int .i64 x4])).run Tryd.prog w = .ok () (w.setRow b (cells5 x0 x1 x2 x3 x4)) := by
  have hsz : (Tryd.prog.info? 69).map (·.size) = some 5 := by kernel_rfl
  have h := run_storeVar_row (P := Tryd.prog) w b 69 69 c (cells5 x0 x1 x2 x3 x4) h (by rw [hsz]; rfl) hc (one5 ..)
  unfold storeS
  simp only [Instr.storeAt, Instr.sureAddr, Sem.run_bind, Sem.run_pure, Result.andThen_ok]
  exact h
theorem store_rule_new (w : World) (c : Array Value) (hc : c.size = 5) (x0 x1 x2 x3 x4 : Int) :
    (storeS 69 (.pointer (some ⟨w.heap.size, 0, none⟩)) (.agg #[.int .i64 x0, .int .i64 x1, .int .i64 x2, .int .i64 x3, .int .i64 x4])).run Tryd.prog (w.alloc (.cells c 69)) = .ok () (w.alloc (.cells #[.int .i64 x0, .int .i64 x1, .int .i64 x2, .int .i64 x3, .int .i64 x4] 69)) := by
  rw [store_rule (heap_alloc_new w _) hc, setRow_alloc]
  rfl
/-- What find tells. -/
def foundV : Option RowV → Value
  | none => .tuple #[.agg #[.int .i64 0, .int .i64 0, .int .i64 0, .int .i64 0, .int .i64 0], .bool false]
  | some r => .tuple #[.agg #[.int .i64 r.kind, .int .i64 r.meth, .int .i64 r.needs, .int .i64 r.low, .int .i64 r.high], .bool true]
set_option maxHeartbeats 1000000 in
theorem find_any (kind meth : Int) (w : World) (hR : RulesAt w) :
    Calls Tryd.prog 44 #[.int .i64 kind, .int .i64 meth] w fun e w' => e = .returned (foundV (ruleOf kind meth)) ∧ Below w.heap.size w w' := by
  have q1 := heap_alloc_new w (.cells #[.int .i64 0, .int .i64 0, .int .i64 0, .int .i64 0, .int .i64 0] 69)
  have hb1 : Below w.heap.size w (w.alloc (.cells #[.int .i64 0, .int .i64 0, .int .i64 0, .int .i64 0, .int .i64 0] 69)) := by go_grown
  have z1 : (w.alloc (.cells #[.int .i64 0, .int .i64 0, .int .i64 0, .int .i64 0, .int .i64 0] 69)).heap.size = w.heap.size + 1 := by simp
  have ld := load_rules (hR.on hb1)
  clear hR
  go_enter Tryd.func44, Tryd.ntmps44
  go_wp2_with fail
  generalize w.alloc (.cells #[.int .i64 0, .int .i64 0, .int .i64 0, .int .i64 0, .int .i64 0] 69) = W1 at *
  have Q1 := Lib.hid q1
  have HB1 := Lib.hid hb1
  have Z1 := Lib.hid z1
  clear q1 hb1 z1 ld
  go_loopw [9] (fun i wr => ∃ k : Nat, k ≤ 15 ∧ i = .int .i64 k ∧ Hid (∀ (j : Nat) r, j < k → tab[j]? = some r → ¬ (r.kind = kind ∧ r.meth = meth)) ∧ Below W1.heap.size W1 wr) (fun i _ => 15 - (intOf i).toNat)
  case atStart => exact ⟨0, Nat.zero_le _, rfl, fun _ _ h => absurd h (Nat.not_lt_zero _), Below.refl _ _⟩
  case round =>
    obtain ⟨k, hk, rfl, HN, hb⟩ := hrel
    have HB := Lib.hid hb
    by_cases hlt : k < 15
    · obtain ⟨x, hx⟩ : ∃ x, tab[k]? = some x := ⟨_, List.getElem?_eq_getElem (by rw [tab_len]; exact hlt)⟩
      have hi := run_idx k x hx wr
      have hs := store_rule_new wr #[.int .i64 0, .int .i64 0, .int .i64 0, .int .i64 0, .int .i64 0] rfl x.kind x.meth x.needs x.low x.high
      have HX := Lib.hid hx
      clear hx hb
      by_cases c1 : x.kind = kind
      · by_cases c2 : x.meth = meth
        · subst c1
          subst c2
          have hbw := Lib.hid (HB1.out.on HB.out)
          have q2 : ((wr.alloc (.cells #[.int .i64 x.kind, .int .i64 x.meth, .int .i64 x.needs, .int .i64 x.low, .int .i64 x.high] 69))).heap[w.heap.size]? = some (.cells #[.int .i64 0, .int .i64 0, .int .i64 0, .int .i64 0, .int .i64 0] 69 (0, 0)) := by
            have hlt1 : w.heap.size < W1.heap.size := by have := Z1.out; omega
            have hb2 : Below W1.heap.size W1 (wr.alloc (.cells #[.int .i64 x.kind, .int .i64 x.meth, .int .i64 x.needs, .int .i64 x.low, .int .i64 x.high] 69)) := HB.out.alloc HB.out.size _
            exact (hb2.block _ hlt1).trans Q1.out
          have hs2 := store_rule q2 rfl x.kind x.meth x.needs x.low x.high
          have hq3 := setRow_heap _ _ _ (cells5 x.kind x.meth x.needs x.low x.high) _ _ q2
          have hk3 : Keeps (fun j => j = w.heap.size) (wr.alloc (.cells #[.int .i64 x.kind, .int .i64 x.meth, .int .i64 x.needs, .int .i64 x.low, .int .i64 x.high] 69)) ((wr.alloc (.cells #[.int .i64 x.kind, .int .i64 x.meth, .int .i64 x.needs, .int .i64 x.low, .int .i64 x.high] 69)).setRow w.heap.size (cells5 x.kind x.meth x.needs x.low x.high)) := Keeps.setRow (own := fun j => j = w.heap.size) (Keeps.refl _ _) (.inl rfl) _
          have hbw2 : Below w.heap.size w ((wr.alloc (.cells #[.int .i64 x.kind, .int .i64 x.meth, .int .i64 x.needs, .int .i64 x.low, .int .i64 x.high] 69)).setRow w.heap.size (cells5 x.kind x.meth x.needs x.low x.high)) :=
            (hbw.out.alloc hbw.out.size _).trans (hk3.below (fun _ e => by rw [e]; exact Nat.le_refl _) (by have := hbw.out.size; simp; omega))
          obtain ⟨W3, hW3⟩ : ∃ W3, (wr.alloc (.cells #[.int .i64 x.kind, .int .i64 x.meth, .int .i64 x.needs, .int .i64 x.low, .int .i64 x.high] 69)).setRow w.heap.size (cells5 x.kind x.meth x.needs x.low x.high) = W3 := ⟨_, rfl⟩
          rw [hW3] at hs2 hq3 hbw2
          have HQ3 := Lib.hid hq3
          have HB3 := Lib.hid hbw2
          have HF := Lib.hid (rule_some HX.out rfl rfl HN.out)
          clear q2 hq3 hk3 hbw2 hW3
          go_wp2_with fail
          have hq3 := HQ3.out
          refine bodyPost_ret (v := .tuple #[.agg #[.int .i64 x.kind, .int .i64 x.meth, .int .i64 x.needs, .int .i64 x.low, .int .i64 x.high], .bool true]) (by simp [results, Tryd.results44, go_sem, cell_of_row _ _ _ _ _ _ hq3, cells5]) rfl ?_
          exact ⟨by rw [HF.out]; rfl, HB3.out⟩
        · have c' : (x.meth == meth) = false := beq_eq_false_iff_ne.2 c2
          subst c1
          go_wp2_with fail
          go_roundw
          case rel => exact ⟨k + 1, by omega, by go_num, fun j r hj hr => by
            by_cases e : j = k
            · subst e
              rw [HX.out] at hr
              cases hr
              exact fun d => c2 d.2
            · exact HN.out j r (by omega) hr, HB.out.alloc HB.out.size _⟩
          case measure => simp [intOf]; omega
      · have c' : (x.kind == kind) = false := beq_eq_false_iff_ne.2 c1
        go_wp2_with fail
        go_roundw
        case rel => exact ⟨k + 1, by omega, by go_num, fun j r hj hr => by
          by_cases e : j = k
          · subst e
            rw [HX.out] at hr
            cases hr
            exact fun d => c1 d.1
          · exact HN.out j r (by omega) hr, HB.out.alloc HB.out.size _⟩
        case measure => simp [intOf]; omega
    · obtain rfl : k = 15 := by omega
      clear hb
      have hbw := Lib.hid (HB1.out.on HB.out)
      have q2 : wr.heap[w.heap.size]? = some (.cells #[.int .i64 0, .int .i64 0, .int .i64 0, .int .i64 0, .int .i64 0] 69 (0, 0)) := by
        have hlt1 : w.heap.size < W1.heap.size := by have := Z1.out; omega
        exact (HB.out.block _ hlt1).trans Q1.out
      have hs2 := store_rule q2 rfl 0 0 0 0 0
      have hq3 := setRow_heap _ _ _ (cells5 0 0 0 0 0) _ _ q2
      have hk3 : Keeps (fun j => j = w.heap.size) wr (wr.setRow w.heap.size (cells5 0 0 0 0 0)) := Keeps.setRow (own := fun j => j = w.heap.size) (Keeps.refl _ _) (.inl rfl) _
      have hbw2 : Below w.heap.size w (wr.setRow w.heap.size (cells5 0 0 0 0 0)) :=
        hbw.out.trans (hk3.below (fun _ e => by rw [e]; exact Nat.le_refl _) hbw.out.size)
      obtain ⟨W3, hW3⟩ : ∃ W3, wr.setRow w.heap.size (cells5 0 0 0 0 0) = W3 := ⟨_, rfl⟩
      rw [hW3] at hs2 hq3 hbw2
      have HQ3 := Lib.hid hq3
      have HB3 := Lib.hid hbw2
      have HF := Lib.hid (rule_none (kind := kind) (meth := meth) fun j r hr => HN.out j r (by have := (List.getElem?_eq_some_iff.1 hr).1; rw [tab_len] at this; exact this) hr)
      clear q2 hq3 hk3 hbw2 hW3
      go_wp2_with fail
      have hq3 := HQ3.out
      refine bodyPost_ret (v := .tuple #[.agg #[.int .i64 0, .int .i64 0, .int .i64 0, .int .i64 0, .int .i64 0], .bool false]) (by simp [results, Tryd.results44, go_sem, cell_of_row _ _ _ _ _ _ hq3, cells5]) rfl ?_
      exact ⟨by rw [HF.out]; rfl, HB3.out⟩
end Go.Proofs.YtpjnmokofdldmaaDoor
