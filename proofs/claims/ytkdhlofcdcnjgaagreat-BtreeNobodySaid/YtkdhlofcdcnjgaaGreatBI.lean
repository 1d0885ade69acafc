/- Package btree: a range over what gives nothing; trees that there are not. Package btree: calls of trees that there are not. Package btree: more calls of trees that there are not. Package btree: From's iterator of no tree. Package btree: From, All of no tree. Package btree: the law's all and some of no tree; Count. Package btree: Count of no tree. Package btree: Open of no pager. -/
import Derived.Test.YtkdhlofcdcnjgaaGreatBB
import Derived.Test.YtkdhlofcdcnjgaaGreatBE
import Derived.Test.YtkdhlofcdcnjgaaGreatBF
import Derived.Test.YtkdhlofcdcnjgaaGreatGT
namespace Go.Proofs.YtkdhlofcdcnjgaaGreat
set_option maxRecDepth 100000
open Go.ChangeShapes Go.WideShapes Go.ChangeAt Go.RowKit Go.PlainAid Go.Shelf
open Go.Sort (grow)

attribute [local go_sem ↓ high] store_n
attribute [local go_sem] Oper.semAt_some
theorem wpIn_noRounds {g : Operand} {ps : Array Tmp} {assign body : Code} {Q : Exit → Act → World → Prop} {a : Act} {w : World} {m : Nat}
    {gf : Nat} {lb : Array Value}
    (hg : a.eval g = .func (.func gf) #[] lb) (eg : ∀ args w, (callFunc gf args).run Tryz.prog w = .ok (.enter gf args) w)
    (hseq : ∀ (l : Nat) (W : World), Below w.heap.size w W → CallsIn Fence.wide (m - 1) Tryz.prog gf (#[.func (.yield l) #[] #[]] ++ lb) W fun e W' => (∃ v, e = .returned v) ∧ Below W.heap.size W W')
    (hdone : ∀ W : World, Below w.heap.size w W → W.heap[w.heap.size]? = some (.deferred (some [])) → Q .normal { a with defers := { target := .collected w.heap.size, args := #[] } :: a.defers } W) :
    (Code.rangeFunc g ps assign body).wpIn Fence.wide m Tryz.prog Q a w := by
  refine wpIn_rangeFunc ?_
  intro fn hfn
  obtain ⟨rec, hrec⟩ : ∃ rec : LoopState → Option Code → Loop, rec = fun st pe => { state := st, pending := pe, fn, tmps := a.tmps, params := ps, assign, body, defers := w.heap.size } := ⟨_, rfl⟩
  obtain ⟨W1, hW1⟩ : ∃ W1, (w.alloc (.deferred (some []))).alloc (.loop (rec .ready none)) = W1 := ⟨_, rfl⟩
  have hb1 : Below w.heap.size w W1 := by rw [← hW1]; go_grown
  have hsz : W1.heap.size = w.heap.size + 2 := by rw [← hW1]; simp
  have h1 : W1.heap[w.heap.size + 1]? = some (.loop (rec .ready none)) := by
    rw [← hW1]
    have := heap_alloc_new (w.alloc (.deferred (some []))) (.loop (rec .ready none))
    rw [World.size_alloc] at this
    exact this
  have h0 : W1.heap[w.heap.size]? = some (.deferred (some [])) := by
    rw [← hW1]
    have q : Below (w.alloc (.deferred (some []))).heap.size (w.alloc (.deferred (some []))) ((w.alloc (.deferred (some []))).alloc (.loop (rec .ready none))) := by go_grown
    exact (q.block _ (by rw [World.size_alloc]; omega)).trans (heap_alloc_new w _)
  refine ⟨w.heap.size + 1, [{ target := .collected w.heap.size, args := #[] }], W1, { target := .fn (.func gf) lb, args := #[.func (.yield (w.heap.size + 1)) #[] #[]] }, W1, gf,
    #[.func (.yield (w.heap.size + 1)) #[] #[]] ++ lb, W1, ?_, ?_, ?_, ?_, (fun h => by cases h), ?_⟩
  · rw [← hW1, hrec]; exact run_enterLoop_outer _ _ _ _ _
  · simp only [resolve, hg]
    simp [go_sem]
  · intro f' _
    trivial
  · simp [invoke, go_sem, eg]
  · refine (hseq (w.heap.size + 1) W1 hb1).mono ?_
    rintro e W2 ⟨⟨v, rfl⟩, hb⟩
    have h3 : W2.heap[w.heap.size + 1]? = some (.loop (rec .ready none)) := (hb.block _ (by omega)).trans h1
    have h4 : W2.heap[w.heap.size]? = some (.deferred (some [])) := (hb.block _ (by omega)).trans h0
    have hend := run_endLoop (P := Tryz.prog) h3 (by rw [hrec]; simp)
    rw [hrec] at hend
    refine ⟨none, _, hend, hdone _ ?_ ?_⟩
    · have hb2 : Below w.heap.size w W2 := hb1.trans (hb.mono (by omega))
      exact ⟨hb2.os, hb2.tape, hb2.output, by simp; exact hb2.size, fun k hk => (World.putObj_heap_other (by omega)).trans (hb2.block k hk)⟩
    · exact (World.putObj_heap_other (by omega)).trans h4
/-- A tree's fields, when nothing made it. -/
def blankT : Obj := .cells #[.pointer none, .int .i64 0] 50 (0, 0)
def NoTree (w : World) (v : Value) : Prop := v = .pointer none ∨ ∃ q, v = .pointer (some ⟨q, 0, none⟩) ∧ w.heap[q]? = some blankT
theorem NoTree.on {w w' : World} {v : Value} (h : NoTree w v) (b : Below w.heap.size w w') : NoTree w' v := by
  rcases h with rfl | ⟨q, rfl, h⟩
  · exact .inl rfl
  · exact .inr ⟨q, rfl, (b.block q (heap_lt h)).trans h⟩
theorem tmade_no (w : World) (v : Value) (h : NoTree w v) : Calls Tryz.prog 25 #[v] w fun e w' => e = .returned (.bool false) ∧ w = w' := by
  rcases h with rfl | ⟨q, rfl, h⟩
  · go_enter Tryz.func25, Tryz.ntmps25
    go_wp2
    go_returns
    exact ⟨rfl, rfl⟩
  · have c0 : w.cell? ⟨q, 0, none⟩ = some (.pointer none) := by
      unfold blankT at h
      rw [cell_of_row _ _ _ _ _ _ h]
      rfl
    go_enter Tryz.func25, Tryz.ntmps25
    go_wp2
    go_returns
    exact ⟨rfl, rfl⟩
end Go.Proofs.YtkdhlofcdcnjgaaGreat
namespace Go.Proofs.YtkdhlofcdcnjgaaGreat
set_option maxRecDepth 100000
open Go.ChangeShapes Go.WideShapes Go.ChangeAt Go.RowKit Go.PlainAid Go.Shelf
open Go.Sort (grow)

attribute [local go_sem ↓ high] store_n
attribute [local go_sem] Oper.semAt_some
/-- A call that answers so, and changes nothing that was there. -/
def Says (w : World) (r : Value) (e : Ending) (w' : World) : Prop := e = .returned r ∧ Below w.heap.size w w'
theorem tstart_no (w : World) (v : Value) (h : NoTree w v) : Calls Tryz.prog 34 #[v] w (Says w (.tuple #[.agg zeroN.cells, .int .i64 3])) := by
  obtain ⟨W1, hW1⟩ : ∃ W1, w.alloc (ndO zeroN) = W1 := ⟨_, rfl⟩
  have hb1 : Below w.heap.size w W1 := by rw [← hW1]; go_grown
  have HM := Lib.hid (tmade_no W1 v (h.on hb1))
  have hg : W1.heap[w.heap.size]? = some (ndO zeroN) := by rw [← hW1]; exact heap_alloc_new _ _
  have hst0 := store_nd hg (nd_six zeroN) zeroN
  have HW := Lib.hid hW1
  have hg2 : (W1.setRow w.heap.size zeroN.cells).heap[w.heap.size]? = some (ndO zeroN) := setRow_heap W1 _ _ zeroN.cells _ (0, 0) hg
  have hb2 : Below w.heap.size w (W1.setRow w.heap.size zeroN.cells) := ⟨hb1.os, hb1.tape, hb1.output, by simp; exact hb1.size, fun k hk => (setRow_other W1 _ k _ (by omega)).trans (hb1.block k hk)⟩
  obtain ⟨W2, hW2⟩ : ∃ W2, W1.setRow w.heap.size zeroN.cells = W2 := ⟨_, rfl⟩
  rw [hW2] at hst0 hg2 hb2
  have HB := Lib.hid hb2
  have hst : (storeS 70 (.pointer (some ⟨w.heap.size, 0, none⟩)) (.agg #[.int .i64 0, .int .i64 0, .string ⟨#[]⟩, .string ⟨#[]⟩, .slice none 0 0, .int .i64 0])).run Tryz.prog W1 = .ok () W2 := hst0
  obtain ⟨k0, k1, k2, k3, k4, k5⟩ : W2.cell? ⟨w.heap.size, 0, none⟩ = some (.int .i64 0) ∧ W2.cell? ⟨w.heap.size, 1, none⟩ = some (.int .i64 0) ∧ W2.cell? ⟨w.heap.size, 2, none⟩ = some (.string ⟨#[]⟩) ∧ W2.cell? ⟨w.heap.size, 3, none⟩ = some (.string ⟨#[]⟩) ∧ W2.cell? ⟨w.heap.size, 4, none⟩ = some (.slice none 0 0) ∧ W2.cell? ⟨w.heap.size, 5, none⟩ = some (.int .i64 0) := nd_cells hg2
  clear hst0 hW2 hb2
  clear h hb1 hg hW1 hg2
  go_enter Tryz.func34, Tryz.ntmps34
  go_wp2_with fail
  rw [show (w.alloc (.cells #[.int .i64 0, .int .i64 0, .string ⟨#[]⟩, .string ⟨#[]⟩, .slice none 0 0, .int .i64 0] 70)) = W1 from HW.out]
  refine HM.out.mono ?_
  rintro e _ ⟨rfl, rfl⟩
  go_wp2_with fail
  refine bodyPost_ret (v := .tuple #[.agg zeroN.cells, .int .i64 3]) (by simp [results, Tryz.results34, go_sem, k0, k1, k2, k3, k4, k5, NdM.cells, zeroN]) rfl ?_
  exact ⟨rfl, HB.out⟩
theorem tput_no (w : World) (v : Value) (k s : ByteArray) (h : NoTree w v) : Calls Tryz.prog 8 #[v, .string k, .string s] w (Says w (.int .i64 3)) := by
  have HM := Lib.hid (tmade_no w v h)
  clear h
  go_enter Tryz.func8, Tryz.ntmps8
  go_wp2_with fail
  refine HM.out.mono ?_
  rintro e _ ⟨rfl, rfl⟩
  go_wp2_with fail
  go_returns
  exact ⟨rfl, by go_grown⟩
theorem tway_no (w : World) (v : Value) (k : ByteArray) (h : NoTree w v) : Calls Tryz.prog 26 #[v, .string k] w (Says w (.tuple #[.slice none 0 0, .int .i64 3])) := by
  have HM := Lib.hid (tstart_no w v h)
  clear h
  go_enter Tryz.func26, Tryz.ntmps26
  go_wp2_with fail
  refine HM.out.mono ?_
  rintro e w4 ⟨rfl, hb⟩
  have HB := Lib.hid hb
  have hst := store_nd_fresh w4 zeroN
  obtain ⟨k0, k1, k2, k3, k4, k5⟩ := nd_cells (heap_alloc_new w4 (ndO zeroN))
  have hba : Below w4.heap.size w4 (w4.alloc (ndO zeroN)) := by go_grown
  have HB2 : Hid (Below w.heap.size w (w4.alloc (ndO zeroN))) := Lib.hid (hb.trans (hba.mono hb.size))
  obtain ⟨W5, hW5⟩ : ∃ W5, w4.alloc (ndO zeroN) = W5 := ⟨_, rfl⟩
  rw [hW5] at hst k0 k1 k2 k3 k4 k5 HB2
  have k0' : W5.cell? ⟨w4.heap.size, 0, none⟩ = some (.int .i64 0) := k0
  clear hb hba hW5 k0
  go_wp2_with fail
  go_loopw [6, 8] (fun l e wr => l = .slice none 0 0 ∧ e = .int .i64 3 ∧ wr = W5) (fun _ _ _ => 0)
  case atStart => exact ⟨rfl, rfl, rfl⟩
  case round =>
    obtain ⟨rfl, rfl, rfl⟩ := hrel
    go_wp2_with fail
    go_returns
    exact ⟨rfl, HB2.out⟩
end Go.Proofs.YtkdhlofcdcnjgaaGreat
namespace Go.Proofs.YtkdhlofcdcnjgaaGreat
set_option maxRecDepth 100000
open Go.ChangeShapes Go.WideShapes Go.ChangeAt Go.RowKit Go.PlainAid Go.Shelf
open Go.Sort (grow)

attribute [local go_sem ↓ high] store_n
attribute [local go_sem] Oper.semAt_some
theorem tget_no (w : World) (v : Value) (k : ByteArray) (h : NoTree w v) : Calls Tryz.prog 15 #[v, .string k] w (Says w (.tuple #[.string ⟨#[]⟩, .int .i64 3])) := by
  have HM := Lib.hid (tway_no w v k h)
  clear h
  go_enter Tryz.func15, Tryz.ntmps15
  go_wp2_with fail
  refine HM.out.mono ?_
  rintro e w4 ⟨rfl, hb⟩
  have HB := Lib.hid hb
  clear hb
  go_wp2_with fail
  go_returns
  exact ⟨rfl, HB.out⟩
theorem tdel_no (w : World) (v : Value) (k : ByteArray) (h : NoTree w v) : Calls Tryz.prog 16 #[v, .string k] w (Says w (.int .i64 3)) := by
  have HM := Lib.hid (tway_no w v k h)
  clear h
  go_enter Tryz.func16, Tryz.ntmps16
  go_wp2_with fail
  refine HM.out.mono ?_
  rintro e w4 ⟨rfl, hb⟩
  have HB := Lib.hid hb
  clear hb
  go_wp2_with fail
  go_returns
  exact ⟨rfl, HB.out⟩
def boxV (v : Value) : Obj := .cells #[v] 28 (0, 0)
theorem boxV_cell {w : World} {b : Nat} {v : Value} (h : w.heap[b]? = some (boxV v)) : w.cell? ⟨b, 0, none⟩ = some v := by
  unfold boxV at h
  rw [cell_of_row _ _ _ _ _ _ h]
  rfl
theorem nodes1_no (w : World) (v yv : Value) (bt bf : Nat) (h : NoTree w v) (h1 : w.heap[bt]? = some (boxV v)) :
    Calls Tryz.prog 74 #[yv, .pointer (some ⟨bt, 0, none⟩), .pointer (some ⟨bf, 0, none⟩)] w (Says w (.tuple #[])) := by
  have c1 := boxV_cell h1
  have HM := Lib.hid (tstart_no w v h)
  clear h h1
  go_enter Tryz.func74, Tryz.ntmps74
  go_wp2_with fail
  refine HM.out.mono ?_
  rintro e w4 ⟨rfl, hb⟩
  have hst := store_nd_fresh w4 zeroN
  obtain ⟨k0, k1, k2, k3, k4, k5⟩ := nd_cells (heap_alloc_new w4 (ndO zeroN))
  have hba : Below w4.heap.size w4 (w4.alloc (ndO zeroN)) := by go_grown
  have HB2 : Hid (Below w.heap.size w (w4.alloc (ndO zeroN))) := Lib.hid (hb.trans (hba.mono hb.size))
  obtain ⟨W5, hW5⟩ : ∃ W5, w4.alloc (ndO zeroN) = W5 := ⟨_, rfl⟩
  rw [hW5] at hst k0 k1 k2 k3 k4 k5 HB2
  have k0' : W5.cell? ⟨w4.heap.size, 0, none⟩ = some (.int .i64 0) := k0
  clear hb hba hW5 k0
  go_wp2_with fail
  go_returns
  exact ⟨rfl, HB2.out⟩
end Go.Proofs.YtkdhlofcdcnjgaaGreat
namespace Go.Proofs.YtkdhlofcdcnjgaaGreat
set_option maxRecDepth 100000
open Go.ChangeShapes Go.WideShapes Go.ChangeAt Go.RowKit Go.PlainAid Go.Shelf
open Go.Sort (grow)

attribute [local go_sem ↓ high] store_n
attribute [local go_sem] Oper.semAt_some
theorem nodes_mk_v (ao : Option Addr) (from_ : ByteArray) (w : World) :
    Calls Tryz.prog 35 #[.pointer ao, .string from_] w fun e w' => e = .returned (.func (.func 74) #[] #[.pointer (some ⟨w.heap.size, 0, none⟩), .pointer (some ⟨w.heap.size + 1, 0, none⟩)]) ∧ (w.alloc (boxV (.pointer ao))).alloc (boxS from_) = w' := by
  have hmf := make_func
  go_enter Tryz.func35, Tryz.ntmps35
  go_wp2
  go_returns
  exact ⟨rfl, rfl⟩
theorem from1_no (w : World) (ao : Option Addr) (fn : Fn) (caps : Array Value) (bt bf : Nat) (s : ByteArray) (h : NoTree w (.pointer ao)) (h1 : w.heap[bt]? = some (boxV (.pointer ao))) (h2 : w.heap[bf]? = some (boxS s)) :
    Calls Tryz.prog 76 #[.func fn #[] caps, .pointer (some ⟨bt, 0, none⟩), .pointer (some ⟨bf, 0, none⟩)] w (Says w (.tuple #[])) := by
  have hnil := eq_yieldS
  obtain ⟨W1, hW1⟩ : ∃ W1, w.alloc (.cells #[.func fn #[] caps] 83) = W1 := ⟨_, rfl⟩
  have hb1 : Below w.heap.size w W1 := by rw [← hW1]; go_grown
  have hsz : W1.heap.size = w.heap.size + 1 := by rw [← hW1]; simp
  have c1 := boxV_cell ((hb1.block bt (heap_lt h1)).trans h1)
  have c2 := boxS_cell ((hb1.block bf (heap_lt h2)).trans h2)
  have hn := h.on hb1
  have HN : Hid (∀ (l : Nat) (W : World), Below (W1.heap.size + 2) ((W1.alloc (boxV (.pointer ao))).alloc (boxS s)) W → Calls Tryz.prog 74 #[.func (.yield l) #[] #[], .pointer (some ⟨W1.heap.size, 0, none⟩), .pointer (some ⟨W1.heap.size + 1, 0, none⟩)] W (Says W (.tuple #[]))) := Lib.hid (fun l W hb => by
    have hbb : Below W1.heap.size W1 ((W1.alloc (boxV (.pointer ao))).alloc (boxS s)) := by go_grown
    have hq : ((W1.alloc (boxV (.pointer ao))).alloc (boxS s)).heap.size = W1.heap.size + 2 := by simp
    have hbq : Below ((W1.alloc (boxV (.pointer ao))).alloc (boxS s)).heap.size ((W1.alloc (boxV (.pointer ao))).alloc (boxS s)) W := by rw [hq]; exact hb
    have e1 : ((W1.alloc (boxV (.pointer ao))).alloc (boxS s)).heap[W1.heap.size]? = some (boxV (.pointer ao)) := by
      have q : Below (W1.alloc (boxV (.pointer ao))).heap.size (W1.alloc (boxV (.pointer ao))) ((W1.alloc (boxV (.pointer ao))).alloc (boxS s)) := by go_grown
      exact (q.block _ (by rw [World.size_alloc]; omega)).trans (heap_alloc_new W1 _)
    exact nodes1_no W (.pointer ao) _ _ _ ((hn.on hbb).on hbq) ((hbq.block _ (by rw [hq]; omega)).trans e1))
  have HW := Lib.hid hW1
  rw [← hW1] at c1 c2
  have HB := Lib.hid hb1
  clear h h1 h2 hn hW1 hb1
  refine (callsIn_wide (n := 10)).1 ?_
  refine callsIn_of_wp_marks Tryz.func76 rfl trivial ?_ rfl
  simp only [Tryz.ntmps76, List.size_toArray, List.length_cons, List.length_nil, Nat.reduceAdd, Nat.reduceSub, Array.replicate_succ, Array.replicate_zero, List.push_toArray, List.append_toArray, List.nil_append, List.cons_append]
  refine wpIn_wide.2 ?_
  go_wp2_with fail
  rw [show w.alloc (.cells #[.func fn #[] caps] 83) = W1 from HW.out]
  refine (nodes_mk_v _ _ _).mono ?_
  rintro e _ ⟨rfl, rfl⟩
  clear c1 c2
  go_wp2_with fail
  refine (wpIn_wide (n := 9)).1 ?_
  refine wpIn_noRounds (gf := 74) (lb := #[.pointer (some ⟨w.heap.size + 1, 0, none⟩), .pointer (some ⟨w.heap.size + 1 + 1, 0, none⟩)]) rfl (enters_of Tryz.func74 (by kernel_rfl) rfl) (fun l W hb => ?_) (fun W hb hd => ?_)
  · have HN2 := HN.out
    rw [hsz] at HN2
    rw [World.size_alloc, World.size_alloc, hsz] at hb
    refine callsIn_wide.2 ((HN2 l W hb).mono ?_)
    rintro e W' ⟨rfl, h⟩
    exact ⟨⟨_, rfl⟩, h⟩
  · have hbw : Below W1.heap.size W1 ((W1.alloc (boxV (.pointer ao))).alloc (boxS s)) := by go_grown
    have hb2 : Below w.heap.size w (W.putObj ((W1.alloc (boxV (.pointer ao))).alloc (boxS s)).heap.size (.deferred none)) := by
      have h3 : Below w.heap.size w W := HB.out.trans ((hbw.trans (hb.mono hbw.size)).mono (by omega))
      exact ⟨h3.os, h3.tape, h3.output, by simp; exact h3.size, fun k hk => (World.putObj_heap_other (by have := hbw.size; omega)).trans (h3.block k hk)⟩
    have HP := Lib.hid (And.intro hb2 hd)
    clear hb2 hd hb hbw
    go_wp2_with fail
    refine ⟨by simp, .inl ⟨_, _, rfl, run_takeDeferred HP.out.2, ?_⟩⟩
    exact ⟨.tuple #[], by simp [results, Tryz.results76, go_sem], rfl, HP.out.1⟩
end Go.Proofs.YtkdhlofcdcnjgaaGreat
namespace Go.Proofs.YtkdhlofcdcnjgaaGreat
set_option maxRecDepth 100000
open Go.ChangeShapes Go.WideShapes Go.ChangeAt Go.RowKit Go.PlainAid Go.Shelf
open Go.Sort (grow)

def FrNo (w : World) (ao : Option Addr) (key : ByteArray) (e : Ending) (w' : World) : Prop :=
  ∃ bt bf, e = .returned (.func (.func 76) #[] #[.pointer (some ⟨bt, 0, none⟩), .pointer (some ⟨bf, 0, none⟩)]) ∧ Below w.heap.size w w' ∧ w'.heap[bt]? = some (boxV (.pointer ao)) ∧ w'.heap[bf]? = some (boxS key)
theorem from_no (w : World) (ao : Option Addr) (key : ByteArray) (hk : key.size ≤ 140737488351232) :
    Calls Tryz.prog 36 #[.pointer ao, .string key] w (FrNo w ao key) := by
  have hmf := make_func
  go_enter Tryz.func36, Tryz.ntmps36
  go_wp2_with fail
  refine (clone_any key _ hk).mono ?_
  rintro e w5 ⟨rfl, hb⟩
  have hb0 : Below w.heap.size w (w.alloc (boxV (.pointer ao))) := by go_grown
  have hb' : Below (w.alloc (boxV (.pointer ao))).heap.size (w.alloc (boxV (.pointer ao))) w5 := hb
  have h1 : w5.heap[w.heap.size]? = some (boxV (.pointer ao)) := (hb'.block _ (by rw [World.size_alloc]; omega)).trans (heap_alloc_new w _)
  have hb1 : Below w.heap.size w w5 := hb0.trans (hb'.mono hb0.size)
  have hb2 : Below w5.heap.size w5 (w5.alloc (boxS key)) := by go_grown
  have HZ : Hid (Below w.heap.size w (w5.alloc (boxS key)) ∧ (w5.alloc (boxS key)).heap[w.heap.size]? = some (boxV (.pointer ao)) ∧ (w5.alloc (boxS key)).heap[w5.heap.size]? = some (boxS key)) :=
    Lib.hid ⟨hb1.trans (hb2.mono hb1.size), (hb2.block _ (heap_lt h1)).trans h1, heap_alloc_new _ _⟩
  clear hb hb0 hb' h1 hb1 hb2
  go_wp2
  go_returns
  exact ⟨_, _, rfl, HZ.out⟩
theorem all_no (w : World) (ao : Option Addr) : Calls Tryz.prog 43 #[.pointer ao] w (FrNo w ao ⟨#[]⟩) := by
  have HF := Lib.hid (from_no w ao ⟨#[]⟩ (by decide))
  go_enter Tryz.func43, Tryz.ntmps43
  go_wp2_with fail
  refine HF.out.mono ?_
  rintro e w5 ⟨bt, bf, rfl, H⟩
  have HZ := Lib.hid H
  clear H HF
  go_wp2
  go_returns
  exact ⟨_, _, rfl, HZ.out⟩
end Go.Proofs.YtkdhlofcdcnjgaaGreat
namespace Go.Proofs.YtkdhlofcdcnjgaaGreat
set_option maxRecDepth 100000
open Go.ChangeShapes Go.WideShapes Go.ChangeAt Go.RowKit Go.PlainAid Go.Shelf
open Go.Sort (grow)

theorem lall_no (w : World) (ao : Option Addr) (h : NoTree w (.pointer ao)) : Calls Tryz.prog 18 #[.pointer ao] w (Says w (.slice none 0 0)) := by
  have hb0 : Below w.heap.size w (w.alloc (boxL (.slice none 0 0))) := by go_grown
  have HF := Lib.hid (all_no (w.alloc (boxL (.slice none 0 0))) ao)
  have hl := heap_alloc_new w (boxL (.slice none 0 0))
  have HL := Lib.hid hl
  have HN := Lib.hid (h.on hb0)
  have HB := Lib.hid hb0
  clear h hb0 hl
  unfold boxL at HF
  go_enter Tryz.func18, Tryz.ntmps18
  go_wp2_with fail
  refine HF.out.mono ?_
  rintro e w5 ⟨bt, bf, rfl, hb, g1, g2⟩
  have heq := eq_seqS
  have hmf2 := make_func
  have hb' : Below (w.alloc (boxL (.slice none 0 0))).heap.size (w.alloc (boxL (.slice none 0 0))) w5 := hb
  have HC := Lib.hid (from1_no w5 ao (.func 44) #[.pointer (some ⟨w.heap.size, 0, none⟩)] bt bf ⟨#[]⟩ (HN.out.on hb') g1 g2)
  have h5 := (hb'.block _ (heap_lt HL.out)).trans HL.out
  have HB5 := Lib.hid (HB.out.trans (hb'.mono HB.out.size))
  clear hb hb' g1 g2 HF
  go_wp2_with fail
  refine HC.out.mono ?_
  rintro e w6 ⟨rfl, hb6⟩
  have k1 := (boxL_cell ((hb6.block _ (heap_lt h5)).trans h5)).1
  have HB6 := Lib.hid (HB5.out.trans (hb6.mono HB5.out.size))
  clear hb6 h5 HC
  go_wp2_with fail
  go_returns
  exact ⟨rfl, HB6.out⟩
theorem lsome_no (w : World) (ao : Option Addr) (key : ByteArray) (hk : key.size ≤ 140737488351232) (M : Int) (hM : 0 < M ∧ M ≤ 65536) (h : NoTree w (.pointer ao)) : Calls Tryz.prog 11 #[.pointer ao, .string key, .int .i64 M] w (Says w (.slice none 0 0)) := by
  have hb0 : Below w.heap.size w ((w.alloc (boxI M)).alloc (boxL (.slice none 0 0))) := by go_grown
  have HF := Lib.hid (from_no ((w.alloc (boxI M)).alloc (boxL (.slice none 0 0))) ao key hk)
  have hl := heap_alloc_new (w.alloc (boxI M)) (boxL (.slice none 0 0))
  rw [World.size_alloc] at hl
  have HL := Lib.hid hl
  have HN := Lib.hid (h.on hb0)
  have HB := Lib.hid hb0
  clear h hb0 hl
  unfold boxL boxI at HF
  go_enter Tryz.func11, Tryz.ntmps11
  go_wp2_with fail
  refine HF.out.mono ?_
  rintro e w5 ⟨bt, bf, rfl, hb, g1, g2⟩
  have heq := eq_seqS
  have hmf2 := make_func
  have hb' : Below ((w.alloc (boxI M)).alloc (boxL (.slice none 0 0))).heap.size ((w.alloc (boxI M)).alloc (boxL (.slice none 0 0))) w5 := hb
  have HC := Lib.hid (from1_no w5 ao (.func 37) #[.pointer (some ⟨w.heap.size + 1, 0, none⟩), .pointer (some ⟨w.heap.size, 0, none⟩)] bt bf key (HN.out.on hb') g1 g2)
  have h5 := (hb'.block _ (heap_lt HL.out)).trans HL.out
  have HB5 := Lib.hid (HB.out.trans (hb'.mono HB.out.size))
  clear hb hb' g1 g2 HF
  go_wp2_with fail
  refine HC.out.mono ?_
  rintro e w6 ⟨rfl, hb6⟩
  have k1 := (boxL_cell ((hb6.block _ (heap_lt h5)).trans h5)).1
  have HB6 := Lib.hid (HB5.out.trans (hb6.mono HB5.out.size))
  clear hb6 h5 HC
  go_wp2_with fail
  go_returns
  exact ⟨rfl, HB6.out⟩
end Go.Proofs.YtkdhlofcdcnjgaaGreat
namespace Go.Proofs.YtkdhlofcdcnjgaaGreat
set_option maxRecDepth 100000
open Go.ChangeShapes Go.WideShapes Go.ChangeAt Go.RowKit Go.PlainAid Go.Shelf
open Go.Sort (grow)

attribute [local go_sem] Oper.semAt_some
theorem tcount_no (w : World) (ao : Option Addr) (h : NoTree w (.pointer ao)) : Calls Tryz.prog 17 #[.pointer ao] w (Says w (.int .i64 0)) := by
  have hb0 : Below w.heap.size w (w.alloc (boxI 0)) := by go_grown
  have HF := Lib.hid (all_no (w.alloc (boxI 0)) ao)
  have hl := heap_alloc_new w (boxI 0)
  have HL := Lib.hid hl
  have HN := Lib.hid (h.on hb0)
  have HB := Lib.hid hb0
  clear h hb0 hl
  unfold boxI at HF
  refine (callsIn_wide (n := 10)).1 ?_
  refine callsIn_of_wp_marks Tryz.func17 rfl trivial ?_ rfl
  simp only [Tryz.ntmps17, List.size_toArray, List.length_cons, List.length_nil, Nat.reduceAdd, Nat.reduceSub, Array.replicate_succ, Array.replicate_zero, List.push_toArray, List.append_toArray, List.nil_append, List.cons_append]
  refine wpIn_wide.2 ?_
  go_wp2_with fail
  refine HF.out.mono ?_
  rintro e w5 ⟨bt, bf, rfl, hb, g1, g2⟩
  have hb' : Below (w.alloc (boxI 0)).heap.size (w.alloc (boxI 0)) w5 := hb
  have HN5 := Lib.hid (HN.out.on hb')
  have h5 := (hb'.block _ (heap_lt HL.out)).trans HL.out
  have HB5 := Lib.hid (HB.out.trans (hb'.mono HB.out.size))
  have HG := Lib.hid (And.intro g1 (And.intro g2 h5))
  clear hb hb' g1 g2 h5 HF
  go_wp2_with fail
  refine (wpIn_wide (n := 10)).1 ?_
  refine wpIn_noRounds (gf := 76) (lb := #[.pointer (some ⟨bt, 0, none⟩), .pointer (some ⟨bf, 0, none⟩)]) rfl (enters_of Tryz.func76 (by kernel_rfl) rfl) (fun l W hb => ?_) (fun W hb hd => ?_)
  · refine callsIn_wide.2 ((from1_no W ao (.yield l) #[] bt bf ⟨#[]⟩ (HN5.out.on hb) ((hb.block _ (heap_lt HG.out.1)).trans HG.out.1) ((hb.block _ (heap_lt HG.out.2.1)).trans HG.out.2.1)).mono ?_)
    rintro e W' ⟨rfl, h⟩
    exact ⟨⟨_, rfl⟩, h⟩
  · have k1 := (boxI_cell ((hb.block _ (heap_lt HG.out.2.2)).trans HG.out.2.2)).1
    have hb2 : Below w.heap.size w (W.putObj w5.heap.size (.deferred none)) := by
      have h3 : Below w.heap.size w W := HB5.out.trans (hb.mono HB5.out.size)
      exact ⟨h3.os, h3.tape, h3.output, by simp; exact h3.size, fun k hk => (World.putObj_heap_other (by have := HB5.out.size; omega)).trans (h3.block k hk)⟩
    have HP := Lib.hid (And.intro hb2 hd)
    clear hb2 hd hb
    go_wp2_with fail
    refine ⟨by simp, .inl ⟨_, _, rfl, run_takeDeferred HP.out.2, ?_⟩⟩
    exact ⟨.int .i64 0, by simp [results, Tryz.results17, go_sem], rfl, HP.out.1⟩
end Go.Proofs.YtkdhlofcdcnjgaaGreat
namespace Go.Proofs.YtkdhlofcdcnjgaaGreat
set_option maxRecDepth 100000
open Go.ChangeShapes Go.WideShapes Go.ChangeAt Go.RowKit Go.PlainAid Go.Shelf
open Go.Sort (grow)

theorem open_nil (w : World) : Calls Tryz.prog 19 #[.pointer none, .int .i64 0] w (Says w (.tuple #[.pointer none, .int .i64 3])) := by
  have HR := Lib.hid (proot_nil w (.pointer none) 0 (.inl rfl))
  go_enter Tryz.func19, Tryz.ntmps19
  go_wp2_with fail
  refine HR.out.mono ?_
  rintro e _ ⟨rfl, rfl⟩
  clear HR
  go_wp2_with fail
  go_returns
  exact ⟨rfl, ⟨rfl, rfl, rfl, Nat.le_refl _, fun _ _ => rfl⟩⟩
end Go.Proofs.YtkdhlofcdcnjgaaGreat
