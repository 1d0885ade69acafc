/- Contracts: slices.Backward over entries; oldest. -/
import Derived.Test.YtomgiemnkbjebaaCacD
import Derived.RangeFuncNested
import Derived.RangeFuncBound
import Derived.RangeFuncCalls
import Derived.RangeFuncLeaves
import Derived.Shelf.Abstract
import Derived.Shelf.RegionOpen
import Derived.OwnWalkIn
import Derived.TacticsInMore
import Derived.LoopNIn
import Derived.LoopIn
namespace Go.Proofs.Ytomgiemnkbjebaa
set_option maxRecDepth 100000
open Go.ChangeShapes Go.WideShapes Go.ChangeAt Go.RowKit Go.PlainAid Go.Shelf
attribute [local go_sem] Oper.semAt_some

/-- Two blocks hold what they held. -/
def KpB (a b : Nat) (W W' : World) : Prop := W'.heap[a]? = W.heap[a]? ∧ W'.heap[b]? = W.heap[b]?
theorem KpB.trans {a b : Nat} {A B C : World} (h : KpB a b A B) (k : KpB a b B C) : KpB a b A C := ⟨k.1.trans h.1, k.2.trans h.2⟩
theorem KpB.refl (a b : Nat) (A : World) : KpB a b A A := ⟨rfl, rfl⟩
/-- n numbers below n, falling. -/
def downs (n : Nat) : List Nat := (List.range n).map fun k => n - 1 - k
theorem downs_split {k n : Nat} (h : k ≤ n) : ((List.range k).map fun j => n - 1 - j) <+: downs n := by
  unfold downs
  conv => rhs; rw [← List.take_append_drop k (List.range n), List.take_range, Nat.min_eq_left h, List.map_append]
  exact ⟨_, rfl⟩
theorem boxed_put {W : World} {B D : Nat} {t : TypeId} {v : Value} {l : List Deferred} {o : Obj} (h : Boxed W B t v) (hK : W.heap[D]? = some (.deferred (some l))) : Boxed (W.putObj D o) B t v := by
  refine (World.putObj_heap_other fun e => ?_).trans h
  subst e
  rw [show W.heap[B]? = _ from h] at hK
  cases hK
theorem below_put {w W : World} {D : Nat} {o o' : Obj} (h : Below w.heap.size w W) (hD : w.heap.size ≤ D) (hK : W.heap[D]? = some o) (h1 : o.isCells = false) (h2 : o.isWalk = false) : Below w.heap.size w (W.putObj D o') :=
  h.trans (belowK_b (w := w) (Nat.le_refl _) W D o o' hD hK h1 h2)
namespace KA
theorem back_any (ao : Option Addr) (n c : Nat) (w : World) :
    Calls Try.prog 43 #[.slice ao n c] w fun e w' => e = .returned (.func (.func 47) #[] #[.pointer (some ⟨w.heap.size, 0, none⟩)]) ∧
      w.alloc (.cells #[.slice ao n c] 63) = w' := by
  have hmf := make_func
  go_enter Try.func43, Try.ntmps43
  go_wp2
  go_returns
  exact ⟨rfl, rfl⟩
def entAt (L : List E) (k : Nat) : E := L.getD k ⟨0, ⟨#[]⟩, 0⟩
def encE (L : List E) (k : Nat) : Array Value := #[.int .i64 (k : Int), .agg #[.int .i64 (entAt L k).key, .string (entAt L k).val, .int .i64 ((entAt L k).pins : Int)]]
set_option maxHeartbeats 1000000 in
theorem back1_in (l bs g n c : Nat) (L : List E) (hn : n = L.length) (hl : n ≤ 4096) (J Jx : List Nat → World → Prop)
    (hY : ∀ pre x W, J pre W → pre.length < n → YieldAt Fence.wide 7 Try.prog l (encE L x) W fun e W' =>
      (e = .returned (.bool true) ∧ J (pre ++ [x]) W' ∧ KpB bs g W W') ∨ (e = .returned (.bool false) ∧ Jx (pre ++ [x]) W'))
    (W : World) (hS : W.heap[bs]? = some (.cells #[.slice (some ⟨g, 0, none⟩) n c] 63 (0, 0))) (h0 : J [] W)
    (hc : ∀ W' : World, W'.heap[g]? = W.heap[g]? → ∀ (i : Nat) (x : E), L[i]? = some x → W'.cell? ⟨g, i * 3, none⟩ = some (.int .i64 x.key) ∧ W'.cell? ⟨g, i * 3 + 1, none⟩ = some (.string x.val) ∧ W'.cell? ⟨g, i * 3 + 2, none⟩ = some (.int .i64 (x.pins : Int))) :
    CallsIn Fence.wide 8 Try.prog 47 #[.func (.yield l) #[] #[], .pointer (some ⟨bs, 0, none⟩)] W fun e W' => (∃ v, e = .returned v) ∧
      ((∃ ys, ys = downs n ∧ J ys W') ∨ (∃ pre, pre <+: downs n ∧ Jx pre W')) := by
  refine callsIn_of_wp Try.func47 rfl trivial ?_ rfl
  simp only [Try.ntmps47, List.size_toArray, List.length_cons, List.length_nil, Nat.reduceAdd, Nat.reduceSub, Array.replicate_succ, Array.replicate_zero, List.push_toArray, List.append_toArray, List.nil_append, List.cons_append]
  have hcs : W.cell? ⟨bs, 0, none⟩ = some (.slice (some ⟨g, 0, none⟩) n c) := by rw [cell_of_row _ _ _ _ _ _ hS]; rfl
  subst hn
  gi_wp2
  gi_loopw [3] (fun i wr => ∃ j : Nat, j ≤ L.length ∧ i = .int .i64 ((j : Int) - 1) ∧ J ((List.range (L.length - j)).map fun k => L.length - 1 - k) wr ∧ KpB bs g W wr) (fun i _ => (intOf i + 1).toNat)
  case atStart => exact ⟨L.length, Nat.le_refl _, rfl, by rw [Nat.sub_self]; exact h0, KpB.refl _ _ _⟩
  case round =>
    obtain ⟨j, hj, rfl, hJs, hnx⟩ := hrel
    have hcs2 : wr.cell? ⟨bs, 0, none⟩ = some (.slice (some ⟨g, 0, none⟩) L.length c) := by rw [cell_of_row _ _ _ _ _ _ (hnx.1.trans hS)]; rfl
    clear hcs
    cases j with
    | zero =>
      rw [show (((0 : Nat) : Int) - 1) = -1 from rfl]
      gi_wp2
      go_end0
      exact ⟨⟨_, rfl⟩, .inl ⟨_, rfl, hJs⟩⟩
    | succ t =>
      have ht : t < L.length := by omega
      obtain ⟨x, hx⟩ : ∃ x, L[t]? = some x := ⟨_, List.getElem?_eq_getElem ht⟩
      obtain ⟨hc0, hc1, hc2⟩ := hc wr hnx.2 t x hx
      obtain ⟨fn, tmps, assign, body, hy, hR⟩ := hY ((List.range (L.length - (t + 1))).map fun k => L.length - 1 - k) t wr hJs (by rw [List.length_map, List.length_range]; omega)
      have hent : entAt L t = x := by unfold entAt; rw [List.getD_eq_getElem?_getD, hx]; rfl
      unfold encE at hy
      rw [hent] at hy
      have HUP : Hid ((List.range (L.length - (t + 1))).map (fun k => L.length - 1 - k) ++ [t] = (List.range (L.length - t)).map fun k => L.length - 1 - k) := by
        refine Lib.hid ?_
        rw [show L.length - t = L.length - (t + 1) + 1 by omega, List.range_succ, List.map_append, List.map_cons, List.map_nil, show L.length - 1 - (L.length - (t + 1)) = t by omega]
      have HNX := Lib.hid hnx
      rw [show (((t + 1 : Nat) : Int) - 1) = (t : Int) by omega]
      clear hnx hJs hx hent
      gi_wp2
      refine hR.mono ?_
      rintro e W3 (⟨rfl, hJ3, hk3⟩ | ⟨rfl, hJx3⟩)
      · have HN3 := Lib.hid (HNX.out.trans hk3)
        have HJ3 := Lib.hid hJ3
        clear hk3 hJ3
        gi_wp2
        go_roundw
        case rel => exact ⟨t, by omega, rfl, by rw [← HUP.out]; exact HJ3.out, HN3.out⟩
        case measure => simp [intOf]
      · have HJ3 := Lib.hid hJx3
        clear hJx3
        gi_wp2
        refine bodyPost_ret (results_none rfl _ _ _) rfl ?_
        refine ⟨⟨_, rfl⟩, .inr ⟨_, ?_, HJ3.out⟩⟩
        rw [HUP.out]
        exact downs_split (by omega)
theorem back_stops (bs g c : Nat) (L : List E) (hl : L.length ≤ 4096) (w : World) (hS : w.heap[bs]? = some (.cells #[.slice (some ⟨g, 0, none⟩) L.length c] 63 (0, 0))) (hg : g < w.heap.size)
    (hc : ∀ W' : World, W'.heap[g]? = w.heap[g]? → ∀ (i : Nat) (x : E), L[i]? = some x → W'.cell? ⟨g, i * 3, none⟩ = some (.int .i64 x.key) ∧ W'.cell? ⟨g, i * 3 + 1, none⟩ = some (.string x.val) ∧ W'.cell? ⟨g, i * 3 + 2, none⟩ = some (.int .i64 (x.pins : Int))) :
    SeqStopsK Fence.wide 8 Try.prog 47 #[.pointer (some ⟨bs, 0, none⟩)] (encE L) (KpB bs g) (fun ys => ys = downs L.length) (fun pre => pre <+: downs L.length) L.length w := fun l J Jx W hW _ _ hY h0 =>
  back1_in l bs g L.length c L rfl hl J Jx hY W ((hW.block bs (heap_in hS)).trans hS) h0 (fun W' hW' => hc W' (hW'.trans (hW.block g hg)))
theorem downs_at {n t : Nat} (h : t < n) : (downs n)[t]? = some (n - 1 - t) := by
  unfold downs
  rw [List.getElem?_map, List.getElem?_range h]
  rfl
theorem entAt_some {L : List E} {k : Nat} {x : E} (h : L[k]? = some x) : entAt L k = x := by
  unfold entAt
  rw [List.getD_eq_getElem?_getD, h]
  rfl
theorem old_stop {L : List E} {q : List Nat} {k : Nat} (hp : q ++ [k] <+: downs L.length) (hq : ∀ x ∈ q, (entAt L x).pins ≠ 0) (hk : (entAt L k).pins = 0) : k < L.length ∧ oldL L = L.length - 1 - k := by
  have hlen : q.length + 1 ≤ L.length := by
    have := hp.length_le
    unfold downs at this
    simpa using this
  have hat : ∀ t, t < q.length + 1 → (q ++ [k])[t]? = some (L.length - 1 - t) := fun t ht => by
    obtain ⟨r, hr⟩ := hp
    rw [← downs_at (show t < L.length by omega), ← hr]
    exact (List.getElem?_append_left (by rw [List.length_append]; exact ht)).symm
  have hkk : k = L.length - 1 - q.length := by
    have := hat q.length (by omega)
    simpa using this
  have hl : k < L.length := by omega
  refine ⟨hl, oldL_eq (List.getElem?_eq_getElem hl) ?_ fun j x hj hx => ?_⟩
  · rw [← entAt_some (List.getElem?_eq_getElem hl)]
    exact hk
  · have hjl := (List.getElem?_eq_some_iff.1 hx).1
    have hm := hat (L.length - 1 - j) (by omega)
    rw [List.getElem?_append_left (by omega), show L.length - 1 - (L.length - 1 - j) = j by omega] at hm
    have := hq j (List.mem_of_getElem? hm)
    rw [entAt_some hx] at this
    exact this
theorem old_done {L : List E} (h : ∀ x ∈ downs L.length, (entAt L x).pins ≠ 0) : ¬ oldL L < L.length := by
  intro hc
  obtain ⟨e, he, hp, _⟩ := oldL_at hc
  have hl := (List.getElem?_eq_some_iff.1 he).1
  have hm : L.length - 1 - oldL L ∈ downs L.length := by
    have := downs_at (n := L.length) (t := oldL L) hc
    exact List.mem_of_getElem? this
  have := h _ hm
  rw [entAt_some he] at this
  exact this hp
/-- What oldest tells. -/
def OldPost (L : List E) (w : World) (e : Ending) (w' : World) : Prop :=
  (∃ i x, L[i]? = some x ∧ oldL L = L.length - 1 - i ∧ e = .returned (.tuple #[.int .i64 (i : Int), .bool true]) ∧ Below w.heap.size w w') ∨
  (¬ oldL L < L.length ∧ e = .returned (.tuple #[.int .i64 0, .bool false]) ∧ Below w.heap.size w w')
set_option maxHeartbeats 2000000 in
theorem oldest_any {w0 : World} {p : Nat} {most : Int} {L : List E} {R : List (Nat × Obj)} {w : World} (h : CaT w0 p most L R w) (hl : L.length ≤ 4096) (h0 : 0 < L.length) :
    Calls Try.prog 34 #[.pointer (some ⟨p, 0, none⟩)] w (OldPost L w) := by
  obtain ⟨v, hp, hr, _⟩ := h.row
  obtain ⟨g, cap, cur, rfl, hg0, hg, hlc, hcm, hcs, ht⟩ := hr.block h0
  have hbA : Below w.heap.size w ((w.alloc (.cells #[.int .i64 0] 3)).alloc (.cells #[.bool false] 4)) := by go_grown
  have hu1 := (box_cells ((hbA.block p (heap_in hp)).trans hp)).2.1
  have hcc : ∀ W' : World, W'.heap[g]? = w.heap[g]? → ∀ (i : Nat) (x : E), L[i]? = some x → W'.cell? ⟨g, i * 3, none⟩ = some (.int .i64 x.key) ∧ W'.cell? ⟨g, i * 3 + 1, none⟩ = some (.string x.val) ∧ W'.cell? ⟨g, i * 3 + 2, none⟩ = some (.int .i64 (x.pins : Int)) := fun W' hW' i x hx => by
    obtain ⟨c0, c1, c2⟩ := row_cells hr hx
    exact ⟨(World.cell?_of_block (a := ⟨g, i * 3, none⟩) hW').trans c0, (World.cell?_of_block (a := ⟨g, i * 3 + 1, none⟩) hW').trans c1, (World.cell?_of_block (a := ⟨g, i * 3 + 2, none⟩) hW').trans c2⟩
  have HCC := Lib.hid hcc
  have HBA := Lib.hid hbA
  have HGL := heap_in hg
  clear h hp hr hg hcs ht hcc hbA
  refine (callsIn_wide (n := 10)).1 ?_
  refine callsIn_of_wp_marks Try.func34 rfl trivial ?_ rfl
  simp only [Try.ntmps34, List.size_toArray, List.length_cons, List.length_nil, Nat.reduceAdd, Nat.reduceSub, Array.replicate_succ, Array.replicate_zero, List.push_toArray, List.append_toArray, List.nil_append, List.cons_append]
  refine wpIn_wide.2 ?_
  go_wp2_with fail
  refine (back_any _ _ _ _).mono ?_
  rintro e _ ⟨rfl, rfl⟩
  go_wp2_with fail
  have z1 : (w.alloc (.cells #[.int .i64 0] 3)).heap.size = w.heap.size + 1 := by simp
  have z2 : ((w.alloc (.cells #[.int .i64 0] 3)).alloc (.cells #[.bool false] 4)).heap.size = w.heap.size + 1 + 1 := by simp
  have q1 : Boxed ((w.alloc (.cells #[.int .i64 0] 3)).alloc (.cells #[.bool false] 4)) w.heap.size 3 (.int .i64 0) := (Boxed.new w 3 (.int .i64 0)).alloc _
  have q2 : Boxed ((w.alloc (.cells #[.int .i64 0] 3)).alloc (.cells #[.bool false] 4)) (w.heap.size + 1) 4 (.bool false) := by
    have := Boxed.new (w.alloc (.cells #[.int .i64 0] 3)) 4 (.bool false)
    rwa [z1] at this
  generalize (w.alloc (.cells #[.int .i64 0] 3)).alloc (.cells #[.bool false] 4) = W1 at *
  obtain ⟨W0, hW0⟩ : ∃ W0, W1.alloc (.cells #[.slice (some ⟨g, 0, none⟩) L.length cap] 63) = W0 := ⟨_, rfl⟩
  rw [hW0]
  have hz0 : W0.heap.size = w.heap.size + 3 := by rw [← hW0, World.size_alloc, z2]
  have hb0 : Below w.heap.size w W0 := HBA.out.on (by rw [← hW0]; go_grown)
  have hs0 : W0.heap[w.heap.size + 1 + 1]? = some (.cells #[.slice (some ⟨g, 0, none⟩) L.length cap] 63 (0, 0)) := by
    rw [← hW0]
    have := heap_alloc_new W1 (.cells #[.slice (some ⟨g, 0, none⟩) L.length cap] 63)
    rwa [z2] at this
  have r1 : Boxed W0 w.heap.size 3 (.int .i64 0) := by rw [← hW0]; exact q1.alloc _
  have r2 : Boxed W0 (w.heap.size + 1) 4 (.bool false) := by rw [← hW0]; exact q2.alloc _
  have hg0' : W0.heap[g]? = w.heap[g]? := hb0.block g HGL
  clear hW0 q1 q2 z1 z2 hu1 HBA
  refine (wpIn_wide (n := 9)).1 ?_
  refine wpIn_rangeFunc_ownH (w0 := W0) rfl (by decide) (gf := 47) (lb := #[.pointer (some ⟨w.heap.size + 1 + 1, 0, none⟩)]) rfl trivial (enters_of Try.func47 (by kernel_rfl) rfl)
    (back_stops (w.heap.size + 1 + 1) g cap L hl W0 hs0 (by omega) (fun W' hW' => HCC.out W' (hW'.trans hg0'))) (fun h k => KpB.trans h k)
    (fun W l o o' hl' _ _ _ => ⟨World.putObj_heap_other (by omega), World.putObj_heap_other (by omega)⟩) (Below.refl _ _) (fun _ => rfl)
    (fun pre W => (∀ x ∈ pre, (entAt L x).pins ≠ 0) ∧ Below W0.heap.size W0 W)
    (fun c pre W => c = .ret ∧ (∃ q k, pre = q ++ [k] ∧ (∀ x ∈ q, (entAt L x).pins ≠ 0) ∧ (entAt L k).pins = 0 ∧ Boxed W w.heap.size 3 (.int .i64 (k : Int))) ∧ Boxed W (w.heap.size + 1) 4 (.bool true) ∧ Below w.heap.size w W)
    ?own ?ownx ⟨(fun _ h => by cases h), Below.refl _ _⟩
    (fun x a' W => ∃ Bx, W0.heap.size ≤ Bx ∧ W.heap[Bx]? = some (.cells #[.int .i64 (entAt L x).key, .string (entAt L x).val, .int .i64 ((entAt L x).pins : Int)] 83 (0, 0)) ∧ a' = {
      tmps := #[.pointer (some ⟨p, 0, none⟩), undef, .pointer (some ⟨w.heap.size, 0, none⟩), .pointer (some ⟨w.heap.size + 1, 0, none⟩), .int .i64 (x : Int), .pointer (some ⟨Bx, 0, none⟩), .pointer (some ⟨p, 0, none⟩), .pointer (some ⟨p, 0, none⟩), .pointer (some ⟨p, 1, none⟩), .slice (some ⟨g, 0, none⟩) L.length cap,
        .func (.func 47) #[] #[.pointer (some ⟨w.heap.size + 1 + 1, 0, none⟩)], .int .i64 (x : Int), .agg #[.int .i64 (entAt L x).key, .string (entAt L x).val, .int .i64 ((entAt L x).pins : Int)], undef, undef, undef, undef], defers := [] }) ?ownA ?assign ?body ?done ?stop
  case own =>
    rintro pre X Y row ⟨h1, h4⟩ hgr hr
    exact ⟨h1, h4.grown hgr h4.size (fun k e => (hr k e).1)⟩
  case ownx =>
    rintro c pre X Y row ⟨h1, ⟨q, k, hq1, hq2, hq3, h2⟩, h3, h4⟩ hgr hr
    have hk : ∀ k, k < W0.heap.size → k < X.heap.size → Y.heap[k]? = X.heap[k]? := fun k hk hx => hgr.block k hx fun e => by have := (hr k e.symm).1; omega
    exact ⟨h1, ⟨q, k, hq1, hq2, hq3, (hk _ (by omega) h2.lt).trans h2⟩, (hk _ (by omega) h3.lt).trans h3, h4.grown hgr h4.size (fun k e => by have := (hr k e).1; omega)⟩
  case ownA =>
    rintro x a' _ X Y row ⟨Bx, h1, h2, h3⟩ hgr hr
    refine ⟨Bx, h1, (hgr.block Bx (heap_in h2) fun e => ?_).trans h2, h3⟩
    obtain ⟨_, o, ho, hc⟩ := hr Bx e.symm
    rw [h2] at ho
    cases ho
    cases hc
  case assign =>
    rintro l pre x W K ⟨h1, h4⟩ hK
    have H1 := Lib.hid h1
    have H4 := Lib.hid h4
    unfold encE
    clear h1 h4 hb0 hs0 r1 r2 hg0'
    generalize (entAt L x).key = xk at *
    generalize (entAt L x).val = xv at *
    generalize ((entAt L x).pins : Int) = xp at *
    gi_wp2
    have hsz := H4.out.size
    exact hK _ _ ((KeepsOthers.alloc _ _).from _) ⟨Below.heap_alloc _ _ _ (by omega), Below.heap_alloc _ _ _ (by omega)⟩ ⟨H1.out, H4.out.trans (Below.mono (by go_grown) hsz)⟩ ⟨W.heap.size, hsz, heap_alloc_new _ _, rfl⟩
  case body =>
    rintro l pre x _ W hl' _ ⟨h1, h4⟩ ⟨Bx, hBx, hx, rfl⟩ hlt
    have hcx : W.cell? ⟨Bx, 2, none⟩ = some (.int .i64 ((entAt L x).pins : Int)) := by rw [cell_of_row _ _ _ _ _ _ hx]; rfl
    have hsz := h4.size
    have s1 := (h4.block w.heap.size (by omega)).trans r1
    have s2 := (h4.block (w.heap.size + 1) (by omega)).trans r2
    have HB := Lib.hid (hb0.trans (h4.mono hb0.size))
    have B1 : Boxed W w.heap.size 3 (.int .i64 0) := s1
    have B2 : Boxed W (w.heap.size + 1) 4 (.bool false) := s2
    have m1 := B1.cell
    have f1 := B1.frozen
    have H1 := Lib.hid h1
    have H4 := Lib.hid h4
    by_cases hp0 : (entAt L x).pins = 0
    · have B1' := (B1.set (.int .i64 (x : Int)))
      have B2' := B2.other (Nat.ne_of_gt (Nat.lt_succ_self _)) (.int .i64 (x : Int))
      have m2 := B2'.cell
      have f2 := B2'.frozen
      have HX1 := Lib.hid ((B1'.other (Nat.ne_of_lt (Nat.lt_succ_self _)) (.bool true)))
      have HX2 := Lib.hid (B2'.set (.bool true))
      have HK : Hid (KeepsFrom W0.heap.size W ((W.setCell ⟨w.heap.size, 0, none⟩ (.int .i64 (x : Int))).setCell ⟨w.heap.size + 1, 0, none⟩ (.bool true))) := Lib.hid (((KeepsOthers.setCell W _ _).from _).trans ((KeepsOthers.setCell _ _ _).from _))
      have HB2 : Hid (Below w.heap.size w ((W.setCell ⟨w.heap.size, 0, none⟩ (.int .i64 (x : Int))).setCell ⟨w.heap.size + 1, 0, none⟩ (.bool true))) := Lib.hid ((HB.out.setCell (Nat.le_refl _) _).setCell (Nat.le_succ _) _)
      rw [hp0] at hcx
      have hcx2 : W.cell? ⟨Bx, 2, none⟩ = some (.int .i64 0) := hcx
      have HP := Lib.hid hp0
      clear hcx B1 B2 s1 s2 h1 h4 hx hb0 hs0 r1 r2 hg0' hp0 B1' B2'
      gi_wp2
      exact ⟨HK.out, rfl, ⟨pre, x, rfl, H1.out, HP.out, HX1.out⟩, HX2.out, HB2.out⟩
    · have hp1 : (((entAt L x).pins : Int) == 0) = false := beq_eq_false_iff_ne.2 (by omega)
      have HP := Lib.hid hp0
      clear B1 B2 s1 s2 h1 h4 hx hb0 hs0 r1 r2 hg0' hp0 m1 f1
      generalize (((entAt L x).pins : Int)) = xp at *
      gi_wp2
      refine ⟨KeepsFrom.refl _ _, KpB.refl _ _ _, fun y hy => ?_, H4.out⟩
      rcases List.mem_append.1 hy with hy | hy
      · exact H1.out y hy
      · rw [List.mem_singleton.1 hy]
        exact HP.out
  case done =>
    rintro D ys W hD rfl ⟨h1, h4⟩ hK
    have s1 := (h4.block w.heap.size (by omega)).trans r1
    have s2 := (h4.block (w.heap.size + 1) (by omega)).trans r2
    have B1 : Boxed W w.heap.size 3 (.int .i64 0) := s1
    have B2 : Boxed W (w.heap.size + 1) 4 (.bool false) := s2
    have m1 := B1.cell
    have f1 := B1.frozen
    have B1' := (B1.set (.int .i64 0))
    have B2' := B2.other (Nat.ne_of_gt (Nat.lt_succ_self _)) (.int .i64 0)
    have m2 := B2'.cell
    have f2 := B2'.frozen
    have HX1 := Lib.hid ((B1'.other (Nat.ne_of_lt (Nat.lt_succ_self _)) (.bool false)))
    have HX2 := Lib.hid (B2'.set (.bool false))
    have HNO := Lib.hid (old_done h1)
    have HB2 : Hid (Below w.heap.size w ((W.setCell ⟨w.heap.size, 0, none⟩ (.int .i64 0)).setCell ⟨w.heap.size + 1, 0, none⟩ (.bool false))) := Lib.hid (((hb0.trans (h4.mono hb0.size)).setCell (Nat.le_refl _) _).setCell (Nat.le_succ _) _)
    have HK2 : Hid (((W.setCell ⟨w.heap.size, 0, none⟩ (.int .i64 0)).setCell ⟨w.heap.size + 1, 0, none⟩ (.bool false)).heap[D]? = some (.deferred (some []))) := Lib.hid (by
      rw [heap_setCell_other _ _ _ _ (by show D ≠ w.heap.size + 1; omega), heap_setCell_other _ _ _ _ (by show D ≠ w.heap.size; omega)]
      exact hK)
    have HD := Lib.hid (show w.heap.size ≤ D by omega)
    clear s1 s2 B1 B2 B1' B2' h1 h4 hK hb0 hs0 r1 r2 hg0' hD hz0
    go_wp2_with fail
    clear m1 f1 m2 f2
    generalize (W.setCell ⟨w.heap.size, 0, none⟩ (.int .i64 0)).setCell ⟨w.heap.size + 1, 0, none⟩ (.bool false) = W2 at *
    refine ⟨by simp, .inl ⟨_, _, rfl, run_takeDeferred HK2.out, ?_⟩⟩
    have g1 := boxed_put (o := .deferred none) HX1.out HK2.out
    have g2 := boxed_put (o := .deferred none) HX2.out HK2.out
    exact ⟨_, by simp [results, Try.results34, go_sem, g1.cell, g2.cell], .inr ⟨HNO.out, rfl, below_put HB2.out HD.out HK2.out rfl rfl⟩⟩
  case stop =>
    rintro D c pre W hD hSp ⟨rfl, ⟨q, k, rfl, hq1, hq2, B1⟩, B2, h4⟩ hK
    obtain ⟨hkl, hold⟩ := old_stop hSp hq1 hq2
    have HD := Lib.hid (show w.heap.size ≤ D by omega)
    gi_wp2
    refine ⟨by simp, .inl ⟨_, _, rfl, run_takeDeferred hK, ?_⟩⟩
    have g1 := boxed_put (o := .deferred none) B1 hK
    have g2 := boxed_put (o := .deferred none) B2 hK
    exact ⟨_, by simp [results, Try.results34, go_sem, g1.cell, g2.cell], .inl ⟨k, _, List.getElem?_eq_getElem hkl, hold, rfl, below_put h4 HD.out hK rfl rfl⟩⟩
end KA
end Go.Proofs.Ytomgiemnkbjebaa
