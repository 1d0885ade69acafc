import Derived.Test.YtcjfnfdinhbdlaaGreatDoorGak
import Derived.RangeFuncNested
import Derived.RangeFuncBound
import Derived.RangeFuncCalls
import Derived.RangeFuncLeaves
import Derived.Shelf.Abstract
import Derived.Shelf.RegionOpen
import Derived.OwnWalkIn
import Derived.TacticsInMore
import Derived.LoopNIn
import Derived.LoopIn
import Derived.Deep.RegionLaw
import Derived.Great.BuildSlice
namespace Go.Proofs.YtcjfnfdinhbdlaaGreatDoor
set_option maxRecDepth 100000
open Go.ChangeShapes Go.WideShapes Go.ChangeAt Go.RowKit Go.PlainAid Go.Shelf
attribute [local go_sem] Oper.semAt_some
def KpBC (a b : Nat) (W W' : World) : Prop := W'.heap[a]? = W.heap[a]? ∧ W'.heap[b]? = W.heap[b]?
theorem KpBC.trans {a b : Nat} {A B C : World} (h : KpBC a b A B) (k : KpBC a b B C) : KpBC a b A C := ⟨k.1.trans h.1, k.2.trans h.2⟩
theorem KpBC.refl (a b : Nat) (A : World) : KpBC a b A A := ⟨rfl, rfl⟩
def downs (n : Nat) : List Nat := (List.range n).map fun k => n - 1 - k
theorem downs_split {k n : Nat} (h : k ≤ n) : ((List.range k).map fun j => n - 1 - j) <+: downs n := by
  unfold downs
  conv => rhs; rw [← List.take_append_drop k (List.range n), List.take_range, Nat.min_eq_left h, List.map_append]
  exact ⟨_, rfl⟩
theorem boxed_put {W : World} {B D : Nat} {t : TypeId} {v : Value} {l : List Deferred} {o : Obj} (h : Boxed W B t v) (hK : W.heap[D]? = some (.deferred (some l))) : Boxed (W.putObj D o) B t v := by
  refine (World.putObj_heap_other fun e => ?_).trans h
  subst e
  rw [show W.heap[B]? = _ from h] at hK
  cases hK
theorem below_putC {w W : World} {D : Nat} {o o' : Obj} (h : Below w.heap.size w W) (hD : w.heap.size ≤ D) (hK : W.heap[D]? = some o) (h1 : o.isCells = false) (h2 : o.isWalk = false) : Below w.heap.size w (W.putObj D o') :=
  h.trans (belowK_b (w := w) (Nat.le_refl _) W D o o' hD hK h1 h2)
namespace KA
theorem back_any (ao : Option Addr) (n c : Nat) (w : World) :
    Calls Tryz.prog 208 #[.slice ao n c] w fun e w' => e = .returned (.func (.func 232) #[] #[.pointer (some ⟨w.heap.size, 0, none⟩)]) ∧
      w.alloc (.cells #[.slice ao n c] 210) = w' := by
  have hmf := make_func
  go_enter Tryz.func208, Tryz.ntmps208
  go_wp2
  go_returns
  exact ⟨rfl, rfl⟩
def entAt (L : List E) (k : Nat) : E := L.getD k ⟨0, ⟨#[]⟩, 0⟩
def encE (L : List E) (k : Nat) : Array Value := #[.int .i64 (k : Int), .agg #[.int .i64 (entAt L k).key, .string (entAt L k).val, .int .i64 ((entAt L k).pins : Int)]]
set_option maxHeartbeats 1000000 in
theorem back1_in (l bs g n c : Nat) (L : List E) (hn : n = L.length) (hl : n ≤ 4096) (J Jx : List Nat → World → Prop)
    (hY : ∀ pre x W, J pre W → pre.length < n → YieldAt Fence.wide 7 Tryz.prog l (encE L x) W fun e W' =>
      (e = .returned (.bool true) ∧ J (pre ++ [x]) W' ∧ KpBC bs g W W') ∨ (e = .returned (.bool false) ∧ Jx (pre ++ [x]) W'))
    (W : World) (hS : W.heap[bs]? = some (.cells #[.slice (some ⟨g, 0, none⟩) n c] 210 (0, 0))) (h0 : J [] W)
    (hc : ∀ W' : World, W'.heap[g]? = W.heap[g]? → ∀ (i : Nat) (x : E), L[i]? = some x → W'.cell? ⟨g, i * 3, none⟩ = some (.int .i64 x.key) ∧ W'.cell? ⟨g, i * 3 + 1, none⟩ = some (.string x.val) ∧ W'.cell? ⟨g, i * 3 + 2, none⟩ = some (.int .i64 (x.pins : Int))) :
    CallsIn Fence.wide 8 Tryz.prog 232 #[.func (.yield l) #[] #[], .pointer (some ⟨bs, 0, none⟩)] W fun e W' => (∃ v, e = .returned v) ∧
      ((∃ ys, ys = downs n ∧ J ys W') ∨ (∃ pre, pre <+: downs n ∧ Jx pre W')) := by
  refine callsIn_of_wp Tryz.func232 rfl trivial ?_ rfl
  simp only [Tryz.ntmps232, List.size_toArray, List.length_cons, List.length_nil, Nat.reduceAdd, Nat.reduceSub, Array.replicate_succ, Array.replicate_zero, List.push_toArray, List.append_toArray, List.nil_append, List.cons_append]
  have hcs : W.cell? ⟨bs, 0, none⟩ = some (.slice (some ⟨g, 0, none⟩) n c) := by rw [cell_of_row _ _ _ _ _ _ hS]; rfl
  subst hn
  gi_wp2
  gi_loopw [3] (fun i wr => ∃ j : Nat, j ≤ L.length ∧ i = .int .i64 ((j : Int) - 1) ∧ J ((List.range (L.length - j)).map fun k => L.length - 1 - k) wr ∧ KpBC bs g W wr) (fun i _ => (intOf i + 1).toNat)
  case atStart => exact ⟨L.length, Nat.le_refl _, rfl, by rw [Nat.sub_self]; exact h0, KpBC.refl _ _ _⟩
  case round =>
    obtain ⟨j, hj, rfl, hJs, hnx⟩ := hrel
    have hcs2 : wr.cell? ⟨bs, 0, none⟩ = some (.slice (some ⟨g, 0, none⟩) L.length c) := by rw [cell_of_row _ _ _ _ _ _ (hnx.1.trans hS)]; rfl
    clear hcs
    cases j with
    | zero =>
      rw [show (((0 : Nat) : Int) - 1) = -1 from rfl]
      gi_wp2
      go_end0
      exact ⟨⟨_, rfl⟩, .inl ⟨_, rfl, hJs⟩⟩
    | succ t =>
      have ht : t < L.length := by omega
      obtain ⟨x, hx⟩ : ∃ x, L[t]? = some x := ⟨_, List.getElem?_eq_getElem ht⟩
      obtain ⟨hc0, hc1, hc2⟩ := hc wr hnx.2 t x hx
      obtain ⟨fn, tmps, assign, body, hy, hR⟩ := hY ((List.range (L.length - (t + 1))).map fun k => L.length - 1 - k) t wr hJs (by rw [List.length_map, List.length_range]; omega)
      have hent : entAt L t = x := by unfold entAt; rw [List.getD_eq_getElem?_getD, hx]; rfl
      unfold encE at hy
      rw [hent] at hy
      have HUP : Hid ((List.range (L.length - (t + 1))).map (fun k => L.length - 1 - k) ++ [t] = (List.range (L.length - t)).map fun k => L.length - 1 - k) := by
        refine Lib.hid ?_
        rw [show L.length - t = L.length - (t + 1) + 1 by omega, List.range_succ, List.map_append, List.map_cons, List.map_nil, show L.length - 1 - (L.length - (t + 1)) = t by omega]
      have HNX := Lib.hid hnx
      rw [show (((t + 1 : Nat) : Int) - 1) = (t : Int) by omega]
      clear hnx hJs hx hent
      gi_wp2
      refine hR.mono ?_
      rintro e W3 (⟨rfl, hJ3, hk3⟩ | ⟨rfl, hJx3⟩)
      · have HN3 := Lib.hid (HNX.out.trans hk3)
        have HJ3 := Lib.hid hJ3
        clear hk3 hJ3
        gi_wp2
        go_roundw
        case rel => exact ⟨t, by omega, rfl, by rw [← HUP.out]; exact HJ3.out, HN3.out⟩
        case measure => simp [intOf]
      · have HJ3 := Lib.hid hJx3
        clear hJx3
        gi_wp2
        refine bodyPost_ret (results_none rfl _ _ _) rfl ?_
        refine ⟨⟨_, rfl⟩, .inr ⟨_, ?_, HJ3.out⟩⟩
        rw [HUP.out]
        exact downs_split (by omega)
theorem back_stops (bs g c : Nat) (L : List E) (hl : L.length ≤ 4096) (w : World) (hS : w.heap[bs]? = some (.cells #[.slice (some ⟨g, 0, none⟩) L.length c] 210 (0, 0))) (hg : g < w.heap.size)
    (hc : ∀ W' : World, W'.heap[g]? = w.heap[g]? → ∀ (i : Nat) (x : E), L[i]? = some x → W'.cell? ⟨g, i * 3, none⟩ = some (.int .i64 x.key) ∧ W'.cell? ⟨g, i * 3 + 1, none⟩ = some (.string x.val) ∧ W'.cell? ⟨g, i * 3 + 2, none⟩ = some (.int .i64 (x.pins : Int))) :
    SeqStopsK Fence.wide 8 Tryz.prog 232 #[.pointer (some ⟨bs, 0, none⟩)] (encE L) (KpBC bs g) (fun ys => ys = downs L.length) (fun pre => pre <+: downs L.length) L.length w := fun l J Jx W hW _ _ hY h0 =>
  back1_in l bs g L.length c L rfl hl J Jx hY W ((hW.block bs (heap_in hS)).trans hS) h0 (fun W' hW' => hc W' (hW'.trans (hW.block g hg)))
theorem downs_at {n t : Nat} (h : t < n) : (downs n)[t]? = some (n - 1 - t) := by
  unfold downs
  rw [List.getElem?_map, List.getElem?_range h]
  rfl
theorem entAt_some {L : List E} {k : Nat} {x : E} (h : L[k]? = some x) : entAt L k = x := by
  unfold entAt
  rw [List.getD_eq_getElem?_getD, h]
  rfl
theorem old_stop {L : List E} {q : List Nat} {k : Nat} (hp : q ++ [k] <+: downs L.length) (hq : ∀ x ∈ q, (entAt L x).pins ≠ 0) (hk : (entAt L k).pins = 0) : k < L.length ∧ oldL L = L.length - 1 - k := by
  have hlen : q.length + 1 ≤ L.length := by
    have := hp.length_le
    unfold downs at this
    simpa using this
  have hat : ∀ t, t < q.length + 1 → (q ++ [k])[t]? = some (L.length - 1 - t) := fun t ht => by
    obtain ⟨r, hr⟩ := hp
    rw [← downs_at (show t < L.length by omega), ← hr]
    exact (List.getElem?_append_left (by rw [List.length_append]; exact ht)).symm
  have hkk : k = L.length - 1 - q.length := by
    have := hat q.length (by omega)
    simpa using this
  have hl : k < L.length := by omega
  refine ⟨hl, oldL_eq (List.getElem?_eq_getElem hl) ?_ fun j x hj hx => ?_⟩
  · rw [← entAt_some (List.getElem?_eq_getElem hl)]
    exact hk
  · have hjl := (List.getElem?_eq_some_iff.1 hx).1
    have hm := hat (L.length - 1 - j) (by omega)
    rw [List.getElem?_append_left (by omega), show L.length - 1 - (L.length - 1 - j) = j by omega] at hm
    have := hq j (List.mem_of_getElem? hm)
    rw [entAt_some hx] at this
    exact this
theorem old_done {L : List E} (h : ∀ x ∈ downs L.length, (entAt L x).pins ≠ 0) : ¬ oldL L < L.length := by
  intro hc
  obtain ⟨e, he, hp, _⟩ := oldL_at hc
  have hl := (List.getElem?_eq_some_iff.1 he).1
  have hm : L.length - 1 - oldL L ∈ downs L.length := by
    have := downs_at (n := L.length) (t := oldL L) hc
    exact List.mem_of_getElem? this
  have := h _ hm
  rw [entAt_some he] at this
  exact this hp
def OldPost (L : List E) (w : World) (e : Ending) (w' : World) : Prop :=
  (∃ i x, L[i]? = some x ∧ oldL L = L.length - 1 - i ∧ e = .returned (.tuple #[.int .i64 (i : Int), .bool true]) ∧ Below w.heap.size w w') ∨
  (¬ oldL L < L.length ∧ e = .returned (.tuple #[.int .i64 0, .bool false]) ∧ Below w.heap.size w w')
set_option maxHeartbeats 2000000 in
theorem oldest_any {w0 : World} {p : Nat} {most : Int} {L : List E} {R : List (Nat × Obj)} {w : World} (h : CaT w0 p most L R w) (hl : L.length ≤ 4096) (h0 : 0 < L.length) :
    Calls Tryz.prog 162 #[.pointer (some ⟨p, 0, none⟩)] w (OldPost L w) := by
  obtain ⟨v, hp, hr, _⟩ := h.row
  obtain ⟨g, cap, cur, rfl, hg0, hg, hlc, hcm, hcs, ht⟩ := hr.block h0
  have hbA : Below w.heap.size w ((w.alloc (.cells #[.int .i64 0] 3)).alloc (.cells #[.bool false] 4)) := by go_grown
  have hu1 := (box_cells ((hbA.block p (heap_in hp)).trans hp)).2.1
  have hcc : ∀ W' : World, W'.heap[g]? = w.heap[g]? → ∀ (i : Nat) (x : E), L[i]? = some x → W'.cell? ⟨g, i * 3, none⟩ = some (.int .i64 x.key) ∧ W'.cell? ⟨g, i * 3 + 1, none⟩ = some (.string x.val) ∧ W'.cell? ⟨g, i * 3 + 2, none⟩ = some (.int .i64 (x.pins : Int)) := fun W' hW' i x hx => by
    obtain ⟨c0, c1, c2⟩ := row_cells hr hx
    exact ⟨(World.cell?_of_block (a := ⟨g, i * 3, none⟩) hW').trans c0, (World.cell?_of_block (a := ⟨g, i * 3 + 1, none⟩) hW').trans c1, (World.cell?_of_block (a := ⟨g, i * 3 + 2, none⟩) hW').trans c2⟩
  have HCC := Lib.hid hcc
  have HBA := Lib.hid hbA
  have HGL := heap_in hg
  clear h hp hr hg hcs ht hcc hbA
  refine (callsIn_wide (n := 10)).1 ?_
  refine callsIn_of_wp_marks Tryz.func162 rfl trivial ?_ rfl
  simp only [Tryz.ntmps162, List.size_toArray, List.length_cons, List.length_nil, Nat.reduceAdd, Nat.reduceSub, Array.replicate_succ, Array.replicate_zero, List.push_toArray, List.append_toArray, List.nil_append, List.cons_append]
  refine wpIn_wide.2 ?_
  go_wp2_with fail
  refine (back_any _ _ _ _).mono ?_
  rintro e _ ⟨rfl, rfl⟩
  go_wp2_with fail
  have z1 : (w.alloc (.cells #[.int .i64 0] 3)).heap.size = w.heap.size + 1 := by simp
  have z2 : ((w.alloc (.cells #[.int .i64 0] 3)).alloc (.cells #[.bool false] 4)).heap.size = w.heap.size + 1 + 1 := by simp
  have q1 : Boxed ((w.alloc (.cells #[.int .i64 0] 3)).alloc (.cells #[.bool false] 4)) w.heap.size 3 (.int .i64 0) := (Boxed.new w 3 (.int .i64 0)).alloc _
  have q2 : Boxed ((w.alloc (.cells #[.int .i64 0] 3)).alloc (.cells #[.bool false] 4)) (w.heap.size + 1) 4 (.bool false) := by
    have := Boxed.new (w.alloc (.cells #[.int .i64 0] 3)) 4 (.bool false)
    rwa [z1] at this
  generalize (w.alloc (.cells #[.int .i64 0] 3)).alloc (.cells #[.bool false] 4) = W1 at *
  obtain ⟨W0, hW0⟩ : ∃ W0, W1.alloc (.cells #[.slice (some ⟨g, 0, none⟩) L.length cap] 210) = W0 := ⟨_, rfl⟩
  rw [hW0]
  have hz0 : W0.heap.size = w.heap.size + 3 := by rw [← hW0, World.size_alloc, z2]
  have hb0 : Below w.heap.size w W0 := HBA.out.on (by rw [← hW0]; go_grown)
  have hs0 : W0.heap[w.heap.size + 1 + 1]? = some (.cells #[.slice (some ⟨g, 0, none⟩) L.length cap] 210 (0, 0)) := by
    rw [← hW0]
    have := heap_alloc_new W1 (.cells #[.slice (some ⟨g, 0, none⟩) L.length cap] 210)
    rwa [z2] at this
  have r1 : Boxed W0 w.heap.size 3 (.int .i64 0) := by rw [← hW0]; exact q1.alloc _
  have r2 : Boxed W0 (w.heap.size + 1) 4 (.bool false) := by rw [← hW0]; exact q2.alloc _
  have hg0' : W0.heap[g]? = w.heap[g]? := hb0.block g HGL
  clear hW0 q1 q2 z1 z2 hu1 HBA
  refine (wpIn_wide (n := 9)).1 ?_
  refine wpIn_rangeFunc_ownH (w0 := W0) rfl (by decide) (gf := 232) (lb := #[.pointer (some ⟨w.heap.size + 1 + 1, 0, none⟩)]) rfl trivial (enters_of Tryz.func232 (by kernel_rfl) rfl)
    (back_stops (w.heap.size + 1 + 1) g cap L hl W0 hs0 (by omega) (fun W' hW' => HCC.out W' (hW'.trans hg0'))) (fun h k => KpBC.trans h k)
    (fun W l o o' hl' _ _ _ => ⟨World.putObj_heap_other (by omega), World.putObj_heap_other (by omega)⟩) (Below.refl _ _) (fun _ => rfl)
    (fun pre W => (∀ x ∈ pre, (entAt L x).pins ≠ 0) ∧ Below W0.heap.size W0 W)
    (fun c pre W => c = .ret ∧ (∃ q k, pre = q ++ [k] ∧ (∀ x ∈ q, (entAt L x).pins ≠ 0) ∧ (entAt L k).pins = 0 ∧ Boxed W w.heap.size 3 (.int .i64 (k : Int))) ∧ Boxed W (w.heap.size + 1) 4 (.bool true) ∧ Below w.heap.size w W)
    ?own ?ownx ⟨(fun _ h => by cases h), Below.refl _ _⟩
    (fun x a' W => ∃ Bx, W0.heap.size ≤ Bx ∧ W.heap[Bx]? = some (.cells #[.int .i64 (entAt L x).key, .string (entAt L x).val, .int .i64 ((entAt L x).pins : Int)] 228 (0, 0)) ∧ a' = {
      tmps := #[.pointer (some ⟨p, 0, none⟩), undef, .pointer (some ⟨w.heap.size, 0, none⟩), .pointer (some ⟨w.heap.size + 1, 0, none⟩), .int .i64 (x : Int), .pointer (some ⟨Bx, 0, none⟩), .pointer (some ⟨p, 0, none⟩), .pointer (some ⟨p, 0, none⟩), .pointer (some ⟨p, 1, none⟩), .slice (some ⟨g, 0, none⟩) L.length cap,
        .func (.func 232) #[] #[.pointer (some ⟨w.heap.size + 1 + 1, 0, none⟩)], .int .i64 (x : Int), .agg #[.int .i64 (entAt L x).key, .string (entAt L x).val, .int .i64 ((entAt L x).pins : Int)], undef, undef, undef, undef], defers := [] }) ?ownA ?assign ?body ?done ?stop
  case own =>
    rintro pre X Y row ⟨h1, h4⟩ hgr hr
    exact ⟨h1, h4.grown hgr h4.size (fun k e => (hr k e).1)⟩
  case ownx =>
    rintro c pre X Y row ⟨h1, ⟨q, k, hq1, hq2, hq3, h2⟩, h3, h4⟩ hgr hr
    have hk : ∀ k, k < W0.heap.size → k < X.heap.size → Y.heap[k]? = X.heap[k]? := fun k hk hx => hgr.block k hx fun e => by have := (hr k e.symm).1; omega
    exact ⟨h1, ⟨q, k, hq1, hq2, hq3, (hk _ (by omega) h2.lt).trans h2⟩, (hk _ (by omega) h3.lt).trans h3, h4.grown hgr h4.size (fun k e => by have := (hr k e).1; omega)⟩
  case ownA =>
    rintro x a' _ X Y row ⟨Bx, h1, h2, h3⟩ hgr hr
    refine ⟨Bx, h1, (hgr.block Bx (heap_in h2) fun e => ?_).trans h2, h3⟩
    obtain ⟨_, o, ho, hc⟩ := hr Bx e.symm
    rw [h2] at ho
    cases ho
    cases hc
  case assign =>
    rintro l pre x W K ⟨h1, h4⟩ hK
    have H1 := Lib.hid h1
    have H4 := Lib.hid h4
    unfold encE
    clear h1 h4 hb0 hs0 r1 r2 hg0'
    generalize (entAt L x).key = xk at *
    generalize (entAt L x).val = xv at *
    generalize ((entAt L x).pins : Int) = xp at *
    gi_wp2
    have hsz := H4.out.size
    exact hK _ _ ((KeepsOthers.alloc _ _).from _) ⟨Below.heap_alloc _ _ _ (by omega), Below.heap_alloc _ _ _ (by omega)⟩ ⟨H1.out, H4.out.trans (Below.mono (by go_grown) hsz)⟩ ⟨W.heap.size, hsz, heap_alloc_new _ _, rfl⟩
  case body =>
    rintro l pre x _ W hl' _ ⟨h1, h4⟩ ⟨Bx, hBx, hx, rfl⟩ hlt
    have hcx : W.cell? ⟨Bx, 2, none⟩ = some (.int .i64 ((entAt L x).pins : Int)) := by rw [cell_of_row _ _ _ _ _ _ hx]; rfl
    have hsz := h4.size
    have s1 := (h4.block w.heap.size (by omega)).trans r1
    have s2 := (h4.block (w.heap.size + 1) (by omega)).trans r2
    have HB := Lib.hid (hb0.trans (h4.mono hb0.size))
    have B1 : Boxed W w.heap.size 3 (.int .i64 0) := s1
    have B2 : Boxed W (w.heap.size + 1) 4 (.bool false) := s2
    have m1 := B1.cell
    have f1 := B1.frozen
    have H1 := Lib.hid h1
    have H4 := Lib.hid h4
    by_cases hp0 : (entAt L x).pins = 0
    · have B1' := (B1.set (.int .i64 (x : Int)))
      have B2' := B2.other (Nat.ne_of_gt (Nat.lt_succ_self _)) (.int .i64 (x : Int))
      have m2 := B2'.cell
      have f2 := B2'.frozen
      have HX1 := Lib.hid ((B1'.other (Nat.ne_of_lt (Nat.lt_succ_self _)) (.bool true)))
      have HX2 := Lib.hid (B2'.set (.bool true))
      have HK : Hid (KeepsFrom W0.heap.size W ((W.setCell ⟨w.heap.size, 0, none⟩ (.int .i64 (x : Int))).setCell ⟨w.heap.size + 1, 0, none⟩ (.bool true))) := Lib.hid (((KeepsOthers.setCell W _ _).from _).trans ((KeepsOthers.setCell _ _ _).from _))
      have HB2 : Hid (Below w.heap.size w ((W.setCell ⟨w.heap.size, 0, none⟩ (.int .i64 (x : Int))).setCell ⟨w.heap.size + 1, 0, none⟩ (.bool true))) := Lib.hid ((HB.out.setCell (Nat.le_refl _) _).setCell (Nat.le_succ _) _)
      rw [hp0] at hcx
      have hcx2 : W.cell? ⟨Bx, 2, none⟩ = some (.int .i64 0) := hcx
      have HP := Lib.hid hp0
      clear hcx B1 B2 s1 s2 h1 h4 hx hb0 hs0 r1 r2 hg0' hp0 B1' B2'
      gi_wp2
      exact ⟨HK.out, rfl, ⟨pre, x, rfl, H1.out, HP.out, HX1.out⟩, HX2.out, HB2.out⟩
    · have hp1 : (((entAt L x).pins : Int) == 0) = false := beq_eq_false_iff_ne.2 (by omega)
      have HP := Lib.hid hp0
      clear B1 B2 s1 s2 h1 h4 hx hb0 hs0 r1 r2 hg0' hp0 m1 f1
      generalize (((entAt L x).pins : Int)) = xp at *
      gi_wp2
      refine ⟨KeepsFrom.refl _ _, KpBC.refl _ _ _, fun y hy => ?_, H4.out⟩
      rcases List.mem_append.1 hy with hy | hy
      · exact H1.out y hy
      · rw [List.mem_singleton.1 hy]
        exact HP.out
  case done =>
    rintro D ys W hD rfl ⟨h1, h4⟩ hK
    have s1 := (h4.block w.heap.size (by omega)).trans r1
    have s2 := (h4.block (w.heap.size + 1) (by omega)).trans r2
    have B1 : Boxed W w.heap.size 3 (.int .i64 0) := s1
    have B2 : Boxed W (w.heap.size + 1) 4 (.bool false) := s2
    have m1 := B1.cell
    have f1 := B1.frozen
    have B1' := (B1.set (.int .i64 0))
    have B2' := B2.other (Nat.ne_of_gt (Nat.lt_succ_self _)) (.int .i64 0)
    have m2 := B2'.cell
    have f2 := B2'.frozen
    have HX1 := Lib.hid ((B1'.other (Nat.ne_of_lt (Nat.lt_succ_self _)) (.bool false)))
    have HX2 := Lib.hid (B2'.set (.bool false))
    have HNO := Lib.hid (old_done h1)
    have HB2 : Hid (Below w.heap.size w ((W.setCell ⟨w.heap.size, 0, none⟩ (.int .i64 0)).setCell ⟨w.heap.size + 1, 0, none⟩ (.bool false))) := Lib.hid (((hb0.trans (h4.mono hb0.size)).setCell (Nat.le_refl _) _).setCell (Nat.le_succ _) _)
    have HK2 : Hid (((W.setCell ⟨w.heap.size, 0, none⟩ (.int .i64 0)).setCell ⟨w.heap.size + 1, 0, none⟩ (.bool false)).heap[D]? = some (.deferred (some []))) := Lib.hid (by
      rw [heap_setCell_other _ _ _ _ (by show D ≠ w.heap.size + 1; omega), heap_setCell_other _ _ _ _ (by show D ≠ w.heap.size; omega)]
      exact hK)
    have HD := Lib.hid (show w.heap.size ≤ D by omega)
    clear s1 s2 B1 B2 B1' B2' h1 h4 hK hb0 hs0 r1 r2 hg0' hD hz0
    go_wp2_with fail
    clear m1 f1 m2 f2
    generalize (W.setCell ⟨w.heap.size, 0, none⟩ (.int .i64 0)).setCell ⟨w.heap.size + 1, 0, none⟩ (.bool false) = W2 at *
    refine ⟨by simp, .inl ⟨_, _, rfl, run_takeDeferred HK2.out, ?_⟩⟩
    have g1 := boxed_put (o := .deferred none) HX1.out HK2.out
    have g2 := boxed_put (o := .deferred none) HX2.out HK2.out
    exact ⟨_, by simp [results, Tryz.results162, go_sem, g1.cell, g2.cell], .inr ⟨HNO.out, rfl, below_putC HB2.out HD.out HK2.out rfl rfl⟩⟩
  case stop =>
    rintro D c pre W hD hSp ⟨rfl, ⟨q, k, rfl, hq1, hq2, B1⟩, B2, h4⟩ hK
    obtain ⟨hkl, hold⟩ := old_stop hSp hq1 hq2
    have HD := Lib.hid (show w.heap.size ≤ D by omega)
    gi_wp2
    refine ⟨by simp, .inl ⟨_, _, rfl, run_takeDeferred hK, ?_⟩⟩
    have g1 := boxed_put (o := .deferred none) B1 hK
    have g2 := boxed_put (o := .deferred none) B2 hK
    exact ⟨_, by simp [results, Tryz.results162, go_sem, g1.cell, g2.cell], .inl ⟨k, _, List.getElem?_eq_getElem hkl, hold, rfl, below_putC h4 HD.out hK rfl rfl⟩⟩
end KA
end Go.Proofs.YtcjfnfdinhbdlaaGreatDoor
namespace Go.Proofs.YtcjfnfdinhbdlaaGreatDoor
set_option maxRecDepth 100000
open Go.ChangeShapes Go.WideShapes Go.ChangeAt Go.RowKit Go.PlainAid
namespace KA
attribute [local go_sem ↓ high] store_e
theorem row_thawed {n₀ : Nat} {w : World} {g n cap : Nat} {L : List E} (h : RowE cE 228 n₀ w (.slice (some ⟨g, 0, none⟩) n cap) L) (j : Nat) : w.frozen? ⟨g, j, none⟩ = false := by
  rcases h.2 with ⟨hv, _⟩ | ⟨g', cap', cur, hv, _, hg, _⟩
  · cases hv
  · cases hv
    exact frozen_of_row _ _ _ _ _ hg
theorem CaT.rowAt {w0 : World} {p : Nat} {most : Int} {L : List E} {R : List (Nat × Obj)} {w : World} {v : Value} (h : CaT w0 p most L R w) (hp : w.heap[p]? = some (.cells #[.int .i64 most, v] 212 (0, 0))) :
    RowE cE 228 w0.heap.size w v L ∧ v.ownBlock ≠ some p ∧ ∀ b o, (b, o) ∈ R → v.ownBlock ≠ some b := by
  obtain ⟨u, h3, h4, h5, h6⟩ := h.row
  obtain rfl : u = v := by
    rw [hp] at h3
    injection h3 with h3
    injection h3 with h3
    simpa using h3.symm
  exact ⟨h4, h5, h6⟩
theorem CaT.poke {w0 : World} {p : Nat} {most : Int} {L : List E} {R : List (Nat × Obj)} {w : World} {g n cap : Nat} (h : CaT w0 p most L R w) (hp : w.heap[p]? = some (.cells #[.int .i64 most, .slice (some ⟨g, 0, none⟩) n cap] 212 (0, 0)))
    {i : Nat} {x y : E} (hx : L[i]? = some x) (j : Nat) (hj : j < 3) (c : Value) (hy : (cE x).set j c = cE y) : CaT w0 p most (L.set i y) R (w.setCell ⟨g, i * 3 + j, none⟩ c) := by
  have hi := (List.getElem?_eq_some_iff.1 hx).1
  obtain ⟨hr, hne, _⟩ := h.rowAt hp
  obtain ⟨g', cap', cur, hv, hb, hg, hlc, hcm, hcs, ht⟩ := hr.block (by omega)
  cases hv
  have hgp : p ≠ g := fun e => hne (by rw [e]; rfl)
  have h1 := heap_setCell_same w g (i * 3 + j) cur _ c hg
  have hcx : cur.toList = cur.toList.take (i * 3) ++ cE x ++ cur.toList.drop ((i + 1) * 3) := by
    have e1 : cur.toList.drop (i * 3) = cE x ++ cur.toList.drop ((i + 1) * 3) := by
      have : L[i] = x := (List.getElem?_eq_some_iff.1 hx).2
      rw [drop3 three ht (i := i) (by omega), drop3 three ht (i := i + 1) (by omega), List.drop_eq_getElem_cons hi, flat_cons, List.append_assoc, this]
    rw [List.append_assoc, ← e1, List.take_append_drop]
  have hset : (cur.setIfInBounds (i * 3 + j) c).toList = cur.toList.take (i * 3) ++ cE y ++ cur.toList.drop ((i + 1) * 3) := by
    have hl : (cur.toList.take (i * 3)).length = i * 3 := by rw [List.length_take, Array.length_toList]; omega
    rw [Array.toList_setIfInBounds, ← hy]
    generalize cur.toList.take (i * 3) = A at *
    generalize cur.toList.drop ((i + 1) * 3) = B at *
    rw [hcx, List.append_assoc, List.set_append_right _ _ (by rw [hl]; exact Nat.le_add_right _ _), hl, Nat.add_sub_cancel_left, List.set_append_left _ _ (by exact hj), List.append_assoc]
  refine h.move hp (fun _ _ _ => (Below.refl _ _).setCell hb _) (fun k _ _ hk => heap_setCell_other w _ k c fun e => hk (by rw [e]; rfl)) ((heap_setCell_other w ⟨g, i * 3 + j, none⟩ p c hgp).trans hp) (RowE.mk' three hb h1 hcm (by rw [Array.size_setIfInBounds, hcs]) (by rw [List.length_set]; exact hlc) ?_ (by rw [List.length_set])) (fun k hk => .inl hk)
  rw [hset, List.length_set]
  exact set_list three hi ht
theorem CaT.pushed {w0 : World} {p : Nat} {most : Int} {L : List E} {R : List (Nat × Obj)} {W W1 w4 : World} {v : Value} {x : E} {g m cap : Nat} (h : CaT w0 p most L R W) (hp : W.heap[p]? = some (.cells #[.int .i64 most, v] 212 (0, 0)))
    (hB : Below W.heap.size W W1) (hm : m = L.length + 1) (hown : w4.ownsRow w0.heap.size 228 3 (.slice (some ⟨g, 0, none⟩) m cap) m (flat cE L ++ cE x)) (hgrow : W1.grownBy w4 v.ownBlock) (hat : v.ownBlock = some g ∨ W.heap.size ≤ g) :
    w4.cell? ⟨p, 1, none⟩ = some v ∧ w4.frozen? ⟨p, 1, none⟩ = false ∧ (w4.setCell ⟨p, 1, none⟩ (.slice (some ⟨g, 0, none⟩) m cap)).heap[p]? = some (.cells #[.int .i64 most, .slice (some ⟨g, 0, none⟩) m cap] 212 (0, 0)) ∧
      CaT w0 p most (L ++ [x]) R (w4.setCell ⟨p, 1, none⟩ (.slice (some ⟨g, 0, none⟩) m cap)) := by
  obtain ⟨hr, hne, _⟩ := h.rowAt hp
  have hpl := heap_in hp
  have hp4 : w4.heap[p]? = some (.cells #[.int .i64 most, v] 212 (0, 0)) := (hgrow.block p (Nat.lt_of_lt_of_le hpl hB.size) (fun e => hne e.symm)).trans ((hB.block p hpl).trans hp)
  have h5 := heap_setCell_same w4 p 1 _ _ (.slice (some ⟨g, 0, none⟩) m cap) hp4
  have hpg : g ≠ p := fun e => by
    subst e
    rcases hat with h | h
    · exact hne h
    · omega
  refine ⟨(box_cells hp4).2.1, (box_cells hp4).2.2, h5, h.move hp (fun a b c => ?_) (fun k hk hkp hkv => ?_) h5 ⟨?_, ?_⟩ (fun k hk => ?_)⟩
  · exact (((hB.mono a).grown hgrow (Nat.le_trans a hB.size) (fun k e => b k e))).setCell c _
  · rw [heap_setCell_other _ _ _ _ hkp]
    exact (hgrow.block k (Nat.lt_of_lt_of_le hk hB.size) (fun e => hkv e.symm)).trans (hB.block k hk)
  · rw [List.length_append, List.length_singleton]
    exact flat_len three (L ++ [x]) |>.trans (by rw [List.length_append, List.length_singleton])
  · have hfl : flat cE (L ++ [x]) = flat cE L ++ cE x := by rw [flat_app]; show _ ++ (cE x ++ []) = _; rw [List.append_nil]
    rcases hown.2 with ⟨hv, _⟩ | ⟨g', cap', cur, hv, a1, a2, a3, a4, a5, a6⟩
    · cases hv
    · cases hv
      refine .inr ⟨g, cap, cur, by rw [List.length_append, List.length_singleton, hm], a1, (heap_setCell_other _ _ _ _ hpg).trans a2, by rw [List.length_append, List.length_singleton, ← hm]; exact a3, a4, a5, ?_⟩
      rw [hfl, List.length_append, List.length_singleton, ← hm]
      exact a6
  · have : k = g := by simpa [Value.ownBlock] using hk.symm
    rw [this]
    exact hat
def buildE (n : Nat) (l : Array (Nat × Value)) : Sem Value := Instr.buildSlice 210 n l
theorem build_e (n : Nat) (l : Array (Nat × Value)) : Instr.buildSlice 210 n l = buildE n l := rfl
theorem build_one (x : E) (w : World) : (buildE 1 #[(0, .agg #[.int .i64 x.key, .string x.val, .int .i64 (x.pins : Int)])]).run Tryz.prog w = .ok (.slice (some ⟨w.heap.size, 0, none⟩) 1 1) (w.alloc (.cells #[.int .i64 x.key, .string x.val, .int .i64 (x.pins : Int)] 228)) := by
  obtain ⟨i, i1, i2, i3, _⟩ := info_parts info_e2
  exact run_buildOne (P := Tryz.prog) w 210 228 #[.int .i64 x.key, .string x.val, .int .i64 (x.pins : Int)] i _ Tryz.underlying210 i1 i2 (by rw [i3]; rfl) (by omega) (by omega)
attribute [local go_sem ↓ high] build_e
theorem CaT.putAt {w0 : World} {p : Nat} {most : Int} {L : List E} {R : List (Nat × Obj)} {w : World} {g n cap : Nat} (h : CaT w0 p most L R w) (hp : w.heap[p]? = some (.cells #[.int .i64 most, .slice (some ⟨g, 0, none⟩) n cap] 212 (0, 0)))
    {i : Nat} (hi : i < L.length) (y : E) : ∃ W', (storeS 228 (.pointer (some ⟨g, i * 3, none⟩)) (.agg #[.int .i64 y.key, .string y.val, .int .i64 (y.pins : Int)])).run Tryz.prog w.drew = .ok () W' ∧
      W'.heap[p]? = some (.cells #[.int .i64 most, .slice (some ⟨g, 0, none⟩) n cap] 212 (0, 0)) ∧ CaT w0 p most (L.set i y) R W' := by
  obtain ⟨hr, hne, _⟩ := h.rowAt hp
  obtain ⟨g', cap', cur, hv, hb, hg, hlc, hcm, hcs, ht⟩ := hr.block (by omega)
  cases hv
  have hgp : p ≠ g := fun e => hne (by rw [e]; rfl)
  have hp2 := (setRow_other w.drew g p (cur.toList.take (i * 3) ++ cE y ++ cur.toList.drop (i * 3 + 3)).toArray hgp).trans hp
  refine ⟨_, store_up (w := w.drew) hg hcs (by omega), hp2, ?_⟩
  refine h.move hp (fun _ _ _ => below_row (w' := w.drew) (drew_below (Below.refl _ _)) hb _) (fun k _ _ hk => setRow_other w.drew g k _ fun e => hk (by rw [e]; rfl)) hp2 (RowE.mk' three hb (setRow_heap w.drew g cur _ _ _ hg) hcm ?_ (by rw [List.length_set]; exact hlc) ?_ (by rw [List.length_set])) (fun k hk => .inl hk)
  · have h3 : (cE y).length = 3 := rfl
    simp only [List.size_toArray, List.length_append, List.length_take, List.length_drop, Array.length_toList, h3]
    omega
  · rw [List.length_set, show i * 3 + 3 = (i + 1) * 3 by omega]
    exact set_list three hi ht
theorem useL_set {L : List E} {i : Nat} (hi : i < L.length) (y : E) : useL i (L.set i y) = y :: L.eraseIdx i := by
  rw [useL_some (e := y) (by rw [List.getElem?_set_self hi]), List.eraseIdx_set_eq]
theorem useL_last (L : List E) (x : E) : useL L.length (L ++ [x]) = x :: L := by
  rw [useL_some (e := x) (by simp), List.eraseIdx_append_of_length_le (Nat.le_refl _), Nat.sub_self]
  simp
def PutPost (w0 : World) (p : Nat) (most : Nat) (L : List E) (R : List (Nat × Obj)) (k : Int) (v : ByteArray) (e : Ending) (w' : World) : Prop :=
  e = .returned (.tuple #[.int .i64 ((putK most k L).getD 0), .bool (putK most k L).isSome, .int .i64 (putE most k L)]) ∧ CaT w0 p most (putL most k v L) R w'
set_option maxHeartbeats 2000000 in
theorem put_any {w0 : World} {p : Nat} {most : Nat} {L : List E} {R : List (Nat × Obj)} {w : World} (h : CaT w0 p most L R w) (k : Int) (v : ByteArray) (hm : 1 ≤ most) (hm2 : most ≤ 1024) (hl : L.length ≤ most) :
    Calls Tryz.prog 101 #[.pointer (some ⟨p, 0, none⟩), .int .i64 k, .string v] w (PutPost w0 p most L R k v) := by
  obtain ⟨u, hp, hr, _⟩ := h.row
  obtain ⟨hcm, hu, _⟩ := box_cells hp
  have hm0 : ((most : Int) == 0) = false := beq_eq_false_iff_ne.2 (by omega)
  have H := Lib.hid h
  have hF := Lib.hid (find_any h k (by omega))
  clear h hr
  go_enter Tryz.func101, Tryz.ntmps101
  go_wp2_with fail
  refine hF.out.mono ?_
  rintro e w1 (⟨i, x, hx, hk, hpos, rfl, hb⟩ | ⟨hno, rfl, hb⟩)
  · have H1 := Lib.hid (H.out.on hb)
    have hil := (List.getElem?_eq_some_iff.1 hx).1
    have HX := Lib.hid hx
    have HK := Lib.hid hk
    have HPOS := Lib.hid hpos
    have hU := Lib.hid (use_any H1.out i hil (by omega))
    have HM := Lib.hid (useL_some hx)
    have HR1 : Hid (putK most k L = none ∧ putE most k L = 0 ∧ putL most k v L = { x with val := v } :: L.eraseIdx i) := by
      refine Lib.hid ?_
      unfold putK putE putL
      rw [hpos, if_pos hil, if_pos hil, if_pos hil, hx]
      exact ⟨rfl, rfl, rfl⟩
    clear hF hx hk hpos hu hcm hp H
    go_wp2_with fail
    refine hU.out.mono ?_
    rintro e w2 ⟨g, cap, rfl, hp2, h2⟩
    rw [HM.out] at h2
    have hr2 := (h2.rowAt hp2).1
    have hc2 : w2.cell? ⟨g, 1, none⟩ = some (.string x.val) := (row_cells hr2 (i := 0) rfl).2.1
    have hf2 := row_thawed hr2 1
    have HN : Hid (CaT w0 p most ({ x with val := v } :: L.eraseIdx i) R (w2.setCell ⟨g, 1, none⟩ (.string v))) := Lib.hid (h2.poke hp2 (i := 0) (y := { x with val := v }) rfl 1 (by omega) (.string v) rfl)
    clear hr2 h2 hp2 hU
    go_wp2
    go_returns
    refine ⟨?_, by rw [HR1.out.2.2]; exact HN.out⟩
    rw [HR1.out.1, HR1.out.2.1]
    rfl
  · have H1 := Lib.hid (H.out.on hb)
    have HNO := Lib.hid hno
    have hp1 := (hb.block p (heap_in hp)).trans hp
    have hu1 := (box_cells hp1).2.1
    have hq1 := (box_cells hp1).1
    have HP1 := Lib.hid hp1
    have hsn : (storeS 228 (.pointer (some ⟨w1.heap.size, 0, none⟩)) (.agg #[.int .i64 k, .string v, .int .i64 0])).run Tryz.prog (w1.alloc (.cells #[.int .i64 0, .string ⟨#[]⟩, .int .i64 0] 228)) = .ok () (w1.alloc (.cells #[.int .i64 k, .string v, .int .i64 0] 228)) := store_new w1 ⟨k, v, 0⟩ _ rfl
    clear hF hno hu hcm hp H hb hp1
    obtain ⟨hrow1, _, _⟩ := H1.out.rowAt HP1.out
    obtain ⟨ao, n, cap, rfl, hn⟩ : ∃ ao n cap, u = .slice ao n cap ∧ n = L.length := by
      rcases hrow1.2 with ⟨hv, h0⟩ | ⟨g, cap, cur, hv, _⟩
      · exact ⟨_, _, _, hv, h0.symm⟩
      · exact ⟨_, _, _, hv, rfl⟩
    subst hn
    have HROW := Lib.hid hrow1
    clear hrow1
    go_wp2_with fail
    have hbW : Below w1.heap.size w1 (w1.alloc (.cells #[.int .i64 k, .string v, .int .i64 0] 228)) := by go_grown
    have hxW := heap_alloc_new w1 (.cells #[.int .i64 k, .string v, .int .i64 0] 228)
    have hW2 := H1.out.on hbW
    have hpW := (hbW.block p (heap_in HP1.out)).trans HP1.out
    have hrW := ownsRow_onC HROW.out hbW
    have hsW : w1.heap.size < (w1.alloc (.cells #[.int .i64 k, .string v, .int .i64 0] 228)).heap.size := by simp
    generalize w1.alloc (.cells #[.int .i64 k, .string v, .int .i64 0] 228) = W at *
    have huW := (box_cells hpW).2.1
    have hmW := (box_cells hpW).1
    have HPW := Lib.hid hpW
    have HXW := Lib.hid hxW
    have HCW := Lib.hid hW2
    have HRW := Lib.hid hrW
    clear hsn hu1 hq1 hbW hxW hW2 hpW hrW HROW
    go_quiet (fail)
    have HPQ : Hid ((W.drewN nq).heap[p]? = some (.cells #[.int .i64 (most : Int), .slice ao L.length cap] 212 (0, 0))) := HPW
    have HCQ : Hid (CaT w0 p most L R (W.drewN nq)) := Lib.hid (HCW.out.on (below_drew W nq))
    have HXQ : Hid ((W.drewN nq).heap[w1.heap.size]? = some (.cells #[.int .i64 k, .string v, .int .i64 0] 228 (0, 0))) := HXW
    have HRQ : Hid ((W.drewN nq).ownsRow w0.heap.size 228 3 (.slice ao L.length cap) L.length (flat cE L)) := HRW
    have hsQ : w1.heap.size < (W.drewN nq).heap.size := hsW
    clear HPW HCW HXW HRW hsW huW hmW
    generalize W.drewN nq = Wq at *
    have huq := (box_cells HPQ.out).2.1
    have hx0 : Wq.cell? ⟨w1.heap.size, 0, none⟩ = some (.int .i64 k) := by rw [cell_of_row _ _ _ _ _ _ HXQ.out]; rfl
    have hx1 : Wq.cell? ⟨w1.heap.size, 1, none⟩ = some (.string v) := by rw [cell_of_row _ _ _ _ _ _ HXQ.out]; rfl
    have hx2 : Wq.cell? ⟨w1.heap.size, 2, none⟩ = some (.int .i64 0) := by rw [cell_of_row _ _ _ _ _ _ HXQ.out]; rfl
    by_cases hlt : L.length < most
    · have HR1 : Hid (putK most k L = none ∧ putE most k L = 0 ∧ putL most k v L = ⟨k, v, 0⟩ :: L) := by
        refine Lib.hid ?_
        unfold putK putE putL
        rw [if_neg HNO.out, if_neg HNO.out, if_neg HNO.out, if_pos hlt, if_pos hlt, if_pos hlt]
        exact ⟨rfl, rfl, rfl⟩
      have hbv : ∀ w, (buildE 1 #[(0, .agg #[.int .i64 k, .string v, .int .i64 0])]).run Tryz.prog w = .ok (.slice (some ⟨w.heap.size, 0, none⟩) 1 1) (w.alloc (.cells #[.int .i64 k, .string v, .int .i64 0] 228)) := fun w => build_one ⟨k, v, 0⟩ w
      obtain ⟨i0, hi, hz0, hz1, hz2⟩ := info_parts info_e2
      have HI := Lib.hid (And.intro hi (And.intro hz0 (And.intro hz1 hz2)))
      have hpq := heap_in HPQ.out
      clear hi hz0 hz1 hz2
      go_wp2_with fail
      go_region_law (refine step_append_lies _ rfl (.tmp 57) (.tmp 59) 210 rfl w0.heap.size 228 i0 _ 3 32 Tryz.underlying210 HI.out.1 HI.out.2.1 HI.out.2.2.1 HI.out.2.2.2 (by simp [Value.cells]) (by decide) (.slice ao L.length cap) _ _ rfl (World.ownsRow.alloc HRQ.out _) _ 1 1 [.int .i64 k, .string v, .int .i64 0] rfl rfl (World.news_of_block (heap_alloc_new _ _)) (three.one ⟨k, v, 0⟩) (by decide) (by unfold maxLen; omega) (by omega) (Nat.le_trans HCQ.out.below.size (by simp)) _ rfl ?_; intro g cap' w4 hown hgrow hat hlt4; obtain ⟨c4, f4, h5, hC5⟩ := HCQ.out.pushed (x := ⟨k, v, 0⟩) HPQ.out (by go_grown) rfl hown hgrow (hat.imp id fun e => by rw [e]; simp); have H5 := Lib.hid h5; have HC5 := Lib.hid hC5; clear h5 hC5 hown hgrow hat)
      all_goals
        go_wp2_with fail
        refine (use_any HC5.out L.length (by rw [List.length_append]; exact Nat.lt_succ_self _) (by rw [List.length_append, List.length_singleton]; omega)).mono ?_
        rintro e w6 ⟨g6, cap6, rfl, _, h6⟩
        rw [useL_last] at h6
        have H6 := Lib.hid h6
        clear h6
        go_wp2
        go_returns
        refine ⟨?_, by rw [HR1.out.2.2]; exact H6.out⟩
        rw [HR1.out.1, HR1.out.2.1]
        rfl
    · have hlm : L.length = most := by omega
      have HO := Lib.hid (oldest_any HCQ.out (by omega) (by omega))
      have HLM := Lib.hid hlm
      clear hlm
      go_wp2_with fail
      refine HO.out.mono ?_
      rintro e w4 (⟨i, x, hx, hold, rfl, hb⟩ | ⟨hno, rfl, hb⟩)
      · have hil := (List.getElem?_eq_some_iff.1 hx).1
        have HR1 : Hid (putK most k L = some x.key ∧ putE most k L = 0 ∧ putL most k v L = ⟨k, v, 0⟩ :: L.eraseIdx i) := by
          refine Lib.hid ?_
          unfold putK putE putL
          have hl2 : oldL L < L.length := by omega
          rw [if_neg HNO.out, if_neg HNO.out, if_neg HNO.out, if_neg hlt, if_neg hlt, if_neg hlt, if_pos hl2, if_pos hl2, if_pos hl2, hold, show L.length - 1 - (L.length - 1 - i) = i by omega, hx]
          exact ⟨rfl, rfl, rfl⟩
        have hp4 := (hb.block p (heap_in HPQ.out)).trans HPQ.out
        have h4 := HCQ.out.on hb
        obtain ⟨g, cap', cur, hv, _⟩ := (h4.rowAt hp4).1.block (by omega)
        cases hv
        obtain ⟨hc0, _, _⟩ := row_cells (h4.rowAt hp4).1 hx
        have hu4 := (box_cells hp4).2.1
        have hx4 := (hb.block _ (heap_in HXQ.out)).trans HXQ.out
        have hy0 : w4.cell? ⟨w1.heap.size, 0, none⟩ = some (.int .i64 k) := by rw [cell_of_row _ _ _ _ _ _ hx4]; rfl
        have hy1 : w4.cell? ⟨w1.heap.size, 1, none⟩ = some (.string v) := by rw [cell_of_row _ _ _ _ _ _ hx4]; rfl
        have hy2 : w4.cell? ⟨w1.heap.size, 2, none⟩ = some (.int .i64 0) := by rw [cell_of_row _ _ _ _ _ _ hx4]; rfl
        have H4 := Lib.hid h4
        have HX := Lib.hid hx
        have HP4 := Lib.hid hp4
        clear HO hx hold hp4 h4 hx4 hx0 hx1 hx2 huq hb HPQ HCQ HXQ HRQ HNO
        go_wp2_with fail
        obtain ⟨W6, hst, hp6, h6⟩ := H4.out.putAt HP4.out hil ⟨k, v, 0⟩
        have hst2 : (storeS 228 (.pointer (some ⟨g, i * 3, none⟩)) (.agg #[.int .i64 k, .string v, .int .i64 0])).run Tryz.prog w4.drew = .ok () W6 := hst
        have H6 := Lib.hid h6
        have hu6 := (box_cells hp6).2.1
        clear hst h6 hp6
        go_still_tail 7, (by kernel_rfl)
        go_wp2_with fail
        refine (use_any H6.out i (by rw [List.length_set]; exact hil) (by rw [List.length_set]; omega)).mono ?_
        rintro e w7 ⟨g7, cap7, rfl, _, h7⟩
        rw [useL_set hil] at h7
        have H7 := Lib.hid h7
        clear h7 hst2 hu6 hu4 hc0 hy0 hy1 hy2
        go_wp2
        go_returns
        refine ⟨?_, by rw [HR1.out.2.2]; exact H7.out⟩
        rw [HR1.out.1, HR1.out.2.1]
        rfl
      · have HR1 : Hid (putK most k L = none ∧ putE most k L = 12 ∧ putL most k v L = L) := by
          refine Lib.hid ?_
          unfold putK putE putL
          rw [if_neg HNO.out, if_neg HNO.out, if_neg HNO.out, if_neg hlt, if_neg hlt, if_neg hlt, if_neg hno, if_neg hno, if_neg hno]
          exact ⟨rfl, rfl, rfl⟩
        have H4 := Lib.hid (HCQ.out.on hb)
        clear HO hno hb hx0 hx1 hx2 huq
        go_wp2
        go_returns
        refine ⟨?_, by rw [HR1.out.2.2]; exact H4.out⟩
        rw [HR1.out.1, HR1.out.2.1]
        rfl
end KA
end Go.Proofs.YtcjfnfdinhbdlaaGreatDoor
namespace Go.Proofs.YtcjfnfdinhbdlaaGreatDoor
set_option maxRecDepth 100000
open Go.ChangeShapes Go.WideShapes Go.ChangeAt Go.RowKit Go.PlainAid
def getV {K V : Type} [DecidableEq K] (k : K) (L : List (Ent K V)) : Option V := if posK k L < L.length then (L[posK k L]?).map (·.val) else none
def getL {K V : Type} [DecidableEq K] (k : K) (L : List (Ent K V)) : List (Ent K V) := if posK k L < L.length then useL (posK k L) L else L
namespace KA
theorem new_ok (most : Nat) (h1 : 1 ≤ most) (h2 : most ≤ 1024) (w : World) :
    Calls Tryz.prog 86 #[.int .i64 (most : Int)] w fun e w' => e = .returned (.tuple #[.pointer (some ⟨w.heap.size, 0, none⟩), .int .i64 0]) ∧ w.alloc (.cells #[.int .i64 (most : Int), .slice none 0 0] 212) = w' := by
  go_enter Tryz.func86, Tryz.ntmps86
  go_wp2
  go_returns
  exact ⟨rfl, rfl⟩
def GetPost (w0 : World) (p : Nat) (most : Int) (L : List E) (R : List (Nat × Obj)) (k : Int) (e : Ending) (w' : World) : Prop :=
  e = .returned (.tuple #[.string ((getV k L).getD ⟨#[]⟩), .bool (getV k L).isSome]) ∧ CaT w0 p most (getL k L) R w'
set_option maxHeartbeats 1000000 in
theorem get_any {w0 : World} {p : Nat} {most : Int} {L : List E} {R : List (Nat × Obj)} {w : World} (h : CaT w0 p most L R w) (k : Int) (hl : L.length ≤ 4096) :
    Calls Tryz.prog 100 #[.pointer (some ⟨p, 0, none⟩), .int .i64 k] w (GetPost w0 p most L R k) := by
  have H := Lib.hid h
  have hF := Lib.hid (find_any h k hl)
  clear h
  go_enter Tryz.func100, Tryz.ntmps100
  go_wp2_with fail
  refine hF.out.mono ?_
  rintro e w1 (⟨i, x, hx, hk, hpos, rfl, hb⟩ | ⟨hno, rfl, hb⟩)
  · have hil := (List.getElem?_eq_some_iff.1 hx).1
    have hU := Lib.hid (use_any (H.out.on hb) i hil hl)
    have HM := Lib.hid (useL_some hx)
    have HR1 : Hid (getV k L = some x.val ∧ getL k L = useL i L) := by
      refine Lib.hid ?_
      unfold getV getL
      rw [hpos, if_pos hil, if_pos hil, hx]
      exact ⟨rfl, rfl⟩
    clear hF hx hk hpos H hb
    go_wp2_with fail
    refine hU.out.mono ?_
    rintro e w2 ⟨g, cap, rfl, hp2, h2⟩
    have h3 := h2
    rw [HM.out] at h3
    have hc2 : w2.cell? ⟨g, 1, none⟩ = some (.string x.val) := (row_cells (h3.rowAt hp2).1 (i := 0) rfl).2.1
    have H2 := Lib.hid h2
    clear h2 h3 hp2 hU
    go_wp2
    go_returns
    refine ⟨?_, by rw [HR1.out.2]; exact H2.out⟩
    rw [HR1.out.1]
    rfl
  · have H1 := Lib.hid (H.out.on hb)
    have HR1 : Hid (getV k L = none ∧ getL k L = L) := by
      refine Lib.hid ?_
      unfold getV getL
      rw [if_neg hno, if_neg hno]
      exact ⟨rfl, rfl⟩
    clear hF hno H hb
    go_wp2
    go_returns
    refine ⟨?_, by rw [HR1.out.2]; exact H1.out⟩
    rw [HR1.out.1]
    rfl
end KA
end Go.Proofs.YtcjfnfdinhbdlaaGreatDoor
