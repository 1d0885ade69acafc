/- Package store: put, next. -/
import Derived.Test.YtfcicpcpdklceaaSOps
import Derived.Lib.QuietBelow
import Derived.IntWalk
namespace Go.Proofs.Ytfcicpcpdklceaa
set_option maxRecDepth 100000
open Go.ChangeShapes Go.WideShapes Go.ChangeAt Go.RowKit Go.PlainAid
open Go.Sort (grow)

def headV (h : Hd) : Value := .agg #[.int .u64 h.seq, .int .i64 h.used, .int .i64 h.room, .int .i64 h.pages]
set_option maxHeartbeats 1000000 in
theorem put_any {w0 w : World} {p : Nat} {d : D} {L : List (Nat × Obj)} (H : OwnL w0 p d L w) (h : Hd) (hw : h.Wf) (hl : d.late.length < 1000000) :
    Calls Try.prog 39 #[.pointer (some ⟨p, 0, none⟩), headV h] w fun e w' => e = .returned (.int .i64 (opsE d (putOps h))) ∧ OwnL w0 p (d.ops (putOps h)) L w' := by
  unfold headV
  obtain ⟨h1, h2, h3, h4⟩ := hw
  have hb0 : Below w.heap.size w (w.alloc (.cells #[.int .u64 h.seq, .int .i64 h.used, .int .i64 h.room, .int .i64 h.pages] 55)) := by go_grown
  have hq := heap_alloc_new w (.cells #[.int .u64 h.seq, .int .i64 h.used, .int .i64 h.room, .int .i64 h.pages] 55)
  have H1 := H.on hb0
  have hlt : w.heap.size < (w.alloc (.cells #[.int .u64 h.seq, .int .i64 h.used, .int .i64 h.room, .int .i64 h.pages] 55)).heap.size := by simp
  go_enter Try.func39, Try.ntmps39
  go_wp2_with fail
  generalize w.alloc (.cells #[.int .u64 h.seq, .int .i64 h.used, .int .i64 h.room, .int .i64 h.pages] 55) = W at *
  obtain ⟨c0, c1, c2, c3, _⟩ := cells4' hq
  have HW := Lib.hid (fun w => whead_any h.seq h.used h.room h.pages w (by omega) (by omega))
  have HO := Lib.hid (fun (w1 : World) (b : Below W.heap.size W w1) => H1.on b)
  have hpu := putOps_ok (d := d) (h := h)
  have hpe := putOps_err (d := d) (h := h)
  obtain ⟨m, hm⟩ : ∃ m : Nat, m = h.seq % 2 := ⟨_, rfl⟩
  have hm2 : m < 2 := by omega
  have e1 : (h.seq : Int).tmod 2 = (m : Int) := by rw [Int.tmod_eq_emod_of_nonneg (by omega)]; omega
  have e2 : IntKind.i64.wrap (m : Int) = (m : Int) := IntWalk.i64_in _ (by omega)
  rw [← hm] at hpu hpe
  have HPU := Lib.hid hpu
  have HPE := Lib.hid hpe
  have HK := Lib.hid (fun (w1 : World) (b : Below W.heap.size W w1) => q_write (H1.on b) (m : Int) h.text (by omega) (by omega) (by omega))
  have HKF := Lib.hid (fun (w1 : World) (d' : D) (hh : OwnL w0 p d' L w1) (hll : d'.late.length ≤ d.late.length + 1) => q_flush hh (by omega))
  have HLL := Lib.hid (op_late d (.wr (m : Int) h.text))
  have ht : writeB h.seq h.used h.room h.pages = h.text := rfl
  rw [ht] at HW
  clear hb0 H H1 hpu hpe hm ht h1 h2 h3 h4 hl
  go_region_law (first
    | (go_simp; (with_reducible refine (HW.out _).mono ?_); rintro e w1 ⟨rfl, hb1⟩; have hb1' : Below W.heap.size W w1 := (show Below W.heap.size W W.drew by go_grown).on hb1; have y0 := (hb1'.cell (p := ⟨w.heap.size, 0, none⟩) hlt).trans c0; have HB1 := Lib.hid hb1'; clear hb1 hb1')
    | (go_simp; (with_reducible refine (HK.out _ HB1.out).mono ?_); rintro e w2 ⟨rfl, H2⟩; have HH2 := Lib.hid H2; clear H2)
    | fail)
  all_goals
    clear e1 e2
    by_cases z : writeE d (m : Int) h.text = 0
    · have HP := Lib.hid (HPU.out z)
      rw [z]
      clear z
      go_wp2_with fail
      refine (HKF.out _ _ HH2.out HLL.out).mono ?_
      rintro e w3 ⟨rfl, H3⟩
      have HH3 := Lib.hid H3
      clear H3
      go_wp2
      go_returns
      exact ⟨ret_i HP.out.2.symm, by rw [HP.out.1]; exact HH3.out⟩
    · have HP := Lib.hid (HPE.out z)
      have hz : (writeE d (m : Int) h.text == 0) = false := by simpa using z
      clear z
      go_wp2
      go_returns
      exact ⟨ret_i HP.out.2.symm, by rw [HP.out.1]; exact HH2.out⟩
/-- A store in memory, its disk, and other blocks of the call's own. -/
structure StR (w0 : World) (p q bm : Nat) (d : D) (h : Hd) (dead : Bool) (R : List (Nat × Obj)) (w : World) : Prop where
  own : OwnL w0 p d ((q, storeO p bm h dead) :: R) w
  lo : w0.heap.size ≤ q
  ne : ∀ x ∈ R, x.1 ≠ q
section
variable {w0 w w' : World} {p q bm : Nat} {d : D} {h : Hd} {dead : Bool} {R : List (Nat × Obj)}
theorem StR.on (H : StR w0 p q bm d h dead R w) (b : Below w.heap.size w w') : StR w0 p q bm d h dead R w' := ⟨H.own.on b, H.lo, H.ne⟩
theorem StR.at (H : StR w0 p q bm d h dead R w) : w.heap[q]? = some (storeO p bm h dead) := H.own.mem (List.mem_cons_self)
theorem StR.mem (H : StR w0 p q bm d h dead R w) {x : Nat × Obj} (hx : x ∈ R) : w.heap[x.1]? = some x.2 := H.own.mem (List.mem_cons_of_mem _ hx)
theorem StR.set (H : StR w0 p q bm d h dead R w) (i : Nat) (v : Value) (h' : Hd) (dead' : Bool)
    (e : (#[.pointer (some ⟨p, 0, none⟩), .int .u64 h.seq, .int .i64 h.used, .int .i64 h.room, .int .i64 h.pages, .map (some bm), .bool dead] : Array Value).setIfInBounds i v = #[.pointer (some ⟨p, 0, none⟩), .int .u64 h'.seq, .int .i64 h'.used, .int .i64 h'.room, .int .i64 h'.pages, .map (some bm), .bool dead']) :
    StR w0 p q bm d h' dead' R (w.setCell ⟨q, i, none⟩ v) :=
  ⟨H.own.set (q := q) (List.mem_cons_self) H.lo _ (fun x hx => by
    rcases List.mem_cons.1 hx with rfl | hx
    · left; rw [e]; rfl
    · exact .inr ⟨List.mem_cons_of_mem _ hx, H.ne x hx⟩), H.lo, H.ne⟩
theorem StR.ops {d' : D} (H : StR w0 p q bm d h dead R w) (H' : OwnL w0 p d' ((q, storeO p bm h dead) :: R) w') : StR w0 p q bm d' h dead R w' := ⟨H', H.lo, H.ne⟩
end
/-- The next head. -/
def Hd.next (h : Hd) (u : Nat) : Hd := { h with seq := h.seq + 1, used := u }
set_option maxHeartbeats 1000000 in
theorem next_any' {w0 w : World} {p q bm : Nat} {d : D} {h : Hd} {dead : Bool} {R : List (Nat × Obj)} (H : StR w0 p q bm d h dead R w) (u : Nat) (hw : h.Wf) (hs : h.seq < 1000000) (hu : u ≤ 2048) (hl : d.late.length < 1000000) :
    Calls Try.prog 42 #[.pointer (some ⟨q, 0, none⟩), .int .i64 u] w fun e w' =>
      e = .returned (.int .i64 (opsE d (putOps (h.next u)))) ∧ StR w0 p q bm (d.ops (putOps (h.next u))) (h.next u) dead R w' := by
  obtain ⟨h1, h2, h3, h4⟩ := hw
  have hwf : (h.next u).Wf := ⟨by show h.seq + 1 ≤ 1000000; omega, hu, h3, h4⟩
  obtain ⟨c0, c1, c2, c3, c4, c5, c6⟩ := store_cells H.at
  have t1 := store_thaw H.at 1
  have t2 := store_thaw H.at 2
  have HH := Lib.hid H
  clear H
  go_enter Try.func42, Try.ntmps42
  go_wp2
  have Ha := HH.out.set 1 (.int .u64 ((h.seq : Int) + 1)) { h with seq := h.seq + 1 } dead (by simp)
  have Hb := Ha.set 2 (.int .i64 u) (h.next u) dead rfl
  clear c0 c1 c2 c3 c4 c5 c6 t1 t2 Ha HH
  generalize (w.setCell ⟨q, 1, none⟩ (.int .u64 ((h.seq : Int) + 1))).setCell ⟨q, 2, none⟩ (.int .i64 (u : Int)) = W at *
  obtain ⟨c0, c1, c2, c3, c4, c5, c6⟩ := store_cells Hb.at
  have HB := Lib.hid (Hb.on (show Below W.heap.size W W.drew by go_grown))
  clear Hb
  go_still_tail 8, (by kernel_rfl)
  change wpList _ _ _ _ _ W.drew
  have hv : headV (h.next u) = .agg #[.int .u64 ((h.next u).seq : Nat), .int .i64 (h.next u).used, .int .i64 (h.next u).room, .int .i64 (h.next u).pages] := rfl
  have HP := Lib.hid (put_any HB.out.own (h.next u) hwf hl)
  clear hv c0 c1 c2 c3 c4 c5 c6 hwf
  generalize W.drew = W2 at *
  go_wp2_with fail
  refine HP.out.mono ?_
  rintro e w3 ⟨rfl, H3⟩
  have H4 := Lib.hid (HB.out.ops H3)
  clear H3
  go_wp2
  go_returns
  exact ⟨rfl, H4.out⟩
end Go.Proofs.Ytfcicpcpdklceaa
