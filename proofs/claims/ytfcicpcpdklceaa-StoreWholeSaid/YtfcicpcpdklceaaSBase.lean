/- Package store: a store in memory; Len, place, ready, reach, over a store, and over none. Lists of writes and flushes, done till the first error: plain. Package store: put, next. -/
import Derived.Test.YtfcicpcpdklceaaSBlkH
import Derived.Test.YtfcicpcpdklceaaSJSpec
import Derived.BigQuiet
import Derived.Deep.QuietTactic
import Derived.Lib.QuietBelow
import Derived.IntWalk
namespace Go.Proofs.Ytfcicpcpdklceaa
set_option maxRecDepth 100000
open Go.ChangeShapes Go.WideShapes Go.ChangeAt Go.RowKit Go.PlainAid

/-- A head. -/
structure Hd where
  seq : Nat
  used : Nat
  room : Nat
  pages : Nat
structure Hd.Wf (h : Hd) : Prop where
  seq : h.seq ≤ 1000000
  used : h.used ≤ 2048
  room : h.room ≤ 2048
  pages : h.pages ≤ 1024
/-- What the block of a store holds. -/
def storeO (p bm : Nat) (h : Hd) (dead : Bool) : Obj :=
  .cells #[.pointer (some ⟨p, 0, none⟩), .int .u64 h.seq, .int .i64 h.used, .int .i64 h.room, .int .i64 h.pages, .map (some bm), .bool dead] 58 (0, 0)
def blankO : Obj := .cells #[.pointer none, .int .u64 0, .int .i64 0, .int .i64 0, .int .i64 0, .map none, .bool false] 58 (0, 0)
/-- The value is no store: nil, or a zero value. -/
def NoStore (w : World) (v : Value) : Prop := v = .pointer none ∨ ∃ q, v = .pointer (some ⟨q, 0, none⟩) ∧ w.heap[q]? = some blankO

theorem store_cells {w : World} {q p bm : Nat} {h : Hd} {dead : Bool} (hq : w.heap[q]? = some (storeO p bm h dead)) :
    w.cell? ⟨q, 0, none⟩ = some (.pointer (some ⟨p, 0, none⟩)) ∧ w.cell? ⟨q, 1, none⟩ = some (.int .u64 h.seq) ∧ w.cell? ⟨q, 2, none⟩ = some (.int .i64 h.used) ∧ w.cell? ⟨q, 3, none⟩ = some (.int .i64 h.room) ∧
    w.cell? ⟨q, 4, none⟩ = some (.int .i64 h.pages) ∧ w.cell? ⟨q, 5, none⟩ = some (.map (some bm)) ∧ w.cell? ⟨q, 6, none⟩ = some (.bool dead) := by
  refine ⟨?_, ?_, ?_, ?_, ?_, ?_, ?_⟩ <;> rw [cell_of_row _ _ _ _ _ _ hq] <;> rfl
theorem store_thaw {w : World} {q p bm : Nat} {h : Hd} {dead : Bool} (hq : w.heap[q]? = some (storeO p bm h dead)) (i : Nat) : w.frozen? ⟨q, i, none⟩ = false := frozen_of_row _ _ _ _ _ hq
theorem blank_cells {w : World} {q : Nat} (hq : w.heap[q]? = some blankO) :
    w.cell? ⟨q, 0, none⟩ = some (.pointer none) ∧ w.cell? ⟨q, 1, none⟩ = some (.int .u64 0) ∧ w.cell? ⟨q, 2, none⟩ = some (.int .i64 0) ∧ w.cell? ⟨q, 3, none⟩ = some (.int .i64 0) ∧
    w.cell? ⟨q, 4, none⟩ = some (.int .i64 0) ∧ w.cell? ⟨q, 5, none⟩ = some (.map none) ∧ w.cell? ⟨q, 6, none⟩ = some (.bool false) := by
  refine ⟨?_, ?_, ?_, ?_, ?_, ?_, ?_⟩ <;> rw [cell_of_row _ _ _ _ _ _ hq] <;> rfl

theorem slen_any (w : World) (q p bm : Nat) (h : Hd) (dead : Bool) (hq : w.heap[q]? = some (storeO p bm h dead)) :
    Calls Try.prog 23 #[.pointer (some ⟨q, 0, none⟩)] w fun e w' => e = .returned (.int .i64 h.pages) ∧ w = w' := by
  obtain ⟨c0, c1, c2, c3, c4, c5, c6⟩ := store_cells hq
  clear hq
  go_enter Try.func23, Try.ntmps23
  go_wp2
  go_returns
  exact ⟨rfl, rfl⟩
theorem slen_no (w : World) (v : Value) (h : NoStore w v) :
    Calls Try.prog 23 #[v] w fun e w' => e = .returned (.int .i64 0) ∧ w = w' := by
  rcases h with rfl | ⟨q, rfl, hq⟩
  · go_enter Try.func23, Try.ntmps23
    go_wp2
    go_returns
    exact ⟨rfl, rfl⟩
  · obtain ⟨c0, c1, c2, c3, c4, c5, c6⟩ := blank_cells hq
    clear hq
    go_enter Try.func23, Try.ntmps23
    go_wp2
    go_returns
    exact ⟨rfl, rfl⟩
theorem place_any (w : World) (q p bm : Nat) (h : Hd) (dead : Bool) (k : Int) (hq : w.heap[q]? = some (storeO p bm h dead)) (hr : h.room ≤ 2048) (hk0 : 0 ≤ k) (hk : k ≤ 2048) :
    Calls Try.prog 36 #[.pointer (some ⟨q, 0, none⟩), .int .i64 k] w fun e w' => e = .returned (.int .i64 ((2 + h.room : Nat) + k : Int)) ∧ w = w' := by
  obtain ⟨c0, c1, c2, c3, c4, c5, c6⟩ := store_cells hq
  clear hq
  go_enter Try.func36, Try.ntmps36
  go_wp2
  go_returns
  exact ⟨ret_i (by omega), rfl⟩
/-- What keeps a store from all that it does. -/
def sreadyE (dead : Bool) : Int := if dead = true then 11 else 0
theorem sready_any (w : World) (q p bm : Nat) (h : Hd) (dead : Bool) (hq : w.heap[q]? = some (storeO p bm h dead)) :
    Calls Try.prog 26 #[.pointer (some ⟨q, 0, none⟩)] w fun e w' => e = .returned (.int .i64 (sreadyE dead)) ∧ w = w' := by
  obtain ⟨c0, c1, c2, c3, c4, c5, c6⟩ := store_cells hq
  clear hq
  unfold sreadyE
  cases dead
  all_goals
    go_enter Try.func26, Try.ntmps26
    go_wp2
    go_returns
    exact ⟨rfl, rfl⟩
theorem sready_no (w : World) (v : Value) (h : NoStore w v) :
    Calls Try.prog 26 #[v] w fun e w' => e = .returned (.int .i64 3) ∧ w = w' := by
  rcases h with rfl | ⟨q, rfl, hq⟩
  · go_enter Try.func26, Try.ntmps26
    go_wp2
    go_returns
    exact ⟨rfl, rfl⟩
  · obtain ⟨c0, c1, c2, c3, c4, c5, c6⟩ := blank_cells hq
    clear hq
    go_enter Try.func26, Try.ntmps26
    go_wp2
    go_returns
    exact ⟨rfl, rfl⟩
/-- What keeps a page from being read or written. -/
def sreachE (h : Hd) (dead : Bool) (k : Int) : Int := if dead = true then 11 else if k < 0 ∨ h.pages ≤ k then 10 else 0
theorem sreach_any (w : World) (q p bm : Nat) (h : Hd) (dead : Bool) (k : Int) (hq : w.heap[q]? = some (storeO p bm h dead)) (h0 : -9223372036854775808 ≤ k) (h1 : k ≤ 9223372036854775807) :
    Calls Try.prog 34 #[.pointer (some ⟨q, 0, none⟩), .int .i64 k] w fun e w' => e = .returned (.int .i64 (sreachE h dead k)) ∧ w = w' := by
  have HQ := Lib.hid hq
  clear hq
  unfold sreachE
  cases dead
  · rw [if_neg (by decide)]
    rcases Int.lt_or_le k 0 with a | a
    · have hb : decide (k < 0) = true := by simpa using a
      rw [if_pos (.inl a)]
      go_enter Try.func34, Try.ntmps34
      go_wp2_with fail
      refine (sready_any _ q p bm h false HQ.out).mono ?_
      rintro e _ ⟨rfl, rfl⟩
      rw [show sreadyE false = 0 from rfl]
      go_wp2
      go_returns
      exact ⟨rfl, rfl⟩
    · have hb : decide (k < 0) = false := by simpa using a
      rcases Int.lt_or_le k h.pages with b | b
      · have hb2 : decide ((h.pages : Int) ≤ k) = false := by simpa using b
        rw [if_neg (by omega)]
        go_enter Try.func34, Try.ntmps34
        go_wp2_with fail
        refine (sready_any _ q p bm h false HQ.out).mono ?_
        rintro e _ ⟨rfl, rfl⟩
        rw [show sreadyE false = 0 from rfl]
        go_wp2_with fail
        refine (slen_any _ q p bm h false HQ.out).mono ?_
        rintro e _ ⟨rfl, rfl⟩
        go_wp2
        go_returns
        exact ⟨rfl, rfl⟩
      · have hb2 : decide ((h.pages : Int) ≤ k) = true := by simpa using b
        rw [if_pos (.inr b)]
        go_enter Try.func34, Try.ntmps34
        go_wp2_with fail
        refine (sready_any _ q p bm h false HQ.out).mono ?_
        rintro e _ ⟨rfl, rfl⟩
        rw [show sreadyE false = 0 from rfl]
        go_wp2_with fail
        refine (slen_any _ q p bm h false HQ.out).mono ?_
        rintro e _ ⟨rfl, rfl⟩
        go_wp2
        go_returns
        exact ⟨rfl, rfl⟩
  · rw [if_pos rfl]
    go_enter Try.func34, Try.ntmps34
    go_wp2_with fail
    refine (sready_any _ q p bm h true HQ.out).mono ?_
    rintro e _ ⟨rfl, rfl⟩
    rw [show sreadyE true = 11 from rfl]
    go_wp2
    go_returns
    exact ⟨rfl, rfl⟩
theorem sreach_no (w : World) (v : Value) (k : Int) (h : NoStore w v) :
    Calls Try.prog 34 #[v, .int .i64 k] w fun e w' => e = .returned (.int .i64 3) ∧ w = w' := by
  go_enter Try.func34, Try.ntmps34
  go_wp2_with fail
  refine (sready_no _ v h).mono ?_
  rintro e _ ⟨rfl, rfl⟩
  go_wp2
  go_returns
  exact ⟨rfl, rfl⟩
end Go.Proofs.Ytfcicpcpdklceaa
namespace Go.Proofs.Ytfcicpcpdklceaa
set_option maxRecDepth 100000
open Go.ChangeShapes Go.WideShapes Go.ChangeAt Go.RowKit Go.PlainAid

/-- A write of a block, or a flush. -/
inductive DOp where
  | wr (k : Int) (s : ByteArray)
  | fl
def D.op (d : D) : DOp → D
  | .wr k s => d.write k s
  | .fl => d.flush
def opE (d : D) : DOp → Int
  | .wr k s => writeE d k s
  | .fl => flushE d
/-- A list of them, till the first error. -/
def D.ops (d : D) : List DOp → D
  | [] => d
  | o :: l => if opE d o = 0 then (d.op o).ops l else d.op o
def opsE (d : D) : List DOp → Int
  | [] => 0
  | o :: l => if opE d o = 0 then opsE (d.op o) l else opE d o
theorem ops_nil (d : D) : d.ops [] = d ∧ opsE d [] = 0 := ⟨rfl, rfl⟩
theorem ops_cons_ok {d : D} {o : DOp} (l : List DOp) (h : opE d o = 0) : d.ops (o :: l) = (d.op o).ops l ∧ opsE d (o :: l) = opsE (d.op o) l := by simp [D.ops, opsE, h]
theorem ops_cons_err {d : D} {o : DOp} (l : List DOp) (h : opE d o ≠ 0) : d.ops (o :: l) = d.op o ∧ opsE d (o :: l) = opE d o := by simp [D.ops, opsE, h]
theorem ops_one (d : D) (o : DOp) : d.ops [o] = d.op o ∧ opsE d [o] = opE d o := by
  by_cases h : opE d o = 0
  · rw [(ops_cons_ok [] h).1, (ops_cons_ok [] h).2, h]; exact ⟨rfl, rfl⟩
  · exact ops_cons_err [] h
theorem ops_app : ∀ (a b : List DOp) (d : D), (opsE d a = 0 → d.ops (a ++ b) = (d.ops a).ops b ∧ opsE d (a ++ b) = opsE (d.ops a) b) ∧ (opsE d a ≠ 0 → d.ops (a ++ b) = d.ops a ∧ opsE d (a ++ b) = opsE d a)
  | [], b, d => ⟨fun _ => ⟨rfl, rfl⟩, fun h => absurd rfl h⟩
  | o :: a, b, d => by
    by_cases h : opE d o = 0
    · rw [List.cons_append, (ops_cons_ok a h).1, (ops_cons_ok a h).2, (ops_cons_ok (a ++ b) h).1, (ops_cons_ok (a ++ b) h).2]
      exact ops_app a b (d.op o)
    · rw [List.cons_append, (ops_cons_err a h).1, (ops_cons_err a h).2, (ops_cons_err (a ++ b) h).1, (ops_cons_err (a ++ b) h).2]
      exact ⟨fun c => absurd c h, fun _ => ⟨rfl, rfl⟩⟩
theorem ops_app_ok {a : List DOp} {d : D} (b : List DOp) (h : opsE d a = 0) : d.ops (a ++ b) = (d.ops a).ops b ∧ opsE d (a ++ b) = opsE (d.ops a) b := (ops_app a b d).1 h
theorem ops_app_err {a : List DOp} {d : D} (b : List DOp) (h : opsE d a ≠ 0) : d.ops (a ++ b) = d.ops a ∧ opsE d (a ++ b) = opsE d a := (ops_app a b d).2 h

/-- How many blocks there are doesn't change. -/
theorem op_n (d : D) (o : DOp) : (d.op o).n = d.n := by
  cases o with
  | wr k s => simp only [D.op, D.write]; split <;> (try split) <;> (try split) <;> first | rfl | exact (spent_same d).1
  | fl => simp only [D.op, D.flush, D.flushed]; split <;> (try split) <;> first | rfl | exact (spent_same d).1
theorem op_late (d : D) (o : DOp) : (d.op o).late.length ≤ d.late.length + 1 := by
  have hs := (spent_same d).2.2
  cases o with
  | wr k s =>
    simp only [D.op, D.write]
    split <;> (try split) <;> (try split) <;> simp [hs]
  | fl =>
    simp only [D.op, D.flush, D.flushed]
    split <;> (try split) <;> simp [hs]
theorem ops_n : ∀ (l : List DOp) (d : D), (d.ops l).n = d.n
  | [], _ => rfl
  | o :: l, d => by
    by_cases h : opE d o = 0
    · rw [(ops_cons_ok l h).1, ops_n l, op_n]
    · rw [(ops_cons_err l h).1, op_n]
theorem ops_late : ∀ (l : List DOp) (d : D), (d.ops l).late.length ≤ d.late.length + l.length
  | [], _ => Nat.le_refl _
  | o :: l, d => by
    have h1 := op_late d o
    by_cases h : opE d o = 0
    · have := ops_late l (d.op o)
      rw [(ops_cons_ok l h).1, List.length_cons]; omega
    · rw [(ops_cons_err l h).1, List.length_cons]; omega
/-- A head as it is written. -/
def Hd.text (h : Hd) : ByteArray := writeB h.seq h.used h.room h.pages
theorem Hd.text_size (h : Hd) : h.text.size = 40 := writeB_size _ _ _ _
/-- A head is put. -/
def putOps (h : Hd) : List DOp := [.wr ((h.seq % 2 : Nat) : Int) h.text, .fl]
theorem putOps_ok {d : D} {h : Hd} (e : writeE d ((h.seq % 2 : Nat) : Int) h.text = 0) : d.ops (putOps h) = (d.write ((h.seq % 2 : Nat) : Int) h.text).flush ∧ opsE d (putOps h) = flushE (d.write ((h.seq % 2 : Nat) : Int) h.text) := by
  have h1 := ops_cons_ok (d := d) (o := .wr ((h.seq % 2 : Nat) : Int) h.text) [.fl] e
  have h2 := ops_one (d.write ((h.seq % 2 : Nat) : Int) h.text) .fl
  exact ⟨h1.1.trans h2.1, h1.2.trans h2.2⟩
theorem putOps_err {d : D} {h : Hd} (e : writeE d ((h.seq % 2 : Nat) : Int) h.text ≠ 0) : d.ops (putOps h) = d.write ((h.seq % 2 : Nat) : Int) h.text ∧ opsE d (putOps h) = writeE d ((h.seq % 2 : Nat) : Int) h.text :=
  ops_cons_err (d := d) (o := .wr ((h.seq % 2 : Nat) : Int) h.text) [.fl] e
end Go.Proofs.Ytfcicpcpdklceaa
namespace Go.Proofs.Ytfcicpcpdklceaa
set_option maxRecDepth 100000
open Go.ChangeShapes Go.WideShapes Go.ChangeAt Go.RowKit Go.PlainAid
open Go.Sort (grow)

def headV (h : Hd) : Value := .agg #[.int .u64 h.seq, .int .i64 h.used, .int .i64 h.room, .int .i64 h.pages]
set_option maxHeartbeats 1000000 in
theorem put_any {w0 w : World} {p : Nat} {d : D} {L : List (Nat × Obj)} (H : OwnL w0 p d L w) (h : Hd) (hw : h.Wf) (hl : d.late.length < 1000000) :
    Calls Try.prog 39 #[.pointer (some ⟨p, 0, none⟩), headV h] w fun e w' => e = .returned (.int .i64 (opsE d (putOps h))) ∧ OwnL w0 p (d.ops (putOps h)) L w' := by
  unfold headV
  obtain ⟨h1, h2, h3, h4⟩ := hw
  have hb0 : Below w.heap.size w (w.alloc (.cells #[.int .u64 h.seq, .int .i64 h.used, .int .i64 h.room, .int .i64 h.pages] 55)) := by go_grown
  have hq := heap_alloc_new w (.cells #[.int .u64 h.seq, .int .i64 h.used, .int .i64 h.room, .int .i64 h.pages] 55)
  have H1 := H.on hb0
  have hlt : w.heap.size < (w.alloc (.cells #[.int .u64 h.seq, .int .i64 h.used, .int .i64 h.room, .int .i64 h.pages] 55)).heap.size := by simp
  go_enter Try.func39, Try.ntmps39
  go_wp2_with fail
  generalize w.alloc (.cells #[.int .u64 h.seq, .int .i64 h.used, .int .i64 h.room, .int .i64 h.pages] 55) = W at *
  obtain ⟨c0, c1, c2, c3, _⟩ := cells4' hq
  have HW := Lib.hid (fun w => whead_any h.seq h.used h.room h.pages w (by omega) (by omega))
  have HO := Lib.hid (fun (w1 : World) (b : Below W.heap.size W w1) => H1.on b)
  have hpu := putOps_ok (d := d) (h := h)
  have hpe := putOps_err (d := d) (h := h)
  obtain ⟨m, hm⟩ : ∃ m : Nat, m = h.seq % 2 := ⟨_, rfl⟩
  have hm2 : m < 2 := by omega
  have e1 : (h.seq : Int).tmod 2 = (m : Int) := by rw [Int.tmod_eq_emod_of_nonneg (by omega)]; omega
  have e2 : IntKind.i64.wrap (m : Int) = (m : Int) := IntWalk.i64_in _ (by omega)
  rw [← hm] at hpu hpe
  have HPU := Lib.hid hpu
  have HPE := Lib.hid hpe
  have HK := Lib.hid (fun (w1 : World) (b : Below W.heap.size W w1) => q_write (H1.on b) (m : Int) h.text (by omega) (by omega) (by omega))
  have HKF := Lib.hid (fun (w1 : World) (d' : D) (hh : OwnL w0 p d' L w1) (hll : d'.late.length ≤ d.late.length + 1) => q_flush hh (by omega))
  have HLL := Lib.hid (op_late d (.wr (m : Int) h.text))
  have ht : writeB h.seq h.used h.room h.pages = h.text := rfl
  rw [ht] at HW
  clear hb0 H H1 hpu hpe hm ht h1 h2 h3 h4 hl
  go_region_law (first
    | (go_simp; (with_reducible refine (HW.out _).mono ?_); rintro e w1 ⟨rfl, hb1⟩; have hb1' : Below W.heap.size W w1 := (show Below W.heap.size W W.drew by go_grown).on hb1; have y0 := (hb1'.cell (p := ⟨w.heap.size, 0, none⟩) hlt).trans c0; have HB1 := Lib.hid hb1'; clear hb1 hb1')
    | (go_simp; (with_reducible refine (HK.out _ HB1.out).mono ?_); rintro e w2 ⟨rfl, H2⟩; have HH2 := Lib.hid H2; clear H2)
    | fail)
  all_goals
    clear e1 e2
    by_cases z : writeE d (m : Int) h.text = 0
    · have HP := Lib.hid (HPU.out z)
      rw [z]
      clear z
      go_wp2_with fail
      refine (HKF.out _ _ HH2.out HLL.out).mono ?_
      rintro e w3 ⟨rfl, H3⟩
      have HH3 := Lib.hid H3
      clear H3
      go_wp2
      go_returns
      exact ⟨ret_i HP.out.2.symm, by rw [HP.out.1]; exact HH3.out⟩
    · have HP := Lib.hid (HPE.out z)
      have hz : (writeE d (m : Int) h.text == 0) = false := by simpa using z
      clear z
      go_wp2
      go_returns
      exact ⟨ret_i HP.out.2.symm, by rw [HP.out.1]; exact HH2.out⟩
/-- A store in memory, its disk, and other blocks of the call's own. -/
structure StR (w0 : World) (p q bm : Nat) (d : D) (h : Hd) (dead : Bool) (R : List (Nat × Obj)) (w : World) : Prop where
  own : OwnL w0 p d ((q, storeO p bm h dead) :: R) w
  lo : w0.heap.size ≤ q
  ne : ∀ x ∈ R, x.1 ≠ q
section
variable {w0 w w' : World} {p q bm : Nat} {d : D} {h : Hd} {dead : Bool} {R : List (Nat × Obj)}
theorem StR.on (H : StR w0 p q bm d h dead R w) (b : Below w.heap.size w w') : StR w0 p q bm d h dead R w' := ⟨H.own.on b, H.lo, H.ne⟩
theorem StR.at (H : StR w0 p q bm d h dead R w) : w.heap[q]? = some (storeO p bm h dead) := H.own.mem (List.mem_cons_self)
theorem StR.mem (H : StR w0 p q bm d h dead R w) {x : Nat × Obj} (hx : x ∈ R) : w.heap[x.1]? = some x.2 := H.own.mem (List.mem_cons_of_mem _ hx)
theorem StR.set (H : StR w0 p q bm d h dead R w) (i : Nat) (v : Value) (h' : Hd) (dead' : Bool)
    (e : (#[.pointer (some ⟨p, 0, none⟩), .int .u64 h.seq, .int .i64 h.used, .int .i64 h.room, .int .i64 h.pages, .map (some bm), .bool dead] : Array Value).setIfInBounds i v = #[.pointer (some ⟨p, 0, none⟩), .int .u64 h'.seq, .int .i64 h'.used, .int .i64 h'.room, .int .i64 h'.pages, .map (some bm), .bool dead']) :
    StR w0 p q bm d h' dead' R (w.setCell ⟨q, i, none⟩ v) :=
  ⟨H.own.set (q := q) (List.mem_cons_self) H.lo _ (fun x hx => by
    rcases List.mem_cons.1 hx with rfl | hx
    · left; rw [e]; rfl
    · exact .inr ⟨List.mem_cons_of_mem _ hx, H.ne x hx⟩), H.lo, H.ne⟩
theorem StR.ops {d' : D} (H : StR w0 p q bm d h dead R w) (H' : OwnL w0 p d' ((q, storeO p bm h dead) :: R) w') : StR w0 p q bm d' h dead R w' := ⟨H', H.lo, H.ne⟩
end
/-- The next head. -/
def Hd.next (h : Hd) (u : Nat) : Hd := { h with seq := h.seq + 1, used := u }
set_option maxHeartbeats 1000000 in
theorem next_any' {w0 w : World} {p q bm : Nat} {d : D} {h : Hd} {dead : Bool} {R : List (Nat × Obj)} (H : StR w0 p q bm d h dead R w) (u : Nat) (hw : h.Wf) (hs : h.seq < 1000000) (hu : u ≤ 2048) (hl : d.late.length < 1000000) :
    Calls Try.prog 42 #[.pointer (some ⟨q, 0, none⟩), .int .i64 u] w fun e w' =>
      e = .returned (.int .i64 (opsE d (putOps (h.next u)))) ∧ StR w0 p q bm (d.ops (putOps (h.next u))) (h.next u) dead R w' := by
  obtain ⟨h1, h2, h3, h4⟩ := hw
  have hwf : (h.next u).Wf := ⟨by show h.seq + 1 ≤ 1000000; omega, hu, h3, h4⟩
  obtain ⟨c0, c1, c2, c3, c4, c5, c6⟩ := store_cells H.at
  have t1 := store_thaw H.at 1
  have t2 := store_thaw H.at 2
  have HH := Lib.hid H
  clear H
  go_enter Try.func42, Try.ntmps42
  go_wp2
  have Ha := HH.out.set 1 (.int .u64 ((h.seq : Int) + 1)) { h with seq := h.seq + 1 } dead (by simp)
  have Hb := Ha.set 2 (.int .i64 u) (h.next u) dead rfl
  clear c0 c1 c2 c3 c4 c5 c6 t1 t2 Ha HH
  generalize (w.setCell ⟨q, 1, none⟩ (.int .u64 ((h.seq : Int) + 1))).setCell ⟨q, 2, none⟩ (.int .i64 (u : Int)) = W at *
  obtain ⟨c0, c1, c2, c3, c4, c5, c6⟩ := store_cells Hb.at
  have HB := Lib.hid (Hb.on (show Below W.heap.size W W.drew by go_grown))
  clear Hb
  go_still_tail 8, (by kernel_rfl)
  change wpList _ _ _ _ _ W.drew
  have hv : headV (h.next u) = .agg #[.int .u64 ((h.next u).seq : Nat), .int .i64 (h.next u).used, .int .i64 (h.next u).room, .int .i64 (h.next u).pages] := rfl
  have HP := Lib.hid (put_any HB.out.own (h.next u) hwf hl)
  clear hv c0 c1 c2 c3 c4 c5 c6 hwf
  generalize W.drew = W2 at *
  go_wp2_with fail
  refine HP.out.mono ?_
  rintro e w3 ⟨rfl, H3⟩
  have H4 := Lib.hid (HB.out.ops H3)
  clear H3
  go_wp2
  go_returns
  exact ⟨rfl, H4.out⟩
end Go.Proofs.Ytfcicpcpdklceaa
