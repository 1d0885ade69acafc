/- Package store: a store in memory; Len, place, ready, reach, over a store, and over none. Lists of writes and flushes, done till the first error: plain. Package store: put, next. Package store: home. Package store: finish. Package store: finish, walked. Package store: the transaction under way, as a map in memory. Package store: Read, Write, Back. Package store: Write, Back. -/
import Derived.Test.YtkdhlofcdcnjgaaGreatGE
import Derived.BigQuiet
import Derived.Deep.QuietTactic
import Derived.Lib.QuietBelow
import Derived.IntWalk
import Derived.StillTailTactics
import Derived.Maps.OwnSet
import Derived.Maps.RangeWalk
namespace Go.Proofs.YtkdhlofcdcnjgaaGreat
set_option maxRecDepth 100000
open Go.ChangeShapes Go.WideShapes Go.ChangeAt Go.RowKit Go.PlainAid

/-- A head. -/
structure Hd where
  seq : Nat
  used : Nat
  room : Nat
  pages : Nat
structure Hd.Wf (h : Hd) : Prop where
  seq : h.seq ≤ 1000000
  used : h.used ≤ 2048
  room : h.room ≤ 2048
  pages : h.pages ≤ 1024
/-- What the block of a store holds. -/
def storeO (p bm : Nat) (h : Hd) (dead : Bool) : Obj :=
  .cells #[.pointer (some ⟨p, 0, none⟩), .int .u64 h.seq, .int .i64 h.used, .int .i64 h.room, .int .i64 h.pages, .map (some bm), .bool dead] 108 (0, 0)
def blankO : Obj := .cells #[.pointer none, .int .u64 0, .int .i64 0, .int .i64 0, .int .i64 0, .map none, .bool false] 108 (0, 0)
/-- The value is no store: nil, or a zero value. -/
def NoStore (w : World) (v : Value) : Prop := v = .pointer none ∨ ∃ q, v = .pointer (some ⟨q, 0, none⟩) ∧ w.heap[q]? = some blankO

theorem store_cells {w : World} {q p bm : Nat} {h : Hd} {dead : Bool} (hq : w.heap[q]? = some (storeO p bm h dead)) :
    w.cell? ⟨q, 0, none⟩ = some (.pointer (some ⟨p, 0, none⟩)) ∧ w.cell? ⟨q, 1, none⟩ = some (.int .u64 h.seq) ∧ w.cell? ⟨q, 2, none⟩ = some (.int .i64 h.used) ∧ w.cell? ⟨q, 3, none⟩ = some (.int .i64 h.room) ∧
    w.cell? ⟨q, 4, none⟩ = some (.int .i64 h.pages) ∧ w.cell? ⟨q, 5, none⟩ = some (.map (some bm)) ∧ w.cell? ⟨q, 6, none⟩ = some (.bool dead) := by
  refine ⟨?_, ?_, ?_, ?_, ?_, ?_, ?_⟩ <;> rw [cell_of_row _ _ _ _ _ _ hq] <;> rfl
theorem store_thaw {w : World} {q p bm : Nat} {h : Hd} {dead : Bool} (hq : w.heap[q]? = some (storeO p bm h dead)) (i : Nat) : w.frozen? ⟨q, i, none⟩ = false := frozen_of_row _ _ _ _ _ hq
theorem blank_cells {w : World} {q : Nat} (hq : w.heap[q]? = some blankO) :
    w.cell? ⟨q, 0, none⟩ = some (.pointer none) ∧ w.cell? ⟨q, 1, none⟩ = some (.int .u64 0) ∧ w.cell? ⟨q, 2, none⟩ = some (.int .i64 0) ∧ w.cell? ⟨q, 3, none⟩ = some (.int .i64 0) ∧
    w.cell? ⟨q, 4, none⟩ = some (.int .i64 0) ∧ w.cell? ⟨q, 5, none⟩ = some (.map none) ∧ w.cell? ⟨q, 6, none⟩ = some (.bool false) := by
  refine ⟨?_, ?_, ?_, ?_, ?_, ?_, ?_⟩ <;> rw [cell_of_row _ _ _ _ _ _ hq] <;> rfl

theorem slen_any (w : World) (q p bm : Nat) (h : Hd) (dead : Bool) (hq : w.heap[q]? = some (storeO p bm h dead)) :
    Calls Tryz.prog 55 #[.pointer (some ⟨q, 0, none⟩)] w fun e w' => e = .returned (.int .i64 h.pages) ∧ w = w' := by
  obtain ⟨c0, c1, c2, c3, c4, c5, c6⟩ := store_cells hq
  clear hq
  go_enter Tryz.func55, Tryz.ntmps55
  go_wp2
  go_returns
  exact ⟨rfl, rfl⟩
theorem slen_no (w : World) (v : Value) (h : NoStore w v) :
    Calls Tryz.prog 55 #[v] w fun e w' => e = .returned (.int .i64 0) ∧ w = w' := by
  rcases h with rfl | ⟨q, rfl, hq⟩
  · go_enter Tryz.func55, Tryz.ntmps55
    go_wp2
    go_returns
    exact ⟨rfl, rfl⟩
  · obtain ⟨c0, c1, c2, c3, c4, c5, c6⟩ := blank_cells hq
    clear hq
    go_enter Tryz.func55, Tryz.ntmps55
    go_wp2
    go_returns
    exact ⟨rfl, rfl⟩
theorem place_any (w : World) (q p bm : Nat) (h : Hd) (dead : Bool) (k : Int) (hq : w.heap[q]? = some (storeO p bm h dead)) (hr : h.room ≤ 2048) (hk0 : 0 ≤ k) (hk : k ≤ 2048) :
    Calls Tryz.prog 99 #[.pointer (some ⟨q, 0, none⟩), .int .i64 k] w fun e w' => e = .returned (.int .i64 ((2 + h.room : Nat) + k : Int)) ∧ w = w' := by
  obtain ⟨c0, c1, c2, c3, c4, c5, c6⟩ := store_cells hq
  clear hq
  go_enter Tryz.func99, Tryz.ntmps99
  go_wp2
  go_returns
  exact ⟨ret_i (by omega), rfl⟩
/-- What keeps a store from all that it does. -/
def sreadyE (dead : Bool) : Int := if dead = true then 11 else 0
theorem sready_any (w : World) (q p bm : Nat) (h : Hd) (dead : Bool) (hq : w.heap[q]? = some (storeO p bm h dead)) :
    Calls Tryz.prog 134 #[.pointer (some ⟨q, 0, none⟩)] w fun e w' => e = .returned (.int .i64 (sreadyE dead)) ∧ w = w' := by
  obtain ⟨c0, c1, c2, c3, c4, c5, c6⟩ := store_cells hq
  clear hq
  unfold sreadyE
  cases dead
  all_goals
    go_enter Tryz.func134, Tryz.ntmps134
    go_wp2
    go_returns
    exact ⟨rfl, rfl⟩
theorem sready_no (w : World) (v : Value) (h : NoStore w v) :
    Calls Tryz.prog 134 #[v] w fun e w' => e = .returned (.int .i64 3) ∧ w = w' := by
  rcases h with rfl | ⟨q, rfl, hq⟩
  · go_enter Tryz.func134, Tryz.ntmps134
    go_wp2
    go_returns
    exact ⟨rfl, rfl⟩
  · obtain ⟨c0, c1, c2, c3, c4, c5, c6⟩ := blank_cells hq
    clear hq
    go_enter Tryz.func134, Tryz.ntmps134
    go_wp2
    go_returns
    exact ⟨rfl, rfl⟩
/-- What keeps a page from being read or written. -/
def sreachE (h : Hd) (dead : Bool) (k : Int) : Int := if dead = true then 11 else if k < 0 ∨ h.pages ≤ k then 10 else 0
theorem sreach_any (w : World) (q p bm : Nat) (h : Hd) (dead : Bool) (k : Int) (hq : w.heap[q]? = some (storeO p bm h dead)) (h0 : -9223372036854775808 ≤ k) (h1 : k ≤ 9223372036854775807) :
    Calls Tryz.prog 98 #[.pointer (some ⟨q, 0, none⟩), .int .i64 k] w fun e w' => e = .returned (.int .i64 (sreachE h dead k)) ∧ w = w' := by
  have HQ := Lib.hid hq
  clear hq
  unfold sreachE
  cases dead
  · rw [if_neg (by decide)]
    rcases Int.lt_or_le k 0 with a | a
    · have hb : decide (k < 0) = true := by simpa using a
      rw [if_pos (.inl a)]
      go_enter Tryz.func98, Tryz.ntmps98
      go_wp2_with fail
      refine (sready_any _ q p bm h false HQ.out).mono ?_
      rintro e _ ⟨rfl, rfl⟩
      rw [show sreadyE false = 0 from rfl]
      go_wp2
      go_returns
      exact ⟨rfl, rfl⟩
    · have hb : decide (k < 0) = false := by simpa using a
      rcases Int.lt_or_le k h.pages with b | b
      · have hb2 : decide ((h.pages : Int) ≤ k) = false := by simpa using b
        rw [if_neg (by omega)]
        go_enter Tryz.func98, Tryz.ntmps98
        go_wp2_with fail
        refine (sready_any _ q p bm h false HQ.out).mono ?_
        rintro e _ ⟨rfl, rfl⟩
        rw [show sreadyE false = 0 from rfl]
        go_wp2_with fail
        refine (slen_any _ q p bm h false HQ.out).mono ?_
        rintro e _ ⟨rfl, rfl⟩
        go_wp2
        go_returns
        exact ⟨rfl, rfl⟩
      · have hb2 : decide ((h.pages : Int) ≤ k) = true := by simpa using b
        rw [if_pos (.inr b)]
        go_enter Tryz.func98, Tryz.ntmps98
        go_wp2_with fail
        refine (sready_any _ q p bm h false HQ.out).mono ?_
        rintro e _ ⟨rfl, rfl⟩
        rw [show sreadyE false = 0 from rfl]
        go_wp2_with fail
        refine (slen_any _ q p bm h false HQ.out).mono ?_
        rintro e _ ⟨rfl, rfl⟩
        go_wp2
        go_returns
        exact ⟨rfl, rfl⟩
  · rw [if_pos rfl]
    go_enter Tryz.func98, Tryz.ntmps98
    go_wp2_with fail
    refine (sready_any _ q p bm h true HQ.out).mono ?_
    rintro e _ ⟨rfl, rfl⟩
    rw [show sreadyE true = 11 from rfl]
    go_wp2
    go_returns
    exact ⟨rfl, rfl⟩
theorem sreach_no (w : World) (v : Value) (k : Int) (h : NoStore w v) :
    Calls Tryz.prog 98 #[v, .int .i64 k] w fun e w' => e = .returned (.int .i64 3) ∧ w = w' := by
  go_enter Tryz.func98, Tryz.ntmps98
  go_wp2_with fail
  refine (sready_no _ v h).mono ?_
  rintro e _ ⟨rfl, rfl⟩
  go_wp2
  go_returns
  exact ⟨rfl, rfl⟩
end Go.Proofs.YtkdhlofcdcnjgaaGreat
namespace Go.Proofs.YtkdhlofcdcnjgaaGreat
set_option maxRecDepth 100000
open Go.ChangeShapes Go.WideShapes Go.ChangeAt Go.RowKit Go.PlainAid

/-- A write of a block, or a flush. -/
inductive DOp where
  | wr (k : Int) (s : ByteArray)
  | fl
def D.op (d : D) : DOp → D
  | .wr k s => d.write k s
  | .fl => d.flush
def opE (d : D) : DOp → Int
  | .wr k s => writeE d k s
  | .fl => flushE d
/-- A list of them, till the first error. -/
def D.ops (d : D) : List DOp → D
  | [] => d
  | o :: l => if opE d o = 0 then (d.op o).ops l else d.op o
def opsE (d : D) : List DOp → Int
  | [] => 0
  | o :: l => if opE d o = 0 then opsE (d.op o) l else opE d o
theorem ops_nil (d : D) : d.ops [] = d ∧ opsE d [] = 0 := ⟨rfl, rfl⟩
theorem ops_cons_ok {d : D} {o : DOp} (l : List DOp) (h : opE d o = 0) : d.ops (o :: l) = (d.op o).ops l ∧ opsE d (o :: l) = opsE (d.op o) l := by simp [D.ops, opsE, h]
theorem ops_cons_err {d : D} {o : DOp} (l : List DOp) (h : opE d o ≠ 0) : d.ops (o :: l) = d.op o ∧ opsE d (o :: l) = opE d o := by simp [D.ops, opsE, h]
theorem ops_one (d : D) (o : DOp) : d.ops [o] = d.op o ∧ opsE d [o] = opE d o := by
  by_cases h : opE d o = 0
  · rw [(ops_cons_ok [] h).1, (ops_cons_ok [] h).2, h]; exact ⟨rfl, rfl⟩
  · exact ops_cons_err [] h
theorem ops_app : ∀ (a b : List DOp) (d : D), (opsE d a = 0 → d.ops (a ++ b) = (d.ops a).ops b ∧ opsE d (a ++ b) = opsE (d.ops a) b) ∧ (opsE d a ≠ 0 → d.ops (a ++ b) = d.ops a ∧ opsE d (a ++ b) = opsE d a)
  | [], b, d => ⟨fun _ => ⟨rfl, rfl⟩, fun h => absurd rfl h⟩
  | o :: a, b, d => by
    by_cases h : opE d o = 0
    · rw [List.cons_append, (ops_cons_ok a h).1, (ops_cons_ok a h).2, (ops_cons_ok (a ++ b) h).1, (ops_cons_ok (a ++ b) h).2]
      exact ops_app a b (d.op o)
    · rw [List.cons_append, (ops_cons_err a h).1, (ops_cons_err a h).2, (ops_cons_err (a ++ b) h).1, (ops_cons_err (a ++ b) h).2]
      exact ⟨fun c => absurd c h, fun _ => ⟨rfl, rfl⟩⟩
theorem ops_app_ok {a : List DOp} {d : D} (b : List DOp) (h : opsE d a = 0) : d.ops (a ++ b) = (d.ops a).ops b ∧ opsE d (a ++ b) = opsE (d.ops a) b := (ops_app a b d).1 h
theorem ops_app_err {a : List DOp} {d : D} (b : List DOp) (h : opsE d a ≠ 0) : d.ops (a ++ b) = d.ops a ∧ opsE d (a ++ b) = opsE d a := (ops_app a b d).2 h

/-- How many blocks there are doesn't change. -/
theorem op_n (d : D) (o : DOp) : (d.op o).n = d.n := by
  cases o with
  | wr k s => simp only [D.op, D.write]; split <;> (try split) <;> (try split) <;> first | rfl | exact (spent_same d).1
  | fl => simp only [D.op, D.flush, D.flushed]; split <;> (try split) <;> first | rfl | exact (spent_same d).1
theorem op_late (d : D) (o : DOp) : (d.op o).late.length ≤ d.late.length + 1 := by
  have hs := (spent_same d).2.2
  cases o with
  | wr k s =>
    simp only [D.op, D.write]
    split <;> (try split) <;> (try split) <;> simp [hs]
  | fl =>
    simp only [D.op, D.flush, D.flushed]
    split <;> (try split) <;> simp [hs]
theorem ops_n : ∀ (l : List DOp) (d : D), (d.ops l).n = d.n
  | [], _ => rfl
  | o :: l, d => by
    by_cases h : opE d o = 0
    · rw [(ops_cons_ok l h).1, ops_n l, op_n]
    · rw [(ops_cons_err l h).1, op_n]
theorem ops_late : ∀ (l : List DOp) (d : D), (d.ops l).late.length ≤ d.late.length + l.length
  | [], _ => Nat.le_refl _
  | o :: l, d => by
    have h1 := op_late d o
    by_cases h : opE d o = 0
    · have := ops_late l (d.op o)
      rw [(ops_cons_ok l h).1, List.length_cons]; omega
    · rw [(ops_cons_err l h).1, List.length_cons]; omega
/-- A head as it is written. -/
def Hd.text (h : Hd) : ByteArray := writeB h.seq h.used h.room h.pages
theorem Hd.text_size (h : Hd) : h.text.size = 40 := writeB_size _ _ _ _
/-- A head is put. -/
def putOps (h : Hd) : List DOp := [.wr ((h.seq % 2 : Nat) : Int) h.text, .fl]
theorem putOps_ok {d : D} {h : Hd} (e : writeE d ((h.seq % 2 : Nat) : Int) h.text = 0) : d.ops (putOps h) = (d.write ((h.seq % 2 : Nat) : Int) h.text).flush ∧ opsE d (putOps h) = flushE (d.write ((h.seq % 2 : Nat) : Int) h.text) := by
  have h1 := ops_cons_ok (d := d) (o := .wr ((h.seq % 2 : Nat) : Int) h.text) [.fl] e
  have h2 := ops_one (d.write ((h.seq % 2 : Nat) : Int) h.text) .fl
  exact ⟨h1.1.trans h2.1, h1.2.trans h2.2⟩
theorem putOps_err {d : D} {h : Hd} (e : writeE d ((h.seq % 2 : Nat) : Int) h.text ≠ 0) : d.ops (putOps h) = d.write ((h.seq % 2 : Nat) : Int) h.text ∧ opsE d (putOps h) = writeE d ((h.seq % 2 : Nat) : Int) h.text :=
  ops_cons_err (d := d) (o := .wr ((h.seq % 2 : Nat) : Int) h.text) [.fl] e
end Go.Proofs.YtkdhlofcdcnjgaaGreat
namespace Go.Proofs.YtkdhlofcdcnjgaaGreat
set_option maxRecDepth 100000
open Go.ChangeShapes Go.WideShapes Go.ChangeAt Go.RowKit Go.PlainAid
open Go.Sort (grow)

def headV (h : Hd) : Value := .agg #[.int .u64 h.seq, .int .i64 h.used, .int .i64 h.room, .int .i64 h.pages]
set_option maxHeartbeats 1000000 in
theorem put_any {w0 w : World} {p : Nat} {d : D} {L : List (Nat × Obj)} (H : OwnL w0 p d L w) (h : Hd) (hw : h.Wf) (hl : d.late.length < 1000000) :
    Calls Tryz.prog 49 #[.pointer (some ⟨p, 0, none⟩), headV h] w fun e w' => e = .returned (.int .i64 (opsE d (putOps h))) ∧ OwnL w0 p (d.ops (putOps h)) L w' := by
  unfold headV
  obtain ⟨h1, h2, h3, h4⟩ := hw
  have hb0 : Below w.heap.size w (w.alloc (.cells #[.int .u64 h.seq, .int .i64 h.used, .int .i64 h.room, .int .i64 h.pages] 103)) := by go_grown
  have hq := heap_alloc_new w (.cells #[.int .u64 h.seq, .int .i64 h.used, .int .i64 h.room, .int .i64 h.pages] 103)
  have H1 := H.on hb0
  have hlt : w.heap.size < (w.alloc (.cells #[.int .u64 h.seq, .int .i64 h.used, .int .i64 h.room, .int .i64 h.pages] 103)).heap.size := by simp
  go_enter Tryz.func49, Tryz.ntmps49
  go_wp2_with fail
  generalize w.alloc (.cells #[.int .u64 h.seq, .int .i64 h.used, .int .i64 h.room, .int .i64 h.pages] 103) = W at *
  obtain ⟨c0, c1, c2, c3, _⟩ := cells4' hq
  have HW := Lib.hid (fun w => whead_any h.seq h.used h.room h.pages w (by omega) (by omega))
  have HO := Lib.hid (fun (w1 : World) (b : Below W.heap.size W w1) => H1.on b)
  have hpu := putOps_ok (d := d) (h := h)
  have hpe := putOps_err (d := d) (h := h)
  obtain ⟨m, hm⟩ : ∃ m : Nat, m = h.seq % 2 := ⟨_, rfl⟩
  have hm2 : m < 2 := by omega
  have e1 : (h.seq : Int).tmod 2 = (m : Int) := by rw [Int.tmod_eq_emod_of_nonneg (by omega)]; omega
  have e2 : IntKind.i64.wrap (m : Int) = (m : Int) := IntWalk.i64_in _ (by omega)
  rw [← hm] at hpu hpe
  have HPU := Lib.hid hpu
  have HPE := Lib.hid hpe
  have HK := Lib.hid (fun (w1 : World) (b : Below W.heap.size W w1) => q_write (H1.on b) (m : Int) h.text (by omega) (by omega) (by omega))
  have HKF := Lib.hid (fun (w1 : World) (d' : D) (hh : OwnL w0 p d' L w1) (hll : d'.late.length ≤ d.late.length + 1) => q_flush hh (by omega))
  have HLL := Lib.hid (op_late d (.wr (m : Int) h.text))
  have ht : writeB h.seq h.used h.room h.pages = h.text := rfl
  rw [ht] at HW
  clear hb0 H H1 hpu hpe hm ht h1 h2 h3 h4 hl
  go_region_law (first
    | (go_simp; (with_reducible refine (HW.out _).mono ?_); rintro e w1 ⟨rfl, hb1⟩; have hb1' : Below W.heap.size W w1 := (show Below W.heap.size W W.drew by go_grown).on hb1; have y0 := (hb1'.cell (p := ⟨w.heap.size, 0, none⟩) hlt).trans c0; have HB1 := Lib.hid hb1'; clear hb1 hb1')
    | (go_simp; (with_reducible refine (HK.out _ HB1.out).mono ?_); rintro e w2 ⟨rfl, H2⟩; have HH2 := Lib.hid H2; clear H2)
    | fail)
  all_goals
    clear e1 e2
    by_cases z : writeE d (m : Int) h.text = 0
    · have HP := Lib.hid (HPU.out z)
      rw [z]
      clear z
      go_wp2_with fail
      refine (HKF.out _ _ HH2.out HLL.out).mono ?_
      rintro e w3 ⟨rfl, H3⟩
      have HH3 := Lib.hid H3
      clear H3
      go_wp2
      go_returns
      exact ⟨ret_i HP.out.2.symm, by rw [HP.out.1]; exact HH3.out⟩
    · have HP := Lib.hid (HPE.out z)
      have hz : (writeE d (m : Int) h.text == 0) = false := by simpa using z
      clear z
      go_wp2
      go_returns
      exact ⟨ret_i HP.out.2.symm, by rw [HP.out.1]; exact HH2.out⟩
/-- A store in memory, its disk, and other blocks of the call's own. -/
structure StR (w0 : World) (p q bm : Nat) (d : D) (h : Hd) (dead : Bool) (R : List (Nat × Obj)) (w : World) : Prop where
  own : OwnL w0 p d ((q, storeO p bm h dead) :: R) w
  lo : w0.heap.size ≤ q
  ne : ∀ x ∈ R, x.1 ≠ q
section
variable {w0 w w' : World} {p q bm : Nat} {d : D} {h : Hd} {dead : Bool} {R : List (Nat × Obj)}
theorem StR.on (H : StR w0 p q bm d h dead R w) (b : Below w.heap.size w w') : StR w0 p q bm d h dead R w' := ⟨H.own.on b, H.lo, H.ne⟩
theorem StR.at (H : StR w0 p q bm d h dead R w) : w.heap[q]? = some (storeO p bm h dead) := H.own.mem (List.mem_cons_self)
theorem StR.mem (H : StR w0 p q bm d h dead R w) {x : Nat × Obj} (hx : x ∈ R) : w.heap[x.1]? = some x.2 := H.own.mem (List.mem_cons_of_mem _ hx)
theorem StR.set (H : StR w0 p q bm d h dead R w) (i : Nat) (v : Value) (h' : Hd) (dead' : Bool)
    (e : (#[.pointer (some ⟨p, 0, none⟩), .int .u64 h.seq, .int .i64 h.used, .int .i64 h.room, .int .i64 h.pages, .map (some bm), .bool dead] : Array Value).setIfInBounds i v = #[.pointer (some ⟨p, 0, none⟩), .int .u64 h'.seq, .int .i64 h'.used, .int .i64 h'.room, .int .i64 h'.pages, .map (some bm), .bool dead']) :
    StR w0 p q bm d h' dead' R (w.setCell ⟨q, i, none⟩ v) :=
  ⟨H.own.set (q := q) (List.mem_cons_self) H.lo _ (fun x hx => by
    rcases List.mem_cons.1 hx with rfl | hx
    · left; rw [e]; rfl
    · exact .inr ⟨List.mem_cons_of_mem _ hx, H.ne x hx⟩), H.lo, H.ne⟩
theorem StR.ops {d' : D} (H : StR w0 p q bm d h dead R w) (H' : OwnL w0 p d' ((q, storeO p bm h dead) :: R) w') : StR w0 p q bm d' h dead R w' := ⟨H', H.lo, H.ne⟩
end
/-- The next head. -/
def Hd.next (h : Hd) (u : Nat) : Hd := { h with seq := h.seq + 1, used := u }
set_option maxHeartbeats 1000000 in
theorem next_any' {w0 w : World} {p q bm : Nat} {d : D} {h : Hd} {dead : Bool} {R : List (Nat × Obj)} (H : StR w0 p q bm d h dead R w) (u : Nat) (hw : h.Wf) (hs : h.seq < 1000000) (hu : u ≤ 2048) (hl : d.late.length < 1000000) :
    Calls Tryz.prog 133 #[.pointer (some ⟨q, 0, none⟩), .int .i64 u] w fun e w' =>
      e = .returned (.int .i64 (opsE d (putOps (h.next u)))) ∧ StR w0 p q bm (d.ops (putOps (h.next u))) (h.next u) dead R w' := by
  obtain ⟨h1, h2, h3, h4⟩ := hw
  have hwf : (h.next u).Wf := ⟨by show h.seq + 1 ≤ 1000000; omega, hu, h3, h4⟩
  obtain ⟨c0, c1, c2, c3, c4, c5, c6⟩ := store_cells H.at
  have t1 := store_thaw H.at 1
  have t2 := store_thaw H.at 2
  have HH := Lib.hid H
  clear H
  go_enter Tryz.func133, Tryz.ntmps133
  go_wp2
  have Ha := HH.out.set 1 (.int .u64 ((h.seq : Int) + 1)) { h with seq := h.seq + 1 } dead (by simp)
  have Hb := Ha.set 2 (.int .i64 u) (h.next u) dead rfl
  clear c0 c1 c2 c3 c4 c5 c6 t1 t2 Ha HH
  generalize (w.setCell ⟨q, 1, none⟩ (.int .u64 ((h.seq : Int) + 1))).setCell ⟨q, 2, none⟩ (.int .i64 (u : Int)) = W at *
  obtain ⟨c0, c1, c2, c3, c4, c5, c6⟩ := store_cells Hb.at
  have HB := Lib.hid (Hb.on (show Below W.heap.size W W.drew by go_grown))
  clear Hb
  go_still_tail 8, (by kernel_rfl)
  change wpList _ _ _ _ _ W.drew
  have hv : headV (h.next u) = .agg #[.int .u64 ((h.next u).seq : Nat), .int .i64 (h.next u).used, .int .i64 (h.next u).room, .int .i64 (h.next u).pages] := rfl
  have HP := Lib.hid (put_any HB.out.own (h.next u) hwf hl)
  clear hv c0 c1 c2 c3 c4 c5 c6 hwf
  generalize W.drew = W2 at *
  go_wp2_with fail
  refine HP.out.mono ?_
  rintro e w3 ⟨rfl, H3⟩
  have H4 := Lib.hid (HB.out.ops H3)
  clear H3
  go_wp2
  go_returns
  exact ⟨rfl, H4.out⟩
end Go.Proofs.YtkdhlofcdcnjgaaGreat
namespace Go.Proofs.YtkdhlofcdcnjgaaGreat
set_option maxRecDepth 100000
open Go.ChangeShapes Go.WideShapes Go.ChangeAt Go.RowKit Go.PlainAid
open Go.Sort (grow)

/-- The cells of pages. -/
def pageCells (l : List PageV) : List Value := l.flatMap PageV.cells
theorem pageCells_length : ∀ l : List PageV, (pageCells l).length = l.length * 2
  | [] => rfl
  | x :: l => by
    have := pageCells_length l
    unfold pageCells at *
    simp only [List.flatMap_cons, List.length_append, List.length_cons, PageV.cells, this, List.length_nil]
    omega
theorem pageCells_get : ∀ (l : List PageV) (i j : Nat) (x : PageV), l[i]? = some x → j < 2 → (pageCells l)[i * 2 + j]? = x.cells[j]?
  | [], _, _, _, h, _ => by simp at h
  | y :: l, 0, j, x, h, hj => by
    obtain rfl : y = x := by simpa using h
    unfold pageCells
    rw [List.flatMap_cons, Nat.zero_mul, Nat.zero_add, List.getElem?_append_left (by simp [PageV.cells]; omega)]
  | y :: l, i + 1, j, x, h, hj => by
    have := pageCells_get l i j x (by simpa using h) hj
    unfold pageCells at *
    have hl : (PageV.cells y).length = 2 := rfl
    rw [List.flatMap_cons, List.getElem?_append_right (by rw [hl]; omega), ← this, hl, show (i + 1) * 2 + j - 2 = i * 2 + j by omega]
theorem pageCells_snoc (l : List PageV) (x : PageV) : pageCells (l ++ [x]) = pageCells l ++ x.cells := by simp [pageCells]

/-- A slice of pages whose block is one of R. -/
def PgR (R : List (Nat × Obj)) (v : Value) (l : List PageV) : Prop :=
  (v = .slice none 0 0 ∧ l = []) ∨ ∃ g cap C, v = .slice (some ⟨g, 0, none⟩) l.length cap ∧ (g, Obj.cells C 36 (0, 0)) ∈ R ∧ C.toList.take (l.length * 2) = pageCells l ∧ l.length ≤ 1000000
theorem PgR.len {R : List (Nat × Obj)} {v : Value} {l : List PageV} (h : PgR R v l) : l.length ≤ 1000000 := by
  rcases h with ⟨_, rfl⟩ | ⟨_, _, _, _, _, _, h⟩
  · exact Nat.zero_le _
  · exact h
theorem PgR.cells {R : List (Nat × Obj)} {v : Value} {l : List PageV} (h : PgR R v l) {k : Nat} {x : PageV} (hx : l[k]? = some x) :
    ∃ g cap, v = .slice (some ⟨g, 0, none⟩) l.length cap ∧ ∀ w : World, (∀ y ∈ R, w.heap[y.1]? = some y.2) → w.cell? ⟨g, k * 2, none⟩ = some (.int .i64 x.at_) ∧ w.cell? ⟨g, k * 2 + 1, none⟩ = some (.string x.data) := by
  rcases h with ⟨_, rfl⟩ | ⟨g, cap, C, hv, hm, hc, _⟩
  · simp at hx
  · have hk := (List.getElem?_eq_some_iff.1 hx).1
    refine ⟨g, cap, hv, fun w hw => ?_⟩
    have hb := hw _ hm
    have hget : ∀ j, j < 2 → C[k * 2 + j]? = x.cells[j]? := fun j hj => by
      rw [← pageCells_get l k j x hx hj, ← hc, List.getElem?_take_of_lt (by omega), Array.getElem?_toList]
    have h0 := hget 0 (by omega)
    have h1 := hget 1 (by omega)
    rw [Nat.add_zero] at h0
    constructor
    · rw [cell_of_row _ _ _ _ _ _ hb, h0]; rfl
    · rw [cell_of_row _ _ _ _ _ _ hb, h1]; rfl
theorem PgR.open {R : List (Nat × Obj)} {v : Value} {l : List PageV} (h : PgR R v l) : ∃ a cap, v = .slice a l.length cap := by
  rcases h with ⟨rfl, rfl⟩ | ⟨g, cap, C, hv, _⟩
  · exact ⟨_, _, rfl⟩
  · exact ⟨_, _, hv⟩
/-- The writes of pages. -/
def pageOps (room : Nat) (l : List PageV) : List DOp := l.map fun x => .wr ((2 + room : Nat) + x.at_) x.data
theorem pageOps_snoc (room : Nat) (l : List PageV) (x : PageV) : pageOps room (l ++ [x]) = pageOps room l ++ [.wr ((2 + room : Nat) + x.at_) x.data] := by simp [pageOps]
def homeOps (h : Hd) (l : List PageV) : List DOp := pageOps h.room l ++ ([.fl] ++ putOps (h.next 0))
/-- Pages that are there. -/
def Fit (h : Hd) (l : List PageV) : Prop := ∀ x ∈ l, 0 ≤ x.at_ ∧ x.at_ < h.pages ∧ x.data.size ≤ 256

theorem ops_step_ok {d : D} {a : List DOp} (o : DOp) (h : opsE d a = 0) (e : opE (d.ops a) o = 0) : d.ops (a ++ [o]) = (d.ops a).op o ∧ opsE d (a ++ [o]) = 0 := by
  have h1 := ops_app_ok [o] h
  have h2 := ops_one (d.ops a) o
  exact ⟨h1.1.trans h2.1, h1.2.trans (h2.2.trans e)⟩
theorem ops_step_err {d : D} {a : List DOp} (o : DOp) (b : List DOp) (h : opsE d a = 0) (e : opE (d.ops a) o ≠ 0) : d.ops (a ++ (o :: b)) = (d.ops a).op o ∧ opsE d (a ++ (o :: b)) = opE (d.ops a) o := by
  have h1 := ops_app_ok (o :: b) h
  have h2 := ops_cons_err (d := d.ops a) b e
  exact ⟨h1.1.trans h2.1, h1.2.trans h2.2⟩
theorem home_split (h : Hd) {l : List PageV} {k : Nat} {x : PageV} (hx : l[k]? = some x) : ∃ b, homeOps h l = pageOps h.room (l.take k) ++ (.wr ((2 + h.room : Nat) + x.at_) x.data :: b) := by
  obtain ⟨hk, he⟩ := List.getElem?_eq_some_iff.1 hx
  have e : l = l.take k ++ (x :: l.drop (k + 1)) := by
    rw [← he, ← List.drop_eq_getElem_cons hk, List.take_append_drop]
  refine ⟨pageOps h.room (l.drop (k + 1)) ++ ([.fl] ++ putOps (h.next 0)), ?_⟩
  have e2 : pageOps h.room l = pageOps h.room (l.take k) ++ (.wr ((2 + h.room : Nat) + x.at_) x.data :: pageOps h.room (l.drop (k + 1))) := by
    conv => lhs; rw [e]
    simp [pageOps]
  unfold homeOps
  rw [e2, List.append_assoc, List.cons_append]
theorem home_end_ok {d : D} {h : Hd} {l : List PageV} (h0 : opsE d (pageOps h.room l) = 0) (e : flushE (d.ops (pageOps h.room l)) = 0) :
    d.ops (homeOps h l) = ((d.ops (pageOps h.room l)).flush).ops (putOps (h.next 0)) ∧ opsE d (homeOps h l) = opsE ((d.ops (pageOps h.room l)).flush) (putOps (h.next 0)) := by
  have h1 := ops_app_ok ([.fl] ++ putOps (h.next 0)) h0
  have h2 := ops_cons_ok (d := d.ops (pageOps h.room l)) (o := .fl) (putOps (h.next 0)) e
  exact ⟨h1.1.trans h2.1, h1.2.trans h2.2⟩
theorem home_end_err {d : D} {h : Hd} {l : List PageV} (h0 : opsE d (pageOps h.room l) = 0) (e : flushE (d.ops (pageOps h.room l)) ≠ 0) :
    d.ops (homeOps h l) = (d.ops (pageOps h.room l)).flush ∧ opsE d (homeOps h l) = flushE (d.ops (pageOps h.room l)) := by
  have h1 := ops_app_ok ([.fl] ++ putOps (h.next 0)) h0
  have h2 := ops_cons_err (d := d.ops (pageOps h.room l)) (o := .fl) (putOps (h.next 0)) e
  exact ⟨h1.1.trans h2.1, h1.2.trans h2.2⟩
set_option maxHeartbeats 1000000 in
theorem home_any {w0 w : World} {p q bm : Nat} {d : D} {h : Hd} {dead : Bool} {R : List (Nat × Obj)} {v : Value} {l : List PageV} (H : StR w0 p q bm d h dead R w) (hv : PgR R v l) (hf : Fit h l)
    (hw : h.Wf) (hs : h.seq < 1000000) (hl : d.late.length + l.length < 900000) :
    Calls Tryz.prog 97 #[.pointer (some ⟨q, 0, none⟩), v] w fun e w' =>
      e = .returned (.int .i64 (opsE d (homeOps h l))) ∧ ∃ h', (h' = h ∨ h' = h.next 0) ∧ (opsE d (homeOps h l) = 0 → h' = h.next 0) ∧ StR w0 p q bm (d.ops (homeOps h l)) h' dead R w' := by
  have hlen := hv.len
  have HV := Lib.hid hv
  obtain ⟨va, vc, rfl⟩ := hv.open
  clear hv
  have HH := Lib.hid H
  have HF := Lib.hid hf
  have HW := Lib.hid hw
  clear H hf hw
  go_enter Tryz.func97, Tryz.ntmps97
  go_wp2_with fail
  go_loopw [13] (fun i wr => ∃ k : Nat, k ≤ l.length ∧ i = .int .i64 k ∧ StR w0 p q bm d h dead R wr) (fun i _ => l.length - (intOf i).toNat)
  case atStart => exact ⟨0, Nat.zero_le _, rfl, HH.out⟩
  case round =>
    clear HH
    obtain ⟨k, hk, rfl, hH⟩ := hrel
    have HH := Lib.hid hH
    clear hH
    by_cases hlt : k < l.length
    · obtain ⟨x, hx⟩ : ∃ x, l[k]? = some x := ⟨_, List.getElem?_eq_getElem hlt⟩
      obtain ⟨g, cap, hvv, hc⟩ := HV.out.cells hx
      cases hvv
      obtain ⟨e0, e1⟩ := hc wr (fun y hy => HH.out.mem hy)
      obtain ⟨f0, f1, f2⟩ := HF.out x (List.mem_of_getElem? hx)
      clear hc hx
      go_wp2_with fail
      have hq0 := heap_alloc_new wr (.cells #[.int .i64 x.at_, .string x.data] 36)
      have hbp : Below wr.heap.size wr (wr.alloc (.cells #[.int .i64 x.at_, .string x.data] 36)) := by go_grown
      have HH1 := HH.out.on hbp
      generalize wr.alloc (.cells #[.int .i64 x.at_, .string x.data] 36) = W3 at *
      have m0 : W3.cell? ⟨wr.heap.size, 0, none⟩ = some (.int .i64 x.at_) := by rw [cell_of_row _ _ _ _ _ _ hq0]; rfl
      have g0 : ∀ d os, (grow (redrawn W3 d) os).cell? ⟨wr.heap.size, 0, none⟩ = some (.int .i64 x.at_) := fun d os => cell_regrown m0 d os
      have cL : ∀ d os, Calls Tryz.prog 55 #[.pointer (some ⟨q, 0, none⟩)] (grow (redrawn W3 d) os) fun e w'' => e = .returned (.int .i64 h.pages) ∧ ∃ p : Regrown, w'' = grow (redrawn W3 p.d) p.os := fun d os => Calls.regrown_of ((slen_any _ q p bm h dead (HH1.on (below_regrown W3 d os)).at).mono (by rintro e w' ⟨rfl, rfl⟩; exact ⟨rfl, Below.refl _ _⟩))
      have CL := Lib.hid cL
      have HH3 := Lib.hid HH1
      have hge : decide ((h.pages : Int) ≤ x.at_) = false := by simpa using f1
      clear m0 hq0 hbp HH1 cL e0 e1
      refine wp_region_quiet_below (by kernel_rfl) (by kernel_rfl) ?_
      repeat (go_big_quiet_step (with_reducible exact CL.out _ _))
      refine wpQuiet_nil ?_
      intro _ hw'
      obtain ⟨⟨dq, osq⟩, hw''⟩ := hw'
      subst hw''
      have HH4 := Lib.hid (HH3.out.on (below_regrown W3 dq osq))
      generalize grow (redrawn W3 dq) osq = W4 at *
      clear HH3 CL g0
      go_wp2
      go_roundw
      case rel => exact ⟨k + 1, by omega, by go_num, HH4.out⟩
      case measure => simp [intOf]; omega
    · obtain rfl : k = l.length := by omega
      go_wp2_with fail
      have h00 : d.ops (pageOps h.room (l.take 0)) = d ∧ opsE d (pageOps h.room (l.take 0)) = 0 := ⟨rfl, rfl⟩
      have HH0 : Hid (StR w0 p q bm (d.ops (pageOps h.room (l.take 0))) h dead R wr) := HH
      go_loopw [25] (fun i wr => ∃ k : Nat, k ≤ l.length ∧ i = .int .i64 k ∧ opsE d (pageOps h.room (l.take k)) = 0 ∧ StR w0 p q bm (d.ops (pageOps h.room (l.take k))) h dead R wr) (fun i _ => l.length - (intOf i).toNat)
      case atStart => exact ⟨0, Nat.zero_le _, rfl, h00.2, HH0.out⟩
      case round =>
        clear HH HH0 h00
        obtain ⟨k, hk, rfl, hE, hH⟩ := hrel
        have HH := Lib.hid hH
        have HE := Lib.hid hE
        clear hH hE
        by_cases hlt : k < l.length
        · obtain ⟨x, hx⟩ : ∃ x, l[k]? = some x := ⟨_, List.getElem?_eq_getElem hlt⟩
          obtain ⟨g, cap, hvv, hc⟩ := HV.out.cells hx
          cases hvv
          obtain ⟨e0, e1⟩ := hc _ (fun y hy => HH.out.mem hy)
          obtain ⟨f0, f1, f2⟩ := HF.out x (List.mem_of_getElem? hx)
          have hx2 : l.take (k + 1) = l.take k ++ [x] := by rw [List.take_add_one, hx]; rfl
          have HT := Lib.hid hx2
          have HSP := Lib.hid (home_split h hx)
          clear hc hx hx2
          go_wp2_with fail
          have hq0 := heap_alloc_new wr (.cells #[.int .i64 x.at_, .string x.data] 36)
          have hbp : Below wr.heap.size wr (wr.alloc (.cells #[.int .i64 x.at_, .string x.data] 36)) := by go_grown
          have HH1 := HH.out.on hbp
          generalize wr.alloc (.cells #[.int .i64 x.at_, .string x.data] 36) = W3 at *
          have m0 : W3.cell? ⟨wr.heap.size, 0, none⟩ = some (.int .i64 x.at_) := by rw [cell_of_row _ _ _ _ _ _ hq0]; rfl
          have m1 : W3.cell? ⟨wr.heap.size, 1, none⟩ = some (.string x.data) := by rw [cell_of_row _ _ _ _ _ _ hq0]; rfl
          obtain ⟨c0, c1, c2, c3, c4, c5, c6⟩ := store_cells HH1.at
          have hwr := HW.out.room
          have hwp := HW.out.pages
          have hol := ops_late (pageOps h.room (l.take k)) d
          have hpl : (pageOps h.room (l.take k)).length ≤ l.length := by unfold pageOps; rw [List.length_map, List.length_take]; omega
          have CP := Lib.hid (fun (w1 : World) (b : Below W3.heap.size W3 w1) => place_any w1 q p bm h dead x.at_ (HH1.on b).at hwr f0 (by omega))
          obtain ⟨kk, hkk⟩ : ∃ kk : Int, kk = (2 + h.room : Nat) + x.at_ := ⟨_, rfl⟩
          have CW := Lib.hid (fun (w1 : World) (b : Below W3.heap.size W3 w1) => q_write (HH1.on b).own kk x.data (by omega) (by omega) (by omega))
          have HS := Lib.hid HH1
          rw [← hkk] at CP
          have HKK := Lib.hid hkk
          have EOK := Lib.hid (fun (e : opE (d.ops (pageOps h.room (l.take k))) (.wr kk x.data) = 0) => ops_step_ok (.wr kk x.data) HE.out e)
          have EER := Lib.hid (fun (e : opE (d.ops (pageOps h.room (l.take k))) (.wr kk x.data) ≠ 0) b => ops_step_err (.wr kk x.data) b HE.out e)
          generalize hd2 : d.ops (pageOps h.room (l.take k)) = d2 at *
          clear hq0 hbp HH1 e0 e1 hol hpl hkk hwr hwp f0 f1 f2 HE
          have HD2 := Lib.hid hd2
          clear hd2
          go_region_law (first
            | (go_simp; (with_reducible refine (CP.out _ (by go_grown)).mono ?_); rintro e _ ⟨rfl, rfl⟩)
            | (go_simp; (with_reducible refine (CW.out _ (by go_grown)).mono ?_); rintro e w5 ⟨rfl, H5⟩; have HH5 := Lib.hid (HS.out.ops H5); clear H5)
            | fail)
          all_goals
            by_cases z : writeE d2 kk x.data = 0
            · have HO := Lib.hid (EOK.out z)
              rw [z]
              clear z
              go_wp2
              go_roundw
              case rel => exact ⟨k + 1, by omega, by go_num, by rw [HT.out, pageOps_snoc, ← HKK.out]; exact HO.out.2, by rw [HT.out, pageOps_snoc, ← HKK.out, HO.out.1]; exact HH5.out⟩
              case measure => simp [intOf]; omega
            · have HO := Lib.hid (EER.out z)
              have hz : (writeE d2 kk x.data == 0) = false := by simpa using z
              have HZ := Lib.hid z
              clear z
              go_wp2
              go_returns
              obtain ⟨b, hb⟩ := HSP.out
              rw [← HKK.out] at hb
              obtain ⟨o1, o2⟩ := HO.out b
              rw [hb]
              exact ⟨ret_i o2.symm, h, .inl rfl, fun e => absurd (o2.symm.trans e) HZ.out, by rw [o1]; exact HH5.out⟩
        · obtain rfl : k = l.length := by omega
          rw [List.take_length] at HH HE
          obtain ⟨c0, c1, c2, c3, c4, c5, c6⟩ := store_cells HH.out.at
          have hol := ops_late (pageOps h.room l) d
          have hpl : (pageOps h.room l).length = l.length := by unfold pageOps; rw [List.length_map]
          have hlt2 : (d.ops (pageOps h.room l)).late.length < 950000 := by omega
          have CF := Lib.hid (q_flush HH.out.own (by omega))
          have hol2 := op_late (d.ops (pageOps h.room l)) .fl
          have hlt3 : (d.ops (pageOps h.room l)).flush.late.length < 960000 := by
            have e : (d.ops (pageOps h.room l)).op .fl = (d.ops (pageOps h.room l)).flush := rfl
            rw [e] at hol2
            omega
          clear hol hpl hol2
          go_wp2_with fail
          refine CF.out.mono ?_
          rintro e w3 ⟨rfl, H3⟩
          have H4 := Lib.hid (HH.out.ops H3)
          clear H3 CF c0 c1 c2 c3 c4 c5 c6
          by_cases z : flushE (d.ops (pageOps h.room l)) = 0
          · have HO := Lib.hid (home_end_ok HE.out z)
            rw [z]
            clear z
            go_wp2_with fail
            refine (next_any' H4.out 0 HW.out hs (by omega) (by omega)).mono ?_
            rintro e w4 ⟨rfl, H5⟩
            have H6 := Lib.hid H5
            clear H5
            go_wp2
            go_returns
            obtain ⟨o1, o2⟩ := HO.out
            exact ⟨ret_i o2.symm, h.next 0, .inr rfl, fun _ => rfl, by rw [o1]; exact H6.out⟩
          · have HO := Lib.hid (home_end_err HE.out z)
            have hz : (flushE (d.ops (pageOps h.room l)) == 0) = false := by simpa using z
            have HZ := Lib.hid z
            clear z
            go_wp2
            go_returns
            obtain ⟨o1, o2⟩ := HO.out
            exact ⟨ret_i o2.symm, h, .inl rfl, fun e => absurd (o2.symm.trans e) HZ.out, by rw [o1]; exact H4.out⟩
end Go.Proofs.YtkdhlofcdcnjgaaGreat
namespace Go.Proofs.YtkdhlofcdcnjgaaGreat
set_option maxRecDepth 100000
open Go.ChangeShapes Go.WideShapes Go.ChangeAt Go.RowKit Go.PlainAid
open Go.Sort (grow)

/-- A new block beside the disk, made by a call. -/
theorem OwnL.add {w0 w w1 : World} {p g : Nat} {d : D} {L : List (Nat × Obj)} {o : Obj} (h : OwnL w0 p d L w) (b : Below w.heap.size w w1) (hg : w.heap.size ≤ g) (ho : w1.heap[g]? = some o) : OwnL w0 p d ((g, o) :: L) w1 := by
  have h1 := h.on b
  obtain ⟨F, hp, hd, hb, hown, hL⟩ := h
  refine ⟨F, hp, DiskAt.below hd b, hb.on b, hown, fun x hx => ?_⟩
  rcases List.mem_cons.1 hx with rfl | hx
  · refine ⟨fun c => ?_, ho⟩
    have := DiskAt.own_lt hd c
    exact Nat.lt_irrefl _ (Nat.lt_of_lt_of_le this hg)
  · exact ⟨(hL x hx).1, (b.block x.1 (heap_lt (hL x hx).2)).trans (hL x hx).2⟩
theorem OwnL.perm {w0 w : World} {p : Nat} {d : D} {L L' : List (Nat × Obj)} (h : OwnL w0 p d L w) (hs : ∀ x ∈ L', x ∈ L) : OwnL w0 p d L' w := h.sub L' hs
theorem StR.add {w0 w w1 : World} {p q bm g : Nat} {d : D} {h : Hd} {dead : Bool} {R : List (Nat × Obj)} {o : Obj} (H : StR w0 p q bm d h dead R w) (b : Below w.heap.size w w1) (hg : w.heap.size ≤ g) (ho : w1.heap[g]? = some o) :
    StR w0 p q bm d h dead ((g, o) :: R) w1 := by
  have hq := heap_lt H.at
  refine ⟨(H.own.add b hg ho).sub _ fun x hx => ?_, H.lo, fun x hx => ?_⟩
  · simp only [List.mem_cons] at hx ⊢
    rcases hx with h | h | h <;> simp [h]
  · rcases List.mem_cons.1 hx with rfl | hx
    · show g ≠ q; omega
    · exact H.ne x hx
theorem StR.sub {w0 w : World} {p q bm : Nat} {d : D} {h : Hd} {dead : Bool} {R : List (Nat × Obj)} (H : StR w0 p q bm d h dead R w) (R' : List (Nat × Obj)) (hs : ∀ x ∈ R', x ∈ R) : StR w0 p q bm d h dead R' w := by
  refine ⟨H.own.sub _ fun x hx => ?_, H.lo, fun x hx => H.ne x (hs x hx)⟩
  simp only [List.mem_cons] at hx ⊢
  rcases hx with h | h
  · exact .inl h
  · exact .inr (hs x h)
theorem PgR.mono {R R' : List (Nat × Obj)} {v : Value} {l : List PageV} (h : PgR R v l) (hs : ∀ x ∈ R, x ∈ R') : PgR R' v l := by
  rcases h with h | ⟨g, cap, C, hv, hm, hc, hn⟩
  · exact .inl h
  · exact .inr ⟨g, cap, C, hv, hs _ hm, hc, hn⟩

/-- Pages, packed: the texts of the blocks. -/
def packB (l : List PageV) : List ByteArray := ((List.range (chunks (headT (l.length : Int) l).size)).map fun k => filled (chunkT (headT (l.length : Int) l) k)) ++ l.map fun p => filled p.data
theorem packT_eq (l : List PageV) : packT l = (packB l).map Value.string := by
  simp [packT, packB, numT, pageT, List.map_append, List.map_map, Function.comp_def]
theorem headT_full (l : List PageV) : (headT (l.length : Int) l).size = 4 + 4 * l.length := by
  have := headT_size (l.length : Int) l.length l (Nat.le_refl _)
  rwa [List.take_length] at this
theorem packB_length (l : List PageV) : (packB l).length = blocksN l.length := by
  unfold packB blocksN chunks
  rw [List.length_append, List.length_map, List.length_map, List.length_range, headT_full]
  omega
theorem packB_size (l : List PageV) : ∀ s ∈ packB l, s.size = 256 := by
  intro s hs
  unfold packB at hs
  rcases List.mem_append.1 hs with hs | hs
  · obtain ⟨_, _, rfl⟩ := List.mem_map.1 hs; exact filled_size _
  · obtain ⟨_, _, rfl⟩ := List.mem_map.1 hs; exact filled_size _
/-- The writes of the journal's blocks. -/
def blockOps : Nat → List ByteArray → List DOp
  | _, [] => []
  | i, s :: r => .wr ((2 + i : Nat) : Int) s :: blockOps (i + 1) r
theorem blockOps_app : ∀ (a b : List ByteArray) (i : Nat), blockOps i (a ++ b) = blockOps i a ++ blockOps (i + a.length) b
  | [], _, _ => rfl
  | s :: a, b, i => by
    rw [List.cons_append, blockOps, blockOps, blockOps_app a b (i + 1), List.length_cons, List.cons_append, show i + 1 + a.length = i + (a.length + 1) by omega]
theorem blockOps_length : ∀ (a : List ByteArray) (i : Nat), (blockOps i a).length = a.length
  | [], _ => rfl
  | s :: a, i => by rw [blockOps, List.length_cons, List.length_cons, blockOps_length a]
theorem blockOps_snoc (bs : List ByteArray) {k : Nat} {s : ByteArray} (h : bs[k]? = some s) : blockOps 0 (bs.take (k + 1)) = blockOps 0 (bs.take k) ++ [.wr ((2 + k : Nat) : Int) s] := by
  have hk := (List.getElem?_eq_some_iff.1 h).1
  rw [List.take_add_one, h, blockOps_app, Nat.zero_add, List.length_take, Nat.min_eq_left (Nat.le_of_lt hk)]
  rfl
theorem blockOps_split (bs : List ByteArray) {k : Nat} {s : ByteArray} (h : bs[k]? = some s) : ∃ b, blockOps 0 bs = blockOps 0 (bs.take k) ++ (.wr ((2 + k : Nat) : Int) s :: b) := by
  obtain ⟨hk, he⟩ := List.getElem?_eq_some_iff.1 h
  have e : bs = bs.take k ++ (s :: bs.drop (k + 1)) := by rw [← he, ← List.drop_eq_getElem_cons hk, List.take_append_drop]
  refine ⟨blockOps (k + 1) (bs.drop (k + 1)), ?_⟩
  conv => lhs; rw [e]
  rw [blockOps_app, Nat.zero_add, List.length_take, Nat.min_eq_left (Nat.le_of_lt hk)]
  rfl
/-- All of a commit. -/
def commitOps (h : Hd) (l : List PageV) : List DOp := blockOps 0 (packB l) ++ (.fl :: (putOps (h.next (packB l).length) ++ homeOps (h.next (packB l).length) l))
end Go.Proofs.YtkdhlofcdcnjgaaGreat
namespace Go.Proofs.YtkdhlofcdcnjgaaGreat
set_option maxRecDepth 100000
open Go.ChangeShapes Go.WideShapes Go.ChangeAt Go.RowKit Go.PlainAid
open Go.Sort (grow)

theorem row_open {w : World} {base : Nat} {e : TypeId} {v : Value} {n : Nat} {xs : List Value} (h : w.ownsRow base e 1 v n xs) (hn : 0 < n) : ∃ g cap cur, v = .slice (some ⟨g, 0, none⟩) n cap ∧ base ≤ g ∧ w.heap[g]? = some (.cells cur e (0, 0)) ∧ cur.toList.take n = xs := by
  obtain ⟨h1, h2⟩ := h
  rcases h2 with ⟨_, h2⟩ | ⟨g, cap, cur, hv, hb, hg, hn2, hc, hsz, ht⟩
  · omega
  · rw [Nat.mul_one] at ht
    exact ⟨g, cap, cur, hv, hb, hg, ht⟩
theorem row_cell {w : World} {g n : Nat} {cur : Array Value} {e : TypeId} {bs : List ByteArray} (hg : w.heap[g]? = some (.cells cur e (0, 0))) (ht : cur.toList.take n = bs.map Value.string) {k : Nat} {s : ByteArray} (hk : k < n) (hs : bs[k]? = some s) : w.cell? ⟨g, k, none⟩ = some (.string s) := by
  have e : cur[k]? = some (.string s) := by
    rw [← Array.getElem?_toList, ← List.getElem?_take_of_lt hk, ht, List.getElem?_map, hs]; rfl
  rw [cell_of_row _ _ _ _ _ _ hg, e]
/-- A commit, part by part. -/
theorem commit_blocks_err {d : D} {h : Hd} {l : List PageV} {k : Nat} {s : ByteArray} (hs : (packB l)[k]? = some s) (h0 : opsE d (blockOps 0 ((packB l).take k)) = 0) (e : writeE (d.ops (blockOps 0 ((packB l).take k))) ((2 + k : Nat) : Int) s ≠ 0) :
    d.ops (commitOps h l) = (d.ops (blockOps 0 ((packB l).take k))).write ((2 + k : Nat) : Int) s ∧ opsE d (commitOps h l) = writeE (d.ops (blockOps 0 ((packB l).take k))) ((2 + k : Nat) : Int) s := by
  obtain ⟨b, hb⟩ := blockOps_split (packB l) hs
  unfold commitOps
  rw [hb, List.append_assoc, List.cons_append]
  exact ops_step_err (.wr ((2 + k : Nat) : Int) s) _ h0 e
theorem commit_flush_err {d : D} {h : Hd} {l : List PageV} (h0 : opsE d (blockOps 0 (packB l)) = 0) (e : flushE (d.ops (blockOps 0 (packB l))) ≠ 0) :
    d.ops (commitOps h l) = (d.ops (blockOps 0 (packB l))).flush ∧ opsE d (commitOps h l) = flushE (d.ops (blockOps 0 (packB l))) :=
  ops_step_err .fl _ h0 e
theorem commit_flush_ok {d : D} {h : Hd} {l : List PageV} (h0 : opsE d (blockOps 0 (packB l)) = 0) (e : flushE (d.ops (blockOps 0 (packB l))) = 0) :
    d.ops (commitOps h l) = (d.ops (blockOps 0 (packB l))).flush.ops (putOps (h.next (packB l).length) ++ homeOps (h.next (packB l).length) l) ∧ opsE d (commitOps h l) = opsE (d.ops (blockOps 0 (packB l))).flush (putOps (h.next (packB l).length) ++ homeOps (h.next (packB l).length) l) := by
  have h1 := ops_app_ok (.fl :: (putOps (h.next (packB l).length) ++ homeOps (h.next (packB l).length) l)) h0
  have h2 := ops_cons_ok (d := d.ops (blockOps 0 (packB l))) (o := .fl) (putOps (h.next (packB l).length) ++ homeOps (h.next (packB l).length) l) e
  exact ⟨h1.1.trans h2.1, h1.2.trans h2.2⟩

theorem fit_err {h : Hd} (hw : h.Wf) {l : List PageV} (hf : Fit h l) : ∀ p ∈ l, p.err = 0 := by
  intro p hp
  obtain ⟨a, b, c⟩ := hf p hp
  have := hw.pages
  unfold PageV.err
  rw [if_neg (by omega), if_neg (by omega)]
theorem PgR.pagesIn {R : List (Nat × Obj)} {v : Value} {l : List PageV} (h : PgR R v l) {w : World} (hw : ∀ y ∈ R, w.heap[y.1]? = some y.2) (hs : ∀ x ∈ l, x.Wf) : PagesIn w v l := by
  rcases h with ⟨rfl, rfl⟩ | ⟨g, cap, C, hv, hm, hc, hn⟩
  · exact .inl ⟨rfl, _, _, rfl⟩
  · rcases Nat.eq_zero_or_pos l.length with h0 | h0
    · obtain rfl := List.eq_nil_of_length_eq_zero h0
      exact .inl ⟨rfl, _, _, hv⟩
    · refine .inr ⟨g, 0, cap, hv, heap_lt' (hw _ hm), h0, by omega, fun i x hx => ⟨hs x (List.mem_of_getElem? hx), fun j v hv => ?_⟩⟩
      have hk := (List.getElem?_eq_some_iff.1 hx).1
      have hj : j < 2 := by have := (List.getElem?_eq_some_iff.1 hv).1; simpa [PageV.cells] using this
      rw [cell_of_row w g _ C _ _ (hw _ hm), Nat.zero_add]
      rw [← hv, ← pageCells_get l i j x hx hj, ← hc, List.getElem?_take_of_lt (by omega), Array.getElem?_toList]
end Go.Proofs.YtkdhlofcdcnjgaaGreat
namespace Go.Proofs.YtkdhlofcdcnjgaaGreat
set_option maxRecDepth 100000
open Go.ChangeShapes Go.WideShapes Go.ChangeAt Go.RowKit Go.PlainAid Go.ChangeMaps Go.MapKept
open Go.WideElems (rd rg pl)
open Go.Maps (Keyed)

/-- The value of a page. -/
def pgV (s : ByteArray) : Value := .agg (textCells 256 s).toArray
theorem pgV_inj {a b : ByteArray} (ha : a.size = 256) (hb : b.size = 256) (h : pgV a = pgV b) : a = b := by
  refine text_ext (ha.trans hb.symm) fun k hk => ?_
  unfold pgV at h
  have h2 : textCells 256 a = textCells 256 b := by simpa using h
  have h3 : (textCells 256 a)[k]? = (textCells 256 b)[k]? := by rw [h2]
  rw [textCells_get 256 a (by omega), textCells_get 256 b (by omega)] at h3
  simpa using h3
open Classical in
/-- How a page in the map reads. -/
noncomputable def pgR (v : Value) : Option (DataW Unit × List MemPlace) :=
  if h : ∃ s : ByteArray, s.size = 256 ∧ v = pgV s then some (.lit (.string h.choose.data.toList), []) else none
theorem pgR_mk {s : ByteArray} (hs : s.size = 256) : pgR (pgV s) = some (.lit (.string s.data.toList), []) := by
  have hex : ∃ t : ByteArray, t.size = 256 ∧ pgV s = pgV t := ⟨s, hs, rfl⟩
  unfold pgR
  rw [dif_pos hex]
  have := hex.choose_spec
  rw [← pgV_inj hs this.1 this.2]
theorem pgR_inv {v : Value} {y : DataW Unit × List MemPlace} (h : pgR v = some y) : ∃ s : ByteArray, s.size = 256 ∧ v = pgV s ∧ y = (.lit (.string s.data.toList), []) := by
  unfold pgR at h
  split at h
  · rename_i hex
    have hc := hex.choose_spec
    refine ⟨_, hc.1, hc.2, ?_⟩
    simpa using h.symm
  · cases h
theorem list_text {a b : ByteArray} (h : a.data.toList = b.data.toList) : a = b := ByteArray.ext (Array.toList_inj.1 h)
/-- What the entries read as. -/
noncomputable def Dm (es : Array MapEntry) : DataW Unit := .map ((es.toList.map (rg Tryz.prog 3 pgR)).foldr DataW.insert [])
theorem keyed : Keyed Tryz.prog 3 := Maps.int_keyed Tryz.underlying3
/-- A map holds a transaction's pages. -/
structure TxIs (es : Array MapEntry) (clock c : Nat) (T : Int → Option ByteArray) : Prop where
  fit : Go.WideElems.Fit Tryz.prog 3 pgR es clock
  size : es.size ≤ c
  has : ∀ k, Maps.has (Dm es) (.int .i64 k) = (T k).isSome
  get : ∀ k s, T k = some s → s.size = 256 ∧ ∀ zd, (Dm es).atKey (.int .i64 k) zd = .lit (.string s.data.toList)
def noPages : Int → Option ByteArray := fun _ => none
theorem tx_empty (clock c : Nat) : TxIs #[] clock c noPages := ⟨⟨by simp, stamped_empty clock, by simp⟩, Nat.zero_le _, fun k => rfl, fun k s h => (by cases h)⟩
/-- T, but s at k. -/
def put (T : Int → Option ByteArray) (k : Int) (s : ByteArray) : Int → Option ByteArray := fun i => if i = k then some s else T i
theorem key_of {k : Int} (h0 : -9223372036854775808 ≤ k) (h1 : k ≤ 9223372036854775807) : keyOf Tryz.prog 3 (.int .i64 k) = some (.int .i64 k) :=
  Maps.keyOf_int_mk Tryz.underlying3 (WalkArith.wf_i64 ⟨h0, h1⟩)
theorem zero_page (w : World) : (zeroValue 156).run Tryz.prog w = .ok (.agg zero256) w := (zero_of_info (P := Tryz.prog) (t := 156) (v := .agg zero256) (n := 256) (by kernel_rfl)).1 w
/-- m[k], with ok. -/
theorem TxIs.look {es : Array MapEntry} {clock c : Nat} {T : Int → Option ByteArray} (h : TxIs es clock c T) {w : World} {b : Nat} (hb : w.heap[b]? = some (.map es clock)) (k : Int) (h0 : -9223372036854775808 ≤ k) (h1 : k ≤ 9223372036854775807) :
    (T k = none ∧ ∀ ok, (Instr.lookup 106 (.map (some b)) (.int .i64 k) ok).run Tryz.prog w = .ok (if ok then .tuple #[.agg zero256, .bool false] else .agg zero256) w) ∨
    ∃ s, T k = some s ∧ s.size = 256 ∧ ∀ ok, (Instr.lookup 106 (.map (some b)) (.int .i64 k) ok).run Tryz.prog w = .ok (if ok then .tuple #[pgV s, .bool true] else pgV s) w := by
  have hk := key_of h0 h1
  cases hT : T k with
  | none =>
    left
    refine ⟨rfl, fun ok => ?_⟩
    rcases Maps.fit_look ok keyed Tryz.underlying106 (zero_page w) hb h.fit hk with ⟨hrun, _, _⟩ | ⟨e0, y, _, _, _, _, hat, _⟩
    · exact hrun
    · have h1 : Maps.has (Dm es) (.int .i64 k) = true := Maps.has_true_of_atKey hat
      rw [h.has k, hT] at h1
      cases h1
  | some s =>
    right
    obtain ⟨hs, hget⟩ := h.get k s hT
    refine ⟨s, rfl, hs, fun ok => ?_⟩
    rcases Maps.fit_look ok keyed Tryz.underlying106 (zero_page w) hb h.fit hk with ⟨_, _, hat⟩ | ⟨e0, y, _, _, hrun, hR, hat, _⟩
    · have h1 : Maps.has (Dm es) (.int .i64 k) = false := Maps.has_false_of_atKey hat
      rw [h.has k, hT] at h1
      cases h1
    · obtain ⟨t, ht, hv, rfl⟩ := pgR_inv hR
      have e := (hget .nil).symm.trans (hat .nil)
      have : s = t := list_text (by simpa using e)
      subst this
      rw [hv] at hrun
      exact hrun
/-- m[k] = v. -/
theorem TxIs.put {es : Array MapEntry} {clock c : Nat} {T : Int → Option ByteArray} (h : TxIs es clock c T) {w : World} {b : Nat} (hb : w.heap[b]? = some (.map es clock)) (hc : c < 1000000) (k : Int) (h0 : -9223372036854775808 ≤ k) (h1 : k ≤ 9223372036854775807) (s : ByteArray) (hs : s.size = 256) :
    ∃ es' clock', (Instr.mapUpdate 106 (.map (some b)) (.int .i64 k) (pgV s)).run Tryz.prog w = .ok () (setBlock w b (.map es' clock')) ∧ TxIs es' clock' (c + 1) (put T k s) := by
  have hk := key_of h0 h1
  have hsz := h.size
  obtain ⟨es', clock', hrun, F', hput, _⟩ := Maps.fit_store (R' := pgR) keyed Tryz.underlying106 hb h.fit (by unfold maxLen; omega) (fun _ _ _ _ hz => hz) hk (pgR_mk hs)
  have hD : Dm es' = (Dm es).put (.int .i64 k) (.lit (.string s.data.toList)) := by unfold Dm; rw [hput]; rfl
  have hM : Maps.IsMap (Dm es) := ⟨_, rfl⟩
  have hKL : WideAt.IsKeyLit (.int .i64 k) := by unfold WideAt.IsKeyLit; trivial
  refine ⟨es', clock', hrun, F', ?_, fun j => ?_, fun j t hj => ?_⟩
  · have e1 : es'.size = ((es'.toList.map (rg Tryz.prog 3 pgR)).foldr DataW.insert []).length := by rw [length_sorted]; simp
    have e2 : es.size = ((es.toList.map (rg Tryz.prog 3 pgR)).foldr DataW.insert []).length := by rw [length_sorted]; simp
    rw [e1, hput]
    unfold putKey
    rw [length_insert]
    have e3 := List.length_filter_le (notKey (.int .i64 k)) ((es.toList.map (rg Tryz.prog 3 pgR)).foldr DataW.insert [])
    omega
  · rw [hD]
    by_cases e : j = k
    · subst e
      rw [Maps.has_put_same hM hKL]; simp [Go.Proofs.YtkdhlofcdcnjgaaGreat.put]
    · rw [Maps.has_put_other (by intro c; exact e (by simpa using c)), h.has j]; simp [Go.Proofs.YtkdhlofcdcnjgaaGreat.put, e]
  · rw [hD]
    by_cases e : j = k
    · subst e
      obtain rfl : s = t := by simpa [Go.Proofs.YtkdhlofcdcnjgaaGreat.put] using hj
      exact ⟨hs, fun zd => Maps.atKey_put_same hM hKL _ _⟩
    · have hj2 : T j = some t := by simpa [Go.Proofs.YtkdhlofcdcnjgaaGreat.put, e] using hj
      obtain ⟨a, b⟩ := h.get j t hj2
      exact ⟨a, fun zd => by rw [Maps.atKey_put_other (by intro c; exact e (by simpa using c)), b]⟩
/-- clear(m). -/
theorem clear_map {es : Array MapEntry} {clock : Nat} {w : World} {b : Nat} (hb : w.heap[b]? = some (.map es clock)) (ty : TypeId) :
    (Builtin.clear_ #[106] ty #[.map (some b)]).run Tryz.prog w = .ok (.tuple #[]) (setBlock w b (.map #[] clock)) := by
  simp [Builtin.clear_, run_underlying Tryz.underlying106, MapKept.run_getObj_map hb, MapKept.run_setObj_map _ hb, Result.andThen]
  rfl
/-- A block beside the disk is put anew, whole. -/
theorem OwnL.block {w0 w : World} {p b : Nat} {d : D} {L : List (Nat × Obj)} {es : Array MapEntry} {clock : Nat} (h : OwnL w0 p d L w) (hb : (b, Obj.map es clock) ∈ L) (h0 : w0.heap.size ≤ b) (o' : Obj) (L' : List (Nat × Obj)) (hL' : ∀ x ∈ L', x = (b, o') ∨ (x ∈ L ∧ x.1 ≠ b)) :
    OwnL w0 p d L' (setBlock w b o') := by
  obtain ⟨F, hp, hd, hbl, ho, hL⟩ := h
  obtain ⟨hn, hbb⟩ := hL _ hb
  have hsz : (setBlock w b o').heap.size = w.heap.size := by simp [setBlock]
  have hoth : ∀ k, k ≠ b → (setBlock w b o').heap[k]? = w.heap[k]? := fun k hk => heap_setBlock_other (show w.heap[b]? = some (.map es clock) from hbb) _ hk
  refine ⟨F, hp, DiskAt.keep hd (by omega) (fun k hk => hoth k (fun e => by subst e; exact hn hk)), ?_, ho, fun x hx => ?_⟩
  · exact ⟨hbl.os, hbl.tape, hbl.output, by rw [hsz]; exact hbl.size, fun k hk => (hoth k (by omega)).trans (hbl.block k hk)⟩
  · rcases hL' x hx with rfl | ⟨h1, h2⟩
    · exact ⟨hn, heap_setBlock_same (show w.heap[b]? = some (.map es clock) from hbb) _⟩
    · exact ⟨(hL x h1).1, (hoth _ h2).trans (hL x h1).2⟩

/-- A store in memory, with its transaction. -/
structure StT (w0 : World) (p q bm c : Nat) (d : D) (h : Hd) (T : Int → Option ByteArray) (dead : Bool) (R : List (Nat × Obj)) (w : World) : Prop where
  ex : ∃ es clock, TxIs es clock c T ∧ StR w0 p q bm d h dead ((bm, .map es clock) :: R) w
  lo : w0.heap.size ≤ bm
  ne : ∀ x ∈ R, x.1 ≠ bm
section
variable {w0 w w' : World} {p q bm c : Nat} {d : D} {h : Hd} {T : Int → Option ByteArray} {dead : Bool} {R : List (Nat × Obj)}
theorem StT.on (H : StT w0 p q bm c d h T dead R w) (b : Below w.heap.size w w') : StT w0 p q bm c d h T dead R w' := by
  obtain ⟨⟨es, clock, hT, hS⟩, h1, h2⟩ := H
  exact ⟨⟨es, clock, hT, hS.on b⟩, h1, h2⟩
theorem StT.at (H : StT w0 p q bm c d h T dead R w) : w.heap[q]? = some (storeO p bm h dead) := by
  obtain ⟨⟨es, clock, hT, hS⟩, h1, h2⟩ := H
  exact hS.at
theorem StT.own (H : StT w0 p q bm c d h T dead R w) : OwnL w0 p d R w := by
  obtain ⟨⟨es, clock, hT, hS⟩, h1, h2⟩ := H
  exact hS.own.sub R fun x hx => List.mem_cons_of_mem _ (List.mem_cons_of_mem _ hx)
theorem StT.mem (H : StT w0 p q bm c d h T dead R w) {x : Nat × Obj} (hx : x ∈ R) : w.heap[x.1]? = some x.2 := H.own.mem hx
theorem StT.below (H : StT w0 p q bm c d h T dead R w) : Below w0.heap.size w0 w := H.own.below
theorem StT.sub (H : StT w0 p q bm c d h T dead R w) (R' : List (Nat × Obj)) (hs : ∀ x ∈ R', x ∈ R) : StT w0 p q bm c d h T dead R' w := by
  obtain ⟨⟨es, clock, hT, hS⟩, h1, h2⟩ := H
  refine ⟨⟨es, clock, hT, hS.sub _ fun x hx => ?_⟩, h1, fun x hx => h2 x (hs x hx)⟩
  rcases List.mem_cons.1 hx with rfl | hx
  · exact List.mem_cons_self
  · exact List.mem_cons_of_mem _ (hs x hx)
theorem StT.add {g : Nat} {o : Obj} (H : StT w0 p q bm c d h T dead R w) (b : Below w.heap.size w w') (hg : w.heap.size ≤ g) (ho : w'.heap[g]? = some o) : StT w0 p q bm c d h T dead ((g, o) :: R) w' := by
  obtain ⟨⟨es, clock, hT, hS⟩, h1, h2⟩ := H
  have hbm := heap_lt (hS.mem (x := (bm, .map es clock)) List.mem_cons_self)
  refine ⟨⟨es, clock, hT, (hS.add b hg ho).sub _ fun x hx => ?_⟩, h1, fun x hx => ?_⟩
  · simp only [List.mem_cons] at hx ⊢
    rcases hx with h | h | h <;> simp [h]
  · rcases List.mem_cons.1 hx with rfl | hx
    · show g ≠ bm; omega
    · exact h2 x hx
end
end Go.Proofs.YtkdhlofcdcnjgaaGreat
namespace Go.Proofs.YtkdhlofcdcnjgaaGreat
set_option maxRecDepth 100000
open Go.ChangeShapes Go.WideShapes Go.ChangeAt Go.RowKit Go.PlainAid Go.ChangeMaps Go.MapKept
open Go.Sort (grow)

theorem loadS_page (v : Value) : Instr.loadAt 156 v = loadS 156 v := rfl
theorem storeS_page (p v : Value) : Instr.storeAt 156 p v = storeS 156 p v := rfl
attribute [local go_sem ↓ high] loadS_page storeS_page
theorem size_page : (Tryz.prog.info? 156).map (·.size) = some 256 := by kernel_rfl
theorem zero_cells : zero256 = (textCells 256 zeroText).toArray := by
  unfold zero256 textCells
  apply Array.ext'
  simp only [Array.toList_replicate]
  rw [show (fun j => Value.int IntKind.u8 (bt zeroText j)) = fun _ => Value.int IntKind.u8 0 from funext fun j => by rw [zeroText_bt]]
  rw [List.map_const', List.length_range]
theorem storeS_new_page (w : World) (s : ByteArray) : (storeS 156 (.pointer (some ⟨w.heap.size, 0, none⟩)) (.agg (textCells 256 s).toArray)).run Tryz.prog (w.alloc (.cells zero256 156)) = .ok () (w.alloc (.cells (textCells 256 s).toArray 156)) := by
  have hr := run_storeVar_row (P := Tryz.prog) (w.alloc (.cells zero256 156)) w.heap.size 156 156 zero256 (textCells 256 s).toArray (heap_alloc_new w _) (by rw [size_page]; simp) (by simp [zero256]) (all_oneCell_toArray (textCells_one 256 s))
  rw [setRow_alloc] at hr
  exact hr
theorem conv_page {w : World} {g : Nat} {s : ByteArray} (hs : s.size = 256) (h : w.heap[g]? = some (.cells (textCells 256 s).toArray 156 (0, 0))) :
    (convert 143 9 (.slice (some ⟨g, 0, none⟩) 256 256)).run Tryz.prog w = .ok (.string s) w :=
  conv_text 143 5 9 Tryz.underlying143 Tryz.underlying5 Tryz.underlying9 w g 0 256 256 s hs (rangeAt_whole h)
/-- A page, as the transaction has it, else as the disk has it. -/
def pageS (d : D) (h : Hd) (T : Int → Option ByteArray) (k : Int) : ByteArray := match T k with
  | some s => s
  | none => d.last ((2 + h.room : Nat) + k).toNat
set_option maxHeartbeats 1000000 in
theorem sread_no (w : World) (v : Value) (k : Int) (h : NoStore w v) :
    Calls Tryz.prog 52 #[v, .int .i64 k] w fun e w' => e = .returned (.tuple #[.string ⟨#[]⟩, .int .i64 3]) ∧ w = w' := by
  go_enter Tryz.func52, Tryz.ntmps52
  go_wp2_with fail
  refine (sreach_no _ v k h).mono ?_
  rintro e _ ⟨rfl, rfl⟩
  go_wp2
  go_returns
  exact ⟨rfl, rfl⟩
/-- .. of a page that is there, of a store that lives: as the transaction has it. -/
theorem sread_tx {w0 w : World} {p q bm c : Nat} {d : D} {h : Hd} {T : Int → Option ByteArray} {R : List (Nat × Obj)} (H : StT w0 p q bm c d h T false R w) (k : Int) (hk0 : 0 ≤ k) (hk1 : k < h.pages) (hw : h.Wf) (s : ByteArray) (hT : T k = some s) :
    Calls Tryz.prog 52 #[.pointer (some ⟨q, 0, none⟩), .int .i64 k] w fun e w' => e = .returned (.tuple #[.string s, .int .i64 0]) ∧ StT w0 p q bm c d h T false R w' ∧ Keeps (fun j => j = q) w w' := by
  have HS0 := Lib.hid H
  have hp := hw.pages
  have hR := sreach_any w q p bm h false k H.at (by omega) (by omega)
  have hr0 : sreachE h false k = 0 := by unfold sreachE; rw [if_neg (by decide), if_neg (by omega)]
  rw [hr0] at hR
  obtain ⟨c0, c1, c2, c3, c4, c5, c6⟩ := store_cells H.at
  obtain ⟨⟨es, clock, hX, hS⟩, _, _⟩ := H
  have hbm := hS.mem (x := (bm, .map es clock)) List.mem_cons_self
  rcases hX.look hbm k (by omega) (by omega) with ⟨hn, _⟩ | ⟨t, ht, hts, hl⟩
  · rw [hn] at hT; cases hT
  · obtain rfl : t = s := by rw [ht] at hT; simpa using hT
    have hl1 := hl true
    rw [if_pos rfl] at hl1
    have hst := storeS_new_page w t
    have hcv := conv_page hts (heap_alloc_new w (.cells (textCells 256 t).toArray 156))
    have hbl : Below w.heap.size w (w.alloc (.cells (textCells 256 t).toArray 156)) := by go_grown
    have HB := Lib.hid hbl
    have HR := Lib.hid hR
    unfold pgV at hl1
    generalize (textCells 256 t).toArray = cs at *
    generalize hz : zero256 = zs at *
    have zp := zero_page
    rw [hz] at zp
    clear hl hT ht hX hS hbm hbl hR hr0 hz
    go_enter Tryz.func52, Tryz.ntmps52
    go_wp2_with fail
    refine HR.out.mono ?_
    rintro e _ ⟨rfl, rfl⟩
    go_wp2
    go_returns
    exact ⟨rfl, HS0.out.on HB.out, Keeps.of_below HB.out⟩
/-- The store's last cell is written as it is. -/
theorem StT.setDead {w0 w : World} {p q bm c : Nat} {d : D} {h : Hd} {T : Int → Option ByteArray} {dead : Bool} {R : List (Nat × Obj)} (H : StT w0 p q bm c d h T dead R w) (x : Bool) : StT w0 p q bm c d h T x R (w.setCell ⟨q, 6, none⟩ (.bool x)) := by
  obtain ⟨⟨es, clock, hX, hS⟩, h1, h2⟩ := H
  exact ⟨⟨es, clock, hX, hS.set 6 (.bool x) h x rfl⟩, h1, h2⟩
set_option maxHeartbeats 1000000 in
/-- .. as the disk has it. -/
theorem sread_disk {w0 w : World} {p q bm c : Nat} {d : D} {h : Hd} {T : Int → Option ByteArray} {R : List (Nat × Obj)} (H : StT w0 p q bm c d h T false R w) (k : Int) (hk0 : 0 ≤ k) (hk1 : k < h.pages) (hw : h.Wf) (hd : d.dark = false) (hn : 2 + h.room + h.pages ≤ d.n) (hT : T k = none) :
    Calls Tryz.prog 52 #[.pointer (some ⟨q, 0, none⟩), .int .i64 k] w fun e w' => e = .returned (.tuple #[.string (d.last ((2 + h.room : Nat) + k).toNat), .int .i64 0]) ∧ StT w0 p q bm c d h T false R w' ∧ Keeps (fun j => j = q) w w' := by
  have HS0 := Lib.hid H
  have hp := hw.pages
  have hr := hw.room
  have hR := sreach_any w q p bm h false k H.at (by omega) (by omega)
  have hr0 : sreachE h false k = 0 := by unfold sreachE; rw [if_neg (by decide), if_neg (by omega)]
  rw [hr0] at hR
  obtain ⟨c0, c1, c2, c3, c4, c5, c6⟩ := store_cells H.at
  obtain ⟨⟨es, clock, hX, hS⟩, _, _⟩ := H
  have hbm := hS.mem (x := (bm, .map es clock)) List.mem_cons_self
  rcases hX.look hbm k (by omega) (by omega) with ⟨_, hl⟩ | ⟨t, ht, _⟩
  · have hl1 := hl true
    rw [if_pos rfl] at hl1
    have hst := storeS_new_page w zeroText
    rw [← zero_cells] at hst
    have hbl : Below w.heap.size w (w.alloc (.cells zero256 156)) := by go_grown
    have HB := Lib.hid hbl
    have HR := Lib.hid hR
    generalize hz : zero256 = zs at *
    have zp := zero_page
    rw [hz] at zp
    obtain ⟨kk, hkk⟩ : ∃ kk : Int, kk = (2 + h.room : Nat) + k := ⟨_, rfl⟩
    have hk2 : 0 ≤ kk ∧ kk < d.n := by omega
    have CP := Lib.hid (fun (w1 : World) (b : Below w.heap.size w w1) => place_any w1 q p bm h false k (HS0.out.on b).at hr hk0 (by omega))
    rw [← hkk] at CP ⊢
    have hre : reachE d kk = 0 := by unfold reachE; rw [hd, if_neg (by decide), if_neg (by omega)]
    have hrs : readS d kk = d.last kk.toNat := by unfold readS; rw [hre, if_pos rfl]
    have hnn := HS0.out.own.wf.hi
    have CR := Lib.hid (fun (w1 : World) (b : Below w.heap.size w w1) => q_read (HS0.out.on b).own kk (by omega) (by omega))
    rw [hre, hrs] at CR
    clear hl hT hX hS hbm hbl hR hr0 hz hkk hre hrs
    go_enter Tryz.func52, Tryz.ntmps52
    go_wp2_with fail
    refine HR.out.mono ?_
    rintro e _ ⟨rfl, rfl⟩
    go_wp2_with fail
    have HS1 := Lib.hid (HS0.out.on HB.out)
    generalize w.alloc (.cells zs 156) = W1 at *
    clear c0 c1 c2 c3 c4 c5 c6
    obtain ⟨c0, c1, c2, c3, c4, c5, c6⟩ := store_cells HS1.out.at
    go_region_law (first
      | (go_simp; (with_reducible refine (CP.out _ (HB.out.on (by go_grown))).mono ?_); rintro e _ ⟨rfl, rfl⟩)
      | (go_simp; (with_reducible refine (CR.out _ (HB.out.on (by go_grown))).mono ?_); rintro e _ ⟨rfl, rfl⟩)
      | fail)
    all_goals
      have HS2 := Lib.hid (HS1.out.on (show Below W1.heap.size W1 W1.drew by go_grown))
      have HB2 := Lib.hid (HB.out.on (show Below W1.heap.size W1 W1.drew by go_grown))
      generalize W1.drew = W2 at *
      have t6 := store_thaw HS2.out.at 6
      obtain ⟨c0, c1, c2, c3, c4, c5, c6⟩ := store_cells HS2.out.at
      go_wp2
      go_returns
      exact ⟨rfl, HS2.out.setDead false, Keeps.setCell (own := fun j => j = q) (Keeps.of_below HB2.out) (.inl rfl) _⟩
  · rw [ht] at hT; cases hT
theorem sread_any {w0 w : World} {p q bm c : Nat} {d : D} {h : Hd} {T : Int → Option ByteArray} {R : List (Nat × Obj)} (H : StT w0 p q bm c d h T false R w) (k : Int) (hk0 : 0 ≤ k) (hk1 : k < h.pages) (hw : h.Wf) (hd : d.dark = false) (hn : 2 + h.room + h.pages ≤ d.n) :
    Calls Tryz.prog 52 #[.pointer (some ⟨q, 0, none⟩), .int .i64 k] w fun e w' => e = .returned (.tuple #[.string (pageS d h T k), .int .i64 0]) ∧ StT w0 p q bm c d h T false R w' ∧ Keeps (fun j => j = q) w w' := by
  cases hT : T k with
  | none =>
    have e : pageS d h T k = d.last ((2 + h.room : Nat) + k).toNat := by unfold pageS; rw [hT]
    rw [e]
    exact sread_disk H k hk0 hk1 hw hd hn hT
  | some s =>
    have e : pageS d h T k = s := by unfold pageS; rw [hT]
    rw [e]
    exact sread_tx H k hk0 hk1 hw s hT
end Go.Proofs.YtkdhlofcdcnjgaaGreat
namespace Go.Proofs.YtkdhlofcdcnjgaaGreat
set_option maxRecDepth 100000
open Go.ChangeShapes Go.WideShapes Go.ChangeAt Go.RowKit Go.PlainAid Go.ChangeMaps Go.MapKept
open Go.Sort (grow)
attribute [local go_sem ↓ high] loadS_page storeS_page

theorem loadS_pg {w : World} {g o : Nat} {s : ByteArray} (h : w.rangeAt g o (textCells 256 s)) : (loadS 156 (.pointer (some ⟨g, o, none⟩))).run Tryz.prog w = .ok (.agg (textCells 256 s).toArray) w :=
  loadMany_range (P := Tryz.prog) (t := 156) (textCells 256 s) (.array 256 5) h Tryz.underlying156 rfl (by rw [size_page, length_textCells])
theorem TxIs.mono {es : Array MapEntry} {clock c c' : Nat} {T : Int → Option ByteArray} (h : TxIs es clock c T) (hc : c ≤ c') : TxIs es clock c' T := ⟨h.fit, Nat.le_trans h.size hc, h.has, h.get⟩
theorem StT.mono {w0 w : World} {p q bm c c' : Nat} {d : D} {h : Hd} {T : Int → Option ByteArray} {dead : Bool} {R : List (Nat × Obj)} (H : StT w0 p q bm c d h T dead R w) (hc : c ≤ c') : StT w0 p q bm c' d h T dead R w := by
  obtain ⟨⟨es, clock, hX, hS⟩, h1, h2⟩ := H
  exact ⟨⟨es, clock, hX.mono hc, hS⟩, h1, h2⟩
/-- The map is put anew. -/
theorem StT.newMap {w0 w : World} {p q bm c' : Nat} {d : D} {h : Hd} {T' : Int → Option ByteArray} {dead : Bool} {R : List (Nat × Obj)} {es es' : Array MapEntry} {clock clock' : Nat}
    (hS : StR w0 p q bm d h dead ((bm, .map es clock) :: R) w) (h1 : w0.heap.size ≤ bm) (h2 : ∀ x ∈ R, x.1 ≠ bm) (hX : TxIs es' clock' c' T') : StT w0 p q bm c' d h T' dead R (setBlock w bm (.map es' clock')) := by
  have hne : bm ≠ q := hS.ne _ List.mem_cons_self
  refine ⟨⟨es', clock', hX, ⟨hS.own.block (es := es) (clock := clock) (b := bm) (by simp) h1 _ _ (fun x hx => ?_), hS.lo, fun x hx => ?_⟩⟩, h1, h2⟩
  · simp only [List.mem_cons] at hx ⊢
    rcases hx with rfl | rfl | hx
    · exact .inr ⟨.inl rfl, fun e => hne e.symm⟩
    · exact .inl rfl
    · exact .inr ⟨.inr (.inr hx), h2 x hx⟩
  · rcases List.mem_cons.1 hx with rfl | hx
    · exact hne
    · exact hS.ne x (List.mem_cons_of_mem _ hx)
theorem keeps_block {w w' : World} {b : Nat} {es : Array MapEntry} {clock : Nat} (h : Keeps (fun j => j = b) w w') (hb : w'.heap[b]? = some (.map es clock)) (o : Obj) : Keeps (fun j => j = b) w (setBlock w' b o) := by
  refine ⟨h.os, h.tape, h.output, by have := h.size; simp [setBlock]; omega, fun k hk ho => ?_⟩
  exact (heap_setBlock_other hb _ ho).trans (h.block k hk ho)
/-- What Write answers, and the transaction behind it. -/
def swriteE (h : Hd) (k : Int) (s : ByteArray) : Int := if k < 0 ∨ h.pages ≤ k then 10 else if 256 < s.size then 21 else 0
def swriteT (h : Hd) (T : Int → Option ByteArray) (k : Int) (s : ByteArray) : Int → Option ByteArray := if k < 0 ∨ h.pages ≤ k ∨ 256 < s.size then T else put T k (filled s)
theorem swrite_no (w : World) (v : Value) (k : Int) (s : ByteArray) (h : NoStore w v) :
    Calls Tryz.prog 72 #[v, .int .i64 k, .string s] w fun e w' => e = .returned (.int .i64 3) ∧ w = w' := by
  go_enter Tryz.func72, Tryz.ntmps72
  go_wp2_with fail
  refine (sreach_no _ v k h).mono ?_
  rintro e _ ⟨rfl, rfl⟩
  go_wp2
  go_returns
  exact ⟨rfl, rfl⟩
set_option maxHeartbeats 1000000 in
theorem swrite_any {w0 w : World} {p q bm c : Nat} {d : D} {h : Hd} {T : Int → Option ByteArray} {R : List (Nat × Obj)} (H : StT w0 p q bm c d h T false R w) (k : Int) (s : ByteArray) (h0 : -9223372036854775808 ≤ k) (h1 : k ≤ 9223372036854775807) (hs : s.size ≤ maxLen) (hc : c < 1000000) :
    Calls Tryz.prog 72 #[.pointer (some ⟨q, 0, none⟩), .int .i64 k, .string s] w fun e w' => e = .returned (.int .i64 (swriteE h k s)) ∧ StT w0 p q bm (c + 1) d h (swriteT h T k s) false R w' ∧ Keeps (fun j => j = bm) w w' := by
  unfold maxLen at hs
  have hR := sreach_any w q p bm h false k H.at h0 h1
  unfold swriteE swriteT
  by_cases hk : k < 0 ∨ h.pages ≤ k
  · have hr0 : sreachE h false k = 10 := by unfold sreachE; rw [if_neg (by decide), if_pos hk]
    rw [hr0] at hR
    rw [if_pos hk, if_pos (by omega)]
    clear hr0
    go_enter Tryz.func72, Tryz.ntmps72
    go_wp2_with fail
    refine hR.mono ?_
    rintro e _ ⟨rfl, rfl⟩
    go_wp2
    go_returns
    exact ⟨rfl, H.mono (Nat.le_succ c), Keeps.refl _ _⟩
  · have hr0 : sreachE h false k = 0 := by unfold sreachE; rw [if_neg (by decide), if_neg hk]
    rw [hr0] at hR
    rw [if_neg hk]
    by_cases hb : 256 < s.size
    · have hb1 : decide ((256 : Int) < (s.size : Int)) = true := by simp; omega
      rw [if_pos hb, if_pos (by omega)]
      clear hr0
      go_enter Tryz.func72, Tryz.ntmps72
      go_wp2_with fail
      refine hR.mono ?_
      rintro e _ ⟨rfl, rfl⟩
      go_wp2
      go_returns
      exact ⟨rfl, H.mono (Nat.le_succ c), Keeps.refl _ _⟩
    · have hb1 : decide ((256 : Int) < (s.size : Int)) = false := by simp; omega
      rw [if_neg hb, if_neg (by omega)]
      have hzero := zero_page
      have hcopy := copy_fill (P := Tryz.prog) w 143 9 3 5 156 s Tryz.underlying143 (by kernel_rfl) (by omega)
      have hbl : Below w.heap.size w (w.alloc (.cells (textCells 256 s).toArray 156)) := by go_grown
      have HB := Lib.hid hbl
      have HS0 := Lib.hid H
      have HR := Lib.hid hR
      have hnew := heap_alloc_new w (.cells (textCells 256 s).toArray 156)
      clear hr0 hR H hbl
      go_enter Tryz.func72, Tryz.ntmps72
      go_wp2_with fail
      refine HR.out.mono ?_
      rintro e _ ⟨rfl, rfl⟩
      go_wp2_with fail
      have HS1 := Lib.hid (HS0.out.on HB.out)
      clear hcopy hzero HS0 HR
      generalize w.alloc (.cells (textCells 256 s).toArray 156) = W1 at *
      obtain ⟨c0, c1, c2, c3, c4, c5, c6⟩ := store_cells HS1.out.at
      have hra := rangeAt_whole hnew
      have ld1 := loadS_pg hra
      have ld2 := loadS_pg (w := W1.drew) hra
      have hbd : Below W1.heap.size W1 W1.drew := by go_grown
      obtain ⟨⟨es, clock, hX, hS⟩, q1, q2⟩ := HS1.out.on hbd
      have hbm : W1.drew.heap[bm]? = some (.map es clock) := hS.mem (x := (bm, .map es clock)) List.mem_cons_self
      obtain ⟨es', clock', hrun, hX'⟩ := hX.put hbm hc k h0 h1 (filled s) (filled_size s)
      unfold pgV at hrun
      rw [textCells_filled] at hrun
      have HF := Lib.hid (StT.newMap hS q1 q2 hX')
      have HK := Lib.hid (keeps_block (es := es) (clock := clock) (Keeps.of_below (own := fun j => j = bm) (HB.out.on hbd)) hbm (.map es' clock'))
      clear hnew hra hX hS q1 q2 hbm hX' hbd HS1 HB
      generalize (textCells 256 s).toArray = cs at *
      generalize setBlock W1.drew bm (.map es' clock') = W3 at *
      go_still_tail 6, (by kernel_rfl)
      change wpList _ _ _ _ _ W1.drew
      generalize W1.drew = W2 at *
      go_wp2
      go_returns
      exact ⟨rfl, HF.out, HK.out⟩
end Go.Proofs.YtkdhlofcdcnjgaaGreat
