/- Lists of writes and flushes, done till the first error: plain. -/
import Derived.Test.YtfcicpcpdklceaaSA
namespace Go.Proofs.Ytfcicpcpdklceaa
set_option maxRecDepth 100000
open Go.ChangeShapes Go.WideShapes Go.ChangeAt Go.RowKit Go.PlainAid

/-- A write of a block, or a flush. -/
inductive DOp where
  | wr (k : Int) (s : ByteArray)
  | fl
def D.op (d : D) : DOp → D
  | .wr k s => d.write k s
  | .fl => d.flush
def opE (d : D) : DOp → Int
  | .wr k s => writeE d k s
  | .fl => flushE d
/-- A list of them, till the first error. -/
def D.ops (d : D) : List DOp → D
  | [] => d
  | o :: l => if opE d o = 0 then (d.op o).ops l else d.op o
def opsE (d : D) : List DOp → Int
  | [] => 0
  | o :: l => if opE d o = 0 then opsE (d.op o) l else opE d o
theorem ops_nil (d : D) : d.ops [] = d ∧ opsE d [] = 0 := ⟨rfl, rfl⟩
theorem ops_cons_ok {d : D} {o : DOp} (l : List DOp) (h : opE d o = 0) : d.ops (o :: l) = (d.op o).ops l ∧ opsE d (o :: l) = opsE (d.op o) l := by simp [D.ops, opsE, h]
theorem ops_cons_err {d : D} {o : DOp} (l : List DOp) (h : opE d o ≠ 0) : d.ops (o :: l) = d.op o ∧ opsE d (o :: l) = opE d o := by simp [D.ops, opsE, h]
theorem ops_one (d : D) (o : DOp) : d.ops [o] = d.op o ∧ opsE d [o] = opE d o := by
  by_cases h : opE d o = 0
  · rw [(ops_cons_ok [] h).1, (ops_cons_ok [] h).2, h]; exact ⟨rfl, rfl⟩
  · exact ops_cons_err [] h
theorem ops_app : ∀ (a b : List DOp) (d : D), (opsE d a = 0 → d.ops (a ++ b) = (d.ops a).ops b ∧ opsE d (a ++ b) = opsE (d.ops a) b) ∧ (opsE d a ≠ 0 → d.ops (a ++ b) = d.ops a ∧ opsE d (a ++ b) = opsE d a)
  | [], b, d => ⟨fun _ => ⟨rfl, rfl⟩, fun h => absurd rfl h⟩
  | o :: a, b, d => by
    by_cases h : opE d o = 0
    · rw [List.cons_append, (ops_cons_ok a h).1, (ops_cons_ok a h).2, (ops_cons_ok (a ++ b) h).1, (ops_cons_ok (a ++ b) h).2]
      exact ops_app a b (d.op o)
    · rw [List.cons_append, (ops_cons_err a h).1, (ops_cons_err a h).2, (ops_cons_err (a ++ b) h).1, (ops_cons_err (a ++ b) h).2]
      exact ⟨fun c => absurd c h, fun _ => ⟨rfl, rfl⟩⟩
theorem ops_app_ok {a : List DOp} {d : D} (b : List DOp) (h : opsE d a = 0) : d.ops (a ++ b) = (d.ops a).ops b ∧ opsE d (a ++ b) = opsE (d.ops a) b := (ops_app a b d).1 h
theorem ops_app_err {a : List DOp} {d : D} (b : List DOp) (h : opsE d a ≠ 0) : d.ops (a ++ b) = d.ops a ∧ opsE d (a ++ b) = opsE d a := (ops_app a b d).2 h

/-- How many blocks there are doesn't change. -/
theorem op_n (d : D) (o : DOp) : (d.op o).n = d.n := by
  cases o with
  | wr k s => simp only [D.op, D.write]; split <;> (try split) <;> (try split) <;> first | rfl | exact (spent_same d).1
  | fl => simp only [D.op, D.flush, D.flushed]; split <;> (try split) <;> first | rfl | exact (spent_same d).1
theorem op_late (d : D) (o : DOp) : (d.op o).late.length ≤ d.late.length + 1 := by
  have hs := (spent_same d).2.2
  cases o with
  | wr k s =>
    simp only [D.op, D.write]
    split <;> (try split) <;> (try split) <;> simp [hs]
  | fl =>
    simp only [D.op, D.flush, D.flushed]
    split <;> (try split) <;> simp [hs]
theorem ops_n : ∀ (l : List DOp) (d : D), (d.ops l).n = d.n
  | [], _ => rfl
  | o :: l, d => by
    by_cases h : opE d o = 0
    · rw [(ops_cons_ok l h).1, ops_n l, op_n]
    · rw [(ops_cons_err l h).1, op_n]
theorem ops_late : ∀ (l : List DOp) (d : D), (d.ops l).late.length ≤ d.late.length + l.length
  | [], _ => Nat.le_refl _
  | o :: l, d => by
    have h1 := op_late d o
    by_cases h : opE d o = 0
    · have := ops_late l (d.op o)
      rw [(ops_cons_ok l h).1, List.length_cons]; omega
    · rw [(ops_cons_err l h).1, List.length_cons]; omega
/-- A head as it is written. -/
def Hd.text (h : Hd) : ByteArray := writeB h.seq h.used h.room h.pages
theorem Hd.text_size (h : Hd) : h.text.size = 40 := writeB_size _ _ _ _
/-- A head is put. -/
def putOps (h : Hd) : List DOp := [.wr ((h.seq % 2 : Nat) : Int) h.text, .fl]
theorem putOps_ok {d : D} {h : Hd} (e : writeE d ((h.seq % 2 : Nat) : Int) h.text = 0) : d.ops (putOps h) = (d.write ((h.seq % 2 : Nat) : Int) h.text).flush ∧ opsE d (putOps h) = flushE (d.write ((h.seq % 2 : Nat) : Int) h.text) := by
  have h1 := ops_cons_ok (d := d) (o := .wr ((h.seq % 2 : Nat) : Int) h.text) [.fl] e
  have h2 := ops_one (d.write ((h.seq % 2 : Nat) : Int) h.text) .fl
  exact ⟨h1.1.trans h2.1, h1.2.trans h2.2⟩
theorem putOps_err {d : D} {h : Hd} (e : writeE d ((h.seq % 2 : Nat) : Int) h.text ≠ 0) : d.ops (putOps h) = d.write ((h.seq % 2 : Nat) : Int) h.text ∧ opsE d (putOps h) = writeE d ((h.seq % 2 : Nat) : Int) h.text :=
  ops_cons_err (d := d) (o := .wr ((h.seq % 2 : Nat) : Int) h.text) [.fl] e
end Go.Proofs.Ytfcicpcpdklceaa
