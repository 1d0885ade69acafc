/- Package store: Format, Open where nothing is under way. -/
import Derived.Test.YtfcicpcpdklceaaSL
namespace Go.Proofs.Ytfcicpcpdklceaa
set_option maxRecDepth 100000
open Go.ChangeShapes Go.WideShapes Go.ChangeAt Go.RowKit Go.PlainAid Go.ChangeMaps Go.MapKept
open Go.Sort (grow)

/-- The first head of a disk. -/
def firstHd (n room : Nat) : Hd := ⟨2, 0, room, min (n - 2 - room) 1024⟩
/-- A disk that is formatted. -/
def formatted (d : D) (room : Nat) : D := (d.write 1 ⟨#[]⟩).ops (putOps (firstHd d.n room))
theorem free_write_free {d : D} (h : d.free) {k : Int} {s : ByteArray} (h0 : 0 ≤ k) (h1 : k < d.n) (hs : s.size ≤ 256) : (d.write k s).free := by
  rw [free_write h h0 h1 hs]; exact h
theorem free_put {d : D} (h : d.free) {x : Hd} (hn : 2 ≤ d.n) : d.ops (putOps x) = D.flushed { d with late := d.late ++ [(x.seq % 2, filled x.text)] } ∧ opsE d (putOps x) = 0 := by
  have e : writeE d ((x.seq % 2 : Nat) : Int) x.text = 0 := free_writeE h (by omega) (by omega) (by rw [x.text_size]; omega)
  obtain ⟨a, b⟩ := putOps_ok e
  have hf := free_write_free h (k := ((x.seq % 2 : Nat) : Int)) (s := x.text) (by omega) (by omega) (by rw [x.text_size]; omega)
  rw [a, b, free_flush hf, free_flushE hf, free_write h (by omega) (by omega) (by rw [x.text_size]; omega)]
  exact ⟨rfl, rfl⟩
set_option maxHeartbeats 1000000 in
theorem format_any {w0 w : World} {p : Nat} {d : D} {L : List (Nat × Obj)} (H : OwnL w0 p d L w) (hf : d.free) (room : Nat) (h1 : 1 ≤ room) (h2 : room + 3 ≤ d.n) (hl : d.late.length < 100000) :
    Calls Try.prog 25 #[.pointer (some ⟨p, 0, none⟩), .int .i64 room] w fun e w' => e = .returned (.int .i64 0) ∧ OwnL w0 p (formatted d room) L w' := by
  have hn := H.wf.hi
  have hre : reachE d ((0 : Nat) : Int) = 0 := free_reach hf (by omega) (by omega)
  have hrs : readS d ((0 : Nat) : Int) = d.last 0 := free_read hf (by omega) (by omega)
  have CR := q_read H 0 (by omega) (by omega)
  rw [show (0 : Int) = ((0 : Nat) : Int) from rfl, hre, hrs] at CR
  have CR2 := Lib.hid CR
  have CW := Lib.hid (q_write H 1 ⟨#[]⟩ (by omega) (by omega) (by omega))
  have CL := Lib.hid (show Calls Try.prog 37 #[.pointer (some ⟨p, 0, none⟩)] w (fun e w' => e = .returned (.int .i64 d.n) ∧ w = w') from by
    obtain ⟨F, rfl, hdk, _⟩ := H
    exact len_any w F d hdk)
  have hwe : writeE d 1 ⟨#[]⟩ = 0 := free_writeE hf (by omega) (by omega) (by decide)
  have HWE := Lib.hid hwe
  have hwf : (firstHd d.n room).Wf := ⟨by show 2 ≤ _; omega, by show 0 ≤ _; omega, by show room ≤ _; omega, by show min _ _ ≤ _; omega⟩
  have hol := op_late d (.wr 1 ⟨#[]⟩)
  have hol2 : (d.write 1 ⟨#[]⟩).late.length ≤ d.late.length + 1 := hol
  have CP := Lib.hid (fun w1 (H1 : OwnL w0 p (d.write 1 ⟨#[]⟩) L w1) => put_any H1 (firstHd d.n room) hwf (by omega))
  have hf1 := free_write_free hf (k := 1) (s := ⟨#[]⟩) (by omega) (by omega) (by decide)
  have hn1 : (d.write 1 ⟨#[]⟩).n = d.n := op_n d (.wr 1 ⟨#[]⟩)
  have HPE := Lib.hid (free_put hf1 (x := firstHd d.n room) (by omega)).2
  have hmin : min ((d.n : Int) - 2 - room) 1024 = ((firstHd d.n room).pages : Int) := by show _ = ((min (d.n - 2 - room) 1024 : Nat) : Int); omega
  have hlt : decide ((d.n : Int) - 2 - room < 1) = false := by simp; omega
  have hv : Value.agg #[.int .u64 2, .int .i64 0, .int .i64 room, .int .i64 (firstHd d.n room).pages] = headV (firstHd d.n room) := rfl
  unfold headV at CP
  clear CR hre hrs hwe hol hol2 hf1 hn1 hwf H hf hv
  generalize hpg : (firstHd d.n room).pages = pg at *
  have HPG := Lib.hid hpg
  clear hpg
  go_enter Try.func25, Try.ntmps25
  go_wp2_with fail
  refine CR2.out.mono ?_
  rintro e _ ⟨rfl, rfl⟩
  go_wp2_with fail
  refine CL.out.mono ?_
  rintro e _ ⟨rfl, rfl⟩
  go_wp2_with fail
  refine CW.out.mono ?_
  rintro e w1 ⟨rfl, H1⟩
  rw [HWE.out]
  have HH1 := Lib.hid H1
  clear H1
  go_wp2_with fail
  refine (CP.out _ HH1.out).mono ?_
  rintro e w2 ⟨rfl, H2⟩
  rw [HPE.out]
  have HH2 := Lib.hid H2
  clear H2
  go_wp2
  go_returns
  exact ⟨rfl, HH2.out⟩
theorem format_no (w : World) (v : Value) (k : Int) (h : NoDisk w v) :
    Calls Try.prog 25 #[v, .int .i64 k] w fun e w' => e = .returned (.int .i64 3) ∧ w = w' := by
  go_enter Try.func25, Try.ntmps25
  go_wp2_with fail
  refine (read_no _ v 0 h).mono ?_
  rintro e _ ⟨rfl, rfl⟩
  go_wp2
  go_returns
  exact ⟨rfl, rfl⟩
end Go.Proofs.Ytfcicpcpdklceaa
