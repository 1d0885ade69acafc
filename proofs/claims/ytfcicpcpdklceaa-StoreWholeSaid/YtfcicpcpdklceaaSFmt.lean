/- Package store: Format, Open where nothing is under way. Package store: Open, where nothing is under way, or no head counts. -/
import Derived.Test.YtfcicpcpdklceaaSL
namespace Go.Proofs.Ytfcicpcpdklceaa
set_option maxRecDepth 100000
open Go.ChangeShapes Go.WideShapes Go.ChangeAt Go.RowKit Go.PlainAid Go.ChangeMaps Go.MapKept
open Go.Sort (grow)

/-- The first head of a disk. -/
def firstHd (n room : Nat) : Hd := ⟨2, 0, room, min (n - 2 - room) 1024⟩
/-- A disk that is formatted. -/
def formatted (d : D) (room : Nat) : D := (d.write 1 ⟨#[]⟩).ops (putOps (firstHd d.n room))
theorem free_write_free {d : D} (h : d.free) {k : Int} {s : ByteArray} (h0 : 0 ≤ k) (h1 : k < d.n) (hs : s.size ≤ 256) : (d.write k s).free := by
  rw [free_write h h0 h1 hs]; exact h
theorem free_put {d : D} (h : d.free) {x : Hd} (hn : 2 ≤ d.n) : d.ops (putOps x) = D.flushed { d with late := d.late ++ [(x.seq % 2, filled x.text)] } ∧ opsE d (putOps x) = 0 := by
  have e : writeE d ((x.seq % 2 : Nat) : Int) x.text = 0 := free_writeE h (by omega) (by omega) (by rw [x.text_size]; omega)
  obtain ⟨a, b⟩ := putOps_ok e
  have hf := free_write_free h (k := ((x.seq % 2 : Nat) : Int)) (s := x.text) (by omega) (by omega) (by rw [x.text_size]; omega)
  rw [a, b, free_flush hf, free_flushE hf, free_write h (by omega) (by omega) (by rw [x.text_size]; omega)]
  exact ⟨rfl, rfl⟩
set_option maxHeartbeats 1000000 in
theorem format_any {w0 w : World} {p : Nat} {d : D} {L : List (Nat × Obj)} (H : OwnL w0 p d L w) (hf : d.free) (room : Nat) (h1 : 1 ≤ room) (h2 : room + 3 ≤ d.n) (hl : d.late.length < 100000) :
    Calls Try.prog 25 #[.pointer (some ⟨p, 0, none⟩), .int .i64 room] w fun e w' => e = .returned (.int .i64 0) ∧ OwnL w0 p (formatted d room) L w' := by
  have hn := H.wf.hi
  have hre : reachE d ((0 : Nat) : Int) = 0 := free_reach hf (by omega) (by omega)
  have hrs : readS d ((0 : Nat) : Int) = d.last 0 := free_read hf (by omega) (by omega)
  have CR := q_read H 0 (by omega) (by omega)
  rw [show (0 : Int) = ((0 : Nat) : Int) from rfl, hre, hrs] at CR
  have CR2 := Lib.hid CR
  have CW := Lib.hid (q_write H 1 ⟨#[]⟩ (by omega) (by omega) (by omega))
  have CL := Lib.hid (show Calls Try.prog 37 #[.pointer (some ⟨p, 0, none⟩)] w (fun e w' => e = .returned (.int .i64 d.n) ∧ w = w') from by
    obtain ⟨F, rfl, hdk, _⟩ := H
    exact len_any w F d hdk)
  have hwe : writeE d 1 ⟨#[]⟩ = 0 := free_writeE hf (by omega) (by omega) (by decide)
  have HWE := Lib.hid hwe
  have hwf : (firstHd d.n room).Wf := ⟨by show 2 ≤ _; omega, by show 0 ≤ _; omega, by show room ≤ _; omega, by show min _ _ ≤ _; omega⟩
  have hol := op_late d (.wr 1 ⟨#[]⟩)
  have hol2 : (d.write 1 ⟨#[]⟩).late.length ≤ d.late.length + 1 := hol
  have CP := Lib.hid (fun w1 (H1 : OwnL w0 p (d.write 1 ⟨#[]⟩) L w1) => put_any H1 (firstHd d.n room) hwf (by omega))
  have hf1 := free_write_free hf (k := 1) (s := ⟨#[]⟩) (by omega) (by omega) (by decide)
  have hn1 : (d.write 1 ⟨#[]⟩).n = d.n := op_n d (.wr 1 ⟨#[]⟩)
  have HPE := Lib.hid (free_put hf1 (x := firstHd d.n room) (by omega)).2
  have hmin : min ((d.n : Int) - 2 - room) 1024 = ((firstHd d.n room).pages : Int) := by show _ = ((min (d.n - 2 - room) 1024 : Nat) : Int); omega
  have hlt : decide ((d.n : Int) - 2 - room < 1) = false := by simp; omega
  have hv : Value.agg #[.int .u64 2, .int .i64 0, .int .i64 room, .int .i64 (firstHd d.n room).pages] = headV (firstHd d.n room) := rfl
  unfold headV at CP
  clear CR hre hrs hwe hol hol2 hf1 hn1 hwf H hf hv
  generalize hpg : (firstHd d.n room).pages = pg at *
  have HPG := Lib.hid hpg
  clear hpg
  go_enter Try.func25, Try.ntmps25
  go_wp2_with fail
  refine CR2.out.mono ?_
  rintro e _ ⟨rfl, rfl⟩
  go_wp2_with fail
  refine CL.out.mono ?_
  rintro e _ ⟨rfl, rfl⟩
  go_wp2_with fail
  refine CW.out.mono ?_
  rintro e w1 ⟨rfl, H1⟩
  rw [HWE.out]
  have HH1 := Lib.hid H1
  clear H1
  go_wp2_with fail
  refine (CP.out _ HH1.out).mono ?_
  rintro e w2 ⟨rfl, H2⟩
  rw [HPE.out]
  have HH2 := Lib.hid H2
  clear H2
  go_wp2
  go_returns
  exact ⟨rfl, HH2.out⟩
theorem format_no (w : World) (v : Value) (k : Int) (h : NoDisk w v) :
    Calls Try.prog 25 #[v, .int .i64 k] w fun e w' => e = .returned (.int .i64 3) ∧ w = w' := by
  go_enter Try.func25, Try.ntmps25
  go_wp2_with fail
  refine (read_no _ v 0 h).mono ?_
  rintro e _ ⟨rfl, rfl⟩
  go_wp2
  go_returns
  exact ⟨rfl, rfl⟩
end Go.Proofs.Ytfcicpcpdklceaa
namespace Go.Proofs.Ytfcicpcpdklceaa
set_option maxRecDepth 100000
open Go.ChangeShapes Go.WideShapes Go.ChangeAt Go.RowKit Go.PlainAid Go.ChangeMaps Go.MapKept
open Go.Sort (grow)

theorem redo_zero (w : World) (q p bm : Nat) (h : Hd) (dead : Bool) (hq : w.heap[q]? = some (storeO p bm h dead)) (hu : h.used = 0) :
    Calls Try.prog 32 #[.pointer (some ⟨q, 0, none⟩)] w fun e w' => e = .returned (.int .i64 0) ∧ w = w' := by
  obtain ⟨c0, c1, c2, c3, c4, c5, c6⟩ := store_cells hq
  rw [hu] at c2
  clear hq hu c1 c3 c4 c5 c6 c0
  go_enter Try.func32, Try.ntmps32
  go_wp2
  go_returns
  exact ⟨rfl, rfl⟩
/-- What Open answers: a store, or the error; Rel: what it does with the disk. -/
def OpenPost (w0 w : World) (p : Nat) (L : List (Nat × Obj)) (Rel : Int → D → Hd → Prop) (e : Ending) (w' : World) : Prop :=
  ∃ E d h, Rel E d h ∧ ((E = 0 ∧ ∃ q bm, e = .returned (.tuple #[.pointer (some ⟨q, 0, none⟩), .int .i64 0]) ∧ w.heap.size ≤ q ∧ w.heap.size ≤ bm ∧ StT w0 p q bm 0 d h noPages false L w') ∨ (E ≠ 0 ∧ e = .returned (.tuple #[.pointer none, .int .i64 E]) ∧ OwnL w0 p d L w'))
/-- A new store in memory. -/
theorem stT_new {w0 w : World} {p : Nat} {d : D} {L : List (Nat × Obj)} {h : Hd} (H : OwnL w0 p d L w) : StT w0 p (w.heap.size + 1) w.heap.size 0 d h noPages false L ((w.alloc (.map #[] 0)).alloc (storeO p w.heap.size h false)) := by
  have h0 := H.below.size
  have hL : ∀ x ∈ L, x.1 < w.heap.size := fun x hx => heap_lt (H.mem (q := x.1) (o := x.2) hx)
  have e1 : (w.alloc (.map #[] 0)).heap.size = w.heap.size + 1 := by simp
  have H1 := H.alloc (.map #[] 0)
  have H2 := H1.alloc (storeO p w.heap.size h false)
  rw [e1] at H2
  refine ⟨⟨#[], 0, tx_empty 0 0, ⟨H2, by omega, fun x hx => ?_⟩⟩, h0, fun x hx => ?_⟩
  · rcases List.mem_cons.1 hx with rfl | hx
    · show w.heap.size ≠ _; omega
    · have := hL x hx; omega
  · have := hL x hx; omega
set_option maxHeartbeats 1000000 in
theorem open_via {w0 w : World} {p : Nat} {d : D} {L : List (Nat × Obj)} (H : OwnL w0 p d L w) (hd : d.dark = false) (hn : 2 ≤ d.n) (o0 o1 : Option Hd) (h0 : ReadsAs (d.last 0) 0 d.n o0) (h1 : ReadsAs (d.last 1) 1 d.n o1) (h : Hd) (hp : picked o0 o1 2 = some h) (Rel : Int → D → Hd → Prop)
    (HR : ∀ w1 q bm, StT w0 p q bm 0 d h noPages false L w1 → Calls Try.prog 32 #[.pointer (some ⟨q, 0, none⟩)] w1 fun e w' => ∃ E d' h', Rel E d' h' ∧ e = .returned (.int .i64 E) ∧ StT w0 p q bm 0 d' h' noPages false L w') :
    Calls Try.prog 15 #[.pointer (some ⟨p, 0, none⟩)] w (OpenPost w0 w p L Rel) := by
  have CL := last_any H hd hn o0 o1 h0 h1
  rw [hp] at CL
  have HL := Lib.hid CL
  have HH := Lib.hid H
  have HRR := Lib.hid HR
  have hmm := @run_makeMap Try.prog
  clear CL H h0 h1 hp HR
  go_enter Try.func15, Try.ntmps15
  go_wp2_with fail
  refine HL.out.mono ?_
  rintro e w1 ⟨hb1, rfl⟩
  have HH1 := HH.out.on (hb1.on (show Below w1.heap.size w1 (w1.alloc (.cells (optCells (some h)) 55)) by go_grown))
  have hsz := hb1.size
  have hsz1 : (w1.alloc (.cells (optCells (some h)) 55)).heap.size = w1.heap.size + 1 := by simp
  have HS := stT_new (h := h) HH1
  rw [hsz1] at HS
  have HST := Lib.hid HS
  clear hb1 HL HH HH1 HS hsz1
  unfold storeO at HST
  unfold optCells at *
  go_wp2_with fail
  generalize ((w1.alloc (.cells #[.int .u64 h.seq, .int .i64 h.used, .int .i64 h.room, .int .i64 h.pages] 55)).alloc (.map #[] 0)).alloc (.cells #[.pointer (some ⟨p, 0, none⟩), .int .u64 h.seq, .int .i64 h.used, .int .i64 h.room, .int .i64 h.pages, .map (some (w1.heap.size + 1)), .bool false] 58) = W3 at *
  ((with_reducible refine (HRR.out _ _ _ HST.out).mono ?_); rintro e w4 ⟨E, d', h', hrel, rfl, HS4⟩)
  have HR4 := Lib.hid hrel
  have HST4 := Lib.hid HS4
  clear hrel HS4 HRR HST hmm
  by_cases z : E = 0
  · subst z
    go_wp2
    go_returns
    exact ⟨0, d', h', HR4.out, .inl ⟨rfl, _, _, rfl, by omega, by omega, HST4.out⟩⟩
  · have hz : (E == 0) = false := by simpa using z
    have HZ := Lib.hid z
    clear z
    go_wp2
    go_returns
    exact ⟨E, d', h', HR4.out, .inr ⟨HZ.out, rfl, HST4.out.own⟩⟩
/-- Nothing is under way. -/
theorem open_zero {w0 w : World} {p : Nat} {d : D} {L : List (Nat × Obj)} (H : OwnL w0 p d L w) (hd : d.dark = false) (hn : 2 ≤ d.n) (o0 o1 : Option Hd) (h0 : ReadsAs (d.last 0) 0 d.n o0) (h1 : ReadsAs (d.last 1) 1 d.n o1) (h : Hd) (hp : picked o0 o1 2 = some h) (hu : h.used = 0) :
    Calls Try.prog 15 #[.pointer (some ⟨p, 0, none⟩)] w fun e w' => ∃ q bm, e = .returned (.tuple #[.pointer (some ⟨q, 0, none⟩), .int .i64 0]) ∧ w.heap.size ≤ q ∧ w.heap.size ≤ bm ∧ StT w0 p q bm 0 d h noPages false L w' :=
  (open_via H hd hn o0 o1 h0 h1 h hp (fun E d' h' => E = 0 ∧ d' = d ∧ h' = h) (fun w1 q bm HS => (redo_zero w1 q p bm h false HS.at hu).mono fun e w' ⟨he, hw⟩ => ⟨0, d, h, ⟨rfl, rfl, rfl⟩, he, hw ▸ HS⟩)).mono (by
    rintro e w' ⟨E, d', h', ⟨rfl, rfl, rfl⟩, hc⟩
    rcases hc with ⟨_, hc⟩ | ⟨hc, _⟩
    · exact hc
    · exact absurd rfl hc)
set_option maxHeartbeats 1000000 in
/-- No head counts. -/
theorem open_bad {w0 w : World} {p : Nat} {d : D} {L : List (Nat × Obj)} (H : OwnL w0 p d L w) (hd : d.dark = false) (hn : 2 ≤ d.n) (o0 o1 : Option Hd) (h0 : ReadsAs (d.last 0) 0 d.n o0) (h1 : ReadsAs (d.last 1) 1 d.n o1) (hp : picked o0 o1 2 = none) :
    Calls Try.prog 15 #[.pointer (some ⟨p, 0, none⟩)] w fun e w' => e = .returned (.tuple #[.pointer none, .int .i64 14]) ∧ OwnL w0 p d L w' := by
  have CL := last_any H hd hn o0 o1 h0 h1
  rw [hp] at CL
  have HL := Lib.hid CL
  have HH := Lib.hid H
  clear CL H h0 h1 hp
  go_enter Try.func15, Try.ntmps15
  go_wp2_with fail
  refine HL.out.mono ?_
  rintro e w1 ⟨hb1, rfl⟩
  have HH1 := Lib.hid (HH.out.on (hb1.on (show Below w1.heap.size w1 (w1.alloc (.cells (optCells none) 55)) by go_grown)))
  clear hb1 HL HH
  unfold optCells at *
  go_wp2
  go_returns
  exact ⟨rfl, HH1.out⟩
end Go.Proofs.Ytfcicpcpdklceaa
