/- Disks without a limit that have power; the law's helpers: some, awake. -/
import Derived.Test.YtfcicpcpdklceaaBlkE
namespace Go.Proofs.Ytfcicpcpdklceaa
set_option maxRecDepth 100000
open Go.ChangeShapes Go.WideShapes Go.ChangeAt Go.RowKit Go.PlainAid

/-- There is power, and no limit. -/
def D.free (d : D) : Prop := d.limit = -1 ∧ d.dark = false
theorem newD_free (n : Nat) : (newD n).free := ⟨rfl, rfl⟩
theorem free_ready {d : D} (h : d.free) : readyE d = 0 := by unfold readyE; rw [h.2]; rfl
theorem free_spend {d : D} (h : d.free) : spendE d = 0 := by unfold spendE; rw [h.1]; rfl
theorem free_spent {d : D} (h : d.free) : d.spent = d := by unfold D.spent; rw [h.1]; rfl
theorem free_reach {d : D} (h : d.free) {k : Int} (h0 : 0 ≤ k) (h1 : k < d.n) : reachE d k = 0 := by
  unfold reachE
  rw [h.2, if_neg (by decide), if_neg (by omega)]
theorem free_noblock {d : D} (h : d.free) {k : Int} (h1 : k < 0 ∨ d.n ≤ k) : reachE d k = 10 := by
  unfold reachE
  rw [h.2, if_neg (by decide), if_pos h1]
theorem free_read {d : D} (h : d.free) {k : Int} (h0 : 0 ≤ k) (h1 : k < d.n) : readS d k = d.last k.toNat := by
  unfold readS
  rw [free_reach h h0 h1, if_pos rfl]
theorem free_writeE {d : D} (h : d.free) {k : Int} {s : ByteArray} (h0 : 0 ≤ k) (h1 : k < d.n) (hs : s.size ≤ 256) : writeE d k s = 0 := by
  unfold writeE
  rw [free_reach h h0 h1, if_pos rfl, if_neg (by omega), free_spend h]
theorem free_write {d : D} (h : d.free) {k : Int} {s : ByteArray} (h0 : 0 ≤ k) (h1 : k < d.n) (hs : s.size ≤ 256) : d.write k s = { d with late := d.late ++ [(k.toNat, filled s)] } := by
  unfold D.write
  rw [free_reach h h0 h1, if_pos rfl, if_neg (by omega), free_spend h, if_pos rfl, free_spent h]
theorem free_write_no {d : D} (h : d.free) {k : Int} {s : ByteArray} (hb : k < 0 ∨ d.n ≤ k ∨ 256 < s.size) : d.write k s = d ∧ (writeE d k s = 10 ∨ writeE d k s = 21) := by
  unfold D.write writeE
  by_cases c : k < 0 ∨ d.n ≤ k
  · rw [free_noblock h c]; simp
  · rw [free_reach h (by omega) (by omega), if_pos rfl, if_pos rfl, if_pos (by omega), if_pos (by omega)]
    simp
theorem free_flushE {d : D} (h : d.free) : flushE d = 0 := by unfold flushE; rw [free_ready h, if_pos rfl, free_spend h]
theorem free_flush {d : D} (h : d.free) : d.flush = d.flushed := by unfold D.flush; rw [free_ready h, if_pos rfl, free_spend h, if_pos rfl, free_spent h]
theorem last_snoc (d : D) (k : Nat) (s : ByteArray) : D.last { d with late := d.late ++ [(k, s)] } = upd d.last k s := done_snoc _ _ _

/-- A disk of the call's own at block p: nothing that was there at w is touched. -/
def OwnAt (w : World) (p : Nat) (d : D) (w' : World) : Prop := ∃ F : Foot, F.p = p ∧ Dk w' F d ∧ Below w.heap.size w w' ∧ ∀ k, F.own k → w.heap.size ≤ k
theorem OwnAt.moves {w w1 w2 : World} {F : Foot} {d' : D} (hb : Below w.heap.size w w1) (ho : ∀ k, F.own k → w.heap.size ≤ k) (m : Moves F d' w1 w2) : OwnAt w F.p d' w2 := by
  obtain ⟨F', hd, hp, hn, hk⟩ := m
  refine ⟨F', hp, hd, hb.trans (hk.below ho hb.size), fun k hk' => ?_⟩
  rcases hn k hk' with c | c
  · exact ho k c
  · exact Nat.le_trans hb.size c
theorem OwnAt.on {w w1 w2 : World} {p : Nat} {d : D} (h : OwnAt w p d w1) (b : Below w1.heap.size w1 w2) : OwnAt w p d w2 := by
  obtain ⟨F, hp, hd, hb, ho⟩ := h
  exact ⟨F, hp, DiskAt.below hd b, hb.on b, ho⟩
theorem OwnAt.below {w w1 : World} {p : Nat} {d : D} (h : OwnAt w p d w1) : Below w.heap.size w w1 := by
  obtain ⟨F, hp, hd, hb, ho⟩ := h
  exact hb
theorem OwnAt.wf {w w1 : World} {p : Nat} {d : D} (h : OwnAt w p d w1) : d.Wf := by
  obtain ⟨F, hp, hd, hb, ho⟩ := h
  exact hd.wf
/-- A fresh disk of six blocks. -/
def SomePost (w : World) (e : Ending) (w' : World) : Prop := ∃ p, e = .returned (.pointer (some ⟨p, 0, none⟩)) ∧ OwnAt w p (newD 6) w'
section
variable {w0 w : World} {p : Nat} {d : D}
theorem o_write (h : OwnAt w0 p d w) (k : Int) (s : ByteArray) (h0 : -9223372036854775808 ≤ k) (h1 : k ≤ 9223372036854775807) (hl : d.late.length < 4294967296) :
    Calls Try.prog 38 #[.pointer (some ⟨p, 0, none⟩), .int .i64 k, .string s] w fun e w' => e = .returned (.int .i64 (writeE d k s)) ∧ OwnAt w0 p (d.write k s) w' := by
  obtain ⟨F, rfl, hd, hb, ho⟩ := h
  exact (write_any w F d k s hd h0 h1 hl).mono fun e w' ⟨he, m⟩ => ⟨he, OwnAt.moves hb ho m⟩
theorem o_flush (h : OwnAt w0 p d w) (hl : d.late.length < 4294967296) :
    Calls Try.prog 41 #[.pointer (some ⟨p, 0, none⟩)] w fun e w' => e = .returned (.int .i64 (flushE d)) ∧ OwnAt w0 p d.flush w' := by
  obtain ⟨F, rfl, hd, hb, ho⟩ := h
  exact (flush_any w F d hd hl).mono fun e w' ⟨he, m⟩ => ⟨he, OwnAt.moves hb ho m⟩
theorem o_limit (h : OwnAt w0 p d w) (n : Int) (h0 : -9223372036854775808 ≤ n) (h1 : n ≤ 9223372036854775807) :
    Calls Try.prog 13 #[.pointer (some ⟨p, 0, none⟩), .int .i64 n] w fun e w' => e = .returned (.tuple #[]) ∧ OwnAt w0 p (d.limited n) w' := by
  obtain ⟨F, rfl, hd, hb, ho⟩ := h
  exact (limit_any w F d n hd h0 h1).mono fun e w' ⟨he, m⟩ => ⟨he, OwnAt.moves hb ho m⟩
theorem o_crash (h : OwnAt w0 p d w) (m t c : Int) (hl : d.late.length < 4294967296) (m0 : 0 ≤ m) (m1 : m ≤ 18446744073709551615) (t0 : -9223372036854775808 ≤ t) (t1 : t ≤ 9223372036854775807) (k0 : -9223372036854775808 ≤ c) (k1 : c ≤ 9223372036854775807) :
    Calls Try.prog 14 #[.pointer (some ⟨p, 0, none⟩), .int .u64 m, .int .i64 t, .int .i64 c] w fun e w' => e = .returned (.tuple #[]) ∧ OwnAt w0 p (d.crash m t c) w' := by
  obtain ⟨F, rfl, hd, hb, ho⟩ := h
  exact (crash_any w F d m t c hd hl m0 m1 t0 t1 k0 k1).mono fun e w' ⟨he, m⟩ => ⟨he, OwnAt.moves hb ho m⟩
theorem o_read (h : OwnAt w0 p d w) (k : Int) (h0 : -9223372036854775808 ≤ k) (h1 : k ≤ 9223372036854775807) :
    Calls Try.prog 35 #[.pointer (some ⟨p, 0, none⟩), .int .i64 k] w fun e w' => e = .returned (.tuple #[.string (readS d k), .int .i64 (reachE d k)]) ∧ w = w' := by
  obtain ⟨F, rfl, hd, hb, ho⟩ := h
  exact read_any w F d k hd h0 h1
/-- Of a disk that has power, and no limit. -/
theorem f_write (h : OwnAt w0 p d w) (hf : d.free) (k : Int) (s : ByteArray) (h0 : 0 ≤ k) (h1 : k < d.n) (hs : s.size ≤ 256) (hl : d.late.length < 4294967296) :
    Calls Try.prog 38 #[.pointer (some ⟨p, 0, none⟩), .int .i64 k, .string s] w fun e w' => e = .returned (.int .i64 0) ∧ OwnAt w0 p { d with late := d.late ++ [(k.toNat, filled s)] } w' := by
  have hn := h.wf.hi
  have := o_write h k s (by omega) (by omega) hl
  rwa [free_writeE hf h0 h1 hs, free_write hf h0 h1 hs] at this
theorem f_flush (h : OwnAt w0 p d w) (hf : d.free) (hl : d.late.length < 4294967296) :
    Calls Try.prog 41 #[.pointer (some ⟨p, 0, none⟩)] w fun e w' => e = .returned (.int .i64 0) ∧ OwnAt w0 p d.flushed w' := by
  have := o_flush h hl
  rwa [free_flushE hf, free_flush hf] at this
theorem f_read (h : OwnAt w0 p d w) (hf : d.free) (k : Int) (h0 : 0 ≤ k) (h1 : k < d.n) :
    Calls Try.prog 35 #[.pointer (some ⟨p, 0, none⟩), .int .i64 k] w fun e w' => e = .returned (.tuple #[.string (d.last k.toNat), .int .i64 0]) ∧ w = w' := by
  have hn := h.wf.hi
  have := o_read h k (by omega) (by omega)
  rwa [free_read hf h0 h1, free_reach hf h0 h1] at this
end

def ab : ByteArray := ⟨#[97, 98]⟩
def cd : ByteArray := ⟨#[99, 100]⟩
def cb : ByteArray := ⟨#[99, 98]⟩
theorem ab_size : ab.size = 2 := rfl
theorem cd_size : cd.size = 2 := rfl
/-- The chapter's example. -/
def exD : D := (({ (D.flushed { newD 6 with late := [(0, filled ab)] }) with late := [(0, filled cd)] } : D)).crash 1 0 1
theorem exD_free : exD.free := ⟨rfl, rfl⟩
theorem exD_last : exD.last 0 = mixed (filled cd) (filled ab) 1 := by
  show exD.safe 0 = _
  have h : exD.safe = D.crashTo { (D.flushed { newD 6 with late := [(0, filled ab)] }) with late := [(0, filled cd)] } 1 0 1 1 := rfl
  rw [h, D.crashTo_kept (x := (0, filled cd)) rfl (by decide), upd_same]
  rfl
theorem ex_front : (mixed (filled cd) (filled ab) 1).extract 0 2 = cb := by
  have hs : (mixed (filled cd) (filled ab) 1).size = 256 := mixed_size _ _ _
  refine text_ext ?_ fun k hk => ?_
  · rw [ByteArray.size_extract, hs]; rfl
  · have hk2 : k < 2 := by rw [ByteArray.size_extract, hs] at hk; omega
    have e : bt ((mixed (filled cd) (filled ab) 1).extract 0 2) k = bt (mixed (filled cd) (filled ab) 1) k := by
      rw [bt_list, bt_list]
      simp only [ByteArray.data_extract, Array.toList_extract, List.extract_eq_take_drop, List.drop_zero, List.getD_eq_getElem?_getD]
      rw [List.getElem?_take_of_lt (by omega)]
    rw [e, mixed_bt _ _ _ (by omega), filled_bt _ (by omega), filled_bt _ (by omega)]
    rcases k with _ | _ | k
    · rfl
    · rfl
    · omega
end Go.Proofs.Ytfcicpcpdklceaa
