/- A disk of the call's own beside other blocks of its own, whose contents are known: what each call leaves of all. -/
import Derived.Test.YtfcicpcpdklceaaSBlkF
namespace Go.Proofs.Ytfcicpcpdklceaa
open Go.ChangeShapes Go.WideShapes Go.ChangeAt Go.RowKit Go.PlainAid

/-- A disk of the call's own at block p, and blocks beside it with what they hold: nothing that was there at w is touched. -/
def OwnL (w : World) (p : Nat) (d : D) (L : List (Nat × Obj)) (w' : World) : Prop :=
  ∃ F : Foot, F.p = p ∧ Dk w' F d ∧ Below w.heap.size w w' ∧ (∀ k, F.own k → w.heap.size ≤ k) ∧ ∀ x ∈ L, ¬ F.own x.1 ∧ w'.heap[x.1]? = some x.2
section
variable {w0 w w' : World} {p : Nat} {d d' : D} {L : List (Nat × Obj)}
theorem OwnAt.owns (h : OwnAt w0 p d w) : OwnL w0 p d [] w := by
  obtain ⟨F, h1, h2, h3, h4⟩ := h
  exact ⟨F, h1, h2, h3, h4, fun x hx => (by cases hx)⟩
theorem OwnL.at (h : OwnL w0 p d L w) : OwnAt w0 p d w := by
  obtain ⟨F, h1, h2, h3, h4, _⟩ := h
  exact ⟨F, h1, h2, h3, h4⟩
theorem OwnL.below (h : OwnL w0 p d L w) : Below w0.heap.size w0 w := h.at.below
theorem OwnL.wf (h : OwnL w0 p d L w) : d.Wf := h.at.wf
theorem OwnL.mem (h : OwnL w0 p d L w) {q : Nat} {o : Obj} (hq : (q, o) ∈ L) : w.heap[q]? = some o := by
  obtain ⟨F, _, _, _, _, h5⟩ := h
  exact (h5 _ hq).2
theorem heap_lt {w : World} {q : Nat} {o : Obj} (h : w.heap[q]? = some o) : q < w.heap.size := by
  rcases Nat.lt_or_ge q w.heap.size with c | c
  · exact c
  · rw [Array.getElem?_eq_none c] at h; cases h
theorem OwnL.moves {F : Foot} (hb : Below w0.heap.size w0 w) (ho : ∀ k, F.own k → w0.heap.size ≤ k) (hL : ∀ x ∈ L, ¬ F.own x.1 ∧ w.heap[x.1]? = some x.2) (m : Moves F d' w w') : OwnL w0 F.p d' L w' := by
  obtain ⟨F', hd, hp, hn, hk⟩ := m
  refine ⟨F', hp, hd, hb.trans (hk.below ho hb.size), fun k hk' => ?_, fun x hx => ?_⟩
  · rcases hn k hk' with c | c
    · exact ho k c
    · exact Nat.le_trans hb.size c
  · obtain ⟨h1, h2⟩ := hL x hx
    have hlt := heap_lt h2
    refine ⟨fun c => ?_, (hk.block x.1 hlt h1).trans h2⟩
    rcases hn x.1 c with c | c
    · exact h1 c
    · omega
theorem OwnL.on (h : OwnL w0 p d L w) (b : Below w.heap.size w w') : OwnL w0 p d L w' := by
  obtain ⟨F, hp, hd, hb, ho, hL⟩ := h
  exact ⟨F, hp, DiskAt.below hd b, hb.on b, ho, fun x hx => ⟨(hL x hx).1, (b.block x.1 (heap_lt (hL x hx).2)).trans (hL x hx).2⟩⟩
/-- A new block beside it. -/
theorem OwnL.alloc (h : OwnL w0 p d L w) (o : Obj) : OwnL w0 p d ((w.heap.size, o) :: L) (w.alloc o) := by
  obtain ⟨F, hp, hd, hb, ho, hL⟩ := h
  have b : Below w.heap.size w (w.alloc o) := (Below.refl _ _).alloc (Nat.le_refl _) _
  refine ⟨F, hp, DiskAt.below hd b, hb.on b, ho, fun x hx => ?_⟩
  rcases List.mem_cons.1 hx with rfl | hx
  · exact ⟨fun c => Nat.lt_irrefl _ (DiskAt.own_lt hd c), heap_alloc_new w o⟩
  · exact ⟨(hL x hx).1, (b.block x.1 (heap_lt (hL x hx).2)).trans (hL x hx).2⟩
/-- A cell of a block beside it is written. -/
theorem OwnL.set (h : OwnL w0 p d L w) {q i : Nat} {v : Value} {cs : Array Value} {t : TypeId} (hq : (q, Obj.cells cs t (0, 0)) ∈ L) (h0 : w0.heap.size ≤ q) (L' : List (Nat × Obj))
    (hL' : ∀ x ∈ L', x = (q, Obj.cells (cs.setIfInBounds i v) t (0, 0)) ∨ (x ∈ L ∧ x.1 ≠ q)) : OwnL w0 p d L' (w.setCell ⟨q, i, none⟩ v) := by
  obtain ⟨F, hp, hd, hb, ho, hL⟩ := h
  have hn := (hL _ hq).1
  refine ⟨F, hp, DiskAt.keep hd (by rw [World.size_setCell]; exact Nat.le_refl _) (fun k hk => heap_setCell_other _ _ _ _ (fun e => ?_)), hb.setCell h0 v, ho, fun x hx => ?_⟩
  · subst e
    exact hn hk
  · rcases hL' x hx with rfl | ⟨hx1, hx2⟩
    · exact ⟨hn, heap_setCell_same _ _ _ _ _ _ (hL _ hq).2⟩
    · exact ⟨(hL x hx1).1, (heap_setCell_other _ _ _ _ hx2).trans (hL x hx1).2⟩
theorem OwnL.sub (h : OwnL w0 p d L w) (L' : List (Nat × Obj)) (hs : ∀ x ∈ L', x ∈ L) : OwnL w0 p d L' w := by
  obtain ⟨F, hp, hd, hb, ho, hL⟩ := h
  exact ⟨F, hp, hd, hb, ho, fun x hx => hL x (hs x hx)⟩

theorem q_write (h : OwnL w0 p d L w) (k : Int) (s : ByteArray) (h0 : -9223372036854775808 ≤ k) (h1 : k ≤ 9223372036854775807) (hl : d.late.length < 4294967296) :
    Calls Try.prog 38 #[.pointer (some ⟨p, 0, none⟩), .int .i64 k, .string s] w fun e w' => e = .returned (.int .i64 (writeE d k s)) ∧ OwnL w0 p (d.write k s) L w' := by
  obtain ⟨F, rfl, hd, hb, ho, hL⟩ := h
  exact (write_any w F d k s hd h0 h1 hl).mono fun e w' ⟨he, m⟩ => ⟨he, OwnL.moves hb ho hL m⟩
theorem q_flush (h : OwnL w0 p d L w) (hl : d.late.length < 4294967296) :
    Calls Try.prog 41 #[.pointer (some ⟨p, 0, none⟩)] w fun e w' => e = .returned (.int .i64 (flushE d)) ∧ OwnL w0 p d.flush L w' := by
  obtain ⟨F, rfl, hd, hb, ho, hL⟩ := h
  exact (flush_any w F d hd hl).mono fun e w' ⟨he, m⟩ => ⟨he, OwnL.moves hb ho hL m⟩
theorem q_limit (h : OwnL w0 p d L w) (n : Int) (h0 : -9223372036854775808 ≤ n) (h1 : n ≤ 9223372036854775807) :
    Calls Try.prog 13 #[.pointer (some ⟨p, 0, none⟩), .int .i64 n] w fun e w' => e = .returned (.tuple #[]) ∧ OwnL w0 p (d.limited n) L w' := by
  obtain ⟨F, rfl, hd, hb, ho, hL⟩ := h
  exact (limit_any w F d n hd h0 h1).mono fun e w' ⟨he, m⟩ => ⟨he, OwnL.moves hb ho hL m⟩
theorem q_crash (h : OwnL w0 p d L w) (m t c : Int) (hl : d.late.length < 4294967296) (m0 : 0 ≤ m) (m1 : m ≤ 18446744073709551615) (t0 : -9223372036854775808 ≤ t) (t1 : t ≤ 9223372036854775807) (k0 : -9223372036854775808 ≤ c) (k1 : c ≤ 9223372036854775807) :
    Calls Try.prog 14 #[.pointer (some ⟨p, 0, none⟩), .int .u64 m, .int .i64 t, .int .i64 c] w fun e w' => e = .returned (.tuple #[]) ∧ OwnL w0 p (d.crash m t c) L w' := by
  obtain ⟨F, rfl, hd, hb, ho, hL⟩ := h
  exact (crash_any w F d m t c hd hl m0 m1 t0 t1 k0 k1).mono fun e w' ⟨he, mm⟩ => ⟨he, OwnL.moves hb ho hL mm⟩
theorem q_read (h : OwnL w0 p d L w) (k : Int) (h0 : -9223372036854775808 ≤ k) (h1 : k ≤ 9223372036854775807) :
    Calls Try.prog 35 #[.pointer (some ⟨p, 0, none⟩), .int .i64 k] w fun e w' => e = .returned (.tuple #[.string (readS d k), .int .i64 (reachE d k)]) ∧ w = w' := o_read h.at k h0 h1
theorem qf_read (h : OwnL w0 p d L w) (hf : d.free) (k : Int) (h0 : 0 ≤ k) (h1 : k < d.n) :
    Calls Try.prog 35 #[.pointer (some ⟨p, 0, none⟩), .int .i64 k] w fun e w' => e = .returned (.tuple #[.string (d.last k.toNat), .int .i64 0]) ∧ w = w' := f_read h.at hf k h0 h1
theorem qf_write (h : OwnL w0 p d L w) (hf : d.free) (k : Int) (s : ByteArray) (h0 : 0 ≤ k) (h1 : k < d.n) (hs : s.size ≤ 256) (hl : d.late.length < 4294967296) :
    Calls Try.prog 38 #[.pointer (some ⟨p, 0, none⟩), .int .i64 k, .string s] w fun e w' => e = .returned (.int .i64 0) ∧ OwnL w0 p { d with late := d.late ++ [(k.toNat, filled s)] } L w' := by
  have hn := h.wf.hi
  have := q_write h k s (by omega) (by omega) hl
  rwa [free_writeE hf h0 h1 hs, free_write hf h0 h1 hs] at this
theorem qf_flush (h : OwnL w0 p d L w) (hf : d.free) (hl : d.late.length < 4294967296) :
    Calls Try.prog 41 #[.pointer (some ⟨p, 0, none⟩)] w fun e w' => e = .returned (.int .i64 0) ∧ OwnL w0 p d.flushed L w' := by
  have := q_flush h hl
  rwa [free_flushE hf, free_flush hf] at this
end
/-- Six texts, as cells. -/
def six (f : Nat → ByteArray) : Array Value := #[.string (f 0), .string (f 1), .string (f 2), .string (f 3), .string (f 4), .string (f 5)]
theorem six_get (f : Nat → ByteArray) {j : Nat} (h : j < 6) : (six f)[j]? = some (.string (f j)) := by
  match j, h with
  | 0, _ => rfl | 1, _ => rfl | 2, _ => rfl | 3, _ => rfl | 4, _ => rfl | 5, _ => rfl
theorem six_set (f : Nat → ByteArray) (s : ByteArray) {j : Nat} (h : j < 6) : (six f).setIfInBounds j (.string s) = six (upd f j s) := by
  match j, h with
  | 0, _ => rfl | 1, _ => rfl | 2, _ => rfl | 3, _ => rfl | 4, _ => rfl | 5, _ => rfl
theorem flushed_last (d : D) : d.flushed.last = d.last := rfl
theorem flushed_free {d : D} (h : d.free) : d.flushed.free := h
end Go.Proofs.Ytfcicpcpdklceaa
