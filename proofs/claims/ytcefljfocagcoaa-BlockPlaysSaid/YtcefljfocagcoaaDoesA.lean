/- Both disks beside each other: any call of 'does'; both read beside each other. -/
import Derived.Test.YtcefljfocagcoaaDoesW
import Derived.Test.YtcefljfocagcoaaDoesC
import Derived.Test.YtcefljfocagcoaaDoesL
namespace Go.Proofs.Ytcefljfocagcoaa
open Go.ChangeShapes Go.WideShapes Go.ChangeAt Go.RowKit Go.PlainAid

theorem Both.wf {w0 w : World} {p q : Nat} {d : D} (h : Both w0 p q d w) : d.Wf := by
  obtain ⟨F, c0, c1, c2, c3, rfl, hd, _⟩ := h
  exact DiskAt.wf hd
theorem spent_late (d : D) : d.spent.late = d.late := by
  unfold D.spent
  split
  · rfl
  · split <;> rfl
theorem spent_n (d : D) : d.spent.n = d.n := by
  unfold D.spent
  split
  · rfl
  · split <;> rfl
theorem write_late (d : D) (k : Int) (s : ByteArray) : (d.write k s).late.length ≤ d.late.length + 1 := by
  unfold D.write
  split
  · split
    · omega
    · split
      · show (d.spent.late ++ [(k.toNat, filled s)]).length ≤ _
        rw [List.length_append, spent_late]
        exact Nat.le_refl _
      · rw [spent_late]; omega
  · omega
theorem write_n (d : D) (k : Int) (s : ByteArray) : (d.write k s).n = d.n := by
  unfold D.write
  split
  · split
    · rfl
    · split
      · exact spent_n d
      · exact spent_n d
  · rfl
theorem flush_late (d : D) : d.flush.late.length ≤ d.late.length + 1 := by
  unfold D.flush
  split
  · split
    · exact Nat.zero_le _
    · rw [spent_late]; omega
  · omega
theorem flush_n (d : D) : d.flush.n = d.n := by
  unfold D.flush
  split
  · split
    · exact spent_n d
    · exact spent_n d
  · rfl
theorem does_late (d : D) (a : ActV) : (d.does a).late.length ≤ d.late.length + 1 := by
  unfold D.does
  split
  · exact write_late _ _ _
  · split
    · exact flush_late _
    · split
      · omega
      · split
        · exact Nat.le_succ _
        · exact Nat.zero_le _
theorem does_n (d : D) (a : ActV) : (d.does a).n = d.n := by
  unfold D.does
  split
  · exact write_n _ _ _
  · split
    · exact flush_n _
    · split
      · rfl
      · split <;> rfl
theorem does_any (w0 w : World) (p q : Nat) (d : D) (a : ActV) (hB : Both w0 p q d w) (ha : a.Wf) (hlen : d.late.length < 4294967296) :
    Calls Try.prog 8 #[.pointer (some ⟨p, 0, none⟩), .pointer (some ⟨q, 0, none⟩), .agg #[.int .i64 a.kind, .int .i64 a.at_, .string a.data, .int .u64 a.mask, .int .i64 a.torn, .int .i64 a.cut]] w fun e w' => e = .returned (.bool true) ∧ Both w0 p q (d.does a) w' := by
  by_cases k0 : a.kind = 0
  · exact does_write w0 w p q d a hB ha hB.wf k0 hlen
  · by_cases k1 : a.kind = 1
    · exact does_flush w0 w p q d a hB ha hB.wf k1 hlen
    · by_cases k2 : a.kind = 2
      · exact does_read w0 w p q d a hB ha k2 hlen
      · by_cases k3 : a.kind = 3
        · exact does_limit w0 w p q d a hB ha k3
        · exact does_crash w0 w p q d a hB ha hB.wf k0 k1 k2 k3 hlen
theorem Both.on {w0 w w' : World} {p q : Nat} {d : D} (h : Both w0 p q d w) (b : Below w.heap.size w w') : Both w0 p q d w' := by
  obtain ⟨F, c0, c1, c2, c3, rfl, hd, hb, ho, hq, hq0, hx, hv⟩ := h
  exact ⟨F, c0, c1, c2, c3, rfl, DiskAt.below hd b, hb.on b, ho, hq, hq0, (b.block q (heap_lt hx)).trans hx, (hv.on b).mono fun _ h => ⟨h.1, h.2.1, Nat.lt_of_lt_of_le h.2.2 b.size⟩⟩
theorem Both.open {w0 w : World} {p q : Nat} {d : D} (h : Both w0 p q d w) : ∃ (sa la : Option Addr) (sn sc ln lc : Nat) (lim : Int), w.heap[q]? = some (.cells #[.slice sa sn sc, .slice la ln lc, .int .i64 lim, .bool d.dark] 31 (0, 0)) ∧
    SafeIn w (.slice sa sn sc) d.n d.safe ∧ LateIn w (.slice la ln lc) d.late ∧ sn = d.n := by
  obtain ⟨F, c0, c1, c2, c3, rfl, hd, hb, ho, hq, hq0, hx, hv⟩ := h
  obtain ⟨sa, la, sn, sc, ln, lc, lim, hv, h1, h2, _⟩ := hv
  cases hv
  obtain ⟨b, cap, e, h3⟩ := id h1
  cases e
  exact ⟨_, la, _, _, ln, lc, lim, hx, h1, h2, rfl⟩
/-- The code's disk is read. -/
theorem both_read {w0 w : World} {p q : Nat} {d : D} (h : Both w0 p q d w) (k : Int) (h0 : -9223372036854775808 ≤ k) (h1 : k ≤ 9223372036854775807) :
    Calls Try.prog 9 #[.pointer (some ⟨p, 0, none⟩), .int .i64 k] w fun e w' => e = .returned (.tuple #[.string (readS d k), .int .i64 (reachE d k)]) ∧ w = w' := by
  obtain ⟨F, c0, c1, c2, c3, rfl, hd, _⟩ := h
  exact read_any w F d k hd h0 h1
theorem both_len {w0 w : World} {p q : Nat} {d : D} (h : Both w0 p q d w) :
    Calls Try.prog 7 #[.pointer (some ⟨p, 0, none⟩)] w fun e w' => e = .returned (.int .i64 d.n) ∧ w = w' := by
  obtain ⟨F, c0, c1, c2, c3, rfl, hd, _⟩ := h
  exact len_any w F d hd
/-- Behind both calls of New, and the reference's disk stored. -/
theorem both_new {w w1 w2 : World} {F : Foot} {d : D} {c0 c1 c2 c3 : Value} (hd : Dk w1 F d) (hb1 : Below w.heap.size w w1) (ho : ∀ k, F.own k → w.heap.size ≤ k) (hv : RefV (fun b => w1.heap.size ≤ b) w2 (.agg #[c0, c1, c2, c3]) d) (hb2 : Below w1.heap.size w1 w2) :
    Both w F.p w2.heap.size d (w2.alloc (.cells #[c0, c1, c2, c3] 31)) := by
  have b : Below w2.heap.size w2 (w2.alloc (.cells #[c0, c1, c2, c3] 31)) := (Below.refl _ _).alloc (Nat.le_refl _) _
  have hd2 : Dk w2 F d := DiskAt.below hd hb2
  refine ⟨F, c0, c1, c2, c3, rfl, DiskAt.below hd2 b, (hb1.on hb2).on b, ho, fun c => ?_, Nat.le_trans hb1.size hb2.size, heap_alloc_new w2 _, (hv.lt.on b).mono fun k h => ⟨fun c => ?_, Nat.ne_of_lt h.2, Nat.lt_of_lt_of_le h.2 b.size⟩⟩
  · have := DiskAt.own_lt hd2 c
    omega
  · have := DiskAt.own_lt hd c
    have := h.1
    omega
end Go.Proofs.Ytcefljfocagcoaa
