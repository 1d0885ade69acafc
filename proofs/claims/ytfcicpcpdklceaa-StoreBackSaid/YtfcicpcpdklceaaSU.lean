/- Writes and flushes of a disk that has power and no limit: plain. What a commit leaves there. -/
import Derived.Test.YtfcicpcpdklceaaST
namespace Go.Proofs.Ytfcicpcpdklceaa
set_option maxRecDepth 100000
open Go.ChangeShapes Go.WideShapes Go.ChangeAt Go.RowKit Go.PlainAid

/-- A write, or a flush, that can be. -/
def OkOp (n : Nat) : DOp → Prop
  | .wr k s => 0 ≤ k ∧ k < n ∧ s.size ≤ 256
  | .fl => True
/-- What is told of the blocks behind it. -/
def stepLast (f : Nat → ByteArray) : DOp → Nat → ByteArray
  | .wr k s => upd f k.toNat (filled s)
  | .fl => f
def lasts (f : Nat → ByteArray) (l : List DOp) : Nat → ByteArray := l.foldl stepLast f
theorem lasts_app (f : Nat → ByteArray) (a b : List DOp) : lasts f (a ++ b) = lasts (lasts f a) b := List.foldl_append
theorem lasts_cons (f : Nat → ByteArray) (o : DOp) (l : List DOp) : lasts f (o :: l) = lasts (stepLast f o) l := rfl
theorem free_op {d : D} (h : d.free) {o : DOp} (ok : OkOp d.n o) : opE d o = 0 ∧ (d.op o).free ∧ (d.op o).last = stepLast d.last o := by
  cases o with
  | wr k s =>
    obtain ⟨a, b, c⟩ := ok
    refine ⟨free_writeE h a b c, free_write_free h a b c, ?_⟩
    show (d.write k s).last = _
    rw [free_write h a b c, last_snoc]
    rfl
  | fl =>
    refine ⟨free_flushE h, ?_, ?_⟩
    · show d.flush.free
      rw [free_flush h]; exact h
    · show d.flush.last = d.last
      rw [free_flush h]; rfl
theorem free_ops : ∀ (l : List DOp) {d : D}, d.free → (∀ o ∈ l, OkOp d.n o) → opsE d l = 0 ∧ (d.ops l).free ∧ (d.ops l).last = lasts d.last l
  | [], _, h, _ => ⟨rfl, h, rfl⟩
  | o :: l, d, h, hok => by
    obtain ⟨a, b, c⟩ := free_op h (hok o List.mem_cons_self)
    obtain ⟨x, y, z⟩ := free_ops l b (fun o' ho' => by rw [op_n]; exact hok o' (List.mem_cons_of_mem _ ho'))
    rw [(ops_cons_ok l a).1, (ops_cons_ok l a).2]
    exact ⟨x, y, by rw [z, c]; rfl⟩
/-- Where nothing is written stays what was. -/
def Off (k : Nat) : DOp → Prop
  | .wr j _ => j.toNat ≠ k
  | .fl => True
theorem lasts_off (k : Nat) : ∀ (l : List DOp) (f : Nat → ByteArray), (∀ o ∈ l, Off k o) → lasts f l k = f k
  | [], _, _ => rfl
  | o :: l, f, h => by
    rw [lasts_cons, lasts_off k l _ (fun o' ho' => h o' (List.mem_cons_of_mem _ ho'))]
    have := h o List.mem_cons_self
    cases o with
    | wr j s => exact upd_other _ _ (Ne.symm this)
    | fl => rfl
theorem filled_full {s : ByteArray} (h : s.size = 256) : filled s = s := text_ext (by rw [filled_size, h]) fun k hk => by rw [filled_size] at hk; exact filled_bt s hk
theorem mem_blockOps : ∀ (bs : List ByteArray) (i : Nat) (o : DOp), o ∈ blockOps i bs → ∃ j s, o = .wr ((2 + j : Nat) : Int) s ∧ i ≤ j ∧ j < i + bs.length ∧ s ∈ bs
  | [], _, _, h => by cases h
  | s :: bs, i, o, h => by
    rcases List.mem_cons.1 h with rfl | h
    · exact ⟨i, s, rfl, Nat.le_refl _, by simp, List.mem_cons_self⟩
    · obtain ⟨j, t, rfl, a, b, c⟩ := mem_blockOps bs (i + 1) o h
      exact ⟨j, t, rfl, by omega, by simp; omega, List.mem_cons_of_mem _ c⟩
theorem blockOps_last : ∀ (bs : List ByteArray) (i : Nat) (f : Nat → ByteArray) (k : Nat) (s : ByteArray), bs[k]? = some s → lasts f (blockOps i bs) (2 + i + k) = filled s
  | [], _, _, _, _, h => by simp at h
  | t :: bs, i, f, 0, s, h => by
    obtain rfl : t = s := by simpa using h
    rw [blockOps, lasts_cons, lasts_off]
    · show upd f ((2 + i : Nat) : Int).toNat _ _ = _
      rw [Int.toNat_natCast, Nat.add_zero, upd_same]
    · intro o ho
      obtain ⟨j, u, rfl, a, b, c⟩ := mem_blockOps bs (i + 1) o ho
      show ((2 + j : Nat) : Int).toNat ≠ 2 + i + 0
      rw [Int.toNat_natCast]; omega
  | t :: bs, i, f, k + 1, s, h => by
    rw [blockOps, lasts_cons, show 2 + i + (k + 1) = 2 + (i + 1) + k by omega]
    exact blockOps_last bs (i + 1) _ k s (by simpa using h)
/-- What the writes of a transaction's pages leave. -/
theorem pageOps_last (room : Nat) (T : Int → Option ByteArray) (k : Nat) : ∀ (ks : List Int) (f : Nat → ByteArray), (∀ x ∈ ks, 0 ≤ x) → lasts f (pageOps room (txPages T ks)) (2 + room + k) = if (k : Int) ∈ ks then filled ((T k).getD ByteArray.empty) else f (2 + room + k)
  | [], _, _ => by simp [txPages, pageOps, lasts]
  | a :: ks, f, h => by
    have ih := pageOps_last room T k ks (stepLast f (.wr ((2 + room : Nat) + a) ((T a).getD ByteArray.empty))) (fun x hx => h x (List.mem_cons_of_mem _ hx))
    have ha := h a List.mem_cons_self
    show lasts f (.wr ((2 + room : Nat) + a) ((T a).getD ByteArray.empty) :: pageOps room (txPages T ks)) _ = _
    rw [lasts_cons, ih]
    by_cases hk : (k : Int) ∈ ks
    · rw [if_pos hk, if_pos (List.mem_cons_of_mem _ hk)]
    · rw [if_neg hk]
      by_cases e : (k : Int) = a
      · rw [if_pos (by rw [e]; exact List.mem_cons_self), ← e]
        show upd f _ _ _ = _
        rw [show (((2 + room : Nat) : Int) + (k : Int)).toNat = 2 + room + k by omega, upd_same]
      · rw [if_neg (by simp [e, hk])]
        exact upd_other _ _ (by show 2 + room + k ≠ (((2 + room : Nat) : Int) + a).toNat; omega)
theorem mem_pageOps {room : Nat} {l : List PageV} {o : DOp} (h : o ∈ pageOps room l) : ∃ x ∈ l, o = .wr ((2 + room : Nat) + x.at_) x.data := by
  obtain ⟨x, hx, rfl⟩ := List.mem_map.1 h
  exact ⟨x, hx, rfl⟩
end Go.Proofs.Ytfcicpcpdklceaa
