/- Writes and flushes of a disk that has power and no limit: plain. What a commit leaves there. What a commit leaves on a disk that has power and no limit: plain. -/
import Derived.Test.YtfcicpcpdklceaaST
namespace Go.Proofs.Ytfcicpcpdklceaa
set_option maxRecDepth 100000
open Go.ChangeShapes Go.WideShapes Go.ChangeAt Go.RowKit Go.PlainAid

/-- A write, or a flush, that can be. -/
def OkOp (n : Nat) : DOp → Prop
  | .wr k s => 0 ≤ k ∧ k < n ∧ s.size ≤ 256
  | .fl => True
/-- What is told of the blocks behind it. -/
def stepLast (f : Nat → ByteArray) : DOp → Nat → ByteArray
  | .wr k s => upd f k.toNat (filled s)
  | .fl => f
def lasts (f : Nat → ByteArray) (l : List DOp) : Nat → ByteArray := l.foldl stepLast f
theorem lasts_app (f : Nat → ByteArray) (a b : List DOp) : lasts f (a ++ b) = lasts (lasts f a) b := List.foldl_append
theorem lasts_cons (f : Nat → ByteArray) (o : DOp) (l : List DOp) : lasts f (o :: l) = lasts (stepLast f o) l := rfl
theorem free_op {d : D} (h : d.free) {o : DOp} (ok : OkOp d.n o) : opE d o = 0 ∧ (d.op o).free ∧ (d.op o).last = stepLast d.last o := by
  cases o with
  | wr k s =>
    obtain ⟨a, b, c⟩ := ok
    refine ⟨free_writeE h a b c, free_write_free h a b c, ?_⟩
    show (d.write k s).last = _
    rw [free_write h a b c, last_snoc]
    rfl
  | fl =>
    refine ⟨free_flushE h, ?_, ?_⟩
    · show d.flush.free
      rw [free_flush h]; exact h
    · show d.flush.last = d.last
      rw [free_flush h]; rfl
theorem free_ops : ∀ (l : List DOp) {d : D}, d.free → (∀ o ∈ l, OkOp d.n o) → opsE d l = 0 ∧ (d.ops l).free ∧ (d.ops l).last = lasts d.last l
  | [], _, h, _ => ⟨rfl, h, rfl⟩
  | o :: l, d, h, hok => by
    obtain ⟨a, b, c⟩ := free_op h (hok o List.mem_cons_self)
    obtain ⟨x, y, z⟩ := free_ops l b (fun o' ho' => by rw [op_n]; exact hok o' (List.mem_cons_of_mem _ ho'))
    rw [(ops_cons_ok l a).1, (ops_cons_ok l a).2]
    exact ⟨x, y, by rw [z, c]; rfl⟩
/-- Where nothing is written stays what was. -/
def Off (k : Nat) : DOp → Prop
  | .wr j _ => j.toNat ≠ k
  | .fl => True
theorem lasts_off (k : Nat) : ∀ (l : List DOp) (f : Nat → ByteArray), (∀ o ∈ l, Off k o) → lasts f l k = f k
  | [], _, _ => rfl
  | o :: l, f, h => by
    rw [lasts_cons, lasts_off k l _ (fun o' ho' => h o' (List.mem_cons_of_mem _ ho'))]
    have := h o List.mem_cons_self
    cases o with
    | wr j s => exact upd_other _ _ (Ne.symm this)
    | fl => rfl
theorem filled_full {s : ByteArray} (h : s.size = 256) : filled s = s := text_ext (by rw [filled_size, h]) fun k hk => by rw [filled_size] at hk; exact filled_bt s hk
theorem mem_blockOps : ∀ (bs : List ByteArray) (i : Nat) (o : DOp), o ∈ blockOps i bs → ∃ j s, o = .wr ((2 + j : Nat) : Int) s ∧ i ≤ j ∧ j < i + bs.length ∧ s ∈ bs
  | [], _, _, h => by cases h
  | s :: bs, i, o, h => by
    rcases List.mem_cons.1 h with rfl | h
    · exact ⟨i, s, rfl, Nat.le_refl _, by simp, List.mem_cons_self⟩
    · obtain ⟨j, t, rfl, a, b, c⟩ := mem_blockOps bs (i + 1) o h
      exact ⟨j, t, rfl, by omega, by simp; omega, List.mem_cons_of_mem _ c⟩
theorem blockOps_last : ∀ (bs : List ByteArray) (i : Nat) (f : Nat → ByteArray) (k : Nat) (s : ByteArray), bs[k]? = some s → lasts f (blockOps i bs) (2 + i + k) = filled s
  | [], _, _, _, _, h => by simp at h
  | t :: bs, i, f, 0, s, h => by
    obtain rfl : t = s := by simpa using h
    rw [blockOps, lasts_cons, lasts_off]
    · show upd f ((2 + i : Nat) : Int).toNat _ _ = _
      rw [Int.toNat_natCast, Nat.add_zero, upd_same]
    · intro o ho
      obtain ⟨j, u, rfl, a, b, c⟩ := mem_blockOps bs (i + 1) o ho
      show ((2 + j : Nat) : Int).toNat ≠ 2 + i + 0
      rw [Int.toNat_natCast]; omega
  | t :: bs, i, f, k + 1, s, h => by
    rw [blockOps, lasts_cons, show 2 + i + (k + 1) = 2 + (i + 1) + k by omega]
    exact blockOps_last bs (i + 1) _ k s (by simpa using h)
/-- What the writes of a transaction's pages leave. -/
theorem pageOps_last (room : Nat) (T : Int → Option ByteArray) (k : Nat) : ∀ (ks : List Int) (f : Nat → ByteArray), (∀ x ∈ ks, 0 ≤ x) → lasts f (pageOps room (txPages T ks)) (2 + room + k) = if (k : Int) ∈ ks then filled ((T k).getD ByteArray.empty) else f (2 + room + k)
  | [], _, _ => by simp [txPages, pageOps, lasts]
  | a :: ks, f, h => by
    have ih := pageOps_last room T k ks (stepLast f (.wr ((2 + room : Nat) + a) ((T a).getD ByteArray.empty))) (fun x hx => h x (List.mem_cons_of_mem _ hx))
    have ha := h a List.mem_cons_self
    show lasts f (.wr ((2 + room : Nat) + a) ((T a).getD ByteArray.empty) :: pageOps room (txPages T ks)) _ = _
    rw [lasts_cons, ih]
    by_cases hk : (k : Int) ∈ ks
    · rw [if_pos hk, if_pos (List.mem_cons_of_mem _ hk)]
    · rw [if_neg hk]
      by_cases e : (k : Int) = a
      · rw [if_pos (by rw [e]; exact List.mem_cons_self), ← e]
        show upd f _ _ _ = _
        rw [show (((2 + room : Nat) : Int) + (k : Int)).toNat = 2 + room + k by omega, upd_same]
      · rw [if_neg (by simp [e, hk])]
        exact upd_other _ _ (by show 2 + room + k ≠ (((2 + room : Nat) : Int) + a).toNat; omega)
theorem mem_pageOps {room : Nat} {l : List PageV} {o : DOp} (h : o ∈ pageOps room l) : ∃ x ∈ l, o = .wr ((2 + room : Nat) + x.at_) x.data := by
  obtain ⟨x, hx, rfl⟩ := List.mem_map.1 h
  exact ⟨x, hx, rfl⟩
end Go.Proofs.Ytfcicpcpdklceaa
namespace Go.Proofs.Ytfcicpcpdklceaa
set_option maxRecDepth 100000
open Go.ChangeShapes Go.WideShapes Go.ChangeAt Go.RowKit Go.PlainAid

/-- The head of an empty transaction's end. -/
def Hd.behind (h : Hd) (n : Nat) : Hd := (h.next n).next 0
theorem put_ok {h : Hd} {n : Nat} (hn : 2 ≤ n) : ∀ o ∈ putOps h, OkOp n o := by
  intro o ho
  rcases List.mem_cons.1 ho with rfl | ho
  · exact ⟨by omega, by omega, by rw [h.text_size]; omega⟩
  · rw [List.mem_singleton] at ho; subst ho; exact trivial
theorem put_off {h : Hd} {k : Nat} (hk : k ≠ h.seq % 2) : ∀ o ∈ putOps h, Off k o := by
  intro o ho
  rcases List.mem_cons.1 ho with rfl | ho
  · show ((h.seq % 2 : Nat) : Int).toNat ≠ k
    rw [Int.toNat_natCast]; exact Ne.symm hk
  · rw [List.mem_singleton] at ho; subst ho; exact trivial
theorem put_last {h : Hd} (f : Nat → ByteArray) : lasts f (putOps h) (h.seq % 2) = filled h.text := by
  show upd f ((h.seq % 2 : Nat) : Int).toNat (filled h.text) (h.seq % 2) = _
  rw [Int.toNat_natCast, upd_same]
theorem page_ok {h : Hd} {l : List PageV} (hf : Fit h l) {n : Nat} (hn : 2 + h.room + h.pages ≤ n) : ∀ o ∈ pageOps h.room l, OkOp n o := by
  intro o ho
  obtain ⟨x, hx, rfl⟩ := mem_pageOps ho
  obtain ⟨a, b, c⟩ := hf x hx
  exact ⟨by omega, by omega, c⟩
theorem page_off {h : Hd} {l : List PageV} (hf : Fit h l) {k : Nat} (hk : k < 2 + h.room) : ∀ o ∈ pageOps h.room l, Off k o := by
  intro o ho
  obtain ⟨x, hx, rfl⟩ := mem_pageOps ho
  obtain ⟨a, b, c⟩ := hf x hx
  show (((2 + h.room : Nat) : Int) + x.at_).toNat ≠ k
  omega
theorem home_ok {h : Hd} {l : List PageV} (hf : Fit h l) {n : Nat} (hn : 2 + h.room + h.pages ≤ n) : ∀ o ∈ homeOps h l, OkOp n o := by
  intro o ho
  unfold homeOps at ho
  rcases List.mem_append.1 ho with ho | ho
  · exact page_ok hf hn o ho
  · rcases List.mem_append.1 ho with ho | ho
    · rw [List.mem_singleton] at ho; subst ho; exact trivial
    · exact put_ok (by omega) o ho
theorem block_ok (bs : List ByteArray) {room n : Nat} (hb : bs.length ≤ room) (hs : ∀ s ∈ bs, s.size = 256) (hn : 2 + room ≤ n) : ∀ o ∈ blockOps 0 bs, OkOp n o := by
  intro o ho
  obtain ⟨j, s, rfl, a, b, c⟩ := mem_blockOps bs 0 o ho
  exact ⟨by omega, by omega, by rw [hs s c]; omega⟩
theorem block_off (bs : List ByteArray) {room k : Nat} (hb : bs.length ≤ room) (hk : k < 2 ∨ 2 + room ≤ k) : ∀ o ∈ blockOps 0 bs, Off k o := by
  intro o ho
  obtain ⟨j, s, rfl, a, b, c⟩ := mem_blockOps bs 0 o ho
  show ((2 + j : Nat) : Int).toNat ≠ k
  omega
theorem commit_ok {h : Hd} {l : List PageV} (hf : Fit h l) {n : Nat} (hn : 2 + h.room + h.pages ≤ n) (hb : (packB l).length ≤ h.room) : ∀ o ∈ commitOps h l, OkOp n o := by
  intro o ho
  unfold commitOps at ho
  rcases List.mem_append.1 ho with ho | ho
  · exact block_ok (packB l) hb (packB_size l) (by omega) o ho
  · rcases List.mem_cons.1 ho with rfl | ho
    · exact trivial
    · rcases List.mem_append.1 ho with ho | ho
      · exact put_ok (by omega) o ho
      · exact home_ok (h := h.next (packB l).length) hf hn o ho
/-- The blocks behind the whole of it. -/
theorem home_lasts (h : Hd) (l : List PageV) (f : Nat → ByteArray) : lasts f (homeOps h l) = lasts (lasts f (pageOps h.room l)) (putOps (h.next 0)) := by
  unfold homeOps
  rw [lasts_app, lasts_app]
  rfl
theorem commit_lasts (h : Hd) (l : List PageV) (f : Nat → ByteArray) : lasts f (commitOps h l) = lasts (lasts (lasts (lasts f (blockOps 0 (packB l))) (putOps (h.next (packB l).length))) (pageOps h.room l)) (putOps (h.behind (packB l).length)) := by
  unfold commitOps
  rw [lasts_app, lasts_cons, lasts_app, home_lasts]
  rfl
theorem flush_last_late {d : D} {h : Hd} (hf : d.free) (hn : 2 ≤ d.n) : (d.ops (putOps h)).late = [] := by rw [(free_put hf hn).1]; rfl
theorem commit_late {d : D} {h : Hd} {l : List PageV} (hfr : d.free) (hf : Fit h l) (hn : 2 + h.room + h.pages ≤ d.n) (hb : (packB l).length ≤ h.room) : (d.ops (commitOps h l)).late = [] := by
  have e : commitOps h l = (blockOps 0 (packB l) ++ (.fl :: (putOps (h.next (packB l).length) ++ (pageOps h.room l ++ [.fl])))) ++ putOps (h.behind (packB l).length) := by
    unfold commitOps homeOps
    simp [List.append_assoc, Hd.behind, Hd.next]
  have hall := commit_ok hf hn hb
  rw [e] at hall ⊢
  obtain ⟨a, b, _⟩ := free_ops _ hfr (fun o ho => hall o (List.mem_append_left _ ho))
  rw [(ops_app_ok _ a).1]
  exact flush_last_late b (by rw [ops_n]; omega)
theorem fits_next {h : Hd} {n : Nat} (hw : 1 ≤ h.room) (hp : 1 ≤ h.pages) (hp1 : h.pages ≤ 1024) (hn : 2 + h.room + h.pages ≤ n) (hs : h.seq + 2 ≤ 1000000) {u : Nat} (hu : u ≤ h.room) : Fits (h.next u) ((h.seq + 1) % 2) n :=
  ⟨rfl, hw, hp, hp1, hu, hn, by show h.seq + 1 ≤ _; omega⟩
structure Plain (h : Hd) : Prop where
  room : 1 ≤ h.room
  pages : 1 ≤ h.pages
  pages1 : h.pages ≤ 1024
theorem commit_settled {d : D} {h : Hd} {o : Option Hd} {T : Int → Option ByteArray} {ks : List Int} (hS : Settled d h o) (hP : Plain h) (hT : TxOk h T) (hK : Keys T ks) (hb : blocksN ks.length ≤ h.room) (hs : h.seq + 3 ≤ 1000000) :
    opsE d (commitOps h (txPages T ks)) = 0 ∧ Settled (d.ops (commitOps h (txPages T ks))) (h.behind (packB (txPages T ks)).length) (some (h.next (packB (txPages T ks)).length)) ∧
      ∀ k : Nat, k < h.pages → (d.ops (commitOps h (txPages T ks))).last (2 + h.room + k) = pageS d h T k := by
  have hfit : Fit h (txPages T ks) := fun x hx => by
    obtain ⟨k, hk, rfl⟩ := List.mem_map.1 hx
    obtain ⟨s, hs⟩ := Option.isSome_iff_exists.1 ((hK.2 k).1 hk)
    obtain ⟨a, b, c⟩ := hT k s hs
    exact ⟨a, b, by show ((T k).getD _).size ≤ 256; rw [hs]; exact Nat.le_of_eq c⟩
  have hpl : (packB (txPages T ks)).length ≤ h.room := by rw [packB_length, txPages_length]; exact hb
  have hall := commit_ok hfit hS.n hpl
  obtain ⟨a, b, c⟩ := free_ops _ hS.free hall
  have hn := ops_n (commitOps h (txPages T ks)) d
  have hlate := commit_late hS.free hfit hS.n hpl
  rw [commit_lasts] at c
  have hsn := hS.n
  generalize hpn : (packB (txPages T ks)).length = pn at *
  have q2 : (h.behind pn).seq % 2 = h.seq % 2 := by show (h.seq + 1 + 1) % 2 = _; omega
  have q1 : (h.next pn).seq % 2 = (h.seq + 1) % 2 := rfl
  have hne : (h.seq + 1) % 2 ≠ h.seq % 2 := by omega
  have ecur : (d.ops (commitOps h (txPages T ks))).last (h.seq % 2) = filled (h.behind pn).text := by rw [c, ← q2, put_last]
  have eoth : (d.ops (commitOps h (txPages T ks))).last ((h.seq + 1) % 2) = filled (h.next pn).text := by
    rw [c, lasts_off _ _ _ (put_off (h := h.behind pn) (by rw [q2]; exact hne)), lasts_off _ _ _ (page_off hfit (by omega)), ← q1, put_last]
  refine ⟨a, ⟨b, hlate, by rw [hn]; exact hsn, by rw [hn]; exact hS.hi, rfl, ?_, ?_, ?_⟩, fun k hk => ?_⟩
  · rw [q2, ecur, hn]
    refine reads_head ⟨q2, hP.room, hP.pages, hP.pages1, Nat.zero_le _, hsn, by show h.seq + 1 + 1 ≤ _; omega⟩ hS.hi
  · rw [show ((h.behind pn).seq + 1) % 2 = (h.seq + 1) % 2 by show (h.seq + 1 + 1 + 1) % 2 = _; omega, eoth, hn]
    exact reads_head (fits_next hP.room hP.pages hP.pages1 hsn (by omega) hpl) hS.hi
  · intro x hx
    obtain rfl : h.next pn = x := by simpa using hx
    show h.seq + 1 < h.seq + 1 + 1
    omega
  · rw [c, lasts_off _ _ _ (put_off (h := h.behind pn) (by rw [q2]; omega)), pageOps_last h.room T k ks _ (fun x hx => by
      obtain ⟨s, hs⟩ := Option.isSome_iff_exists.1 ((hK.2 x).1 hx)
      exact (hT x s hs).1)]
    unfold pageS
    cases hTk : T k with
    | some s =>
      rw [if_pos ((hK.2 k).2 (by rw [hTk]; rfl))]
      exact filled_full (hT k s hTk).2.2
    | none =>
      rw [if_neg (fun c => by have := (hK.2 k).1 c; rw [hTk] at this; cases this)]
      rw [lasts_off _ _ _ (put_off (h := h.next pn) (by rw [q1]; omega)), lasts_off _ _ _ (block_off _ (by rw [hpn]; exact hpl) (.inr (by omega)))]
      show _ = d.last (((2 + h.room : Nat) : Int) + (k : Int)).toNat
      rw [show (((2 + h.room : Nat) : Int) + (k : Int)).toNat = 2 + h.room + k by omega]
end Go.Proofs.Ytfcicpcpdklceaa
