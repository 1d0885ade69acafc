/- What a commit leaves on a disk that has power and no limit: plain. -/
import Derived.Test.YtfcicpcpdklceaaSU
namespace Go.Proofs.Ytfcicpcpdklceaa
set_option maxRecDepth 100000
open Go.ChangeShapes Go.WideShapes Go.ChangeAt Go.RowKit Go.PlainAid

/-- The head of an empty transaction's end. -/
def Hd.behind (h : Hd) (n : Nat) : Hd := (h.next n).next 0
theorem put_ok {h : Hd} {n : Nat} (hn : 2 ≤ n) : ∀ o ∈ putOps h, OkOp n o := by
  intro o ho
  rcases List.mem_cons.1 ho with rfl | ho
  · exact ⟨by omega, by omega, by rw [h.text_size]; omega⟩
  · rw [List.mem_singleton] at ho; subst ho; exact trivial
theorem put_off {h : Hd} {k : Nat} (hk : k ≠ h.seq % 2) : ∀ o ∈ putOps h, Off k o := by
  intro o ho
  rcases List.mem_cons.1 ho with rfl | ho
  · show ((h.seq % 2 : Nat) : Int).toNat ≠ k
    rw [Int.toNat_natCast]; exact Ne.symm hk
  · rw [List.mem_singleton] at ho; subst ho; exact trivial
theorem put_last {h : Hd} (f : Nat → ByteArray) : lasts f (putOps h) (h.seq % 2) = filled h.text := by
  show upd f ((h.seq % 2 : Nat) : Int).toNat (filled h.text) (h.seq % 2) = _
  rw [Int.toNat_natCast, upd_same]
theorem page_ok {h : Hd} {l : List PageV} (hf : Fit h l) {n : Nat} (hn : 2 + h.room + h.pages ≤ n) : ∀ o ∈ pageOps h.room l, OkOp n o := by
  intro o ho
  obtain ⟨x, hx, rfl⟩ := mem_pageOps ho
  obtain ⟨a, b, c⟩ := hf x hx
  exact ⟨by omega, by omega, c⟩
theorem page_off {h : Hd} {l : List PageV} (hf : Fit h l) {k : Nat} (hk : k < 2 + h.room) : ∀ o ∈ pageOps h.room l, Off k o := by
  intro o ho
  obtain ⟨x, hx, rfl⟩ := mem_pageOps ho
  obtain ⟨a, b, c⟩ := hf x hx
  show (((2 + h.room : Nat) : Int) + x.at_).toNat ≠ k
  omega
theorem home_ok {h : Hd} {l : List PageV} (hf : Fit h l) {n : Nat} (hn : 2 + h.room + h.pages ≤ n) : ∀ o ∈ homeOps h l, OkOp n o := by
  intro o ho
  unfold homeOps at ho
  rcases List.mem_append.1 ho with ho | ho
  · exact page_ok hf hn o ho
  · rcases List.mem_append.1 ho with ho | ho
    · rw [List.mem_singleton] at ho; subst ho; exact trivial
    · exact put_ok (by omega) o ho
theorem block_ok (bs : List ByteArray) {room n : Nat} (hb : bs.length ≤ room) (hs : ∀ s ∈ bs, s.size = 256) (hn : 2 + room ≤ n) : ∀ o ∈ blockOps 0 bs, OkOp n o := by
  intro o ho
  obtain ⟨j, s, rfl, a, b, c⟩ := mem_blockOps bs 0 o ho
  exact ⟨by omega, by omega, by rw [hs s c]; omega⟩
theorem block_off (bs : List ByteArray) {room k : Nat} (hb : bs.length ≤ room) (hk : k < 2 ∨ 2 + room ≤ k) : ∀ o ∈ blockOps 0 bs, Off k o := by
  intro o ho
  obtain ⟨j, s, rfl, a, b, c⟩ := mem_blockOps bs 0 o ho
  show ((2 + j : Nat) : Int).toNat ≠ k
  omega
theorem commit_ok {h : Hd} {l : List PageV} (hf : Fit h l) {n : Nat} (hn : 2 + h.room + h.pages ≤ n) (hb : (packB l).length ≤ h.room) : ∀ o ∈ commitOps h l, OkOp n o := by
  intro o ho
  unfold commitOps at ho
  rcases List.mem_append.1 ho with ho | ho
  · exact block_ok (packB l) hb (packB_size l) (by omega) o ho
  · rcases List.mem_cons.1 ho with rfl | ho
    · exact trivial
    · rcases List.mem_append.1 ho with ho | ho
      · exact put_ok (by omega) o ho
      · exact home_ok (h := h.next (packB l).length) hf hn o ho
/-- The blocks behind the whole of it. -/
theorem home_lasts (h : Hd) (l : List PageV) (f : Nat → ByteArray) : lasts f (homeOps h l) = lasts (lasts f (pageOps h.room l)) (putOps (h.next 0)) := by
  unfold homeOps
  rw [lasts_app, lasts_app]
  rfl
theorem commit_lasts (h : Hd) (l : List PageV) (f : Nat → ByteArray) : lasts f (commitOps h l) = lasts (lasts (lasts (lasts f (blockOps 0 (packB l))) (putOps (h.next (packB l).length))) (pageOps h.room l)) (putOps (h.behind (packB l).length)) := by
  unfold commitOps
  rw [lasts_app, lasts_cons, lasts_app, home_lasts]
  rfl
theorem flush_last_late {d : D} {h : Hd} (hf : d.free) (hn : 2 ≤ d.n) : (d.ops (putOps h)).late = [] := by rw [(free_put hf hn).1]; rfl
theorem commit_late {d : D} {h : Hd} {l : List PageV} (hfr : d.free) (hf : Fit h l) (hn : 2 + h.room + h.pages ≤ d.n) (hb : (packB l).length ≤ h.room) : (d.ops (commitOps h l)).late = [] := by
  have e : commitOps h l = (blockOps 0 (packB l) ++ (.fl :: (putOps (h.next (packB l).length) ++ (pageOps h.room l ++ [.fl])))) ++ putOps (h.behind (packB l).length) := by
    unfold commitOps homeOps
    simp [List.append_assoc, Hd.behind, Hd.next]
  have hall := commit_ok hf hn hb
  rw [e] at hall ⊢
  obtain ⟨a, b, _⟩ := free_ops _ hfr (fun o ho => hall o (List.mem_append_left _ ho))
  rw [(ops_app_ok _ a).1]
  exact flush_last_late b (by rw [ops_n]; omega)
theorem fits_next {h : Hd} {n : Nat} (hw : 1 ≤ h.room) (hp : 1 ≤ h.pages) (hp1 : h.pages ≤ 1024) (hn : 2 + h.room + h.pages ≤ n) (hs : h.seq + 2 ≤ 1000000) {u : Nat} (hu : u ≤ h.room) : Fits (h.next u) ((h.seq + 1) % 2) n :=
  ⟨rfl, hw, hp, hp1, hu, hn, by show h.seq + 1 ≤ _; omega⟩
structure Plain (h : Hd) : Prop where
  room : 1 ≤ h.room
  pages : 1 ≤ h.pages
  pages1 : h.pages ≤ 1024
theorem commit_settled {d : D} {h : Hd} {o : Option Hd} {T : Int → Option ByteArray} {ks : List Int} (hS : Settled d h o) (hP : Plain h) (hT : TxOk h T) (hK : Keys T ks) (hb : blocksN ks.length ≤ h.room) (hs : h.seq + 3 ≤ 1000000) :
    opsE d (commitOps h (txPages T ks)) = 0 ∧ Settled (d.ops (commitOps h (txPages T ks))) (h.behind (packB (txPages T ks)).length) (some (h.next (packB (txPages T ks)).length)) ∧
      ∀ k : Nat, k < h.pages → (d.ops (commitOps h (txPages T ks))).last (2 + h.room + k) = pageS d h T k := by
  have hfit : Fit h (txPages T ks) := fun x hx => by
    obtain ⟨k, hk, rfl⟩ := List.mem_map.1 hx
    obtain ⟨s, hs⟩ := Option.isSome_iff_exists.1 ((hK.2 k).1 hk)
    obtain ⟨a, b, c⟩ := hT k s hs
    exact ⟨a, b, by show ((T k).getD _).size ≤ 256; rw [hs]; exact Nat.le_of_eq c⟩
  have hpl : (packB (txPages T ks)).length ≤ h.room := by rw [packB_length, txPages_length]; exact hb
  have hall := commit_ok hfit hS.n hpl
  obtain ⟨a, b, c⟩ := free_ops _ hS.free hall
  have hn := ops_n (commitOps h (txPages T ks)) d
  have hlate := commit_late hS.free hfit hS.n hpl
  rw [commit_lasts] at c
  have hsn := hS.n
  generalize hpn : (packB (txPages T ks)).length = pn at *
  have q2 : (h.behind pn).seq % 2 = h.seq % 2 := by show (h.seq + 1 + 1) % 2 = _; omega
  have q1 : (h.next pn).seq % 2 = (h.seq + 1) % 2 := rfl
  have hne : (h.seq + 1) % 2 ≠ h.seq % 2 := by omega
  have ecur : (d.ops (commitOps h (txPages T ks))).last (h.seq % 2) = filled (h.behind pn).text := by rw [c, ← q2, put_last]
  have eoth : (d.ops (commitOps h (txPages T ks))).last ((h.seq + 1) % 2) = filled (h.next pn).text := by
    rw [c, lasts_off _ _ _ (put_off (h := h.behind pn) (by rw [q2]; exact hne)), lasts_off _ _ _ (page_off hfit (by omega)), ← q1, put_last]
  refine ⟨a, ⟨b, hlate, by rw [hn]; exact hsn, by rw [hn]; exact hS.hi, rfl, ?_, ?_, ?_⟩, fun k hk => ?_⟩
  · rw [q2, ecur, hn]
    refine reads_head ⟨q2, hP.room, hP.pages, hP.pages1, Nat.zero_le _, hsn, by show h.seq + 1 + 1 ≤ _; omega⟩ hS.hi
  · rw [show ((h.behind pn).seq + 1) % 2 = (h.seq + 1) % 2 by show (h.seq + 1 + 1 + 1) % 2 = _; omega, eoth, hn]
    exact reads_head (fits_next hP.room hP.pages hP.pages1 hsn (by omega) hpl) hS.hi
  · intro x hx
    obtain rfl : h.next pn = x := by simpa using hx
    show h.seq + 1 < h.seq + 1 + 1
    omega
  · rw [c, lasts_off _ _ _ (put_off (h := h.behind pn) (by rw [q2]; omega)), pageOps_last h.room T k ks _ (fun x hx => by
      obtain ⟨s, hs⟩ := Option.isSome_iff_exists.1 ((hK.2 x).1 hx)
      exact (hT x s hs).1)]
    unfold pageS
    cases hTk : T k with
    | some s =>
      rw [if_pos ((hK.2 k).2 (by rw [hTk]; rfl))]
      exact filled_full (hT k s hTk).2.2
    | none =>
      rw [if_neg (fun c => by have := (hK.2 k).1 c; rw [hTk] at this; cases this)]
      rw [lasts_off _ _ _ (put_off (h := h.next pn) (by rw [q1]; omega)), lasts_off _ _ _ (block_off _ (by rw [hpn]; exact hpl) (.inr (by omega)))]
      show _ = d.last (((2 + h.room : Nat) : Int) + (k : Int)).toNat
      rw [show (((2 + h.room : Nat) : Int) + (k : Int)).toNat = 2 + h.room + k by omega]
end Go.Proofs.Ytfcicpcpdklceaa
