/- Commit and Open, whatever the limit, and behind every crash: contracts. What the laws on crashes share. -/
import Derived.Test.YtfcicpcpdklceaaSCut
import Derived.Test.YtfcicpcpdklceaaSAB
import Derived.WalkSpells
import Derived.Lib.SliceRun
namespace Go.Proofs.Ytfcicpcpdklceaa
set_option maxRecDepth 100000
open Go.ChangeShapes Go.WideShapes Go.ChangeAt Go.RowKit Go.PlainAid
open Go.Sort (grow)

theorem fr_last (d : D) : d.fr.last = d.last := rfl
theorem limited_fr {d : D} (h : d.free) (n : Int) : (d.limited n).fr = d := by
  obtain ⟨a, b, c, lim, dk⟩ := d
  obtain ⟨rfl, rfl⟩ : lim = -1 ∧ dk = false := h
  rfl
theorem OkD.congr {n room pg : Nat} {X Y : Nat → ByteArray} {d : D} (h : OkD n room pg X d) (e : ∀ k, k < pg → X k = Y k) : OkD n room pg Y d := by
  obtain ⟨x, o, S, P, a1, a2, a3, a4, a5⟩ := h
  exact ⟨x, o, S, P, a1, a2, a3, a4, fun k hk => (a5 k hk).trans (e k hk)⟩
theorem commit_strong {d : D} {h : Hd} {o : Option Hd} {T : Int → Option ByteArray} {ks : List Int} (hS : Settled d h o) (hP : Plain h) (hT : TxOk h T) (hK : Keys T ks) (hb : blocksN ks.length ≤ h.room) (hs : h.seq + 3 ≤ 1000000) :
    Strong (d.ops (commitOps h (txPages T ks))) (h.behind (packB (txPages T ks)).length) (some (h.next (packB (txPages T ks)).length)) := by
  have hfit : Fit h (txPages T ks) := fun x hx => by
    obtain ⟨k, hk, rfl⟩ := List.mem_map.1 hx
    obtain ⟨s, hs⟩ := Option.isSome_iff_exists.1 ((hK.2 k).1 hk)
    obtain ⟨a, b, c⟩ := hT k s hs
    exact ⟨a, b, by show ((T k).getD _).size ≤ 256; rw [hs]; exact Nat.le_of_eq c⟩
  have hpl : (packB (txPages T ks)).length ≤ h.room := by rw [packB_length, txPages_length]; exact hb
  obtain ⟨_, cs, _⟩ := commit_settled hS hP hT hK hb hs
  obtain ⟨_, _, c⟩ := free_ops _ hS.free (commit_ok hfit hS.n hpl)
  rw [commit_lasts] at c
  have hn := ops_n (commitOps h (txPages T ks)) d
  generalize hpn : (packB (txPages T ks)).length = pn at *
  have q2 : (h.behind pn).seq % 2 = h.seq % 2 := by show (h.seq + 1 + 1) % 2 = _; omega
  have q1 : (h.next pn).seq % 2 = (h.seq + 1) % 2 := rfl
  have q3 : ((h.behind pn).seq + 1) % 2 = (h.seq + 1) % 2 := by show (h.seq + 1 + 1 + 1) % 2 = _; omega
  refine ⟨cs, ?_, .inr ⟨h.next pn, ?_, rfl, ?_⟩⟩
  · rw [c, put_last]
  · rw [q3, c, lasts_off _ _ _ (put_off (h := h.behind pn) (by rw [q2]; omega)), lasts_off _ _ _ (page_off hfit (by omega)), ← q1, put_last]
  · rw [q3, hn]
    exact fits_next hP.room hP.pages hP.pages1 hS.n (by omega) hpl
theorem formatted_strong (n room : Nat) (h1 : 1 ≤ room) (h2 : room + 3 ≤ n) (h3 : n ≤ 2048) : Strong (formatted (newD n) room) (firstHd n room) none := by
  have hs := formatted_settled n room h1 h2 h3
  rw [formatted_new n room h2] at hs ⊢
  refine ⟨hs, ?_, .inl ⟨?_, rfl⟩⟩
  · rw [firstHd_seq, show 2 % 2 = 0 from rfl, freshD_zero]
  · rw [firstHd_seq, show (2 + 1) % 2 = 1 from rfl, freshD_one]
/-- A first commit, without a limit. -/
theorem commit_first {w0 w : World} {p q bm c : Nat} {d : D} {h : Hd} {o : Option Hd} {T : Int → Option ByteArray} {R : List (Nat × Obj)} (H : StT w0 p q bm c d h T false R w) (S : Strong d h o) (P : Plain h) (hT : TxOk h T) (hc : c ≤ 1000) (hs : h.seq ≤ 400) :
    Calls Try.prog 10 #[.pointer (some ⟨q, 0, none⟩)] w fun e w' => ∃ E d1 h1 o1, e = .returned (.int .i64 E) ∧ Strong d1 h1 o1 ∧ Same h h1 ∧ StT w0 p q bm c d1 h1 noPages false R w' ∧ d1.n = d.n := by
  refine (scommit_any H hc hT (S.set.wf P (by omega)) (by omega) (by rw [S.set.late]; simp)).mono ?_
  rintro e w' ⟨ks, hK, _, hx⟩
  rcases hx with ⟨rfl, rfl, H'⟩ | ⟨hne, hroom, rfl, H'⟩ | ⟨hne, hroom, rfl, h', r1, r2, r3, H'⟩
  · exact ⟨0, d, h, o, rfl, S, Same.refl h, H', rfl⟩
  · exact ⟨12, d, h, o, rfl, S, Same.refl h, H', rfl⟩
  · obtain ⟨ce, _, _⟩ := commit_settled S.set P hT hK hroom (by omega)
    have cs := commit_strong S.set P hT hK hroom (by omega)
    obtain rfl := r3 ce
    rw [ce] at H'
    exact ⟨_, _, _, _, rfl, cs, ⟨rfl, rfl, by show h.seq + 1 + 1 ≤ _; omega⟩, H', ops_n _ _⟩
/-- What a commit leaves, whatever the limit. -/
def LimPost (w0 : World) (p n room pg : Nat) (X Y : Nat → ByteArray) (R : List (Nat × Obj)) (e : Ending) (w' : World) : Prop :=
  ∃ E d', e = .returned (.int .i64 E) ∧ OwnL w0 p d' R w' ∧ d'.late.length ≤ 10000 ∧ (∀ m t c, St3 n room pg X Y (d'.crash m t c)) ∧ (E = 0 → ∀ m t c, OkD n room pg Y (d'.crash m t c)) ∧ (E = 12 → ∀ m t c, OkD n room pg X (d'.crash m t c))
theorem commit_limit {w0 w : World} {p q bm c : Nat} {d : D} {h : Hd} {o : Option Hd} {T : Int → Option ByteArray} {R : List (Nat × Obj)} (L : Int) (H : StT w0 p q bm c (d.limited L) h T false R w) (S : Strong d h o) (P : Plain h) (hT : TxOk h T) (hc : c ≤ 1000) (hs : h.seq ≤ 400) (hroom40 : h.room ≤ 40) :
    Calls Try.prog 10 #[.pointer (some ⟨q, 0, none⟩)] w (LimPost w0 p d.n h.room h.pages (fun k => d.last (2 + h.room + k)) (fun k => pageS d h T k) R) := by
  have hfr := limited_fr S.set.free L
  have hdk : (d.limited L).dark = false := S.set.free.2
  have okX : OkD d.n h.room h.pages (fun k => d.last (2 + h.room + k)) d := ⟨h, o, S.set, P, rfl, rfl, rfl, by omega, fun k hk => rfl⟩
  have okXc : ∀ m t c, OkD d.n h.room h.pages (fun k => d.last (2 + h.room + k)) ((d.limited L).crash m t c) := fun m t c => by
    have := okX.crash m t c
    rw [← hfr, fr_crash] at this
    exact this
  refine (scommit_any H hc hT (S.set.wf P (by omega)) (by omega) (by show d.late.length < _; rw [S.set.late]; simp)).mono ?_
  rintro e w' ⟨ks, hK, _, hx⟩
  have hlt00 : (d.limited L).late.length = 0 := by show d.late.length = _; rw [S.set.late]; rfl
  have hlt0 : (d.limited L).late.length ≤ 10000 := by omega
  rcases hx with ⟨rfl, rfl, H'⟩ | ⟨hne, hroom, rfl, H'⟩ | ⟨hne, hroom, rfl, h', r1, r2, r3, H'⟩
  · have hTn := keys_nil hK
    have okY : ∀ m t c, OkD d.n h.room h.pages (fun k => pageS d h T k) ((d.limited L).crash m t c) := fun m t c => (okXc m t c).congr (fun k _ => by rw [hTn, pageS_none])
    exact ⟨0, _, rfl, H'.own, hlt0, fun m t c => .inl (okXc m t c), fun _ => okY, fun z => absurd z (by decide)⟩
  · exact ⟨12, _, rfl, H'.own, hlt0, fun m t c => .inl (okXc m t c), fun z => absurd z (by decide), fun _ => okXc⟩
  · have hlen : ks.length ≤ 50 := by unfold blocksN at hroom; omega
    obtain ⟨s1, s2, s3⟩ := commit_st3 hfr hdk S P hT hK hne hlen hroom (by omega)
    have hol := ops_late (commitOps h (txPages T ks)) (d.limited L)
    have hcl : (commitOps h (txPages T ks)).length ≤ 9000 := by
      unfold commitOps homeOps putOps pageOps
      simp only [List.length_append, List.length_cons, List.length_nil, List.length_map, blockOps_length, txPages_length, packB_length]
      unfold blocksN
      omega
    refine ⟨_, _, rfl, H'.own, by omega, s1, s2, fun z => ?_⟩
    rcases s3 with e | e <;> rw [e] at z <;> exact absurd z (by decide)
/-- A store that is open, with those pages. -/
def OpenedZ (w0 : World) (p n room pg : Nat) (Z : Nat → ByteArray) (R : List (Nat × Obj)) (e : Ending) (w' : World) : Prop :=
  ∃ q bm d h, e = .returned (.tuple #[.pointer (some ⟨q, 0, none⟩), .int .i64 0]) ∧ StT w0 p q bm 0 d h noPages false R w' ∧ d.dark = false ∧ OkD n room pg Z d.fr ∧ h.Wf ∧ h.pages = pg ∧ h.room = room ∧ (∀ k : Nat, k < pg → d.last (2 + room + k) = Z k) ∧ 2 + room + pg ≤ d.n ∧ d.late.length ≤ 10000
theorem open_ok {w0 w : World} {p n room pg : Nat} {Z : Nat → ByteArray} {d d1 : D} {L : List (Nat × Obj)} (H : OwnL w0 p d1 L w) (h1 : d1.fr = d) (hdk : d1.dark = false) (K : OkD n room pg Z d) :
    Calls Try.prog 15 #[.pointer (some ⟨p, 0, none⟩)] w (OpenedZ w0 p n room pg Z L) := by
  obtain ⟨h, o, S, P, a1, rfl, rfl, a4, a5⟩ := K
  have hn1 : d1.n = d.n := by rw [← h1]; rfl
  have hl1 : d1.last = d.last := by rw [← h1]; rfl
  have hlt : d1.late = [] := by have := S.late; rw [← h1] at this; exact this
  obtain ⟨o0, o1, r0, r1, hp⟩ := two_heads S.cur S.oth S.less
  rw [← hl1, ← hn1] at r0 r1
  refine (open_zero H hdk (by have := S.n; omega) o0 o1 r0 r1 h hp S.used).mono ?_
  rintro e w' ⟨q, bm, rfl, _, _, H'⟩
  exact ⟨q, bm, d1, h, rfl, H', hdk, by rw [h1]; exact ⟨h, o, S, P, a1, rfl, rfl, a4, a5⟩, S.wf P (by omega), rfl, rfl, fun k hk => by rw [hl1]; exact a5 k hk, by rw [hn1]; exact S.n, by rw [hlt]; simp⟩
/-- What Open leaves, whatever the limit. -/
def TriedPost (w0 : World) (p n room pg : Nat) (X Y : Nat → ByteArray) (R : List (Nat × Obj)) (e : Ending) (w' : World) : Prop :=
  ∃ v E d', e = .returned (.tuple #[v, .int .i64 E]) ∧ OwnL w0 p d' R w' ∧ d'.late.length ≤ 10000 ∧ ∀ m t c, St3 n room pg X Y (d'.crash m t c)
theorem mid_open {w0 w : World} {p n room pg : Nat} {X : Nat → ByteArray} {d d1 : D} {L : List (Nat × Obj)} (H : OwnL w0 p d1 L w) (h1 : d1.fr = d) (hdk : d1.dark = false) {h0 : Hd} {T : Int → Option ByteArray} {ks : List Int} (M : Mid d h0 (txPages T ks) X) (P : Plain h0) (hn : d.n = n) (hr : h0.room = room) (hp : h0.pages = pg) (hs : h0.seq ≤ 500) (hT : TxOk h0 T) (hK : Keys T ks) (hne : ks ≠ []) (hlen : ks.length ≤ 50) :
    Calls Try.prog 15 #[.pointer (some ⟨p, 0, none⟩)] w (OpenPost w0 w p L (fun E d' h' => E = opsE d1 (homeOps (h0.next (packB (txPages T ks)).length) (txPages T ks)) ∧ d' = d1.ops (homeOps (h0.next (packB (txPages T ks)).length) (txPages T ks)) ∧ (E = 0 → h' = h0.behind (packB (txPages T ks)).length))) := by
  have hn1 : d1.n = d.n := by rw [← h1]; rfl
  have hl1 : d1.last = d.last := by rw [← h1]; rfl
  have hlt : d1.late = [] := by have := M.late; rw [← h1] at this; exact this
  have hrm := M.room
  have hsn := M.n
  have hhi := M.hi
  obtain ⟨o, ro, rc⟩ := M.read
  have hq : (h0.next (packB (txPages T ks)).length).seq = h0.seq + 1 := rfl
  obtain ⟨o0, o1, r0, r1, hpk⟩ := two_heads (d := d) (h := h0.next (packB (txPages T ks)).length) (o := o) (by rw [hq]; exact M.cur) (by
    have e : ((h0.next (packB (txPages T ks)).length).seq + 1) % 2 = h0.seq % 2 := by show (h0.seq + 1 + 1) % 2 = _; omega
    rw [e]; exact ro) (fun x hx => by
    rcases rc with rc | rc
    · rw [rc] at hx; cases hx
    · rw [rc] at hx
      obtain rfl : h0 = x := by simpa using hx
      show h0.seq < h0.seq + 1; omega)
  rw [← hl1, ← hn1] at r0 r1
  have hfit : Fit h0 (txPages T ks) := fun x hx => by
    obtain ⟨k, hk, rfl⟩ := List.mem_map.1 hx
    obtain ⟨s, hs⟩ := Option.isSome_iff_exists.1 ((hK.2 k).1 hk)
    obtain ⟨a, b, c⟩ := hT k s hs
    exact ⟨a, b, by show ((T k).getD _).size ≤ 256; rw [hs]; exact Nat.le_of_eq c⟩
  have hsz : ∀ x ∈ txPages T ks, x.data.size = 256 := fun x hx => by
    obtain ⟨k, hk, rfl⟩ := List.mem_map.1 hx
    obtain ⟨s, hs⟩ := Option.isSome_iff_exists.1 ((hK.2 k).1 hk)
    show ((T k).getD _).size = 256
    rw [hs]; exact (hT k s hs).2.2
  have hlp : 0 < ks.length := List.length_pos_iff.2 hne
  refine open_via H hdk (by rw [hn1]; omega) o0 o1 r0 r1 _ hpk _ (fun w1 q bm HS => (redo_full (l := txPages T ks) HS hdk rfl (by rw [hn1]; exact hsn) hrm (fun i s hi => by rw [hl1]; exact M.jour i s hi) (by rw [txPages_length]; omega) (by rw [txPages_length]; omega) hfit hsz ⟨by rw [hq]; omega, by show (packB (txPages T ks)).length ≤ _; omega, by show h0.room ≤ _; omega, P.pages1⟩ (by rw [hq]; omega) (by rw [hlt]; simp)).mono ?_)
  rintro e w' ⟨rfl, h', hh1, hh2, H'⟩
  exact ⟨_, _, h', ⟨rfl, rfl, hh2⟩, rfl, H'⟩
theorem home_len (h : Hd) (T : Int → Option ByteArray) (ks : List Int) : (homeOps h (txPages T ks)).length = ks.length + 3 := by
  unfold homeOps putOps pageOps
  simp only [List.length_append, List.length_cons, List.length_nil, List.length_map, txPages_length]
theorem open_lim {w0 w : World} {p n room pg : Nat} {X Y : Nat → ByteArray} {d d1 : D} {L : List (Nat × Obj)} (H : OwnL w0 p d1 L w) (h1 : d1.fr = d) (hdk : d1.dark = false) (K : St3 n room pg X Y d) :
    Calls Try.prog 15 #[.pointer (some ⟨p, 0, none⟩)] w (TriedPost w0 p n room pg X Y L) := by
  have one : ∀ Z, OkD n room pg Z d → (∀ e, OkD n room pg Z e → St3 n room pg X Y e) → Calls Try.prog 15 #[.pointer (some ⟨p, 0, none⟩)] w (TriedPost w0 p n room pg X Y L) := fun Z hZ hst => by
    refine (open_ok H h1 hdk hZ).mono ?_
    rintro e w' ⟨q, bm, d', h, rfl, H', _, ok, _, _, _, _, _, hlt⟩
    exact ⟨_, 0, d', rfl, H'.own, hlt, fun m t c => hst _ (by have := ok.crash m t c; rwa [fr_crash] at this)⟩
  rcases K with K | K | K
  · exact one X K (fun e he => .inl he)
  · obtain ⟨h0, T, ks, M, P, a1, a2, a3, a4, a5, a6, a7, a8, a9, a10⟩ := K
    have hlt : d1.late = [] := by have := M.late; rw [← h1] at this; exact this
    obtain ⟨s1, _⟩ := home_st3 h1 hdk M P a1 a2 a3 a4 a5 a6 a7 a8 a9 a10
    refine (mid_open H h1 hdk M P a1 a2 a3 a4 a6 a7 a8 a9).mono ?_
    rintro e w' ⟨E, d', h', ⟨rfl, rfl, _⟩, hc⟩
    have hol := ops_late (homeOps (h0.next (packB (txPages T ks)).length) (txPages T ks)) d1
    have hll : (d1.ops (homeOps (h0.next (packB (txPages T ks)).length) (txPages T ks))).late.length ≤ 10000 := by
      rw [home_len, hlt] at hol
      simp only [List.length_nil] at hol
      omega
    rcases hc with ⟨z, q, bm, rfl, _, _, H'⟩ | ⟨z, rfl, H'⟩
    · exact ⟨_, 0, _, rfl, H'.own, hll, s1⟩
    · exact ⟨_, _, _, rfl, H', hll, s1⟩
  · exact one Y K (fun e he => .inr (.inr he))
/-- With power, and no limit, it opens: with those pages, or these. -/
theorem open_free {w0 w : World} {p n room pg : Nat} {X Y : Nat → ByteArray} {d : D} {L : List (Nat × Obj)} (H : OwnL w0 p d L w) (K : St3 n room pg X Y d) :
    Calls Try.prog 15 #[.pointer (some ⟨p, 0, none⟩)] w fun e w' => OpenedZ w0 p n room pg X L e w' ∨ OpenedZ w0 p n room pg Y L e w' := by
  rcases K with K | K | K
  · obtain ⟨h, o, S, _⟩ := id K
    exact (open_ok H (fr_same S.free) S.free.2 K).mono fun e w' hh => .inl hh
  · obtain ⟨h0, T, ks, M, P, a1, a2, a3, a4, a5, a6, a7, a8, a9, a10⟩ := K
    have hfr := fr_same M.free
    obtain ⟨_, s2⟩ := home_st3 hfr M.free.2 M P a1 a2 a3 a4 a5 a6 a7 a8 a9 a10
    have hfit : Fit h0 (txPages T ks) := fun x hx => by
      obtain ⟨k, hk, rfl⟩ := List.mem_map.1 hx
      obtain ⟨s, hs⟩ := Option.isSome_iff_exists.1 ((a7.2 k).1 hk)
      obtain ⟨a, b, c⟩ := a6 k s hs
      exact ⟨a, b, by show ((T k).getD _).size ≤ 256; rw [hs]; exact Nat.le_of_eq c⟩
    obtain ⟨z0, zf, _⟩ := free_ops (homeOps (h0.next (packB (txPages T ks)).length) (txPages T ks)) M.free (home_ok (h := h0.next (packB (txPages T ks)).length) hfit M.n)
    obtain ⟨ok, dk⟩ := s2 z0
    refine (mid_open H hfr M.free.2 M P a1 a2 a3 a4 a6 a7 a8 a9).mono ?_
    rintro e w' ⟨E, d', h', ⟨rfl, rfl, hh'⟩, hc⟩
    rcases hc with ⟨z, q, bm, rfl, _, _, H'⟩ | ⟨z, _⟩
    · obtain rfl := hh' z
      have hfd := fr_same zf
      obtain ⟨x, oo, S', P', b1, b2, b3, b4, b5⟩ := id ok
      rw [hfd] at S' b1 b5
      subst a2 a3
      refine .inr ⟨q, bm, _, _, rfl, H', dk, ok, ⟨by show h0.seq + 1 + 1 ≤ _; omega, Nat.zero_le _, ?_, P.pages1⟩, rfl, rfl, b5, ?_, by rw [S'.late]; simp⟩
      · have := M.n; have := M.hi; show h0.room ≤ _; omega
      · rw [b1, ← a1]; exact M.n
    · exact absurd z0 z
  · obtain ⟨h, o, S, _⟩ := id K
    exact (open_ok H (fr_same S.free) S.free.2 K).mono fun e w' hh => .inr hh
end Go.Proofs.Ytfcicpcpdklceaa
namespace Go.Proofs.Ytfcicpcpdklceaa
set_option maxRecDepth 100000
open Go.ChangeShapes Go.WideShapes Go.ChangeAt Go.RowKit Go.PlainAid

theorem slimit_any {w0 w : World} {p q bm c : Nat} {d : D} {h : Hd} {T : Int → Option ByteArray} {dead : Bool} {R : List (Nat × Obj)} (H : StT w0 p q bm c d h T dead R w) (n : Int) (h0 : -9223372036854775808 ≤ n) (h1 : n ≤ 9223372036854775807) :
    Calls Try.prog 13 #[.pointer (some ⟨p, 0, none⟩), .int .i64 n] w fun e w' => e = .returned (.tuple #[]) ∧ StT w0 p q bm c (d.limited n) h T dead R w' := by
  obtain ⟨⟨es, clock, hX, hS⟩, q1, q2⟩ := H
  exact (q_limit hS.own n h0 h1).mono fun e w' ⟨a, b⟩ => ⟨a, ⟨es, clock, hX, hS.ops b⟩, q1, q2⟩
theorem pages_of {d : D} {h : Hd} {room pg : Nat} {Z : Nat → ByteArray} (hr : h.room = room) (hz : ∀ k : Nat, k < pg → d.last (2 + room + k) = Z k) : pages d h noPages pg = (List.range pg).map Z := by
  unfold pages
  refine List.map_congr_left fun k hk => ?_
  rw [pageS_none, hr, hz k (List.mem_range.1 hk)]
/-- A block of four cells, at every later world. -/
theorem four_cells {W : World} {b : Nat} {v0 v1 v2 v3 : Value} {t : TypeId} (h : W.heap[b]? = some (.cells #[v0, v1, v2, v3] t (0, 0))) : ∀ w' : World, Below W.heap.size W w' → w'.cell? ⟨b, 0, none⟩ = some v0 ∧ w'.cell? ⟨b, 1, none⟩ = some v1 ∧ w'.cell? ⟨b, 2, none⟩ = some v2 ∧ w'.cell? ⟨b, 3, none⟩ = some v3 := fun w' hb => by
  have h2 := (hb.block b (heap_lt' h)).trans h
  obtain ⟨a, b, c, d, _⟩ := cells4' h2
  exact ⟨a, b, c, d⟩
theorem texts_ne (g n c : Nat) : ∀ w, (binOp .neq 31 (.slice (some ⟨g, 0, none⟩) n c) (.slice none 0 0)).run Try.prog w = .ok (.bool true) w := fun w => run_neq_slice_nil_any w 31 9 (some ⟨g, 0, none⟩) n c 0 0 Try.underlying31
theorem texts_eq (g n c : Nat) : ∀ w, (binOp .eql 31 (.slice (some ⟨g, 0, none⟩) n c) (.slice none 0 0)).run Try.prog w = .ok (.bool false) w := fun w => Lib.run_eql_slice_nil w 31 9 (some ⟨g, 0, none⟩) n c 0 0 Try.underlying31
end Go.Proofs.Ytfcicpcpdklceaa
