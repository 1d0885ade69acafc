import Derived.Test.YtcjfnfdinhbdlaaGreatDoorGas
import Derived.Test.YtcjfnfdinhbdlaaGreatDoorGat
import Derived.Test.YtcjfnfdinhbdlaaGreatDoorGam
namespace Go.Proofs.YtcjfnfdinhbdlaaGreatDoor
set_option maxRecDepth 100000
open Go.ChangeShapes Go.WideShapes Go.ChangeAt Go.RowKit Go.PlainAid
def spentP (level : Int) (L : List Pr) : Bool := decide (L.length = 0) || (decide (1 < level) && decide (L.length = 1))
def heirP (level : Int) (L : List Pr) : Int := if level = 1 then 0 else match L[0]? with | some p => numP p.val | none => 0
def besP (V : Int → ByteArray) (out : Int → Bool) (u : NdD × Nat) (x : NdD) : Option (NdD × NdD) :=
  if u.2 + 1 < u.1.L.length then match rdN V out (kidN u.1 (u.2 + 1)) with
    | (_, true) => none
    | (r, false) => some (x, r)
  else match rdN V out (kidN u.1 (u.2 - 1)) with
    | (_, true) => none
    | (l, false) => some (l, x)
def fitsP (l r : NdD) : Bool := decide (wtP l.level (l.L ++ r.L) ≤ 254)
def upJ (u l r : NdD) : NdD := { u with L := if fitsP l r = true then u.L.take (posP r.low u.L) ++ u.L.drop (posP r.low u.L + 1) else
  match ((l.L ++ r.L)[halfP l.level (l.L ++ r.L)]?), (u.L[posP r.low u.L]?) with
  | some m, some p => u.L.set (posP r.low u.L) ⟨m.key, p.val⟩
  | _, _ => u.L }
def leftJ (l r : NdD) : NdD := { l with L := if fitsP l r = true then l.L ++ r.L else (l.L ++ r.L).take (halfP l.level (l.L ++ r.L)) }
def rightJ (l r : NdD) : NdD := { r with L := if fitsP l r = true then r.L else (l.L ++ r.L).drop (halfP l.level (l.L ++ r.L)) }
def rootU : List (NdD × Nat) → NdD → NdD
  | [], x => x
  | u :: us, _ => rootU us u.1
def endP (root x : NdD) (S : List NdD) (Z : List Int) : List NdD × List Int × Int :=
  if spentP root.level root.L = true then (S, Z ++ [root.at_], heirP root.level root.L) else (S ++ [x], Z, root.at_)
def shrP (V : Int → ByteArray) (out : Int → Bool) : List (NdD × Nat) → NdD → List NdD → List Int → Option (List NdD × List Int × Int)
  | [], x, S, Z => some (endP x x S Z)
  | u :: us, x, S, Z => if 2 * wtP x.level x.L < 254 then match besP V out u x with
      | none => none
      | some (l, r) => if fitsP l r = true then shrP V out us (upJ u.1 l r) (S ++ [leftJ l r]) (Z ++ [r.at_]) else shrP V out us (upJ u.1 l r) (S ++ [rightJ l r] ++ [leftJ l r]) Z
    else some (endP (rootU us u.1) x S Z)
def finG (G : Pgs) (S : List NdD) (Z : List Int) : Pgs := fun c => if c ∈ Z then none else (S.foldl (fun g s => wrG g s.at_ s.level s.L) G) c
theorem finG_nil (G : Pgs) : finG G [] [] = G := by
  funext c
  unfold finG
  simp
theorem finG_set {G : Pgs} {S : List NdD} {Z : List Int} {y : NdD} (h : y.at_ ∉ Z) (c : Int) : finG G (S ++ [y]) Z c = if c = y.at_ then some (y.level, y.L) else finG G S Z c := by
  unfold finG
  rw [List.foldl_append]
  by_cases e : c = y.at_
  · subst e
    rw [if_neg h, if_pos rfl]
    exact wrG_self _ _ _ _
  · rw [if_neg e]
    show (if c ∈ Z then none else wrG _ y.at_ y.level y.L c) = _
    rw [wrG_other e]
theorem finG_del {G : Pgs} {S : List NdD} {Z : List Int} {a : Int} (c : Int) : finG G S (Z ++ [a]) c = if c = a then none else finG G S Z c := by
  unfold finG
  by_cases e : c = a
  · subst e
    rw [if_pos (by simp), if_pos rfl]
  · rw [if_neg e]
    by_cases h : c ∈ Z
    · rw [if_pos (List.mem_append_left _ h), if_pos h]
    · rw [if_neg (by simp [h, e]), if_neg h]
structure Thin (level : Int) (lo hi : ByteArray) (L : List Pr) : Prop where
  pos : 1 ≤ level
  rise : risB lo hi L = true
  recs : level = 1 → ∀ p ∈ L, p.key.size ≠ 0 ∧ p.val.size ≤ 80
  links : level ≠ 1 → (∀ p ∈ L, p.val.size = 2) ∧ ∃ p, L[0]? = some p ∧ p.key = lo
  weight : wtP level L ≤ 254
theorem Lawful.thin {level : Int} {lo hi : ByteArray} {L : List Pr} (h : Lawful level lo hi L) : Thin level lo hi L :=
  ⟨h.pos, h.rise, fun e => (recB_iff.1 (h.recs e)).1, fun e => ⟨(lnkB_iff.1 (h.links e)).1, (lnkB_iff.1 (h.links e)).2.2⟩, h.weight⟩
theorem Thin.lawful {level : Int} {lo hi : ByteArray} {L : List Pr} (h : Thin level lo hi L) (h1 : L ≠ []) (h2 : level ≠ 1 → 1 < L.length) : Lawful level lo hi L :=
  ⟨h.pos, h.weight, h.rise, fun e => recB_iff.2 ⟨h.recs e, List.length_pos_iff.2 h1⟩, fun e => lnkB_iff.2 ⟨(h.links e).1, h2 e, (h.links e).2⟩⟩
theorem Lawful.some {level : Int} {lo hi : ByteArray} {L : List Pr} (h : Lawful level lo hi L) : L ≠ [] ∧ (level ≠ 1 → 1 < L.length) := by
  refine ⟨fun e => ?_, fun e => (lnkB_iff.1 (h.links e)).2.1⟩
  by_cases h1 : level = 1
  · have := (recB_iff.1 (h.recs h1)).2
    rw [e] at this
    simp at this
  · have := (lnkB_iff.1 (h.links h1)).2.1
    rw [e] at this
    simp at this
theorem thin_end {level : Int} {lo hi : ByteArray} {L : List Pr} (h : Thin level lo hi L) (hs : spentP level L = false) : Lawful level lo hi L := by
  unfold spentP at hs
  simp only [Bool.or_eq_false_iff, Bool.and_eq_false_iff, decide_eq_false_iff_not] at hs
  have hp := h.pos
  refine h.lawful (fun e => hs.1 (by rw [e]; rfl)) fun e => ?_
  rcases hs.2 with h2 | h2 <;> omega
theorem thin_heavy {level : Int} {lo hi : ByteArray} {L : List Pr} (h : Thin level lo hi L) (hw : ¬ 2 * wtP level L < 254) : Lawful level lo hi L := by
  refine h.lawful (fun e => hw (by rw [e, wtP_nil]; omega)) fun e => ?_
  have := h.pos
  rw [wtP_link (by omega)] at hw
  omega
theorem near_join {level : Int} {lo mid hi : ByteArray} {L M : List Pr} (h1 : Thin level lo mid L) (h2 : Thin level mid hi M) (hm : lessB lo mid = true) (hh : hi.size = 0 ∨ lessB mid hi = true) (hl : Lawful level lo mid L ∨ Lawful level mid hi M) : Near level lo hi (L ++ M) := by
  obtain ⟨s1, b1⟩ := risB_iff.1 h1.rise
  obtain ⟨s2, b2⟩ := risB_iff.1 h2.rise
  have hne := not_empty_of_less hm
  have hlt : ∀ p ∈ L, lessB p.key mid = true := fun p hp => (b1 p hp).high.resolve_left hne
  have hlen : (L ++ M) ≠ [] ∧ (level ≠ 1 → 1 < (L ++ M).length) := by
    rw [List.length_append]
    rcases hl with h | h
    · obtain ⟨a, b⟩ := h.some
      exact ⟨fun e => a (List.append_eq_nil_iff.1 e).1, fun e => by have := b e; omega⟩
    · obtain ⟨a, b⟩ := h.some
      exact ⟨fun e => a (List.append_eq_nil_iff.1 e).2, fun e => by have := b e; omega⟩
  refine ⟨h1.pos, risB_iff.2 ⟨srt_append s1 s2 fun p hp q hq => lessB_lt_le (hlt p hp) (b2 q hq).low, fun p hp => ?_⟩, fun e => recB_iff.2 ⟨fun p hp => ?_, List.length_pos_iff.2 hlen.1⟩, fun e => lnkB_iff.2 ⟨fun p hp => ?_, hlen.2 e, ?_⟩⟩
  · rcases List.mem_append.1 hp with hp | hp
    · exact ⟨(b1 p hp).small, (b1 p hp).low, hh.imp id fun h => lessB_trans (hlt p hp) h⟩
    · exact ⟨(b2 p hp).small, lessB_le2 (b2 p hp).low (lessB_asymm hm), (b2 p hp).high⟩
  · rcases List.mem_append.1 hp with hp | hp
    · exact h1.recs e p hp
    · exact h2.recs e p hp
  · rcases List.mem_append.1 hp with hp | hp
    · exact (h1.links e).1 p hp
    · exact (h2.links e).1 p hp
  · obtain ⟨p, hp, hk⟩ := (h1.links e).2
    exact ⟨p, by rw [List.getElem?_append_left (List.getElem?_eq_some_iff.1 hp).1]; exact hp, hk⟩
theorem bd_hi {G : Pgs} {h : Nat} {L M : List Pr} {mid hi : ByteArray} {R1 R2 : List Pr} {Q1 Q2 : List Int} {level : Int} (hl : level = (h : Int) + 1) (h2 : Thin level mid hi M) (b1 : Bd G h L mid R1 Q1) (b2 : Bd G h M hi R2 Q2) : Bd G h (L ++ M) hi (R1 ++ R2) (Q1 ++ Q2) := by
  refine bd_append.2 ⟨R1, Q1, R2, Q2, ?_, b2, rfl, rfl⟩
  cases h with
  | zero => exact b1
  | succ h =>
    obtain ⟨p, hp, hk⟩ := (h2.links (by omega)).2
    rw [hiO_of hp, hk]
    exact b1
end Go.Proofs.YtcjfnfdinhbdlaaGreatDoor
namespace Go.Proofs.YtcjfnfdinhbdlaaGreatDoor
set_option maxRecDepth 100000
open Go.ChangeShapes Go.WideShapes Go.ChangeAt Go.RowKit Go.PlainAid
structure TwoN (G : Pgs) (h : Nat) (u l r : NdD) (M1 M2 : List Pr) (pl pr : Pr) (R1 Rl Rr R2 : List Pr) (Q1 Ql Qr Q2 : List Int) : Prop where
  list : u.L = M1 ++ pl :: pr :: M2
  lev : u.level = (h : Int) + 2
  llev : l.level = (h : Int) + 1
  rlev : r.level = (h : Int) + 1
  law : Lawful u.level u.low u.high u.L
  lat : numP pl.val = l.at_
  llow : l.low = pl.key
  lhigh : l.high = pr.key
  rat : numP pr.val = r.at_
  rlow : r.low = pr.key
  rhigh : r.high = hiO M2 u.high
  lthin : Thin l.level l.low l.high l.L
  rthin : Thin r.level r.low r.high r.L
  one : Lawful l.level l.low l.high l.L ∨ Lawful r.level r.low r.high r.L
  light : wtP l.level l.L + wtP r.level r.L ≤ 394
  bl : Bd G h l.L l.high Rl Ql
  br : Bd G h r.L r.high Rr Qr
  k1 : Ks (Tr G h) M1 pl.key R1 Q1
  k2 : Ks (Tr G h) M2 u.high R2 Q2
theorem thin_less {level : Int} {lo hi : ByteArray} {M1 M2 : List Pr} {pl pr : Pr} (h : Lawful level lo hi (M1 ++ pl :: pr :: M2)) (hl : 1 < level) : Thin level lo hi (M1 ++ pl :: M2) := by
  obtain ⟨s, b⟩ := risB_iff.1 h.rise
  obtain ⟨s1, s2, s3⟩ := srt_parts s
  obtain ⟨s4, s5⟩ := srt_tail s2
  obtain ⟨s6, s7⟩ := srt_tail s4
  obtain ⟨a1, a2, p0, a3, a4⟩ := lnkB_iff.1 (h.links (by omega))
  refine ⟨h.pos, risB_iff.2 ⟨srt_append s1 (srt_cons s6 fun q hq => s5 q (List.mem_cons_of_mem _ hq)) fun a ha c hc => ?_, fun p hp => ?_⟩, fun e => by omega, fun _ => ⟨fun p hp => ?_, p0, ?_, a4⟩, ?_⟩
  · rcases List.mem_cons.1 hc with rfl | hc
    · exact s3 a ha _ List.mem_cons_self
    · exact s3 a ha c (by simp [hc])
  · simp only [List.mem_append, List.mem_cons] at hp
    refine b p ?_
    simp only [List.mem_append, List.mem_cons]
    rcases hp with h | h | h
    · exact .inl h
    · exact .inr (.inl h)
    · exact .inr (.inr (.inr h))
  · simp only [List.mem_append, List.mem_cons] at hp
    refine a1 p ?_
    simp only [List.mem_append, List.mem_cons]
    rcases hp with h | h | h
    · exact .inl h
    · exact .inr (.inl h)
    · exact .inr (.inr (.inr h))
  · cases M1 with
    | nil => exact a3
    | cons x l => exact a3
  · have := h.weight
    rw [wtP_link hl] at this ⊢
    simp only [List.length_append, List.length_cons] at this ⊢
    omega
theorem thin_insert {level : Int} {lo hi : ByteArray} {L1 L2 : List Pr} {p q : Pr} (h : Thin level lo hi (L1 ++ p :: L2)) (hl : 1 < level) (hq : q.val.size = 2) (hk : q.key.size ≤ 32) (h1 : lessB p.key q.key = true) (h2 : (hiO L2 hi).size = 0 ∨ lessB q.key (hiO L2 hi) = true)
    (hw : 36 * (L1.length + L2.length + 2) ≤ 254) : Thin level lo hi (L1 ++ p :: q :: L2) := by
  obtain ⟨hs, hb⟩ := risB_iff.1 h.rise
  obtain ⟨s1, s2, s3⟩ := srt_parts hs
  obtain ⟨t1, t2⟩ := srt_tail s2
  have hp := hb p (by simp)
  have hqL : (hi.size = 0 ∨ lessB q.key hi = true) ∧ ∀ y ∈ L2, lessB q.key y.key = true := by
    cases L2 with
    | nil => exact ⟨h2, fun y hy => by cases hy⟩
    | cons y l =>
      have hne := not_empty_of_less (t2 y List.mem_cons_self)
      have h6 : lessB q.key y.key = true := h2.resolve_left hne
      have hy := hb y (by simp)
      refine ⟨hy.high.imp id fun h => lessB_trans h6 h, fun z hz => ?_⟩
      rcases List.mem_cons.1 hz with rfl | hz
      · exact h6
      · exact lessB_trans h6 ((srt_tail t1).2 z hz)
  refine ⟨h.pos, risB_iff.2 ⟨srt_append s1 (srt_cons (srt_cons t1 hqL.2) fun z hz => ?_) fun a ha b hb2 => ?_, fun z hz => ?_⟩, fun e => by omega, fun _ => ?_, ?_⟩
  · rcases List.mem_cons.1 hz with rfl | hz
    · exact h1
    · exact t2 z hz
  · rcases List.mem_cons.1 hb2 with rfl | hb2
    · exact s3 a ha _ List.mem_cons_self
    · rcases List.mem_cons.1 hb2 with rfl | hb2
      · exact lessB_trans (s3 a ha p List.mem_cons_self) h1
      · exact s3 a ha b (List.mem_cons_of_mem _ hb2)
  · simp only [List.mem_append, List.mem_cons] at hz
    rcases hz with hz | rfl | rfl | hz
    · exact hb z (by simp [hz])
    · exact hp
    · exact ⟨hk, lessB_le2 (lessB_asymm h1) hp.low, hqL.1⟩
    · exact hb z (by simp [hz])
  · obtain ⟨a, c, hc, hk⟩ := h.links (by omega)
    refine ⟨fun z hz => ?_, c, ?_, hk⟩
    · simp only [List.mem_append, List.mem_cons] at hz
      rcases hz with hz | rfl | rfl | hz
      · exact a z (by simp [hz])
      · exact a z (by simp)
      · exact hq
      · exact a z (by simp [hz])
    · cases L1 with
      | nil => exact hc
      | cons x l => exact hc
  · rw [wtP_link hl]
    simp only [List.length_append, List.length_cons]
    omega
def SetOk (G : Pgs) (s : NdD) : Prop := (∃ L0, G s.at_ = some (s.level, L0)) ∧ ∃ lo hi, Lawful s.level lo hi s.L
section
variable {G G2 : Pgs} {h : Nat} {u l r : NdD} {M1 M2 : List Pr} {pl pr : Pr} {R1 Rl Rr R2 : List Pr} {Q1 Ql Qr Q2 : List Int}
theorem TwoN.near (t : TwoN G h u l r M1 M2 pl pr R1 Rl Rr R2 Q1 Ql Qr Q2) : Near l.level l.low r.high (l.L ++ r.L) ∧ lessB pl.key pr.key = true ∧ posP r.low u.L = M1.length + 1 ∧ u.L[M1.length + 1]? = some pr ∧ Bd G h (l.L ++ r.L) r.high (Rl ++ Rr) (Ql ++ Qr) := by
  have hlaw := t.law
  rw [t.list] at hlaw
  obtain ⟨s, b⟩ := risB_iff.1 hlaw.rise
  obtain ⟨s1, s2, s3⟩ := srt_parts s
  obtain ⟨s4, s5⟩ := srt_tail s2
  obtain ⟨s6, s7⟩ := srt_tail s4
  have hlt : lessB pl.key pr.key = true := s5 pr List.mem_cons_self
  have hhi : r.high.size = 0 ∨ lessB pr.key r.high = true := by
    rw [t.rhigh]
    cases M2 with
    | nil => exact (b pr (by simp)).high
    | cons z m => exact .inr (s7 z List.mem_cons_self)
  have hat : u.L[M1.length + 1]? = some pr := by
    rw [t.list, List.getElem?_append_right (by omega), show M1.length + 1 - M1.length = 0 + 1 by omega]
    rfl
  have hrt := t.rthin
  have hlt2 := t.lthin
  have hone := t.one
  rw [t.lhigh] at hlt2 hone
  rw [t.rlow, show r.level = l.level by rw [t.rlev, t.llev]] at hrt hone
  refine ⟨near_join hlt2 hrt (by rw [t.llow]; exact hlt) hhi hone, hlt, ?_, hat, ?_⟩
  · rw [t.rlow]
    exact (hitP_of (by rw [t.list]; exact s) hat rfl).1
  · have hbl := t.bl
    rw [t.lhigh] at hbl
    exact bd_hi t.llev hrt hbl t.br
theorem TwoN.join (t : TwoN G h u l r M1 M2 pl pr R1 Rl Rr R2 Q1 Ql Qr Q2) (hf : fitsP l r = true) (h1 : G2 l.at_ = some (l.level, (leftJ l r).L)) (h2 : ∀ c ∈ Q1 ++ (Ql ++ (Qr ++ Q2)), G2 c = G c) :
    Bd G2 (h + 1) (upJ u l r).L u.high (R1 ++ ((Rl ++ Rr) ++ R2)) (Q1 ++ ((l.at_ :: (Ql ++ Qr)) ++ Q2)) ∧ Thin u.level u.low u.high (upJ u l r).L ∧ Lawful l.level l.low r.high (leftJ l r).L := by
  obtain ⟨n1, n2, n3, n4, n5⟩ := t.near
  have hlaw := t.law
  rw [t.list] at hlaw
  have e1 : (upJ u l r).L = M1 ++ pl :: M2 := by
    unfold upJ
    rw [if_pos hf, n3, t.list]
    rw [show M1 ++ pl :: pr :: M2 = (M1 ++ [pl]) ++ pr :: M2 by simp, List.take_left' (by simp), show (M1 ++ [pl]) ++ pr :: M2 = (M1 ++ [pl] ++ [pr]) ++ M2 by simp, List.drop_left' (by simp)]
    simp
  have e2 : (leftJ l r).L = l.L ++ r.L := by unfold leftJ; rw [if_pos hf]
  have hw : wtP l.level (l.L ++ r.L) ≤ 254 := of_decide_eq_true hf
  rw [e1, e2]
  rw [e2] at h1
  refine ⟨ks_mid.2 ⟨R1, Q1, Rl ++ Rr, l.at_ :: (Ql ++ Qr), R2, Q2, ks_frame t.k1 fun c hc => h2 c (by simp [hc]), ?_, ks_frame t.k2 fun c hc => h2 c (by simp [hc]), rfl, rfl⟩, thin_less hlaw (by rw [t.lev]; omega), n1.lawful hw⟩
  rw [t.lat, ← t.llow, ← t.rhigh]
  refine tr_iff.2 ⟨l.L ++ r.L, Ql ++ Qr, by rw [h1, t.llev], by rw [← t.llev]; exact n1.lawful hw, bd_frame n5 fun c hc => h2 c ?_, rfl⟩
  rcases List.mem_append.1 hc with hc | hc <;> simp [hc]
theorem TwoN.share (t : TwoN G h u l r M1 M2 pl pr R1 Rl Rr R2 Q1 Ql Qr Q2) (hf : ¬ fitsP l r = true) (h1 : G2 l.at_ = some (l.level, (leftJ l r).L)) (h3 : G2 r.at_ = some (r.level, (rightJ l r).L)) (h2 : ∀ c ∈ Q1 ++ (Ql ++ (Qr ++ Q2)), G2 c = G c) :
    ∃ Qa Qb, Ql ++ Qr = Qa ++ Qb ∧ Bd G2 (h + 1) (upJ u l r).L u.high (R1 ++ ((Rl ++ Rr) ++ R2)) (Q1 ++ ((l.at_ :: Qa) ++ ((r.at_ :: Qb) ++ Q2))) ∧ Thin u.level u.low u.high (upJ u l r).L ∧ (∃ hi, Lawful l.level l.low hi (leftJ l r).L) ∧ ∃ lo, Lawful r.level lo r.high (rightJ l r).L := by
  obtain ⟨n1, n2, n3, n4, n5⟩ := t.near
  have hlaw := t.law
  rw [t.list] at hlaw
  have hw : 254 < wtP l.level (l.L ++ r.L) := by
    have : ¬ wtP l.level (l.L ++ r.L) ≤ 254 := fun h => hf (decide_eq_true h)
    omega
  have hc := half_ok n1.sz hw (by rw [wtP_app]; have := t.light; rw [show r.level = l.level by rw [t.rlev, t.llev]] at this; exact this)
  obtain ⟨m, hm⟩ : ∃ m, (l.L ++ r.L)[halfP l.level (l.L ++ r.L)]? = some m := ⟨_, List.getElem?_eq_getElem hc.lt⟩
  have e1 : (upJ u l r).L = M1 ++ pl :: ⟨m.key, pr.val⟩ :: M2 := by
    unfold upJ
    rw [if_neg hf, n3, n4, hm, t.list]
    show (M1 ++ pl :: pr :: M2).set (M1.length + 1) _ = _
    rw [List.set_append_right _ _ (by omega), show M1.length + 1 - M1.length = 0 + 1 by omega]
    rfl
  have e2 : (leftJ l r).L = (l.L ++ r.L).take (halfP l.level (l.L ++ r.L)) := by unfold leftJ; rw [if_neg hf]
  have e3 : (rightJ l r).L = (l.L ++ r.L).drop (halfP l.level (l.L ++ r.L)) := by unfold rightJ; rw [if_neg hf]
  rw [e1, e2, e3]
  rw [e2] at h1
  rw [e3] at h3
  generalize halfP l.level (l.L ++ r.L) = k at *
  have hsp := n1
  have hbp := n5
  rw [← List.take_append_drop k (l.L ++ r.L)] at hsp hbp
  have hm2 : ((l.L ++ r.L).drop k)[0]? = some m := by rw [List.getElem?_drop, Nat.add_zero]; exact hm
  obtain ⟨p1, p2, p3, p4⟩ := near_split hsp hm2 (fun e => by have h9 := congrArg List.length e; rw [List.length_take, List.length_nil] at h9; have := hc.lt; have := hc.pos; omega) (fun e => by
    have := hc.two (by have := n1.pos; omega)
    rw [List.length_take, List.length_drop]
    omega)
  obtain ⟨Ra, Qa, Rb, Qb, b1, b2, er, eq⟩ := bd_append.1 hbp
  rw [hiO_of hm2] at b1
  have hrl : r.level = l.level := by rw [t.rlev, t.llev]
  have hfr : ∀ c ∈ Qa ++ Qb, G2 c = G c := fun c hc => h2 c (by
    rw [← eq] at hc
    rcases List.mem_append.1 hc with hc | hc <;> simp [hc])
  refine ⟨Qa, Qb, eq, ?_, ?_, ⟨_, p1.lawful hc.left⟩, ⟨_, by rw [hrl]; exact p2.lawful hc.right⟩⟩
  · rw [er]
    refine ks_mid.2 ⟨R1, Q1, Ra, l.at_ :: Qa, Rb ++ R2, (r.at_ :: Qb) ++ Q2, ks_frame t.k1 fun c hc => h2 c (by simp [hc]), ?_, ⟨Rb, r.at_ :: Qb, R2, Q2, ?_, ks_frame t.k2 fun c hc => h2 c (by simp [hc]), rfl, rfl⟩, by simp, rfl⟩
    · rw [t.lat, ← t.llow]
      exact tr_iff.2 ⟨_, Qa, by rw [h1, t.llev], by rw [← t.llev]; exact p1.lawful hc.left, bd_frame b1 fun c hc => hfr c (List.mem_append_left _ hc), rfl⟩
    · show Tr G2 h (numP pr.val) m.key (hiO M2 u.high) Rb (r.at_ :: Qb)
      rw [t.rat, ← t.rhigh]
      exact tr_iff.2 ⟨_, Qb, by rw [h3, t.rlev], by rw [← t.llev]; exact p2.lawful hc.right, bd_frame b2 fun c hc => hfr c (List.mem_append_right _ hc), rfl⟩
  · have hl2 : 1 < u.level := by rw [t.lev]; omega
    have hw2 := hlaw.weight
    rw [wtP_link hl2] at hw2
    simp only [List.length_append, List.length_cons] at hw2
    exact thin_insert (thin_less hlaw hl2) hl2 ((lnkB_iff.1 (hlaw.links (by omega))).1 pr (by simp)) p3.small (by rw [← t.llow]; exact p4) (by rw [← t.rhigh]; exact p3.high) (by omega)
end
end Go.Proofs.YtcjfnfdinhbdlaaGreatDoor
namespace Go.Proofs.YtcjfnfdinhbdlaaGreatDoor
set_option maxRecDepth 100000
open Go.ChangeShapes Go.WideShapes Go.ChangeAt Go.RowKit Go.PlainAid
section
variable {V : Int → ByteArray} {out : Int → Bool}
theorem wy_root {G : Pgs} {a0 : Int} : ∀ {us : List (NdD × Nat)} {u : NdD × Nat} {h : Nat} {a : Int} {lo hi : ByteArray} {A B : List Pr} {C : List Int}, Wy G a0 (u :: us) h a lo hi A B C → spentP (rootU us u.1).level (rootU us u.1).L = false ∧ (rootU us u.1).at_ = a0
  | [], u, h, a, lo, hi, A, B, C, ⟨L1, p, L2, R1, Q1, R2, Q2, A', B', C', h1, h2, h3, h4, h5, h6, h7, h8, h9, h10, ⟨h11, _⟩, _⟩ => by
    refine ⟨?_, h11⟩
    have := (lnkB_iff.1 (h5.links (by omega))).2.1
    show spentP u.1.level u.1.L = false
    unfold spentP
    rw [decide_eq_false (by omega), decide_eq_false (p := u.1.L.length = 1) (by omega)]
    simp
  | v :: us, u, h, a, lo, hi, A, B, C, ⟨L1, p, L2, R1, Q1, R2, Q2, A', B', C', h1, h2, h3, h4, h5, h6, h7, h8, h9, h10, h11, _⟩ => wy_root (us := us) (u := v) h11
theorem kid_read {u : NdD} {L1 L2 : List Pr} {p : Pr} {h : Nat} {R : List Pr} {Q : List Int} (e : u.L = L1 ++ p :: L2) (hl : u.level = (h : Int) + 2) (t : Tr (seeG V out) h (numP p.val) p.key (hiO L2 u.high) R Q) :
    ∃ y Q', rdN V out (kidN u L1.length) = (y, false) ∧ y.at_ = numP p.val ∧ y.low = p.key ∧ y.high = hiO L2 u.high ∧ y.level = (h : Int) + 1 ∧ Lawful y.level y.low y.high y.L ∧ Bd (seeG V out) h y.L y.high R Q' ∧ Q = y.at_ :: Q' ∧ seeG V out y.at_ = some (y.level, y.L) := by
  obtain ⟨L, Q', t1, t2, t3, t4⟩ := tr_iff.1 t
  have hat : u.L[L1.length]? = some p := by rw [e, List.getElem?_append_right (by omega), Nat.sub_self]; rfl
  have hat1 : (match u.L[L1.length + 1]? with | some q => q.key | none => u.high) = hiO L2 u.high := by
    rw [e, List.getElem?_append_right (by omega), show L1.length + 1 - L1.length = 0 + 1 by omega, List.getElem?_cons_succ]
    cases L2 <;> rfl
  obtain ⟨d1, d2, d3⟩ := kidN_at hat
  have d3 := d3.trans hat1
  have d0 : (kidN u L1.length).at_ = numP p.val := by unfold kidN; rw [hat]
  have hr : rdP V out (kidN u L1.length) = some ((h : Int) + 1, L) := rdP_get (by rw [d0]; exact t1) (.inr (by rw [d1, hl]; omega)) (by rw [d2, d3]; exact t2)
  refine ⟨{ kidN u L1.length with level := (h : Int) + 1, L := L }, Q', ?_, d0, d2, d3, rfl, ?_, ?_, ?_, by show seeG V out (kidN u L1.length).at_ = _; rw [d0]; exact t1⟩
  · unfold rdN
    rw [hr]
  · show Lawful _ (kidN u L1.length).low (kidN u L1.length).high L
    rw [d2, d3]
    exact t2
  · show Bd _ h L (kidN u L1.length).high R Q'
    rw [d3]
    exact t3
  · show Q = (kidN u L1.length).at_ :: Q'
    rw [d0]
    exact t4
def ShrOk (V : Int → ByteArray) (out : Int → Bool) (us : List (NdD × Nat)) (x : NdD) (S : List NdD) (Z : List Int) (R : List Pr) (P : List Int) : Prop :=
  ∃ S' Z1 rt, shrP V out us x S Z = some (S', Z ++ Z1, rt) ∧ (∀ s ∈ S', SetOk (seeG V out) s) ∧ (∀ c, c ∉ P → finG (seeG V out) S' (Z ++ Z1) c = finG (seeG V out) S Z c) ∧
    ((rt = 0 ∧ R = [] ∧ P.Perm Z1) ∨ ∃ H Qn, Tr (finG (seeG V out) S' (Z ++ Z1)) H rt ⟨#[]⟩ ⟨#[]⟩ R Qn ∧ P.Perm (Qn ++ Z1))
theorem shr_ok {a0 : Int} : ∀ {us : List (NdD × Nat)} {x : NdD} {h : Nat} {R A B : List Pr} {Q' C : List Int} {S : List NdD} {Z : List Int}, x.level = (h : Int) + 1 → Thin x.level x.low x.high x.L → Bd (finG (seeG V out) S Z) h x.L x.high R Q' →
    Wy (seeG V out) a0 us h x.at_ x.low x.high A B C → (x.at_ :: (Q' ++ C)).Nodup → (∀ c ∈ x.at_ :: C, c ∉ Z ∧ finG (seeG V out) S Z c = seeG V out c) → (∃ L0, seeG V out x.at_ = some (x.level, L0)) → (∀ s ∈ S, SetOk (seeG V out) s) →
    ShrOk V out us x S Z (A ++ (R ++ B)) (x.at_ :: (Q' ++ C)) := by
  -- a page that is written as it is
  have wr : ∀ {us : List (NdD × Nat)} {x : NdD} {h : Nat} {R A B : List Pr} {Q' C : List Int} {S : List NdD} {Z : List Int}, x.level = (h : Int) + 1 → Lawful x.level x.low x.high x.L → Bd (finG (seeG V out) S Z) h x.L x.high R Q' →
      Wy (seeG V out) a0 us h x.at_ x.low x.high A B C → (x.at_ :: (Q' ++ C)).Nodup → (∀ c ∈ x.at_ :: C, c ∉ Z ∧ finG (seeG V out) S Z c = seeG V out c) → (∃ L0, seeG V out x.at_ = some (x.level, L0)) → (∀ s ∈ S, SetOk (seeG V out) s) →
      shrP V out us x S Z = some (S ++ [x], Z, a0) → ShrOk V out us x S Z (A ++ (R ++ B)) (x.at_ :: (Q' ++ C)) := by
    intro us x h R A B Q' C S Z hl hn hb hw hnd hz ha hS he
    obtain ⟨hx, hnd2⟩ := List.nodup_cons.1 hnd
    have hxz := (hz x.at_ List.mem_cons_self).1
    have t : Tr (finG (seeG V out) (S ++ [x]) Z) h x.at_ x.low x.high R (x.at_ :: Q') := tr_iff.2 ⟨x.L, Q', by rw [finG_set hxz, if_pos rfl, hl], by rw [← hl]; exact hn, bd_frame hb fun c hc => by rw [finG_set hxz, if_neg fun e => hx (by rw [← e]; simp [hc])], rfl⟩
    obtain ⟨Qn, t2, hp⟩ := wy_climb (wy_frame (G' := finG (seeG V out) (S ++ [x]) Z) hw fun c hc => by rw [finG_set hxz, if_neg fun e => hx (by rw [← e]; simp [hc])]; exact (hz c (List.mem_cons_of_mem _ hc)).2) t
    refine ⟨S ++ [x], [], a0, by rw [List.append_nil]; exact he, fun s hs => ?_, fun c hc => ?_, .inr ⟨_, Qn, by rw [List.append_nil]; exact t2, by rw [List.append_nil]; exact hp.symm⟩⟩
    · rcases List.mem_append.1 hs with hs | hs
      · exact hS s hs
      · simp only [List.mem_singleton] at hs
        subst hs
        exact ⟨ha, _, _, hn⟩
    · rw [List.append_nil, finG_set hxz, if_neg fun e => hc (by simp [e])]
  intro us
  induction us with
  | nil =>
    intro x h R A B Q' C S Z hl hn hb hw hnd hz ha hS
    cases hs : spentP x.level x.L with
    | false =>
      have e0 := hw.1
      refine wr hl (thin_end hn hs) hb hw hnd hz ha hS ?_
      show some (endP x x S Z) = _
      unfold endP
      rw [if_neg (by rw [hs]; simp), e0]
    | true =>
      obtain ⟨e1, e2, e3, rfl, rfl, rfl⟩ := hw
      obtain ⟨hx, hnd2⟩ := List.nodup_cons.1 hnd
      have he : shrP V out [] x S Z = some (S, Z ++ [x.at_], heirP x.level x.L) := by
        show some (endP x x S Z) = _
        unfold endP
        rw [if_pos hs]
      refine ⟨S, [x.at_], _, he, hS, fun c hc => by rw [finG_del, if_neg fun e => hc (by simp [e])], ?_⟩
      cases h with
      | zero =>
        obtain ⟨rfl, rfl⟩ := hb
        have hx0 : x.L = [] := by
          unfold spentP at hs
          rw [hl] at hs
          simpa using hs
        refine .inl ⟨?_, by rw [hx0]; rfl, by simp⟩
        unfold heirP
        rw [if_pos (by omega)]
      | succ h =>
        obtain ⟨_, p, hp, hk⟩ := hn.links (by omega)
        have hx1 : x.L = [p] := by
          unfold spentP at hs
          have hlen := (List.getElem?_eq_some_iff.1 hp).1
          simp only [Bool.or_eq_true, Bool.and_eq_true, decide_eq_true_eq] at hs
          have h1 : x.L.length = 1 := by omega
          obtain ⟨q, hq⟩ := List.length_eq_one_iff.1 h1
          rw [hq] at hp ⊢
          have hp : some q = some p := hp
          cases hp
          rfl
        have hkt : Ks (Tr (finG (seeG V out) S Z) h) x.L x.high R Q' := hb
        rw [hx1] at hkt
        have t := ks_one.1 hkt
        rw [hk, e2, e3] at t
        refine .inr ⟨h, Q', ?_, ?_⟩
        · unfold heirP
          rw [if_neg (by omega), hp, List.nil_append, List.append_nil]
          exact tr_frame t fun c hc => by rw [finG_del, if_neg fun e => hx (by rw [← e]; simp [hc])]
        · rw [List.append_nil, List.perm_iff_count]
          intro c
          simp only [List.count_append, List.count_cons, List.count_nil]
          omega
  | cons u us ih =>
    intro x h R A B Q' C S Z hl hn hb hw hnd hz ha hS
    by_cases hlt : 2 * wtP x.level x.L < 254
    · obtain ⟨hx, hnd2⟩ := List.nodup_cons.1 hnd
      obtain ⟨L1, p, L2, R1, Q1, R2, Q2, A', B', C', h1, h2, h3, h4, h5, h6, h7, h8, h9, h10, h11, rfl, rfl, rfl⟩ := hw
      have hC : ∀ c ∈ u.1.at_ :: (Q1 ++ (Q2 ++ C')), c ∉ Z ∧ finG (seeG V out) S Z c = seeG V out c := fun c hc => hz c (List.mem_cons_of_mem _ hc)
      -- the two, whichever is the left one
      have step : ∀ (l r : NdD) (M1 M2 : List Pr) (pl pr : Pr) (Ra Rl Rr Rb : List Pr) (Qa Ql Qr Qb : List Int), besP V out u x = some (l, r) → TwoN (finG (seeG V out) S Z) h u.1 l r M1 M2 pl pr Ra Rl Rr Rb Qa Ql Qr Qb → A' ++ R1 ++ (R ++ (R2 ++ B')) = A' ++ ((Ra ++ ((Rl ++ Rr) ++ Rb)) ++ B') →
          (x.at_ :: (Q' ++ (u.1.at_ :: (Q1 ++ (Q2 ++ C'))))).Perm (r.at_ :: l.at_ :: (u.1.at_ :: ((Qa ++ (Ql ++ (Qr ++ Qb))) ++ C'))) → l.at_ ∉ Z → r.at_ ∉ Z → (∃ L0, seeG V out l.at_ = some (l.level, L0)) → (∃ L0, seeG V out r.at_ = some (r.level, L0)) →
          ShrOk V out (u :: us) x S Z (A' ++ R1 ++ (R ++ (R2 ++ B'))) (x.at_ :: (Q' ++ (u.1.at_ :: (Q1 ++ (Q2 ++ C'))))) := by
        intro l r M1 M2 pl pr Ra Rl Rr Rb Qa Ql Qr Qb hbes htwo hrec hperm hlz hrz hls hrs
        have hndp := (List.Perm.nodup_iff hperm).1 hnd
        obtain ⟨hr0, hndp2⟩ := List.nodup_cons.1 hndp
        obtain ⟨hl0, hndp3⟩ := List.nodup_cons.1 hndp2
        have hrl : r.at_ ≠ l.at_ := fun e => hr0 (by rw [e]; exact List.mem_cons_self)
        have hle : shrP V out (u :: us) x S Z = if fitsP l r = true then shrP V out us (upJ u.1 l r) (S ++ [leftJ l r]) (Z ++ [r.at_]) else shrP V out us (upJ u.1 l r) (S ++ [rightJ l r] ++ [leftJ l r]) Z := by
          show (if 2 * wtP x.level x.L < 254 then _ else _) = _
          rw [if_pos hlt, hbes]
        have hCz : ∀ c ∈ u.1.at_ :: C', c ∉ Z ∧ finG (seeG V out) S Z c = seeG V out c ∧ c ≠ r.at_ ∧ c ≠ l.at_ := fun c hc => by
          have hc2 : c ∈ u.1.at_ :: ((Qa ++ (Ql ++ (Qr ++ Qb))) ++ C') := by
            rcases List.mem_cons.1 hc with rfl | hc
            · exact List.mem_cons_self
            · simp [hc]
          have hc3 := hC c (by
            rcases List.mem_cons.1 hc with rfl | hc
            · exact List.mem_cons_self
            · simp [hc])
          exact ⟨hc3.1, hc3.2, fun e => hr0 (by rw [← e]; exact List.mem_cons_of_mem _ hc2), fun e => hl0 (by rw [← e]; exact hc2)⟩
        have hQn : ∀ c ∈ Qa ++ (Ql ++ (Qr ++ Qb)), c ≠ r.at_ ∧ c ≠ l.at_ := fun c hc => ⟨fun e => hr0 (by rw [← e]; exact List.mem_cons_of_mem _ (List.mem_cons_of_mem _ (List.mem_append_left _ hc))), fun e => hl0 (by rw [← e]; exact List.mem_cons_of_mem _ (List.mem_append_left _ hc))⟩
        have hus : ∃ L0, seeG V out (upJ u.1 l r).at_ = some ((upJ u.1 l r).level, L0) := ⟨_, h4⟩
        have hulev : (upJ u.1 l r).level = ((h + 1 : Nat) : Int) + 1 := by show u.1.level = _; rw [h3]; push_cast; omega
        by_cases hf : fitsP l r = true
        · have hG2 : ∀ c, finG (seeG V out) (S ++ [leftJ l r]) (Z ++ [r.at_]) c = if c = r.at_ then none else if c = l.at_ then some (l.level, (leftJ l r).L) else finG (seeG V out) S Z c := fun c => by
            rw [finG_del, finG_set (y := leftJ l r) hlz]
            rfl
          obtain ⟨j1, j2, j3⟩ := htwo.join (G2 := finG (seeG V out) (S ++ [leftJ l r]) (Z ++ [r.at_])) hf (by rw [hG2, if_neg fun e => hrl e.symm, if_pos rfl]) (fun c hc => by rw [hG2, if_neg (hQn c hc).1, if_neg (hQn c hc).2])
          have hp2 : (l.at_ :: (u.1.at_ :: ((Qa ++ (Ql ++ (Qr ++ Qb))) ++ C'))).Perm (u.1.at_ :: ((Qa ++ ((l.at_ :: (Ql ++ Qr)) ++ Qb)) ++ C')) := by
            rw [List.perm_iff_count]
            intro c
            simp only [List.count_append, List.count_cons]
            omega
          obtain ⟨S', Z1, rt, g1, g2, g3, g4⟩ := ih (x := upJ u.1 l r) (h := h + 1) (S := S ++ [leftJ l r]) (Z := Z ++ [r.at_]) hulev j2 j1 h11 ((List.Perm.nodup_iff hp2).1 hndp2) (fun c hc => by
            obtain ⟨c1, c2, c3, c4⟩ := hCz c hc
            refine ⟨by simp [c1, c3], ?_⟩
            rw [hG2, if_neg c3, if_neg c4]
            exact c2) hus (fun s hs => by
            rcases List.mem_append.1 hs with hs | hs
            · exact hS s hs
            · simp only [List.mem_singleton] at hs
              subst hs
              exact ⟨hls, _, _, j3⟩)
          have ez : (Z ++ [r.at_]) ++ Z1 = Z ++ (r.at_ :: Z1) := by simp
          rw [ez] at g1 g3 g4
          have hpn : ∀ Qx, (u.1.at_ :: ((Qa ++ ((l.at_ :: (Ql ++ Qr)) ++ Qb)) ++ C')).Perm Qx → (x.at_ :: (Q' ++ (u.1.at_ :: (Q1 ++ (Q2 ++ C'))))).Perm (r.at_ :: Qx) := fun Qx h => hperm.trans (List.Perm.cons _ (hp2.trans h))
          refine ⟨S', r.at_ :: Z1, rt, by rw [hle, if_pos hf]; exact g1, g2, fun c hc => ?_, ?_⟩
          · have hc2 : c ∉ r.at_ :: (u.1.at_ :: ((Qa ++ ((l.at_ :: (Ql ++ Qr)) ++ Qb)) ++ C')) := fun h => hc ((hpn _ (List.Perm.refl _)).mem_iff.2 h)
            rw [g3 c fun h => hc2 (List.mem_cons_of_mem _ h), hG2, if_neg fun e => hc2 (by simp [e]), if_neg fun e => hc2 (by simp [e])]
          · rw [hrec]
            rcases g4 with ⟨a1, a2, a3⟩ | ⟨H, Qn, a1, a2⟩
            · exact .inl ⟨a1, a2, hpn _ a3⟩
            · refine .inr ⟨H, Qn, a1, (hpn _ a2).trans ?_⟩
              rw [List.perm_iff_count]
              intro c
              simp only [List.count_append, List.count_cons]
              omega
        · have hG2 : ∀ c, finG (seeG V out) (S ++ [rightJ l r] ++ [leftJ l r]) Z c = if c = l.at_ then some (l.level, (leftJ l r).L) else if c = r.at_ then some (r.level, (rightJ l r).L) else finG (seeG V out) S Z c := fun c => by
            rw [finG_set (y := leftJ l r) hlz, finG_set (y := rightJ l r) hrz]
            rfl
          obtain ⟨Qc, Qd, j0, j1, j2, ⟨_, j3⟩, ⟨_, j4⟩⟩ := htwo.share (G2 := finG (seeG V out) (S ++ [rightJ l r] ++ [leftJ l r]) Z) hf (by rw [hG2, if_pos rfl]) (by rw [hG2, if_neg hrl, if_pos rfl]) (fun c hc => by rw [hG2, if_neg (hQn c hc).2, if_neg (hQn c hc).1])
          have hp2 : (r.at_ :: l.at_ :: (u.1.at_ :: ((Qa ++ (Ql ++ (Qr ++ Qb))) ++ C'))).Perm (u.1.at_ :: ((Qa ++ ((l.at_ :: Qc) ++ ((r.at_ :: Qd) ++ Qb))) ++ C')) := by
            rw [List.perm_iff_count]
            intro c
            have := congrArg (List.count c) j0
            simp only [List.count_append] at this
            simp only [List.count_append, List.count_cons]
            omega
          obtain ⟨S', Z1, rt, g1, g2, g3, g4⟩ := ih (x := upJ u.1 l r) (h := h + 1) (S := S ++ [rightJ l r] ++ [leftJ l r]) (Z := Z) hulev j2 j1 h11 ((List.Perm.nodup_iff hp2).1 hndp) (fun c hc => by
            obtain ⟨c1, c2, c3, c4⟩ := hCz c hc
            refine ⟨c1, ?_⟩
            rw [hG2, if_neg c4, if_neg c3]
            exact c2) hus (fun s hs => by
            rcases List.mem_append.1 hs with hs | hs
            · rcases List.mem_append.1 hs with hs | hs
              · exact hS s hs
              · simp only [List.mem_singleton] at hs
                subst hs
                exact ⟨hrs, _, _, j4⟩
            · simp only [List.mem_singleton] at hs
              subst hs
              exact ⟨hls, _, _, j3⟩)
          have hpn : ∀ Qx, (u.1.at_ :: ((Qa ++ ((l.at_ :: Qc) ++ ((r.at_ :: Qd) ++ Qb))) ++ C')).Perm Qx → (x.at_ :: (Q' ++ (u.1.at_ :: (Q1 ++ (Q2 ++ C'))))).Perm Qx := fun Qx h => hperm.trans (hp2.trans h)
          refine ⟨S', Z1, rt, by rw [hle, if_neg hf]; exact g1, g2, fun c hc => ?_, ?_⟩
          · have hc2 : c ∉ u.1.at_ :: ((Qa ++ ((l.at_ :: Qc) ++ ((r.at_ :: Qd) ++ Qb))) ++ C') := fun h => hc ((hpn _ (List.Perm.refl _)).mem_iff.2 h)
            rw [g3 c hc2, hG2, if_neg fun e => hc2 (by simp [e]), if_neg fun e => hc2 (by simp [e])]
          · rw [hrec]
            rcases g4 with ⟨a1, a2, a3⟩ | ⟨H, Qn, a1, a2⟩
            · exact .inl ⟨a1, a2, hpn _ a3⟩
            · exact .inr ⟨H, Qn, a1, hpn _ a2⟩
      have hxz := (hz x.at_ List.mem_cons_self).1
      have hlaw := h5
      rw [h1] at hlaw
      cases L2 with
      | cons pr M2 =>
        obtain ⟨rr, qq, R2', Q2', k1, k2, rfl, rfl⟩ := h10
        obtain ⟨y, Qy, y1, y2, y3, y4, y5, y6, y7, rfl, y8⟩ := kid_read (u := u.1) (L1 := L1 ++ [p]) (by rw [h1]; simp) h3 k1
        have hyl : (L1 ++ [p]).length = u.2 + 1 := by rw [List.length_append, h2]; rfl
        rw [hyl] at y1
        have hys : ∃ L0, seeG V out y.at_ = some (y.level, L0) := ⟨_, y8⟩
        have hyz := hC y.at_ (by simp)
        refine step x y L1 M2 p pr R1 R rr R2' Q1 Q' Qy Q2' ?_ ⟨h1, h3, hl, y5, h5, h6, h7, h8, y2.symm, y3, y4, hn, y6.thin, .inr y6, ?_, hb, bd_frame y7 fun c hc => (hC c (by simp [hc])).2, ks_frame h9 fun c hc => (hC c (by simp [hc])).2, ks_frame k2 fun c hc => (hC c (by simp [hc])).2⟩ (by simp) ?_ hxz hyz.1 ha hys
        · unfold besP
          rw [if_pos (by rw [h1]; simp only [List.length_append, List.length_cons]; omega), y1]
        · have := y6.weight
          omega
        · rw [List.perm_iff_count]
          intro c
          simp only [List.count_append, List.count_cons]
          omega
      | nil =>
        obtain ⟨rfl, rfl⟩ := h10
        have hL1 : L1 ≠ [] := fun e => by
          have := (lnkB_iff.1 (hlaw.links (by omega))).2.1
          rw [e] at this
          simp at this
        obtain ⟨M1, pl, rfl⟩ : ∃ M1 pl, L1 = M1 ++ [pl] := ⟨_, _, (List.dropLast_concat_getLast hL1).symm⟩
        obtain ⟨Ra, Qa, Rl, Ql, k1, k2, rfl, rfl⟩ := ks_append.1 h9
        have k3 := ks_one.1 k2
        obtain ⟨y, Qy, y1, y2, y3, y4, y5, y6, y7, rfl, y8⟩ := kid_read (u := u.1) (L1 := M1) (L2 := [p]) (p := pl) (by rw [h1]; simp) h3 k3
        have hyl : M1.length = u.2 - 1 := by rw [List.length_append, List.length_singleton] at h2; omega
        rw [hyl] at y1
        have hys : ∃ L0, seeG V out y.at_ = some (y.level, L0) := ⟨_, y8⟩
        have hyz := hC y.at_ (by simp)
        refine step y x M1 [] pl p Ra Rl R [] Qa Qy Q' [] ?_ ⟨by rw [h1]; simp, h3, y5, hl, h5, y2.symm, y3, y4, h6, h7, h8, y6.thin, hn, .inl y6, ?_, bd_frame y7 fun c hc => (hC c (by simp [hc])).2, hb, ks_frame k1 fun c hc => (hC c (by simp [hc])).2, ⟨rfl, rfl⟩⟩ (by simp) ?_ hyz.1 hxz hys ha
        · unfold besP
          rw [if_neg (by rw [h1]; simp only [List.length_append, List.length_cons, List.length_nil] at h2 ⊢; omega), y1]
        · have := y6.weight
          omega
        · rw [List.perm_iff_count]
          intro c
          simp only [List.count_append, List.count_cons, List.count_nil]
          omega
    · obtain ⟨r1, r2⟩ := wy_root hw
      refine wr hl (thin_heavy hn hlt) hb hw hnd hz ha hS ?_
      show (if 2 * wtP x.level x.L < 254 then _ else some (endP (rootU us u.1) x S Z)) = _
      rw [if_neg hlt]
      unfold endP
      rw [if_neg (by rw [r1]; simp), r2]
end
end Go.Proofs.YtcjfnfdinhbdlaaGreatDoor
namespace Go.Proofs.YtcjfnfdinhbdlaaGreatDoor
set_option maxRecDepth 100000
open Go.ChangeShapes Go.WideShapes Go.ChangeAt Go.RowKit Go.PlainAid Go.Deep
attribute [local go_sem ↓ high] load_op
attribute [local go_sem] Oper.semAt_some
set_option maxHeartbeats 2000000 in
/-- Two slices of the same operations. -/
theorem rops_any {v u : Value} {l : List OpV} {w : World} (h : OpsOf w v l) (h' : OpsOf w u l) (hs : l.length ≤ 1048576) :
    Calls Tryz.prog 12 #[v, u] w fun e w' => e = .returned (.bool true) ∧ Below w.heap.size w w' := by
  obtain ⟨ao, ac, rfl⟩ := h.len
  obtain ⟨bo, bc, rfl⟩ := h'.len
  have H := Lib.hid h
  have H' := Lib.hid h'
  clear h h'
  go_enter Tryz.func12, Tryz.ntmps12
  go_wp2_with fail
  go_loopw [5] (fun s5 wr => ∃ k : Nat, s5 = .int .i64 k ∧ k ≤ l.length ∧ Hid (Below w.heap.size w wr)) (fun s5 _ => l.length - (intOf s5).toNat)
  case atStart => exact ⟨0, rfl, Nat.zero_le _, Lib.hid (Below.refl _ _)⟩
  case round =>
    obtain ⟨k, rfl, hk, HI⟩ := hrel
    by_cases hkl : k < l.length
    · obtain ⟨x, hx⟩ : ∃ x, l[k]? = some x := ⟨_, List.getElem?_eq_getElem hkl⟩
      obtain ⟨b, p, cap, hv, hblt, hwf, hcc⟩ := OpsOf.at (H.out.on HI.out) hx
      have e0 : ao = some ⟨b, p, none⟩ := by cases hv; rfl
      subst e0
      obtain ⟨b', p', cap', hv', hblt', _, hcc'⟩ := OpsOf.at (H'.out.on HI.out) hx
      have e0 : bo = some ⟨b', p', none⟩ := by cases hv'; rfl
      subst e0
      have l1 : ∀ n, (loadS 32 (.pointer (some ⟨b, p + k * 11, none⟩))).run Tryz.prog (wr.drewN n) = .ok (Value.agg #[Value.int .i64 x.id, Value.int .i64 x.proc, Value.int .i64 x.obj, Value.int .i64 x.kind, Value.int .i64 x.meth, Value.int .i64 x.arg, Value.int .i64 x.sec, Value.bool x.done, Value.int .i64 x.res, Value.int .i64 x.inv, Value.int .i64 x.ret]) (wr.drewN n) := fun n => load_cellsO (p := p + k * 11) hcc
      have l2 : ∀ n, (loadS 32 (.pointer (some ⟨b', p' + k * 11, none⟩))).run Tryz.prog (wr.drewN n) = .ok (Value.agg #[Value.int .i64 x.id, Value.int .i64 x.proc, Value.int .i64 x.obj, Value.int .i64 x.kind, Value.int .i64 x.meth, Value.int .i64 x.arg, Value.int .i64 x.sec, Value.bool x.done, Value.int .i64 x.res, Value.int .i64 x.inv, Value.int .i64 x.ret]) (wr.drewN n) := fun n => load_cellsO (p := p' + k * 11) hcc'
      have q1 : decide ((k : Int) < (l.length : Int)) = true := decide_eq_true (by omega)
      have q2 : (k : Int) < (l.length : Int) := by omega
      have q3 : IntKind.i64.wrap ((k : Int) + 1) = (k : Int) + 1 := IntWalk.i64_in _ (by omega)
      have q4 : (0 : Int) ≤ (k : Int) := by omega
      have HK := Lib.hid hkl
      clear hv hblt hwf hcc hv' hblt' hcc' hx hk hkl
      go_wp2_with fail
      go_quiet (fail)
      go_wp2_with fail
      go_roundw
      case measure => have := HK.out; simp [intOf]; omega
      case rel => exact ⟨k + 1, by simp, HK.out, Lib.hid (HI.out.on (below_drewN _ _))⟩
    · have q1 : decide ((k : Int) < (l.length : Int)) = false := decide_eq_false (by omega)
      have q2 : ((k : Int) < (l.length : Int)) = False := eq_false (by omega)
      clear hk hkl
      go_wp2_with fail
      go_returns
      exact ⟨rfl, HI.out⟩
end Go.Proofs.YtcjfnfdinhbdlaaGreatDoor
