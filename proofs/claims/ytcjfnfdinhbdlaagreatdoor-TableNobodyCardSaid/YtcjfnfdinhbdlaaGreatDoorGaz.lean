import Derived.Test.YtcjfnfdinhbdlaaGreatDoorGaw
import Derived.Test.YtcjfnfdinhbdlaaGreatDoorGaq
import Derived.Test.YtcjfnfdinhbdlaaGreatDoorGau
import Derived.Test.YtcjfnfdinhbdlaaGreatDoorGab
import Derived.Test.YtcjfnfdinhbdlaaGreatDoorGam
import Derived.Laws.Pointers
import Derived.Lib.ConvBytes
namespace Go.Proofs.YtcjfnfdinhbdlaaGreatDoor
set_option maxRecDepth 100000
open Go.ChangeShapes Go.WideShapes Go.ChangeAt Go.RowKit Go.PlainAid
def givP (from_ : ByteArray) (x : NdD) : List Pr := if x.level = 1 then x.L.drop (posP from_ x.L) else []
def fromL (from_ : ByteArray) : List (NdD × Bool) → List Pr
  | [] => []
  | x :: l => if x.2 = true then [] else givP from_ x.1 ++ fromL from_ l
theorem fromL_two (f : ByteArray) (a b : List (NdD × Bool)) (h : ∀ y ∈ a, y.2 = false) : fromL f (a ++ b) = fromL f a ++ fromL f b := by
  induction a with
  | nil => rfl
  | cons x l ih =>
    have hx := h x List.mem_cons_self
    show (if x.2 = true then [] else givP f x.1 ++ fromL f (l ++ b)) = (if x.2 = true then [] else givP f x.1 ++ fromL f l) ++ fromL f b
    rw [hx, if_neg (by simp), if_neg (by simp), ih fun y hy => h y (List.mem_cons_of_mem _ hy), List.append_assoc]
def fromR (f : ByteArray) (R : List Pr) : List Pr := R.drop (posP f R)
theorem fromR_all {f : ByteArray} {R : List Pr} (h : ∀ p ∈ R, lessB p.key f = false) : fromR f R = R := by
  have : posP f R = 0 := posP_eq (Nat.zero_le _) (fun j p hj _ => by omega) (fun p hp => h p (List.mem_of_getElem? hp))
  unfold fromR
  rw [this]
  rfl
theorem fromR_mid {f : ByteArray} {A L B : List Pr} (hA : ∀ a ∈ A, lessB a.key f = true) (hB : ∀ b ∈ B, lessB f b.key = true) : fromR f (A ++ (L ++ B)) = fromR f L ++ B := by
  unfold fromR
  have hd : A.drop (A.length + posP f L) = [] := List.drop_eq_nil_of_le (by omega)
  have := posP_le f L
  rw [posP_mid hA hB, List.drop_append, hd, Nat.add_sub_cancel_left, List.drop_append, show posP f L - L.length = 0 by omega]
  rfl
theorem towP_any {f : ByteArray} {L : List Pr} (hs : Srt L) (h0 : L ≠ []) : ∃ L1 p L2, L = L1 ++ p :: L2 ∧ L1.length = towP f L ∧ (L1 ≠ [] → lessB f p.key = false) ∧ ∀ q ∈ L2, lessB f q.key = true := by
  cases L with
  | nil => exact absurd rfl h0
  | cons p L =>
    cases hk : lessB f p.key with
    | false =>
      obtain ⟨L1, q, L2, e1, e2, e3, e4⟩ := towP_at (key := f) hs (p0 := p) rfl hk
      exact ⟨L1, q, L2, e1, e2, fun _ => e3, e4⟩
    | true =>
      refine ⟨[], p, L, rfl, ?_, fun h => absurd rfl h, fun q hq => lessB_trans hk ((srt_tail hs).2 q hq)⟩
      have e : posP f (p :: L) = 0 := posP_eq (Nat.zero_le _) (fun j p hj _ => by omega) (fun q hq => by
        have hq : some p = some q := hq
        cases hq
        exact lessB_asymm hk)
      unfold towP
      rw [e]
      split <;> rfl
section
variable {V : Int → ByteArray} {out : Int → Bool}
theorem visK_ahead (f : ByteArray) (k : Nat) (x : NdD) (t m : Nat) : visK V out f k x t (m + 1) = visP V out f k (rdN V out (kidN x t)) ++ visK V out f k x (t + 1) m := by
  unfold visK
  rw [List.range'_succ, List.flatMap_cons]
def VisOk (V : Int → ByteArray) (out : Int → Bool) (f : ByteArray) (k : Nat) (y : NdD) (R : List Pr) (Q : List Int) : Prop :=
  fromL f (visP V out f k (y, false)) = fromR f R ∧ (∀ z ∈ visP V out f k (y, false), z.2 = false) ∧ (f = ⟨#[]⟩ → (visP V out f k (y, false)).map (fun z => z.1.at_) = Q)
theorem ks_vis {f : ByteArray} {h k : Nat} {x : NdD} (hl : x.level = (h : Int) + 2)
    (ih : ∀ (y : NdD) (R : List Pr) (Q' : List Int), y.level = (h : Int) + 1 → Lawful y.level y.low y.high y.L → Bd (seeG V out) h y.L y.high R Q' → VisOk V out f k y R (y.at_ :: Q')) :
    ∀ (M L1 R : List Pr) (Q : List Int), x.L = L1 ++ M → Ks (Tr (seeG V out) h) M x.high R Q → (∀ p ∈ R, lessB p.key f = false) →
      fromL f (visK V out f k x L1.length M.length) = R ∧ (∀ z ∈ visK V out f k x L1.length M.length, z.2 = false) ∧ (f = ⟨#[]⟩ → (visK V out f k x L1.length M.length).map (fun z => z.1.at_) = Q)
  | [], L1, R, Q, _, ⟨e1, e2⟩, _ => by
    subst e1 e2
    exact ⟨rfl, (fun z hz => by rw [List.length_nil, visK_zero] at hz; cases hz), fun _ => rfl⟩
  | p :: M, L1, R, Q, e, ⟨r, q, R', Q', k1, k2, e1, e2⟩, hR => by
    subst e1 e2
    obtain ⟨y, Qy, y1, y2, y3, y4, y5, y6, y7, rfl, y8⟩ := kid_read (u := x) (L1 := L1) e hl k1
    obtain ⟨v1, v2, v3⟩ := ih y r Qy y5 y6 y7
    obtain ⟨w1, w2, w3⟩ := ks_vis hl ih M (L1 ++ [p]) R' Q' (by rw [e]; simp) k2 fun p hp => hR p (List.mem_append_right _ hp)
    rw [show (L1 ++ [p]).length = L1.length + 1 by simp] at w1 w2 w3
    rw [List.length_cons, visK_ahead, y1]
    refine ⟨?_, fun z hz => ?_, fun hf => ?_⟩
    · rw [fromL_two _ _ _ v2, v1, w1, fromR_all fun p hp => hR p (List.mem_append_left _ hp)]
    · rcases List.mem_append.1 hz with hz | hz
      · exact v2 z hz
      · exact w2 z hz
    · rw [List.map_append, v3 hf, w3 hf]
theorem tr_vis (f : ByteArray) : ∀ (h k : Nat), h < k → ∀ (y : NdD) (R : List Pr) (Q' : List Int), y.level = (h : Int) + 1 → Lawful y.level y.low y.high y.L → Bd (seeG V out) h y.L y.high R Q' → VisOk V out f k y R (y.at_ :: Q')
  | 0, k + 1, _, y, R, Q', hl, hn, ⟨e1, e2⟩ => by
    subst e1 e2
    unfold VisOk
    rw [visP_leaf (.inr (by show y.level = 1; omega))]
    refine ⟨?_, fun z hz => ?_, fun _ => rfl⟩
    · show givP f y ++ [] = _
      unfold givP
      rw [if_pos (by omega), List.append_nil]
      rfl
    · simp only [List.mem_singleton] at hz
      rw [hz]
  | h + 1, k + 1, hk, y, R, Q', hl, hn, hb => by
    have hl2 : y.level = (h : Int) + 2 := by omega
    have ih := tr_vis f h k (by omega)
    obtain ⟨s, b⟩ := risB_iff.1 hn.rise
    have hne : y.L ≠ [] := hn.some.1
    obtain ⟨L1, p, L2, e1, e2, e3, e4⟩ := towP_any (f := f) s hne
    have hks : Ks (Tr (seeG V out) h) y.L y.high R Q' := hb
    have hsb := s
    have hbb := b
    rw [e1] at hks hsb hbb
    obtain ⟨R1, Q1, r, q, R2, Q2, k1, k2, k3, rfl, rfl⟩ := ks_mid.1 hks
    obtain ⟨s1, s2, s3⟩ := srt_parts hsb
    obtain ⟨s4, s5⟩ := srt_tail s2
    -- ahead of the page, below the key; behind it, above
    have hA : ∀ a ∈ R1, lessB a.key f = true := fun a ha => by
      have hL1 : ∀ z ∈ L1, KeyOk y.low p.key z := fun z hz => ⟨(hbb z (by simp [hz])).small, (hbb z (by simp [hz])).low, .inr (s3 z hz p List.mem_cons_self)⟩
      have hr := (ks_rec (fun a lo hi r q ht => tr_rec ht) s1 hL1 k1).2.1 a ha
      cases L1 with
      | nil =>
        obtain ⟨e, _⟩ := k1
        rw [e] at ha
        cases ha
      | cons z l => exact lessB_lt_le (hr.high.resolve_left (not_empty_of_less (s3 z List.mem_cons_self p List.mem_cons_self))) (e3 (by simp))
    have hB : ∀ b ∈ R2, lessB f b.key = true := fun b' hb2 => by
      cases L2 with
      | nil =>
        obtain ⟨e, _⟩ := k3
        rw [e] at hb2
        cases hb2
      | cons z l =>
        have h9 := (ks_rec (fun a lo hi r q ht => tr_rec ht) (lo := y.low) s4 (fun x hx => hbb x (by simp only [List.mem_append, List.mem_cons] at hx ⊢; exact .inr (.inr hx))) k3).2.2.2 z.key (fun x hx => by
          rcases List.mem_cons.1 hx with rfl | hx
          · exact lessB_irrefl _
          · exact lessB_asymm ((srt_tail s4).2 x hx)) b' hb2
        exact lessB_lt_le (e4 z List.mem_cons_self) h9
    obtain ⟨x, Qy, y1, y2, y3, y4, y5, y6, y7, rfl, y8⟩ := kid_read (u := y) (L1 := L1) e1 hl2 k2
    obtain ⟨v1, v2, v3⟩ := ih x r Qy y5 y6 y7
    obtain ⟨w1, w2, w3⟩ := ks_vis hl2 ih L2 (L1 ++ [p]) R2 Q2 (by rw [e1]; simp) k3 fun p hp => lessB_asymm (hB p hp)
    rw [show (L1 ++ [p]).length = L1.length + 1 by simp] at w1 w2 w3
    have hlen : y.L.length - towP f y.L = L2.length + 1 := by
      rw [← e2, e1, List.length_append, List.length_cons]
      omega
    unfold VisOk
    rw [visP_node (by show y.level ≠ 1; omega), hlen, ← e2, visK_ahead, y1]
    refine ⟨?_, fun z hz => ?_, fun hf => ?_⟩
    · show givP f y ++ fromL f _ = _
      unfold givP
      rw [if_neg (by omega), List.nil_append, fromL_two _ _ _ v2, v1, w1, fromR_mid hA hB]
    · rcases List.mem_cons.1 hz with rfl | hz
      · rfl
      · rcases List.mem_append.1 hz with hz | hz
        · exact v2 z hz
        · exact w2 z hz
    · subst hf
      have h0 : L1 = [] := by
        rw [towP_empty] at e2
        exact List.length_eq_zero_iff.1 e2
      subst h0
      obtain ⟨_, rfl⟩ := k1
      rw [List.map_cons, List.map_append, v3 rfl, w3 rfl]
      rfl
theorem leaf_found (key : ByteArray) : ∀ (h k : Nat), h < k → ∀ (y : NdD) (R : List Pr) (Q' : List Int), y.level = (h : Int) + 1 → Lawful y.level y.low y.high y.L → Bd (seeG V out) h y.L y.high R Q' → ∃ x, leafP V out key k y = some x
  | 0, k + 1, _, y, R, Q', hl, hn, _ => ⟨y, by unfold leafP; rw [if_pos (by omega)]⟩
  | h + 1, k + 1, hk, y, R, Q', hl, hn, hb => by
    obtain ⟨L1, p, L2, e1, e2, e3, e4⟩ := towP_any (f := key) (risB_iff.1 hn.rise).1 hn.some.1
    have hks : Ks (Tr (seeG V out) h) y.L y.high R Q' := hb
    rw [e1] at hks
    obtain ⟨R1, Q1, r, q, R2, Q2, k1, k2, k3, rfl, rfl⟩ := ks_mid.1 hks
    obtain ⟨x, Qy, y1, y2, y3, y4, y5, y6, y7, rfl, y8⟩ := kid_read (u := y) (L1 := L1) e1 (by omega) k2
    obtain ⟨z, hz⟩ := leaf_found key h k (by omega) x r Qy y5 y6 y7
    refine ⟨z, ?_⟩
    unfold leafP
    rw [if_neg (by omega), ← e2, y1]
    exact hz
end
theorem tr_count {G : Pgs} : ∀ {h : Nat} {a : Int} {lo hi : ByteArray} {R : List Pr} {Q : List Int}, Tr G h a lo hi R Q → Q.length + 1 ≤ 2 * R.length
  | 0, a, lo, hi, R, Q, ⟨h1, h2, h3⟩ => by
    have := (recB_iff.1 (h2.recs rfl)).2
    subst h3
    rw [List.length_singleton]
    omega
  | h + 1, a, lo, hi, R, Q, ⟨L, Q', h1, h2, h3, h4⟩ => by
    have key : ∀ {L : List Pr} {hi : ByteArray} {R : List Pr} {Q : List Int}, Ks (Tr G h) L hi R Q → Q.length + L.length ≤ 2 * R.length := by
      intro L
      induction L with
      | nil =>
        rintro hi R Q ⟨rfl, rfl⟩
        exact Nat.le_refl _
      | cons p L ih =>
        rintro hi R Q ⟨r, q, R', Q', k1, k2, rfl, rfl⟩
        have i1 := tr_count k1
        have i2 := ih k2
        simp only [List.length_append, List.length_cons]
        omega
    have := key h3
    have := (lnkB_iff.1 (h2.links (by omega))).2.1
    subst h4
    rw [List.length_cons]
    omega
theorem tr_deep {G : Pgs} : ∀ {h : Nat} {a : Int} {lo hi : ByteArray} {R : List Pr} {Q : List Int}, Tr G h a lo hi R Q → 2 ^ (h + 1) ≤ Q.length + 1
  | 0, a, lo, hi, R, Q, ⟨h1, h2, h3⟩ => by
    subst h3
    exact Nat.le_refl 2
  | h + 1, a, lo, hi, R, Q, ⟨L, Q', h1, h2, h3, h4⟩ => by
    have key : ∀ {L : List Pr} {hi : ByteArray} {R : List Pr} {Q : List Int}, Ks (Tr G h) L hi R Q → 1 < L.length → 2 * 2 ^ (h + 1) ≤ Q.length + 2 := by
      intro L hi R Q k hl
      cases L with
      | nil => simp at hl
      | cons p L =>
        cases L with
        | nil => simp at hl
        | cons p' L =>
          obtain ⟨r, q, R', Q', k1, ⟨r2, q2, R2, Q2, k2, _, rfl, rfl⟩, rfl, rfl⟩ := k
          have i1 := tr_deep k1
          have i2 := tr_deep k2
          simp only [List.length_append]
          omega
    have := key h3 (lnkB_iff.1 (h2.links (by omega))).2.1
    subst h4
    rw [List.length_cons, Nat.pow_succ]
    omega
end Go.Proofs.YtcjfnfdinhbdlaaGreatDoor
namespace Go.Proofs.YtcjfnfdinhbdlaaGreatDoor
set_option maxRecDepth 100000
open Go.ChangeShapes Go.WideShapes Go.ChangeAt Go.RowKit Go.PlainAid
def splN (more : Nat) : List (Int × List Pr) → Nat
  | [] => 1
  | x :: t => if wtP x.1 x.2 + more ≤ 254 then 0 else 1 + splN 36 t
theorem splN_le : ∀ (m : Nat) (l : List (Int × List Pr)), splN m l ≤ l.length + 1
  | m, [] => Nat.le_refl _
  | m, x :: t => by
    have := splN_le 36 t
    unfold splN
    rw [List.length_cons]
    split <;> omega
theorem thin_del {lo hi : ByteArray} {L : List Pr} (h : Lawful 1 lo hi L) (k : ByteArray) : Thin 1 lo hi (delB k L) := by
  obtain ⟨hs, hb⟩ := risB_iff.1 h.rise
  obtain ⟨X, Y, h1, h2, h3⟩ := srt_hit hs k
  have hr := (recB_iff.1 (h.recs rfl)).1
  have hw := h.weight
  have key : (∀ z ∈ delB k L, z ∈ L) ∧ Srt (delB k L) ∧ wtP 1 (delB k L) ≤ 254 := by
    rcases h3 with ⟨_, e, _, e3, _⟩ | ⟨_, p, hp, e, _, e3, _⟩
    · rw [e3]
      exact ⟨fun z hz => hz, hs, hw⟩
    · rw [e3]
      obtain ⟨a, b, c⟩ := srt_parts (show Srt (X ++ p :: Y) by rw [← e]; exact hs)
      refine ⟨fun z hz => ?_, srt_append a (srt_tail b).1 fun u hu v hv => c u hu v (List.mem_cons_of_mem _ hv), ?_⟩
      · rw [e]
        rcases List.mem_append.1 hz with hz | hz <;> simp [hz]
      · rw [e, wtP_le_mid] at hw
        omega
  exact ⟨Int.le_refl _, risB_iff.2 ⟨key.2.1, fun z hz => hb z (key.1 z hz)⟩, fun _ z hz => hr z (key.1 z hz), fun e => absurd rfl e, key.2.2⟩
def TreeG (G : Pgs) (root : Int) (R : List Pr) (Q : List Int) : Prop := (root = 0 ∧ R = [] ∧ Q = []) ∨ ∃ H, Tr G H root ⟨#[]⟩ ⟨#[]⟩ R Q
theorem TreeG.frame {G G' : Pgs} {root : Int} {R : List Pr} {Q : List Int} (h : TreeG G root R Q) (hf : ∀ c ∈ Q, G' c = G c) : TreeG G' root R Q := by
  rcases h with h | ⟨H, h⟩
  · exact .inl h
  · exact .inr ⟨H, tr_frame h hf⟩
theorem TreeG.some {G : Pgs} {root : Int} {R : List Pr} {Q : List Int} (h : TreeG G root R Q) : ∀ c ∈ Q, G c ≠ none := by
  rcases h with ⟨_, _, rfl⟩ | ⟨H, h⟩
  · intro c hc
    cases hc
  · exact tr_some h
theorem TreeG.srt {G : Pgs} {root : Int} {R : List Pr} {Q : List Int} (h : TreeG G root R Q) : Srt R ∧ ∀ p ∈ R, RecOk ⟨#[]⟩ ⟨#[]⟩ p := by
  rcases h with ⟨_, rfl, _⟩ | ⟨H, h⟩
  · exact ⟨srt_nil, fun p hp => by cases hp⟩
  · exact ⟨(tr_rec h).srt, (tr_rec h).ok⟩
theorem TreeG.count {G : Pgs} {root : Int} {R : List Pr} {Q : List Int} (h : TreeG G root R Q) : Q.length ≤ 2 * R.length := by
  rcases h with ⟨_, rfl, rfl⟩ | ⟨H, h⟩
  · exact Nat.le_refl _
  · have := tr_count h
    omega
theorem tdel_ok {V : Int → ByteArray} {out : Int → Bool} {a0 : Int} {H : Nat} {R0 : List Pr} {Q0 : List Int} {y x : NdD} {k : ByteArray} {us : List (NdD × Nat)}
    (t : Tr (seeG V out) H a0 ⟨#[]⟩ ⟨#[]⟩ R0 Q0) (hnd : Q0.Nodup) (hy : y.at_ = a0 ∧ y.low = ⟨#[]⟩ ∧ y.high = ⟨#[]⟩) (hs : seeG V out y.at_ = some (y.level, y.L)) (hw : WayL V out k us x y) (hx : x.level = 1) :
    hitP k R0 = hitP k x.L ∧ getB k R0 = getB k x.L ∧ ∃ S Z rt Qn, shrP V out us { x with L := delB k x.L } [] [] = some (S, Z, rt) ∧ (∀ s ∈ S, SetOk (seeG V out) s) ∧ TreeG (finG (seeG V out) S Z) rt (delB k R0) Qn ∧ Q0.Perm (Qn ++ Z) ∧ (∀ c, c ∉ Q0 → finG (seeG V out) S Z c = seeG V out c) := by
  obtain ⟨h, A, R, B, Q, C, ow⟩ := way_ok t hy hs us x hw
  obtain ⟨l1, l2, Q', rfl, hbd⟩ := tr_lev ow.tr ow.see
  have hh : h = 0 := by omega
  subst hh
  obtain ⟨rfl, rfl⟩ := hbd
  rw [hx] at l2
  refine ⟨by rw [ow.recs, hitP_mid ow.left ow.right], by rw [ow.recs, getB_mid ow.left ow.right], ?_⟩
  have hnd2 : (x.at_ :: ([] ++ C)).Nodup := (List.Perm.nodup_iff ow.perm).1 hnd
  obtain ⟨S, Z, rt, g1, g2, g3, g4⟩ := shr_ok (V := V) (out := out) (a0 := a0) (us := us) (x := { x with L := delB k x.L }) (h := 0) (R := delB k x.L) (Q' := []) (S := []) (Z := []) (by show x.level = _; omega) (by show Thin x.level x.low x.high _; rw [hx]; exact thin_del l2 k) ⟨rfl, rfl⟩ ow.wy hnd2
    (fun c _ => ⟨by simp, by rw [finG_nil]⟩) ⟨x.L, ow.see⟩ (fun s hs => by cases hs)
  simp only [List.nil_append] at g1 g3 g4
  have hp : Q0.Perm (x.at_ :: ([] ++ C)) := ow.perm
  have hr : A ++ (delB k x.L ++ B) = delB k R0 := by rw [ow.recs, delB_mid ow.left ow.right]
  rw [hr] at g4
  have hfr : ∀ c, c ∉ Q0 → finG (seeG V out) S Z c = seeG V out c := fun c hc => by rw [g3 c fun h => hc (hp.mem_iff.2 h), finG_nil]
  rcases g4 with ⟨a1, a2, a3⟩ | ⟨H', Qn, a1, a2⟩
  · exact ⟨S, Z, rt, [], g1, g2, .inl ⟨a1, a2, rfl⟩, hp.trans a3, hfr⟩
  · exact ⟨S, Z, rt, Qn, g1, g2, .inr ⟨H', a1⟩, hp.trans a2, hfr⟩
end Go.Proofs.YtcjfnfdinhbdlaaGreatDoor
namespace Go.Proofs.YtcjfnfdinhbdlaaGreatDoor
set_option maxRecDepth 100000
open Go.ChangeShapes Go.WideShapes Go.ChangeAt Go.RowKit Go.PlainAid
def overZ (o : OpV) : Int := if o.done then o.ret else 1099511627777
def wayI (way : Int) (o : OpV) : List Int := if way = 1 then [o.obj, o.inv, o.id] else if way = 2 then [o.obj, overZ o, o.id] else if way = 3 then [o.proc, o.inv, o.id] else if way = 4 then [o.meth, o.id] else [o.id]
def wayS (way : Int) (o : OpV) : ByteArray := keyS (wayI way o)
def recW (way : Int) (o : OpV) : ByteArray := if way = 0 then recS o else ⟨#[]⟩
def prW (way : Int) (o : OpV) : Pr := ⟨wayS way o, recW way o⟩
theorem wayI_len (way : Int) (o : OpV) : 1 ≤ (wayI way o).length ∧ (wayI way o).length ≤ 3 := by
  unfold wayI
  repeat' split
  all_goals simp
theorem wayI_last (way : Int) (o : OpV) : (wayI way o).getLast? = some o.id := by
  unfold wayI
  repeat' split
  all_goals rfl
theorem wayI_in {o : OpV} (h : checkZ o = 0) (way : Int) : InI (wayI way o) := by
  have hf := fine_of h
  obtain ⟨h1, h2, h3, h4, h5, h6, h7, h8, h9, hyes, hno⟩ := hf
  have ho : 0 ≤ overZ o ∧ overZ o ≤ 1099511627777 := by
    unfold overZ
    cases hd : o.done with
    | true =>
      have := hyes hd
      rw [if_pos rfl]
      omega
    | false =>
      rw [if_neg (by simp)]
      omega
  intro x hx
  unfold wayI at hx
  split at hx
  · simp only [List.mem_cons, List.not_mem_nil, or_false] at hx
    omega
  · split at hx
    · simp only [List.mem_cons, List.not_mem_nil, or_false] at hx
      omega
    · split at hx
      · simp only [List.mem_cons, List.not_mem_nil, or_false] at hx
        omega
      · split at hx
        · simp only [List.mem_cons, List.not_mem_nil, or_false] at hx
          omega
        · simp only [List.mem_cons, List.not_mem_nil, or_false] at hx
          omega
theorem wayS_size (way : Int) (o : OpV) : 8 ≤ (wayS way o).size ∧ (wayS way o).size ≤ 24 := by
  have := wayI_len way o
  unfold wayS
  rw [keyS_size]
  omega
theorem wayS_id {way : Int} {a b : OpV} (ha : InI (wayI way a)) (hb : InI (wayI way b)) (h : wayS way a = wayS way b) : a.id = b.id := by
  have e := key_inj _ _ ha hb h
  have h1 := wayI_last way a
  rw [e, wayI_last way b] at h1
  exact (Option.some.inj h1).symm
theorem recW_size {o : OpV} (h : checkZ o = 0) (way : Int) : (recW way o).size ≤ 80 := by
  unfold recW
  split
  · have := rec_size (fine_of h)
    omega
  · exact Nat.zero_le _
def TL : Hs.Look OpV := ⟨OpV.id, OpV.obj, OpV.kind, OpV.proc, OpV.done, checkZ, fun _ _ => false⟩
structure OpsK (l : List OpV) : Prop where
  chk : ∀ o ∈ l, checkZ o = 0
  rise : l.Pairwise fun a b => a.id < b.id
theorem OpsK.nil : OpsK [] := ⟨fun _ h => (by cases h), List.Pairwise.nil⟩
theorem OpsK.ins {l : List OpV} (h : OpsK l) {o : OpV} (ho : checkZ o = 0) : OpsK (Hs.inL TL l o) := ⟨fun a ha => by
  rcases (Hs.in_mem TL).1 ha with rfl | ⟨ha, _⟩
  · exact ho
  · exact h.chk a ha, Hs.in_rise TL h.rise⟩
theorem OpsK.inI {l : List OpV} (h : OpsK l) {o : OpV} (ho : o ∈ l) (way : Int) : InI (wayI way o) := wayI_in (h.chk o ho) way
theorem srt_ext : ∀ {a b : List Pr}, Srt a → Srt b → (∀ p, p ∈ a ↔ p ∈ b) → a = b
  | [], [], _, _, _ => rfl
  | [], y :: s, _, _, h => absurd ((h y).2 List.mem_cons_self) (by simp)
  | x :: r, [], _, _, h => absurd ((h x).1 List.mem_cons_self) (by simp)
  | x :: r, y :: s, ha, hb, h => by
    obtain ⟨a1, a2⟩ := srt_iff.1 ha
    obtain ⟨b1, b2⟩ := srt_iff.1 hb
    have e : x = y := by
      rcases List.mem_cons.1 ((h x).1 List.mem_cons_self) with c | c
      · exact c
      · rcases List.mem_cons.1 ((h y).2 List.mem_cons_self) with d | d
        · exact d.symm
        · have := lessB_trans (a2 y d) (b2 x c)
          rw [lessB_irrefl] at this
          cases this
    subst e
    rw [srt_ext a1 b1 fun o => ?_]
    constructor
    · intro ho
      rcases List.mem_cons.1 ((h o).1 (List.mem_cons_of_mem _ ho)) with c | c
      · have := a2 o ho
        rw [c, lessB_irrefl] at this
        cases this
      · exact c
    · intro ho
      rcases List.mem_cons.1 ((h o).2 (List.mem_cons_of_mem _ ho)) with c | c
      · have := b2 o ho
        rw [c, lessB_irrefl] at this
        cases this
      · exact c
theorem srt_key {R : List Pr} (h : Srt R) {p q : Pr} (hp : p ∈ R) (hq : q ∈ R) (e : p.key = q.key) : p = q := by
  obtain ⟨i, hi⟩ := List.mem_iff_getElem?.1 hp
  obtain ⟨j, hj⟩ := List.mem_iff_getElem?.1 hq
  rcases Nat.lt_trichotomy i j with c | c | c
  · have := h i j p q c hi hj
    rw [e, lessB_irrefl] at this
    cases this
  · subst c
    rw [hi] at hj
    exact Option.some.inj hj
  · have := h j i q p c hj hi
    rw [e, lessB_irrefl] at this
    cases this
theorem srt_sub {R S : List Pr} (h : Srt R) (hs : S.Sublist R) : Srt S := by
  induction hs with
  | slnil => exact h
  | cons a _ ih => exact ih (srt_iff.1 h).1
  | cons_cons a hs ih => exact srt_iff.2 ⟨ih (srt_iff.1 h).1, fun q hq => (srt_iff.1 h).2 q (hs.subset hq)⟩
section
variable {R : List Pr} {k v : ByteArray}
theorem ne_less {a b : ByteArray} (h : lessB a b = true) : a ≠ b := fun e => by rw [e, lessB_irrefl] at h; cases h
theorem put_srt {r : Pr} (hs : Srt R) : Srt (putB r R) := by
  obtain ⟨X, Y, h1, h2, h3⟩ := srt_hit hs r.key
  have key : ∀ Z, (Z = X ++ Y ∨ ∃ p, Z = X ++ p :: Y) → Srt Z → Srt (X ++ r :: Y) := by
    intro Z hz hZ
    have hX : Srt X := srt_sub hZ (by rcases hz with rfl | ⟨p, rfl⟩ <;> exact List.sublist_append_left _ _)
    have hY : Srt Y := srt_sub hZ (by
      rcases hz with rfl | ⟨p, rfl⟩
      · exact List.sublist_append_right _ _
      · exact (List.sublist_cons_self _ _).trans (List.sublist_append_right _ _))
    refine srt_append hX (srt_iff.2 ⟨hY, h2⟩) fun a ha b hb => ?_
    rcases List.mem_cons.1 hb with rfl | hb
    · exact h1 a ha
    · exact lessB_trans (h1 a ha) (h2 b hb)
  rcases h3 with ⟨_, e, e2, _⟩ | ⟨_, p, _, e, e2, _⟩
  · rw [show putB r R = X ++ r :: Y from e2 r.val]
    exact key R (.inl e) hs
  · rw [show putB r R = X ++ r :: Y from e2 r.val]
    exact key R (.inr ⟨p, e⟩) hs
theorem put_mem {r p : Pr} (hs : Srt R) : p ∈ putB r R ↔ p = r ∨ (p ∈ R ∧ p.key ≠ r.key) := by
  obtain ⟨X, Y, h1, h2, h3⟩ := srt_hit hs r.key
  have hX : ∀ q ∈ X, q.key ≠ r.key := fun q hq => ne_less (h1 q hq)
  have hY : ∀ q ∈ Y, q.key ≠ r.key := fun q hq => (ne_less (h2 q hq)).symm
  have key : p ∈ X ++ r :: Y ↔ p = r ∨ p ∈ X ∨ p ∈ Y := by
    rw [List.mem_append, List.mem_cons]
    constructor
    · rintro (h | h | h)
      · exact .inr (.inl h)
      · exact .inl h
      · exact .inr (.inr h)
    · rintro (h | h | h)
      · exact .inr (.inl h)
      · exact .inl h
      · exact .inr (.inr h)
  rcases h3 with ⟨_, e, e2, _⟩ | ⟨_, q, hq, e, e2, _⟩
  · rw [show putB r R = X ++ r :: Y from e2 r.val, key, e, List.mem_append]
    constructor
    · rintro (h | h | h)
      · exact .inl h
      · exact .inr ⟨.inl h, hX p h⟩
      · exact .inr ⟨.inr h, hY p h⟩
    · rintro (h | ⟨h, _⟩)
      · exact .inl h
      · exact .inr h
  · rw [show putB r R = X ++ r :: Y from e2 r.val, key, e, List.mem_append, List.mem_cons]
    constructor
    · rintro (h | h | h)
      · exact .inl h
      · exact .inr ⟨.inl h, hX p h⟩
      · exact .inr ⟨.inr (.inr h), hY p h⟩
    · rintro (h | ⟨h | h | h, hn⟩)
      · exact .inl h
      · exact .inr (.inl h)
      · exact absurd (by rw [h]; exact hq) hn
      · exact .inr (.inr h)
theorem get_mem (hs : Srt R) : getB k R = some v ↔ ⟨k, v⟩ ∈ R := by
  obtain ⟨X, Y, h1, h2, h3⟩ := srt_hit hs k
  have hX : ∀ q ∈ X, q.key ≠ k := fun q hq => ne_less (h1 q hq)
  have hY : ∀ q ∈ Y, q.key ≠ k := fun q hq => (ne_less (h2 q hq)).symm
  rcases h3 with ⟨_, e, _, _, e2⟩ | ⟨_, q, hq, e, _, _, e2⟩
  · rw [e2, e]
    refine ⟨fun h => (by cases h), fun h => ?_⟩
    rcases List.mem_append.1 h with h | h
    · exact absurd rfl (hX _ h)
    · exact absurd rfl (hY _ h)
  · rw [e2, e]
    constructor
    · intro h
      cases h
      rw [← hq]
      simp
    · intro h
      rcases List.mem_append.1 h with h | h
      · exact absurd rfl (hX _ h)
      · rcases List.mem_cons.1 h with h | h
        · rw [← h]
        · exact absurd rfl (hY _ h)
theorem get_not (hs : Srt R) : getB k R = none ↔ ∀ p ∈ R, p.key ≠ k := by
  constructor
  · intro h p hp e
    have := (get_mem (k := k) (v := p.val) hs).2 (by subst e; exact hp)
    rw [h] at this
    cases this
  · intro h
    cases hg : getB k R with
    | none => rfl
    | some v => exact absurd rfl (h _ ((get_mem hs).1 hg))
end
structure IsW (way : Int) (l : List OpV) (R : List Pr) : Prop where
  srt : Srt R
  mem : ∀ p, p ∈ R ↔ ∃ o ∈ l, p = prW way o
theorem IsW.nil (way : Int) : IsW way [] [] := ⟨srt_nil, fun p => by simp⟩
structure PreW (way : Int) (l : List OpV) (o : OpV) (R : List Pr) : Prop where
  srt : Srt R
  mem : ∀ p, (p ∈ R ∧ p.key ≠ wayS way o) ↔ ∃ a ∈ l, a.id ≠ o.id ∧ p = prW way a
section
variable {way : Int} {l : List OpV} {o old : OpV} {R : List Pr}
theorem IsW.has (h : IsW way l R) (ho : o ∈ l) : getB (wayS way o) R = some (recW way o) := (get_mem h.srt).2 ((h.mem _).2 ⟨o, ho, rfl⟩)
theorem pre_new (h : IsW way l R) (hk : OpsK l) (hc : checkZ o = 0) (hn : ∀ a ∈ l, a.id ≠ o.id) : PreW way l o R := by
  refine ⟨h.srt, fun p => ?_⟩
  rw [h.mem]
  constructor
  · rintro ⟨⟨a, ha, rfl⟩, _⟩
    exact ⟨a, ha, hn a ha, rfl⟩
  · rintro ⟨a, ha, hne, rfl⟩
    exact ⟨⟨a, ha, rfl⟩, fun e => hne (wayS_id (hk.inI ha way) (wayI_in hc way) e)⟩
theorem PreW.put (h : PreW way l o R) : IsW way (Hs.inL TL l o) (putB (prW way o) R) := by
  refine ⟨put_srt h.srt, fun p => ?_⟩
  rw [put_mem h.srt, show (prW way o).key = wayS way o from rfl, h.mem]
  constructor
  · rintro (rfl | ⟨a, ha, hne, rfl⟩)
    · exact ⟨o, (Hs.in_mem TL).2 (.inl rfl), rfl⟩
    · exact ⟨a, (Hs.in_mem TL).2 (.inr ⟨ha, hne⟩), rfl⟩
  · rintro ⟨a, ha, rfl⟩
    rcases (Hs.in_mem TL).1 ha with rfl | ⟨ha, hne⟩
    · exact .inl rfl
    · exact .inr ⟨a, ha, hne, rfl⟩
theorem PreW.kept (h : PreW way l o R) (hg : getB (wayS way o) R = some (recW way o)) : IsW way (Hs.inL TL l o) R := by
  have hm := (get_mem h.srt).1 hg
  refine ⟨h.srt, fun p => ?_⟩
  constructor
  · intro hp
    by_cases e : p.key = wayS way o
    · exact ⟨o, (Hs.in_mem TL).2 (.inl rfl), srt_key h.srt hp hm e⟩
    · obtain ⟨a, ha, hne, rfl⟩ := (h.mem p).1 ⟨hp, e⟩
      exact ⟨a, (Hs.in_mem TL).2 (.inr ⟨ha, hne⟩), rfl⟩
  · rintro ⟨a, ha, rfl⟩
    rcases (Hs.in_mem TL).1 ha with rfl | ⟨ha, hne⟩
    · exact hm
    · exact ((h.mem _).2 ⟨a, ha, hne, rfl⟩).1
end
theorem IsW.ops {way : Int} {l : List OpV} {R : List Pr} (h : IsW way l R) (hk : OpsK l) : ∃ L : List OpV, R = L.map (prW way) ∧ (∀ o, o ∈ L ↔ o ∈ l) ∧ L.length = l.length := by
  have ex : ∀ S : List Pr, (∀ p ∈ S, ∃ o ∈ l, p = prW way o) → ∃ L : List OpV, S = L.map (prW way) ∧ ∀ o ∈ L, o ∈ l := by
    intro S
    induction S with
    | nil => exact fun _ => ⟨[], rfl, fun _ h => (by cases h)⟩
    | cons p S ih =>
      intro hS
      obtain ⟨o, ho, rfl⟩ := hS p List.mem_cons_self
      obtain ⟨L, rfl, hL⟩ := ih fun q hq => hS q (List.mem_cons_of_mem _ hq)
      refine ⟨o :: L, rfl, fun a ha => ?_⟩
      rcases List.mem_cons.1 ha with rfl | ha
      · exact ho
      · exact hL a ha
  obtain ⟨L, e, hL⟩ := ex R fun p hp => (h.mem p).1 hp
  have hmem : ∀ o, o ∈ L ↔ o ∈ l := fun o => ⟨hL o, fun ho => by
    have hp := (h.mem _).2 ⟨o, ho, rfl⟩
    rw [e] at hp
    obtain ⟨a, ha, hp⟩ := List.mem_map.1 hp
    have hs : wayS way a = wayS way o := congrArg Pr.key hp
    rwa [Hs.same_id TL hk.rise (hL a ha) ho (wayS_id (hk.inI (hL a ha) way) (hk.inI ho way) hs)] at ha⟩
  have hnd : L.Nodup := by
    have hR : (L.map (prW way)).Pairwise fun a b => a ≠ b := by
      rw [← e, List.pairwise_iff_getElem]
      intro i j hi hj hij he
      have := h.srt i j _ _ hij (List.getElem?_eq_getElem hi) (List.getElem?_eq_getElem hj)
      rw [he, lessB_irrefl] at this
      cases this
    rw [List.pairwise_map] at hR
    exact hR.imp fun h e => h (by rw [e])
  have hnd2 : l.Nodup := hk.rise.imp fun {a b} h (e : a = b) => by rw [e] at h; omega
  exact ⟨L, e, hmem, ((List.perm_ext_iff_of_nodup hnd hnd2).2 hmem).length_eq⟩
end Go.Proofs.YtcjfnfdinhbdlaaGreatDoor
namespace Go.Proofs.YtcjfnfdinhbdlaaGreatDoor
set_option maxRecDepth 100000
open Go.ChangeShapes Go.WideShapes Go.ChangeAt Go.RowKit Go.PlainAid
open Go.Sort (grow)
theorem or_num (a b : Nat) (ha : a ≤ 255) (hb : b ≤ 255) : bits .or .i64 (a : Int) ((b : Int) * 256) = (a : Int) + b * 256 := by
  have hx : a < 2 ^ 8 := by omega
  rw [show ((b : Int) * 256) = ((2 ^ 8 * b : Nat) : Int) by omega]
  show IntKind.i64.wrap ((BitVec.ofInt 64 (a : Int) ||| BitVec.ofInt 64 ((2 ^ 8 * b : Nat) : Int)).toNat : Int) = _
  rw [BitVec.toNat_or, BitVec.ofInt_natCast, BitVec.ofInt_natCast, BitVec.toNat_ofNat, BitVec.toNat_ofNat, Nat.mod_eq_of_lt (by omega), Nat.mod_eq_of_lt (by omega), Nat.or_comm, ← Nat.two_pow_add_eq_or_of_lt hx b]
  rw [IntWalk.i64_in _ (by omega)]
  omega
set_option maxHeartbeats 1000000 in
theorem unnumber_any (s : ByteArray) (w : World) (hs : s.size = 2) :
    Calls Tryz.prog 166 #[.string s] w fun e w' => e = .returned (.int .i64 (numP s)) ∧ ∃ q, w.drewN q = w' := by
  obtain ⟨a, ha, ha2⟩ := bt_nat s 0
  obtain ⟨b, hb, hb2⟩ := bt_nat s 1
  have gb := get_bt s
  have HN : Hid (numP s = (a : Int) + b * 256) := by
    refine Lib.hid ?_
    unfold numP
    rw [ha, hb]
  go_enter Tryz.func166, Tryz.ntmps166
  go_wp2
  go_quiet (fail)
  go_wp2
  go_returns
  rw [HN.out]
  exact ⟨ret_i (or_num a b ha2 hb2), nq, rfl⟩
set_option maxHeartbeats 1000000 in
theorem made_yes {w : World} {tb pp : Nat} (h : w.cell? ⟨tb, 0, none⟩ = some (.pointer (some ⟨pp, 0, none⟩))) :
    Calls Tryz.prog 67 #[.pointer (some ⟨tb, 0, none⟩)] w fun e w' => e = .returned (.bool true) ∧ w = w' := by
  go_enter Tryz.func67, Tryz.ntmps67
  go_wp2
  go_returns
  exact ⟨rfl, rfl⟩
set_option maxHeartbeats 1000000 in
theorem number_any (k : Nat) (w : World) (hk : k ≤ 65535) :
    Calls Tryz.prog 126 #[.int .i64 k] w fun e w' => (∃ s : ByteArray, e = .returned (.string s) ∧ s.size = 2 ∧ s = numB (k : Int)) ∧ Below w.heap.size w w' := by
  have hcv := conv_row (P := Tryz.prog) 160 5 9 Tryz.underlying160 Tryz.underlying5 Tryz.underlying9 [(k : Int) % 256, (k : Int) / 256] (w.alloc (.cells #[.int .u8 ((k : Int) % 256), .int .u8 ((k : Int) / 256)] 5)) w.heap.size 2 2 _ _ _ (heap_alloc_new _ _) rfl (fun i hi => by
    have : i = 0 ∨ i = 1 := by omega
    rcases this with rfl | rfl <;> rfl)
  have hb0 : Below w.heap.size w (w.alloc (.cells #[.int .u8 ((k : Int) % 256), .int .u8 ((k : Int) / 256)] 5)) := by go_grown
  have HB := Lib.hid hb0
  have HS : Hid ((strOfNums [(k : Int) % 256, (k : Int) / 256]).size = 2 ∧ strOfNums [(k : Int) % 256, (k : Int) / 256] = numB (k : Int)) := Lib.hid ⟨rfl, rfl⟩
  clear hb0
  generalize strOfNums [(k : Int) % 256, (k : Int) / 256] = T at *
  go_enter Tryz.func126, Tryz.ntmps126
  go_wp2
  go_returns
  exact ⟨⟨T, rfl, HS.out⟩, HB.out⟩
end Go.Proofs.YtcjfnfdinhbdlaaGreatDoor
namespace Go.Proofs.YtcjfnfdinhbdlaaGreatDoor
set_option maxRecDepth 100000
open Go.ChangeShapes Go.WideShapes Go.ChangeAt Go.RowKit Go.PlainAid
def begB : List Int → List Int → Bool
  | _, [] => true
  | [], _ :: _ => false
  | x :: a, f :: fr => decide (x = f) && begB a fr
theorem pre_cat : ∀ (p q r t : List UInt8), p.length = q.length → (p ++ r).isPrefixOf (q ++ t) = (decide (p = q) && r.isPrefixOf t)
  | [], [], r, t, _ => by simp
  | x :: p, y :: q, r, t, h => by
    have ih := pre_cat p q r t (by simpa using h)
    rw [List.cons_append, List.cons_append, List.isPrefixOf, ih]
    by_cases e : x = y
    · subst e
      by_cases e2 : p = q
      · subst e2; simp
      · simp [e2]
    · simp [e]
theorem ord_inj {a b : Int} (ha : -9223372036854775808 ≤ a ∧ a ≤ 9223372036854775807) (hb : -9223372036854775808 ≤ b ∧ b ≤ 9223372036854775807) : decide ((ordS a).toList = (ordS b).toList) = decide (a = b) := by
  have h := ord_eq a b ha.1 ha.2 hb.1 hb.2
  rw [Bool.eq_iff_iff, beq_iff_eq, beq_iff_eq] at h
  exact decide_eq_decide.2 h
theorem key_list (x : Int) (l : List Int) : (keyS (x :: l)).toList = (ordS x).toList ++ (keyS l).toList := by
  rw [keyS_cons]
  simp only [ByteArray.toList_eq, ByteArray.data_append, Array.toList_append]
theorem under_key : ∀ (a f : List Int), InI a → InI f → underB (keyS a) (keyS f) = begB a f
  | a, [], _, _ => by
    unfold underB
    rw [keyS_nil, empty_list]
    cases a <;> rfl
  | [], f :: fr, _, _ => by
    have h8 := ord_len f
    unfold underB
    rw [keyS_nil, empty_list, key_list]
    cases h : (ordS f).toList with
    | nil => rw [h] at h8; cases h8
    | cons x l => rfl
  | x :: a, f :: fr, ha, hf => by
    have ih := under_key a fr (fun y hy => ha y (List.mem_cons_of_mem _ hy)) (fun y hy => hf y (List.mem_cons_of_mem _ hy))
    unfold underB at *
    rw [key_list, key_list, pre_cat _ _ _ _ (by rw [ord_len, ord_len]), ih, ord_inj (hf f List.mem_cons_self) (ha x List.mem_cons_self)]
    show _ = (decide (x = f) && begB a fr)
    rw [show decide (f = x) = decide (x = f) from decide_eq_decide.2 ⟨Eq.symm, Eq.symm⟩]
def inK (low past key : ByteArray) : Bool := !lessB key low && (decide (past.size = 0) || lessB key past)
theorem past_none {s : ByteArray} : decide ((pastS s).size = 0) = decide (pastL s.toList = []) := by
  have h := pastS_list s
  refine decide_eq_decide.2 ⟨fun e => ?_, fun e => ?_⟩
  · rw [← h, size_zero e, empty_list]
  · have : pastS s = ⟨#[]⟩ := text_eq (by rw [h, e, empty_list])
    rw [this]
    rfl
theorem inK_find (a f : List Int) (ha : InI a) (hf : InI f) : inK (keyS f) (pastS (keyS f)) (keyS a) = begB a f := by
  rw [← under_key a f ha hf]
  have h := fronts (keyS a).toList (keyS f).toList
  unfold inK underB
  rw [h, past_none]
  unfold lessB
  rw [pastS_list]
def selR (low past : ByteArray) (R : List Pr) : List Pr := R.filter fun p => inK low past p.key
def tillB (past : ByteArray) (p : Pr) : Bool := decide (past.size = 0) || lessB p.key past
theorem from_sel {low past : ByteArray} {R : List Pr} (hs : Srt R) : selR low past R = (fromR low R).filter (tillB past) := by
  have hle := posP_le low R
  unfold selR fromR
  conv => lhs; rw [← List.take_append_drop (posP low R) R, List.filter_append]
  have h1 : (R.take (posP low R)).filter (fun p => inK low past p.key) = [] := by
    rw [List.filter_eq_nil_iff]
    intro p hp
    obtain ⟨i, hi⟩ := List.mem_iff_getElem?.1 hp
    rw [List.getElem?_take] at hi
    split at hi
    · next h =>
      have := posP_below h hi
      unfold inK
      rw [this]
      simp
    · cases hi
  rw [h1, List.nil_append]
  refine List.filter_congr fun p hp => ?_
  obtain ⟨i, hi⟩ := List.mem_iff_getElem?.1 hp
  rw [List.getElem?_drop] at hi
  have := posP_above (k := low) hs (Nat.le_add_right _ _) hi
  unfold inK tillB
  rw [this]
  rfl
theorem till_all {past : ByteArray} {L : List Pr} (h : ∀ p ∈ L, tillB past p = true) : L.filter (tillB past) = L := List.filter_eq_self.2 h
theorem till_end {past : ByteArray} {A B : List Pr} {q : Pr} (hs : Srt (A ++ q :: B)) (hA : ∀ p ∈ A, tillB past p = true) (hq : tillB past q = false) : (A ++ q :: B).filter (tillB past) = A := by
  rw [List.filter_append, till_all hA]
  have h2 : (q :: B).filter (tillB past) = [] := by
    rw [List.filter_eq_nil_iff]
    intro p hp
    obtain ⟨_, hB, _⟩ := srt_parts hs
    unfold tillB at hq ⊢
    rw [Bool.or_eq_false_iff] at hq
    rcases List.mem_cons.1 hp with rfl | hp
    · rw [hq.1, hq.2]; simp
    · rw [hq.1, Bool.false_or]
      intro hl
      have h3 := lessB_trans ((srt_tail hB).2 p hp) hl
      rw [hq.2] at h3
      cases h3
  rw [h2, List.append_nil]
end Go.Proofs.YtcjfnfdinhbdlaaGreatDoor
