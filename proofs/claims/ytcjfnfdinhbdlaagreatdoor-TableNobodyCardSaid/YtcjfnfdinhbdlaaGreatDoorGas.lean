import Derived.Test.YtcjfnfdinhbdlaaGreatDoorGaj
import Derived.Test.YtcjfnfdinhbdlaaGreatDoorGag
import Derived.RangeFuncBox
import Derived.OwnWalk
import Derived.Deep.AppendLies
namespace Go.Proofs.YtcjfnfdinhbdlaaGreatDoor
set_option maxRecDepth 100000
open Go.ChangeShapes Go.WideShapes Go.ChangeAt Go.RowKit Go.PlainAid
theorem near_insert {level : Int} {lo hi : ByteArray} {L1 L2 : List Pr} {p q : Pr} (h : Near level lo hi (L1 ++ p :: L2)) (hl : level ≠ 1) (hq : q.val.size = 2) (hk : q.key.size ≤ 32) (h1 : lessB p.key q.key = true) (h2 : (hiO L2 hi).size = 0 ∨ lessB q.key (hiO L2 hi) = true) :
    Near level lo hi (L1 ++ p :: q :: L2) := by
  obtain ⟨hs, hb⟩ := risB_iff.1 h.rise
  obtain ⟨s1, s2, s3⟩ := srt_parts hs
  obtain ⟨t1, t2⟩ := srt_tail s2
  have hp := hb p (by simp)
  have hqL : (hi.size = 0 ∨ lessB q.key hi = true) ∧ ∀ y ∈ L2, lessB q.key y.key = true := by
    cases L2 with
    | nil => exact ⟨h2, fun y hy => by cases hy⟩
    | cons y l =>
      have hne := not_empty_of_less (t2 y List.mem_cons_self)
      have h6 : lessB q.key y.key = true := h2.resolve_left hne
      have hy := hb y (by simp)
      refine ⟨hy.high.imp id fun h => lessB_trans h6 h, fun z hz => ?_⟩
      rcases List.mem_cons.1 hz with rfl | hz
      · exact h6
      · exact lessB_trans h6 ((srt_tail t1).2 z hz)
  refine ⟨h.pos, risB_iff.2 ⟨srt_append s1 (srt_cons (srt_cons t1 hqL.2) fun z hz => ?_) fun a ha b hb2 => ?_, fun z hz => ?_⟩, fun e => absurd e hl, fun _ => ?_⟩
  · rcases List.mem_cons.1 hz with rfl | hz
    · exact h1
    · exact t2 z hz
  · rcases List.mem_cons.1 hb2 with rfl | hb2
    · exact s3 a ha _ List.mem_cons_self
    · rcases List.mem_cons.1 hb2 with rfl | hb2
      · exact lessB_trans (s3 a ha p List.mem_cons_self) h1
      · exact s3 a ha b (List.mem_cons_of_mem _ hb2)
  · simp only [List.mem_append, List.mem_cons] at hz
    rcases hz with hz | rfl | rfl | hz
    · exact hb z (by simp [hz])
    · exact hp
    · exact ⟨hk, lessB_le2 (lessB_asymm h1) hp.low, hqL.1⟩
    · exact hb z (by simp [hz])
  · obtain ⟨a, b, c, hc, hk⟩ := lnkB_iff.1 (h.links hl)
    refine lnkB_iff.2 ⟨fun z hz => ?_, ?_, c, ?_, hk⟩
    · simp only [List.mem_append, List.mem_cons] at hz
      rcases hz with hz | rfl | rfl | hz
      · exact a z (by simp [hz])
      · exact a z (by simp)
      · exact hq
      · exact a z (by simp [hz])
    · simp only [List.length_append, List.length_cons] at b ⊢
      omega
    · cases L1 with
      | nil => exact hc
      | cons x l => exact hc
section
variable {G : Pgs}
theorem take_at {α : Type} {L1 L2 : List α} {p : α} {t : Nat} (h : L1.length = t) : (L1 ++ p :: L2).take (t + 1) = L1 ++ [p] ∧ (L1 ++ p :: L2).drop (t + 1) = L2 := by
  subst h
  constructor
  · rw [show L1 ++ p :: L2 = (L1 ++ [p]) ++ L2 by simp, List.take_left' (by simp)]
  · rw [show L1 ++ p :: L2 = (L1 ++ [p]) ++ L2 by simp, List.drop_left' (by simp)]
theorem cut_ok {h : Nat} {x : NdD} {R : List Pr} {Q' : List Int} {k : Nat} {m : Pr} {v : Int} (hl : x.level = (h : Int) + 1) (hn : Near x.level x.low x.high x.L) (hb : Bd G h x.L x.high R Q') (hc : CutOk x.level x.L k) (hm : x.L[k]? = some m)
    (hv : G v = none) (ha : G x.at_ ≠ none) (hnd : x.at_ ∉ Q') :
    ∃ R1 Q1 R2 Q2, Tr (wrG (wrG G x.at_ x.level (x.L.take k)) v x.level (x.L.drop k)) h x.at_ x.low m.key R1 (x.at_ :: Q1) ∧ Tr (wrG (wrG G x.at_ x.level (x.L.take k)) v x.level (x.L.drop k)) h v m.key x.high R2 (v :: Q2) ∧ R = R1 ++ R2 ∧ Q' = Q1 ++ Q2 ∧
      KeyOk x.low x.high m ∧ lessB x.low m.key = true := by
  have hsp := hn
  have hbp := hb
  rw [← List.take_append_drop k x.L] at hsp hbp
  have hm2 : (x.L.drop k)[0]? = some m := by rw [List.getElem?_drop, Nat.add_zero]; exact hm
  obtain ⟨n1, n2, n3, n4⟩ := near_split hsp hm2 (fun e => by have h9 := congrArg List.length e; rw [List.length_take, List.length_nil] at h9; have := hc.lt; have := hc.pos; omega) (fun e => by
    have := hc.two (by have := hn.pos; omega)
    rw [List.length_take, List.length_drop]
    omega)
  obtain ⟨R1, Q1, R2, Q2, b1, b2, rfl, rfl⟩ := bd_append.1 hbp
  rw [hiO_of hm2] at b1
  have hav : x.at_ ≠ v := fun e => by rw [e] at ha; exact ha hv
  have hf1 : ∀ c ∈ Q1 ++ Q2, wrG (wrG G x.at_ x.level (x.L.take k)) v x.level (x.L.drop k) c = G c := fun c hc => by
    have h1 : c ≠ v := fun e => by
      rcases List.mem_append.1 hc with h | h
      · exact bd_some b1 c h (by rw [e]; exact hv)
      · exact bd_some b2 c h (by rw [e]; exact hv)
    have h2 : c ≠ x.at_ := fun e => hnd (by rw [← e]; exact hc)
    rw [wrG_other h1, wrG_other h2]
  refine ⟨R1, Q1, R2, Q2, tr_iff.2 ⟨x.L.take k, Q1, ?_, ?_, bd_frame b1 fun c hc => hf1 c (List.mem_append_left _ hc), rfl⟩, tr_iff.2 ⟨x.L.drop k, Q2, ?_, ?_, bd_frame b2 fun c hc => hf1 c (List.mem_append_right _ hc), rfl⟩, rfl, rfl, n3, n4⟩
  · rw [wrG_other hav, wrG_self, hl]
  · rw [← hl]
    exact n1.lawful hc.left
  · rw [wrG_self, hl]
  · rw [← hl]
    exact n2.lawful hc.right
theorem root_near {level : Int} {m : Pr} {a v : Int} (h : 1 < level) (hk : m.key.size ≤ 32) (h0 : lessB ⟨#[]⟩ m.key = true) : Lawful level ⟨#[]⟩ ⟨#[]⟩ [⟨⟨#[]⟩, numB a⟩, ⟨m.key, numB v⟩] := by
  refine ⟨by omega, ?_, risB_iff.2 ⟨srt_cons (srt_cons srt_nil fun q hq => by cases hq) fun q hq => ?_, fun p hp => ?_⟩, fun e => by omega, fun _ => lnkB_iff.2 ⟨fun p hp => ?_, by show 1 < 2; decide, _, rfl, rfl⟩⟩
  · rw [wtP_link h]
    show 36 * 2 ≤ 254
    decide
  · simp only [List.mem_singleton] at hq
    subst hq
    exact h0
  · simp only [List.mem_cons, List.not_mem_nil, or_false] at hp
    rcases hp with rfl | rfl
    · exact ⟨by show 0 ≤ 32; decide, lessB_empty _, .inl rfl⟩
    · exact ⟨hk, lessB_empty _, .inl rfl⟩
  · simp only [List.mem_cons, List.not_mem_nil, or_false] at hp
    rcases hp with rfl | rfl <;> rfl
theorem grow_ok {a0 : Int} : ∀ {us : List (NdD × Nat)} {x : NdD} {h : Nat} {G G' : Pgs} {R A B : List Pr} {Q' C N : List Int} {rt : Option Int}, x.level = (h : Int) + 1 → Near x.level x.low x.high x.L → wtP x.level x.L ≤ 394 → Bd G h x.L x.high R Q' →
    Wy G a0 us h x.at_ x.low x.high A B C → (x.at_ :: (Q' ++ C)).Nodup → G x.at_ ≠ none → (∀ c, G c ≠ none → 0 ≤ c ∧ c ≤ 65535) → GrowG us x G G' N rt →
    ∃ H Qn, Tr G' H (rt.getD a0) ⟨#[]⟩ ⟨#[]⟩ (A ++ (R ++ B)) Qn ∧ Qn.Perm (x.at_ :: (Q' ++ (C ++ N))) ∧ (∀ c, c ∉ Qn → G' c = G c) ∧ (∀ v ∈ N, G v = none) ∧ (∀ c, G' c ≠ none ↔ G c ≠ none ∨ c ∈ N) ∧ N.Nodup := by
  -- a page that fits
  have fits : ∀ {us : List (NdD × Nat)} {x : NdD} {h : Nat} {G G' : Pgs} {R A B : List Pr} {Q' C N : List Int} {rt : Option Int}, x.level = (h : Int) + 1 → Near x.level x.low x.high x.L → Bd G h x.L x.high R Q' →
      Wy G a0 us h x.at_ x.low x.high A B C → (x.at_ :: (Q' ++ C)).Nodup → G x.at_ ≠ none → (wtP x.level x.L ≤ 254 ∧ G' = wrG G x.at_ x.level x.L ∧ N = [] ∧ rt = none) →
      ∃ H Qn, Tr G' H (rt.getD a0) ⟨#[]⟩ ⟨#[]⟩ (A ++ (R ++ B)) Qn ∧ Qn.Perm (x.at_ :: (Q' ++ (C ++ N))) ∧ (∀ c, c ∉ Qn → G' c = G c) ∧ (∀ v ∈ N, G v = none) ∧ (∀ c, G' c ≠ none ↔ G c ≠ none ∨ c ∈ N) ∧ N.Nodup := by
    rintro us x h G G' R A B Q' C N rt hl hn hb hw hnd ha ⟨hwt, rfl, rfl, rfl⟩
    obtain ⟨hx, hnd2⟩ := List.nodup_cons.1 hnd
    have t : Tr (wrG G x.at_ x.level x.L) h x.at_ x.low x.high R (x.at_ :: Q') := tr_iff.2 ⟨x.L, Q', by rw [wrG_self, hl], by rw [← hl]; exact hn.lawful hwt, bd_frame hb fun c hc => wrG_other fun e => hx (by rw [← e]; simp [hc]), rfl⟩
    obtain ⟨Qn, t2, hp⟩ := wy_climb (wy_frame (G' := wrG G x.at_ x.level x.L) hw fun c hc => wrG_other fun e => hx (by rw [← e]; simp [hc])) t
    refine ⟨_, Qn, t2, hp.trans (by simp), fun c hc => wrG_other fun e => hc (hp.mem_iff.2 (by simp [e])), (fun v hv => by cases hv), fun c => ?_, List.nodup_nil⟩
    by_cases e : c = x.at_
    · rw [e, wrG_self]
      simp [ha]
    · rw [wrG_other e]
      simp
  intro us
  induction us with
  | nil =>
    intro x h G G' R A B Q' C N rt hl hn hwt hb hw hnd ha hB hg
    rcases hg with hf | ⟨hbig, v, m, v2, hv, hv0, hv1, hm, G1, hG1, hv2, rfl, rfl, rfl⟩
    · exact fits hl hn hb hw hnd ha hf
    · have hc := half_ok hn.sz hbig hwt
      obtain ⟨hx, hnd2⟩ := List.nodup_cons.1 hnd
      obtain ⟨R1, Q1, R2, Q2, t1, t2, rfl, rfl, k1, k2⟩ := cut_ok hl hn hb hc hm hv ha (fun e => hx (List.mem_append_left _ e))
      obtain ⟨e1, e2, e3, rfl, rfl, rfl⟩ := hw
      rw [← hG1] at t1 t2
      rw [e2] at t1 k2
      rw [e3] at t2
      have hab := hB _ ha
      have f1 : ∀ c ∈ x.at_ :: Q1, wrG G1 v2 (x.level + 1) [⟨⟨#[]⟩, numB x.at_⟩, ⟨m.key, numB v⟩] c = G1 c := fun c hc => wrG_other fun e => tr_some t1 c hc (by rw [e]; exact hv2)
      have f2 : ∀ c ∈ v :: Q2, wrG G1 v2 (x.level + 1) [⟨⟨#[]⟩, numB x.at_⟩, ⟨m.key, numB v⟩] c = G1 c := fun c hc => wrG_other fun e => tr_some t2 c hc (by rw [e]; exact hv2)
      refine ⟨h + 1, v2 :: ((x.at_ :: Q1) ++ (v :: Q2)), ⟨_, _, by show wrG G1 v2 _ _ v2 = _; rw [wrG_self, hl]; congr 2, root_near (by omega) k1.small k2, ⟨R1, _, R2, _, ?_, ⟨R2, v :: Q2, [], [], ?_, ⟨rfl, rfl⟩, by simp, by simp⟩, by simp, rfl⟩, rfl⟩, ?_, fun c hc => ?_, fun c hc => ?_, fun c => ?_, List.nodup_cons.2 ⟨fun e => ?_, List.nodup_cons.2 ⟨(fun e => by cases e), List.nodup_nil⟩⟩⟩
      · rw [numP_numB hab.1 hab.2]
        exact tr_frame t1 f1
      · rw [numP_numB hv0 hv1]
        exact tr_frame t2 f2
      · rw [List.perm_iff_count]
        intro c
        simp only [List.count_append, List.count_cons, List.count_nil]
        omega
      · have h1 : c ≠ v2 := fun e => hc (by simp [e])
        have h2 : c ≠ x.at_ := fun e => hc (by simp [e])
        have h3 : c ≠ v := fun e => hc (by simp [e])
        rw [wrG_other h1, hG1, wrG_other h3, wrG_other h2]
      · simp only [List.mem_cons, List.not_mem_nil, or_false] at hc
        rcases hc with rfl | rfl
        · exact hv
        · have h3 : c ≠ v := fun e => by rw [hG1, e, wrG_self] at hv2; cases hv2
          have h2 : c ≠ x.at_ := fun e => by rw [hG1, wrG_other h3, e, wrG_self] at hv2; cases hv2
          rw [hG1, wrG_other h3, wrG_other h2] at hv2
          exact hv2
      · by_cases h1 : c = v2
        · subst h1
          rw [wrG_self]
          simp
        · rw [wrG_other h1, hG1]
          by_cases h3 : c = v
          · subst h3
            rw [wrG_self]
            simp
          · rw [wrG_other h3]
            by_cases h2 : c = x.at_
            · subst h2
              rw [wrG_self]
              simp [ha]
            · rw [wrG_other h2]
              simp [h1, h3]
      · simp only [List.mem_singleton] at e
        rw [← e, hG1, wrG_self] at hv2
        cases hv2
  | cons u us ih =>
    intro x h G G' R A B Q' C N rt hl hn hwt hb hw hnd ha hB hg
    rcases hg with hf | ⟨hbig, v, m, N', hv, hv0, hv1, hm, rfl, hg⟩
    · exact fits hl hn hb hw hnd ha hf
    · have hc := half_ok hn.sz hbig hwt
      obtain ⟨hx, hnd2⟩ := List.nodup_cons.1 hnd
      obtain ⟨R1, Q1, R2, Q2, t1, t2, rfl, rfl, k1, k2⟩ := cut_ok hl hn hb hc hm hv ha (fun e => hx (List.mem_append_left _ e))
      have hbs := bd_some hb
      have hws := wy_some hw
      obtain ⟨L1, p, L2, Ra, Qa, Rb, Qb, A', B', C', h1, h2, h3, h4, h5, h6, h7, h8, h9, h10, h11, rfl, rfl, rfl⟩ := hw
      obtain ⟨G1, hG1⟩ : ∃ G1, wrG (wrG G x.at_ x.level (x.L.take (halfP x.level x.L))) v x.level (x.L.drop (halfP x.level x.L)) = G1 := ⟨_, rfl⟩
      rw [hG1] at t1 t2 hg
      obtain ⟨k3, k4⟩ := take_at (L2 := L2) (p := p) h2
      rw [h1, k3, k4, show L1 ++ [p] ++ (⟨m.key, numB v⟩ : Pr) :: L2 = L1 ++ p :: ⟨m.key, numB v⟩ :: L2 by simp] at hg
      have hvC : ∀ c ∈ u.1.at_ :: (Qa ++ (Qb ++ C')), c ≠ v := fun c hc e => hws c hc (by rw [e]; exact hv)
      have hvQ : ∀ c ∈ Q1 ++ Q2, c ≠ v := fun c hc e => hbs c hc (by rw [e]; exact hv)
      have hG1o : ∀ c, c ≠ v → c ≠ x.at_ → G1 c = G c := fun c a b => by rw [← hG1, wrG_other a, wrG_other b]
      have hG1C : ∀ c ∈ u.1.at_ :: (Qa ++ (Qb ++ C')), G1 c = G c := fun c hc => hG1o c (hvC c hc) fun e => hx (by rw [← e]; exact List.mem_append_right _ hc)
      have hlaw := h5
      rw [h1] at hlaw
      have hnear : Near u.1.level u.1.low u.1.high (L1 ++ p :: ⟨m.key, numB v⟩ :: L2) := near_insert hlaw.near (by omega) rfl k1.small (by rw [← h7]; exact k2) (by rw [← h8]; exact k1.high)
      have hwt2 : wtP u.1.level (L1 ++ p :: ⟨m.key, numB v⟩ :: L2) ≤ 394 := by
        have h12 := hlaw.weight
        rw [wtP_link (by omega)] at h12 ⊢
        simp only [List.length_append, List.length_cons] at h12 ⊢
        omega
      have hbd : Bd G1 (h + 1) (L1 ++ p :: ⟨m.key, numB v⟩ :: L2) u.1.high (Ra ++ (R1 ++ (R2 ++ Rb))) (Qa ++ ((x.at_ :: Q1) ++ ((v :: Q2) ++ Qb))) := ks_mid.2 ⟨Ra, Qa, R1, x.at_ :: Q1, R2 ++ Rb, (v :: Q2) ++ Qb, ks_frame h9 fun c hc => hG1C c (by simp [hc]), by rw [h6, ← h7]; exact t1,
        ⟨R2, v :: Q2, Rb, Qb, by rw [numP_numB hv0 hv1, ← h8]; exact t2, ks_frame h10 fun c hc => hG1C c (by simp [hc]), rfl, rfl⟩, rfl, rfl⟩
      have hvall : v ∉ x.at_ :: ((Q1 ++ Q2) ++ (u.1.at_ :: (Qa ++ (Qb ++ C')))) := fun hc => by
        rcases List.mem_cons.1 hc with e | hc
        · exact ha (by rw [← e]; exact hv)
        · rcases List.mem_append.1 hc with hc | hc
          · exact hvQ v hc rfl
          · exact hvC v hc rfl
      have hnd3 : (u.1.at_ :: ((Qa ++ ((x.at_ :: Q1) ++ ((v :: Q2) ++ Qb))) ++ C')).Nodup := by
        refine (List.Perm.nodup_iff ?_).2 (List.nodup_cons.2 ⟨hvall, hnd⟩)
        rw [List.perm_iff_count]
        intro c
        simp only [List.count_append, List.count_cons]
        omega
      have hns : ∀ c, G1 c ≠ none ↔ G c ≠ none ∨ c = v := fun c => by
        by_cases e : c = v
        · subst e
          rw [← hG1, wrG_self]
          simp
        · by_cases e2 : c = x.at_
          · subst e2
            rw [← hG1, wrG_other e, wrG_self]
            simp [ha]
          · rw [hG1o c e e2]
            simp [e]
      obtain ⟨H, Qn, g1, g2, g3, g4, g5, g6⟩ := ih (x := { u.1 with L := L1 ++ p :: ⟨m.key, numB v⟩ :: L2 }) (h := h + 1) (G := G1) (by show u.1.level = _; rw [h3]; push_cast; omega) hnear hwt2 hbd (wy_frame h11 fun c hc => hG1C c (by simp [hc])) hnd3 (by show G1 u.1.at_ ≠ none; rw [hG1C _ (by simp), h4]; simp) (fun c hc => by
        rcases (hns c).1 hc with hc | rfl
        · exact hB c hc
        · exact ⟨hv0, hv1⟩) hg
      have hat : ∀ c, c ∉ Qn → c ≠ v ∧ c ≠ x.at_ := fun c hc => ⟨fun e => hc (g2.mem_iff.2 (by simp [e])), fun e => hc (g2.mem_iff.2 (by simp [e]))⟩
      refine ⟨H, Qn, ?_, g2.trans ?_, fun c hc => ?_, fun c hc => ?_, fun c => ?_, List.nodup_cons.2 ⟨fun e => ?_, g6⟩⟩
      · rw [show A' ++ Ra ++ (R1 ++ R2 ++ (Rb ++ B')) = A' ++ (Ra ++ (R1 ++ (R2 ++ Rb)) ++ B') by simp]
        exact g1
      · rw [List.perm_iff_count]
        intro c
        simp only [List.count_append, List.count_cons]
        omega
      · rw [g3 c hc, hG1o c (hat c hc).1 (hat c hc).2]
      · rcases List.mem_cons.1 hc with rfl | hc
        · exact hv
        · have h12 := g4 c hc
          have : ¬ G1 c ≠ none := fun h => h h12
          rw [hns c] at this
          exact Decidable.byContradiction fun h => this (.inl h)
      · rw [g5 c, hns c, List.mem_cons, or_assoc]
      · have := g4 v e
        exact (hns v).2 (.inr rfl) this
end
end Go.Proofs.YtcjfnfdinhbdlaaGreatDoor
namespace Go.Proofs.YtcjfnfdinhbdlaaGreatDoor
set_option maxRecDepth 100000
open Go.ChangeShapes Go.WideShapes Go.ChangeAt Go.RowKit Go.PlainAid
def putB (r : Pr) (L : List Pr) : List Pr := if hitP r.key L = true then L.set (posP r.key L) r else L.take (posP r.key L) ++ r :: L.drop (posP r.key L)
def delB (k : ByteArray) (L : List Pr) : List Pr := if hitP k L = true then L.take (posP k L) ++ L.drop (posP k L + 1) else L
def getB (k : ByteArray) (L : List Pr) : Option ByteArray := if hitP k L = true then (L[posP k L]?).map Pr.val else none
section
variable {A L B : List Pr} {k : ByteArray}
theorem posP_mid (hA : ∀ a ∈ A, lessB a.key k = true) (hB : ∀ b ∈ B, lessB k b.key = true) : posP k (A ++ (L ++ B)) = A.length + posP k L := by
  have hle := posP_le k L
  refine posP_eq (by simp only [List.length_append]; omega) (fun j p hj hp => ?_) (fun p hp => ?_)
  · by_cases h : j < A.length
    · rw [List.getElem?_append_left h] at hp
      exact hA p (List.mem_of_getElem? hp)
    · rw [List.getElem?_append_right (by omega), List.getElem?_append_left (by omega)] at hp
      exact posP_below (by omega) hp
  · rw [List.getElem?_append_right (by omega), Nat.add_sub_cancel_left] at hp
    by_cases h : posP k L < L.length
    · rw [List.getElem?_append_left h] at hp
      exact posP_at hp
    · rw [List.getElem?_append_right (by omega)] at hp
      exact lessB_asymm (hB p (List.mem_of_getElem? hp))
theorem at_mid (hA : ∀ a ∈ A, lessB a.key k = true) (hB : ∀ b ∈ B, lessB k b.key = true) : (A ++ (L ++ B))[posP k (A ++ (L ++ B))]? = if posP k L < L.length then L[posP k L]? else B[0]? := by
  rw [posP_mid hA hB, List.getElem?_append_right (by omega), Nat.add_sub_cancel_left]
  have hle := posP_le k L
  split
  · next h => rw [List.getElem?_append_left h]
  · next h => rw [List.getElem?_append_right (by omega), show posP k L - L.length = 0 by omega]
theorem hitP_mid (hA : ∀ a ∈ A, lessB a.key k = true) (hB : ∀ b ∈ B, lessB k b.key = true) : hitP k (A ++ (L ++ B)) = hitP k L := by
  have e := at_mid (L := L) hA hB
  unfold hitP
  rw [e]
  by_cases h : posP k L < L.length
  · rw [if_pos h]
  · have e2 : L[posP k L]? = none := List.getElem?_eq_none (by omega)
    rw [if_neg h, e2]
    cases hb : B[0]? with
    | none => rfl
    | some b =>
      show decide (cmpB b.key k = 0) = false
      rw [decide_eq_false_iff_not, cmpB_zero]
      intro h2
      have := hB b (List.mem_of_getElem? hb)
      rw [h2, lessB_irrefl] at this
      cases this
theorem hit_lt (h : hitP k L = true) : posP k L < L.length := by
  obtain ⟨p, hp, _⟩ := hitP_some h
  exact (List.getElem?_eq_some_iff.1 hp).1
theorem putB_mid {r : Pr} (hA : ∀ a ∈ A, lessB a.key r.key = true) (hB : ∀ b ∈ B, lessB r.key b.key = true) : putB r (A ++ (L ++ B)) = A ++ (putB r L ++ B) := by
  unfold putB
  rw [hitP_mid hA hB, posP_mid hA hB]
  have hle := posP_le r.key L
  split
  · next h =>
    have := hit_lt h
    rw [List.set_append_right _ _ (by omega), Nat.add_sub_cancel_left, List.set_append_left _ _ this]
  · have hd : A.drop (A.length + posP r.key L) = [] := List.drop_eq_nil_of_le (by omega)
    rw [List.take_append, List.drop_append, List.take_of_length_le (by omega), hd, Nat.add_sub_cancel_left, List.take_append, List.drop_append, show posP r.key L - L.length = 0 by omega]
    simp
theorem delB_mid (hA : ∀ a ∈ A, lessB a.key k = true) (hB : ∀ b ∈ B, lessB k b.key = true) : delB k (A ++ (L ++ B)) = A ++ (delB k L ++ B) := by
  unfold delB
  rw [hitP_mid hA hB, posP_mid hA hB]
  split
  · next h =>
    have := hit_lt h
    have hd : A.drop (A.length + posP k L + 1) = [] := List.drop_eq_nil_of_le (by omega)
    rw [List.take_append, List.drop_append, List.take_of_length_le (by omega), hd, Nat.add_sub_cancel_left, show A.length + posP k L + 1 - A.length = posP k L + 1 by omega, List.take_append, List.drop_append, show posP k L - L.length = 0 by omega, show posP k L + 1 - L.length = 0 by omega]
    simp
  · rfl
theorem getB_mid (hA : ∀ a ∈ A, lessB a.key k = true) (hB : ∀ b ∈ B, lessB k b.key = true) : getB k (A ++ (L ++ B)) = getB k L := by
  unfold getB
  rw [hitP_mid hA hB, at_mid hA hB]
  split
  · next h => rw [if_pos (hit_lt h)]
  · rfl
theorem srt_at (hs : Srt L) (k : ByteArray) : ∃ X Y, L = X ++ Y ∧ X.length = posP k L ∧ (∀ x ∈ X, lessB x.key k = true) ∧ ∀ y ∈ Y, lessB y.key k = false := by
  have hle := posP_le k L
  refine ⟨L.take (posP k L), L.drop (posP k L), (List.take_append_drop _ _).symm, by rw [List.length_take]; omega, fun x hx => ?_, fun y hy => ?_⟩
  · obtain ⟨i, hi⟩ := List.mem_iff_getElem?.1 hx
    rw [List.getElem?_take] at hi
    split at hi
    · next h => exact posP_below h hi
    · cases hi
  · obtain ⟨i, hi⟩ := List.mem_iff_getElem?.1 hy
    rw [List.getElem?_drop] at hi
    exact posP_above hs (by omega) hi
theorem srt_hit (hs : Srt L) (k : ByteArray) : ∃ X Y, (∀ x ∈ X, lessB x.key k = true) ∧ (∀ y ∈ Y, lessB k y.key = true) ∧
    ((hitP k L = false ∧ L = X ++ Y ∧ (∀ v, putB ⟨k, v⟩ L = X ++ ⟨k, v⟩ :: Y) ∧ delB k L = L ∧ getB k L = none) ∨ (hitP k L = true ∧ ∃ p, p.key = k ∧ L = X ++ p :: Y ∧ (∀ v, putB ⟨k, v⟩ L = X ++ ⟨k, v⟩ :: Y) ∧ delB k L = X ++ Y ∧ getB k L = some p.val)) := by
  obtain ⟨X, Y, h1, h2, h3, h4⟩ := srt_at hs k
  cases hh : hitP k L with
  | false =>
    refine ⟨X, Y, h3, fun y hy => ?_, .inl ⟨rfl, h1, fun v => ?_, ?_, ?_⟩⟩
    · cases hl : lessB k y.key with
      | true => rfl
      | false =>
        obtain ⟨i, hi⟩ := List.mem_iff_getElem?.1 hy
        have := (hitP_of (k := k) hs (i := X.length + i) (p := y) (by rw [h1, List.getElem?_append_right (by omega), Nat.add_sub_cancel_left]; exact hi) (lessB_total (h4 y hy) hl)).2
        rw [hh] at this
        cases this
    · unfold putB
      rw [if_neg (by show ¬ hitP k L = true; rw [hh]; simp)]
      show L.take (posP k L) ++ _ :: L.drop (posP k L) = _
      rw [← h2, h1, List.take_left' rfl, List.drop_left' rfl]
    · unfold delB
      rw [if_neg (by rw [hh]; simp)]
    · unfold getB
      rw [if_neg (by rw [hh]; simp)]
  | true =>
    obtain ⟨p, hp, hk⟩ := hitP_some hh
    have hY : Y[0]? = some p := by
      rw [← h2, h1, List.getElem?_append_right (by omega), Nat.sub_self] at hp
      exact hp
    obtain ⟨Z, rfl⟩ : ∃ Z, Y = p :: Z := by
      cases Y with
      | nil => cases hY
      | cons y l =>
        have hY : some y = some p := hY
        cases hY
        exact ⟨l, rfl⟩
    have hsL := hs
    rw [h1] at hsL
    obtain ⟨s1, s2, s3⟩ := srt_parts hsL
    refine ⟨X, Z, h3, fun y hy => by rw [← hk]; exact (srt_tail s2).2 y hy, .inr ⟨rfl, p, hk, h1, fun v => ?_, ?_, ?_⟩⟩
    · unfold putB
      rw [if_pos (show hitP k L = true from hh)]
      show L.set (posP k L) _ = _
      rw [← h2, h1, List.set_append_right _ _ (by omega), Nat.sub_self]
      rfl
    · unfold delB
      rw [if_pos hh, ← h2, h1, List.take_left' rfl, show X ++ p :: Z = (X ++ [p]) ++ Z by simp, List.drop_left' (by simp)]
    · unfold getB
      rw [if_pos hh, hp]
      rfl
end
theorem towP_at {key : ByteArray} {L : List Pr} {p0 : Pr} (hs : Srt L) (h0 : L[0]? = some p0) (hk : lessB key p0.key = false) : ∃ L1 p L2, L = L1 ++ p :: L2 ∧ L1.length = towP key L ∧ lessB key p.key = false ∧ ∀ q ∈ L2, lessB key q.key = true := by
  obtain ⟨X, Y, h1, h2, h3⟩ := srt_hit hs key
  rcases h3 with ⟨hh, h4, _⟩ | ⟨hh, p, hpk, h4, _⟩
  · have hX : X ≠ [] := fun e => by
      rw [h4, e] at h0
      have := h2 p0 (List.mem_of_getElem? h0)
      rw [hk] at this
      cases this
    have e := List.dropLast_concat_getLast hX
    obtain ⟨L1, p, rfl⟩ : ∃ L1 p, X = L1 ++ [p] := ⟨_, _, e.symm⟩
    have hp := h1 p (by simp)
    refine ⟨L1, p, Y, by rw [h4]; simp, ?_, lessB_asymm hp, h2⟩
    have hpos : posP key L = L1.length + 1 := posP_eq (by rw [h4]; simp only [List.length_append, List.length_singleton]; omega) (fun j q hj hq => by
        rw [h4, List.getElem?_append_left (by simp only [List.length_append, List.length_singleton]; omega)] at hq
        exact h1 q (List.mem_of_getElem? hq)) (fun q hq => by
        rw [h4, List.getElem?_append_right (by simp only [List.length_append, List.length_singleton]; omega)] at hq
        exact lessB_asymm (h2 q (List.mem_of_getElem? hq)))
    unfold towP
    rw [if_pos ⟨hh, by omega⟩, hpos]
    omega
  · refine ⟨X, p, Y, h4, ?_, by rw [hpk]; exact lessB_irrefl _, h2⟩
    have := (hitP_of hs (i := X.length) (p := p) (by rw [h4, List.getElem?_append_right (by omega), Nat.sub_self]; rfl) hpk).1
    unfold towP
    rw [if_neg (by rw [hh]; simp), this]
section
variable {V : Int → ByteArray} {out : Int → Bool}
def WayL (V : Int → ByteArray) (out : Int → Bool) (key : ByteArray) : List (NdD × Nat) → NdD → NdD → Prop
  | [], x, y => x = y
  | u :: us, x, y => u.2 = towP key u.1.L ∧ u.1.level ≠ 1 ∧ rdN V out (kidN u.1 u.2) = (x, false) ∧ WayL V out key us u.1 y
theorem rdN_see {x y : NdD} (h : rdN V out x = (y, false)) : seeG V out y.at_ = some (y.level, y.L) := by
  unfold rdN at h
  cases e : rdP V out x with
  | none =>
    rw [e] at h
    simp only [Prod.mk.injEq, Bool.true_eq_false, and_false] at h
  | some r =>
    obtain ⟨l, L⟩ := r
    rw [e] at h
    simp only [Prod.mk.injEq, and_true] at h
    subst h
    obtain ⟨h1, h2, h3, _, _⟩ := rdP_some e
    show seeG V out x.at_ = some (l, L)
    unfold seeG
    rw [if_neg (by rw [h1]; simp), h2, h3]
    rfl
structure OnWay (G : Pgs) (a0 : Int) (R0 : List Pr) (Q0 : List Int) (key : ByteArray) (us : List (NdD × Nat)) (x : NdD) (h : Nat) (A R B : List Pr) (Q C : List Int) : Prop where
  wy : Wy G a0 us h x.at_ x.low x.high A B C
  tr : Tr G h x.at_ x.low x.high R Q
  lev : x.level = (h : Int) + 1
  see : G x.at_ = some (x.level, x.L)
  recs : R0 = A ++ (R ++ B)
  perm : Q0.Perm (Q ++ C)
  left : ∀ a ∈ A, lessB a.key key = true
  right : ∀ b ∈ B, lessB key b.key = true
  low : lessB key x.low = false
  high : x.high.size = 0 ∨ lessB key x.high = true
theorem tr_lev {G : Pgs} {h : Nat} {a : Int} {lo hi : ByteArray} {R : List Pr} {Q : List Int} {l : Int} {L : List Pr} (t : Tr G h a lo hi R Q) (hs : G a = some (l, L)) : l = (h : Int) + 1 ∧ Lawful l lo hi L ∧ ∃ Q', Q = a :: Q' ∧ Bd G h L hi R Q' := by
  obtain ⟨L', Q', h1, h2, h3, h4⟩ := tr_iff.1 t
  rw [hs] at h1
  cases h1
  exact ⟨rfl, h2, Q', h4, h3⟩
theorem way_ok {a0 : Int} {key : ByteArray} {H : Nat} {R0 : List Pr} {Q0 : List Int} {y : NdD} (t : Tr (seeG V out) H a0 ⟨#[]⟩ ⟨#[]⟩ R0 Q0) (hy : y.at_ = a0 ∧ y.low = ⟨#[]⟩ ∧ y.high = ⟨#[]⟩) (hs : seeG V out y.at_ = some (y.level, y.L)) :
    ∀ (us : List (NdD × Nat)) (x : NdD), WayL V out key us x y → ∃ h A R B Q C, OnWay (seeG V out) a0 R0 Q0 key us x h A R B Q C
  | [], x, e => by
    have e : x = y := e
    subst e
    obtain ⟨h1, h2, h3⟩ := hy
    rw [h1] at hs
    obtain ⟨l1, l2, _⟩ := tr_lev t hs
    exact ⟨H, [], R0, [], Q0, [], ⟨⟨h1, h2, h3, rfl, rfl, rfl⟩, by rw [h1, h2, h3]; exact t, l1, by rw [h1]; exact hs, by simp, by simp, (fun a ha => by cases ha), (fun b hb => by cases hb), by rw [h2]; exact lessB_empty _, by rw [h3]; exact .inl rfl⟩⟩
  | u :: us, x, ⟨h1, h2, h3, h4⟩ => by
    obtain ⟨h, A, R, B, Q, C, hw⟩ := way_ok t hy hs us u.1 h4
    obtain ⟨l1, l2, Q', rfl, hbd⟩ := tr_lev hw.tr hw.see
    cases h with
    | zero => exact absurd l1 h2
    | succ h =>
      obtain ⟨_, _, p0, hp0, hpk⟩ := lnkB_iff.1 (l2.links h2)
      obtain ⟨L1, p, L2, e1, e2, e3, e4⟩ := towP_at (key := key) (risB_iff.1 l2.rise).1 hp0 (by rw [hpk]; exact hw.low)
      have hks : Ks (Tr (seeG V out) h) u.1.L u.1.high R Q' := hbd
      have hlaw := l2
      rw [e1] at hks hlaw
      obtain ⟨R1, Q1, r, q, R2, Q2, k1, k2, k3, rfl, rfl⟩ := ks_mid.1 hks
      have hat : u.1.L[u.2]? = some p := by rw [e1, List.getElem?_append_right (by omega), show u.2 - L1.length = 0 by omega]; rfl
      have hat1 : (match u.1.L[u.2 + 1]? with | some q => q.key | none => u.1.high) = hiO L2 u.1.high := by
        rw [e1, List.getElem?_append_right (by omega), show u.2 + 1 - L1.length = 0 + 1 by omega, List.getElem?_cons_succ]
        cases L2 <;> rfl
      obtain ⟨d1, d2, d3⟩ := kidN_at hat
      have d0 : (kidN u.1 u.2).at_ = numP p.val := by unfold kidN; rw [hat]
      obtain ⟨x1, x2, x3, x4, x5⟩ := rdN_of h3
      have hsee := rdN_see h3
      rw [d0] at x1
      rw [d2] at x2
      rw [d3] at x3
      have x3 := x3.trans hat1
      have k2' : Tr (seeG V out) h x.at_ x.low x.high r q := by rw [x1, x2, x3]; exact k2
      obtain ⟨m1, m2, _⟩ := tr_lev k2' hsee
      obtain ⟨hsr, hbd2⟩ := risB_iff.1 hlaw.rise
      obtain ⟨s1, s2, s3⟩ := srt_parts hsr
      obtain ⟨s4, s5⟩ := srt_tail s2
      refine ⟨h, A ++ R1, r, R2 ++ B, q, u.1.at_ :: (Q1 ++ (Q2 ++ C)), ⟨⟨L1, p, L2, R1, Q1, R2, Q2, A, B, C, e1, by omega, by rw [l1]; push_cast; omega, hw.see, l2, x1.symm, x2, x3, k1, k3, hw.wy, rfl, rfl, rfl⟩, k2', m1, hsee, by rw [hw.recs]; simp, hw.perm.trans ?_, fun a ha => ?_, fun b hb => ?_, by rw [x2]; exact e3, ?_⟩⟩
      · rw [List.perm_iff_count]
        intro c
        simp only [List.count_append, List.count_cons]
        omega
      · rcases List.mem_append.1 ha with ha | ha
        · exact hw.left a ha
        · have hL1 : ∀ z ∈ L1, KeyOk u.1.low p.key z := fun z hz => ⟨(hbd2 z (by simp [hz])).small, (hbd2 z (by simp [hz])).low, .inr (s3 z hz p List.mem_cons_self)⟩
          have hr := (ks_rec (fun a lo hi r q ht => tr_rec ht) s1 hL1 k1).2.1 a ha
          have hne : p.key.size ≠ 0 := by
            cases L1 with
            | nil =>
              obtain ⟨e, _⟩ := k1
              rw [e] at ha
              cases ha
            | cons z l => exact not_empty_of_less (s3 z List.mem_cons_self p List.mem_cons_self)
          exact lessB_lt_le (hr.high.resolve_left hne) e3
      · rcases List.mem_append.1 hb with hb | hb
        · cases L2 with
          | nil =>
            obtain ⟨e, _⟩ := k3
            rw [e] at hb
            cases hb
          | cons z l =>
            have h9 := (ks_rec (fun a lo hi r q ht => tr_rec ht) (lo := u.1.low) s4 (fun y hy => hbd2 y (by simp only [List.mem_append, List.mem_cons] at hy ⊢; exact .inr (.inr hy))) k3).2.2.2 z.key (fun y hy => by
              rcases List.mem_cons.1 hy with rfl | hy
              · exact lessB_irrefl _
              · exact lessB_asymm ((srt_tail s4).2 y hy)) b hb
            exact lessB_lt_le (e4 z List.mem_cons_self) h9
        · exact hw.right b hb
      · rw [x3]
        cases L2 with
        | nil => exact hw.high
        | cons z l => exact .inr (e4 z List.mem_cons_self)
end
end Go.Proofs.YtcjfnfdinhbdlaaGreatDoor
namespace Go.Proofs.YtcjfnfdinhbdlaaGreatDoor
set_option maxRecDepth 100000
open Go.ChangeShapes Go.WideShapes Go.ChangeAt Go.RowKit Go.PlainAid
theorem wtP_le_mid {level : Int} {X Y : List Pr} {p : Pr} : wtP level (X ++ p :: Y) = wtP level (X ++ Y) + szP level p := by
  rw [wtP_app, wtP_app, wtP_cons]
  omega
theorem near_put {lo hi : ByteArray} {L : List Pr} {r : Pr} (h : Lawful 1 lo hi L) (hr : RecOk lo hi r) : Near 1 lo hi (putB r L) ∧ wtP 1 (putB r L) ≤ 394 := by
  obtain ⟨hs, hb⟩ := risB_iff.1 h.rise
  obtain ⟨X, Y, h1, h2, h3⟩ := srt_hit hs r.key
  have hk : KeyOk lo hi r := ⟨hr.small, hr.low, hr.high⟩
  have hz : szP 1 r ≤ 114 := by
    unfold szP
    rw [if_neg (by omega)]
    have := hr.small
    have := hr.val
    omega
  have hXY : (∀ z ∈ X, z ∈ L) ∧ (∀ z ∈ Y, z ∈ L) ∧ putB r L = X ++ r :: Y ∧ wtP 1 (X ++ Y) ≤ 254 ∧ Srt X ∧ Srt Y := by
    have hw := h.weight
    rcases h3 with ⟨_, e, e2, _⟩ | ⟨_, p, hp, e, e2, _⟩
    · obtain ⟨a, b, _⟩ := srt_parts (show Srt (X ++ Y) by rw [← e]; exact hs)
      exact ⟨fun z hz => by rw [e]; simp [hz], fun z hz => by rw [e]; simp [hz], e2 r.val, by rw [← e]; exact hw, a, b⟩
    · obtain ⟨a, b, _⟩ := srt_parts (show Srt (X ++ p :: Y) by rw [← e]; exact hs)
      refine ⟨fun z hz => by rw [e]; simp [hz], fun z hz => by rw [e]; simp [hz], e2 r.val, ?_, a, (srt_tail b).1⟩
      rw [e, wtP_le_mid] at hw
      omega
  obtain ⟨x1, x2, x3, x4, x5, x6⟩ := hXY
  rw [x3]
  refine ⟨⟨Int.le_refl _, risB_iff.2 ⟨srt_append x5 (srt_cons x6 h2) fun a ha b hb2 => ?_, fun z hz => ?_⟩, fun _ => recB_iff.2 ⟨fun z hz => ?_, by simp only [List.length_append, List.length_cons]; omega⟩, fun e => absurd rfl e⟩, by rw [wtP_le_mid]; omega⟩
  · rcases List.mem_cons.1 hb2 with rfl | hb2
    · exact h1 a ha
    · exact lessB_trans (h1 a ha) (h2 b hb2)
  · rcases List.mem_append.1 hz with hz | hz
    · exact hb z (x1 z hz)
    · rcases List.mem_cons.1 hz with rfl | hz
      · exact hk
      · exact hb z (x2 z hz)
  · have hr2 := (recB_iff.1 (h.recs rfl)).1
    rcases List.mem_append.1 hz with hz | hz
    · exact hr2 z (x1 z hz)
    · rcases List.mem_cons.1 hz with rfl | hz
      · exact ⟨hr.key, hr.val⟩
      · exact hr2 z (x2 z hz)
structure Left (G G' : Pgs) (Q Qn : List Int) : Prop where
  nodup : Qn.Nodup
  frame : ∀ c, c ∉ Q → c ∉ Qn → G' c = G c
  fresh : ∀ c ∈ Qn, c ∈ Q ∨ G c = none
  some_ : ∀ c ∈ Qn, G' c ≠ none
theorem tput_ok {V : Int → ByteArray} {out : Int → Bool} {a0 : Int} {H : Nat} {R0 : List Pr} {Q0 : List Int} {y x : NdD} {r : Pr} {us : List (NdD × Nat)} {G' : Pgs} {N : List Int} {rt : Option Int}
    (t : Tr (seeG V out) H a0 ⟨#[]⟩ ⟨#[]⟩ R0 Q0) (hnd : Q0.Nodup) (hy : y.at_ = a0 ∧ y.low = ⟨#[]⟩ ∧ y.high = ⟨#[]⟩) (hs : seeG V out y.at_ = some (y.level, y.L)) (hB : ∀ c, seeG V out c ≠ none → 0 ≤ c ∧ c ≤ 65535)
    (hw : WayL V out r.key us x y) (hx : x.level = 1) (h0 : r.key.size ≠ 0) (h32 : r.key.size ≤ 32) (h80 : r.val.size ≤ 80)
    (hg : GrowG us { x with L := putB r x.L } (seeG V out) G' N rt) :
    ∃ H' Qn, Tr G' H' (rt.getD a0) ⟨#[]⟩ ⟨#[]⟩ (putB r R0) Qn ∧ Qn.Perm (Q0 ++ N) ∧ Left (seeG V out) G' Q0 Qn ∧ (∀ c, G' c ≠ none ↔ seeG V out c ≠ none ∨ c ∈ N) ∧ N.Nodup ∧ ∀ c ∈ N, seeG V out c = none := by
  obtain ⟨h, A, R, B, Q, C, ow⟩ := way_ok t hy hs us x hw
  obtain ⟨l1, l2, Q', rfl, hbd⟩ := tr_lev ow.tr ow.see
  have hh : h = 0 := by omega
  subst hh
  obtain ⟨rfl, rfl⟩ := hbd
  rw [hx] at l2
  have hro : RecOk x.low x.high r := ⟨h0, h32, h80, ow.low, ow.high⟩
  obtain ⟨n1, n2⟩ := near_put l2 hro
  have hnd2 : (x.at_ :: ([] ++ C)).Nodup := (List.Perm.nodup_iff ow.perm).1 hnd
  obtain ⟨H', Qn, g1, g2, g3, g4, g5, g6⟩ := grow_ok (us := us) (x := { x with L := putB r x.L }) (h := 0) (R := putB r x.L) (Q' := []) (by show x.level = _; omega) (by show Near x.level x.low x.high _; rw [hx]; exact n1) (by show wtP x.level _ ≤ _; rw [hx]; exact n2) ⟨rfl, rfl⟩ ow.wy hnd2 (by show seeG V out x.at_ ≠ none; rw [ow.see]; simp) hB hg
  have hp : Qn.Perm (Q0 ++ N) := g2.trans (by
    refine List.Perm.trans ?_ (List.Perm.append_right N ow.perm).symm
    show (x.at_ :: ([] ++ (C ++ N))).Perm _
    simp)
  have hsome : ∀ c ∈ Q0, seeG V out c ≠ none := tr_some t
  have hndn : Qn.Nodup ∧ N.Nodup := ⟨(List.Perm.nodup_iff hp).2 (List.nodup_append.2 ⟨hnd, g6, fun a ha b hb e => hsome a ha (by rw [e]; exact g4 b hb)⟩), g6⟩
  refine ⟨H', Qn, ?_, hp, ⟨hndn.1, fun c _ h => g3 c h, fun c hc => ?_, fun c hc => ?_⟩, g5, hndn.2, g4⟩
  · rw [ow.recs, putB_mid ow.left ow.right]
    exact g1
  · rcases List.mem_append.1 (hp.mem_iff.1 hc) with h | h
    · exact .inl h
    · exact .inr (g4 c h)
  · rcases List.mem_append.1 (hp.mem_iff.1 hc) with h | h
    · exact (g5 c).2 (.inl (hsome c h))
    · exact (g5 c).2 (.inr h)
end Go.Proofs.YtcjfnfdinhbdlaaGreatDoor
namespace Go.Proofs.YtcjfnfdinhbdlaaGreatDoor
set_option maxRecDepth 100000
open Go.ChangeShapes Go.WideShapes Go.ChangeAt Go.RowKit Go.PlainAid
def appIM (vs : Array Value) : Sem Value := Builtin.append_ #[39, 39] 39 vs
theorem app_intM (vs : Array Value) : Builtin.append_ #[39, 39] 39 vs = appIM vs := rfl
def byteL (c : Int) : List Nat := (List.range 8).filter (bitBM c)
def nums (s : ByteArray) : Nat → List Int | 0 => [] | k + 1 => nums s k ++ (byteL (bt s k)).map fun b : Nat => (k : Int) * 8 + (b : Int)
theorem byteL_zero : byteL 0 = [] := by decide +kernel
theorem byteL_step : ∀ z : Fin 256, z.val ≠ 0 → byteL z.val = Lib.trailingZeros8 z.val :: byteL (bits .and .u8 (z.val : Int) ((z.val : Int) - 1)) ∧ 0 ≤ bits .and .u8 (z.val : Int) ((z.val : Int) - 1) ∧ bits .and .u8 (z.val : Int) ((z.val : Int) - 1) < (z.val : Int) := by decide +kernel
theorem byteL_ones : ∀ z : Fin 256, (byteL z.val).length = Lib.onesCount z.val := by decide +kernel
theorem nums_len (s : ByteArray) : ∀ k, (nums s k).length = cnt s k
  | 0 => rfl
  | k + 1 => by
    obtain ⟨z, hz⟩ := byte_fin (bt_nonneg s k) (bt_le s k)
    rw [nums, cnt, List.length_append, List.length_map, nums_len s k, hz, byteL_ones z]
    rfl
theorem nums_part {s : ByteArray} {k n : Nat} (h : k ≤ n) : nums s k <+: nums s n := by
  induction n with
  | zero => obtain rfl : k = 0 := by omega
            exact List.prefix_refl _
  | succ n ih =>
    by_cases e : k = n + 1
    · subst e; exact List.prefix_refl _
    · exact (ih (by omega)).trans ⟨_, rfl⟩
end Go.Proofs.YtcjfnfdinhbdlaaGreatDoor
