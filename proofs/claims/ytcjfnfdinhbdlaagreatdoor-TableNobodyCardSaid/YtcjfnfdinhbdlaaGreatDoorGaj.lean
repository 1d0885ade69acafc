import Derived.Test.YtcjfnfdinhbdlaaGreatDoorGae
import Derived.Deep.QuietTactic
import Derived.BigQuiet
namespace Go.Proofs.YtcjfnfdinhbdlaaGreatDoor
set_option maxRecDepth 100000
open Go.ChangeShapes Go.WideShapes Go.ChangeAt Go.RowKit Go.PlainAid
abbrev Pgs := Int → Option (Int × List Pr)
def seeG (V : Int → ByteArray) (out : Int → Bool) : Pgs := fun a => if out a = false then none else (unpP (V a)).map fun L => (bt (V a) 0, L)
theorem rdP_see (V : Int → ByteArray) (out : Int → Bool) (x : NdD) : rdP V out x = match seeG V out x.at_ with
    | none => none
    | some (l, L) => if x.level ≠ 0 ∧ x.level ≠ l then none else if lawB l x.low x.high L = false then none else some (l, L) := by
  unfold rdP seeG
  by_cases ho : out x.at_ = false
  · rw [if_pos ho, if_pos ho]
  · rw [if_neg ho, if_neg ho]
    cases unpP (V x.at_) with
    | none => rfl
    | some L => rfl
theorem rdP_get {V : Int → ByteArray} {out : Int → Bool} {x : NdD} {l : Int} {L : List Pr} (hs : seeG V out x.at_ = some (l, L)) (hl : x.level = 0 ∨ x.level = l) (hw : Lawful l x.low x.high L) : rdP V out x = some (l, L) := by
  rw [rdP_see, hs]
  show (if x.level ≠ 0 ∧ x.level ≠ l then none else if lawB l x.low x.high L = false then none else some (l, L)) = _
  rw [if_neg (by rintro ⟨a, b⟩; rcases hl with h | h; exact a h; exact b h), if_neg (by rw [lawB_iff.2 hw]; simp)]
def hiO (L : List Pr) (hi : ByteArray) : ByteArray := match L with
  | [] => hi
  | p :: _ => p.key
def Ks (T : Int → ByteArray → ByteArray → List Pr → List Int → Prop) : List Pr → ByteArray → List Pr → List Int → Prop
  | [], _, R, Q => R = [] ∧ Q = []
  | p :: L, hi, R, Q => ∃ r q R' Q', T (numP p.val) p.key (hiO L hi) r q ∧ Ks T L hi R' Q' ∧ R = r ++ R' ∧ Q = q ++ Q'
def Tr (G : Pgs) : Nat → Int → ByteArray → ByteArray → List Pr → List Int → Prop
  | 0, a, lo, hi, R, Q => G a = some (1, R) ∧ Lawful 1 lo hi R ∧ Q = [a]
  | h + 1, a, lo, hi, R, Q => ∃ L Q', G a = some ((h : Int) + 2, L) ∧ Lawful ((h : Int) + 2) lo hi L ∧ Ks (Tr G h) L hi R Q' ∧ Q = a :: Q'
def Bd (G : Pgs) : Nat → List Pr → ByteArray → List Pr → List Int → Prop
  | 0, L, _, R, Q => R = L ∧ Q = []
  | h + 1, L, hi, R, Q => Ks (Tr G h) L hi R Q
theorem tr_iff {G : Pgs} {h : Nat} {a : Int} {lo hi : ByteArray} {R : List Pr} {Q : List Int} : Tr G h a lo hi R Q ↔ ∃ L Q', G a = some ((h : Int) + 1, L) ∧ Lawful ((h : Int) + 1) lo hi L ∧ Bd G h L hi R Q' ∧ Q = a :: Q' := by
  cases h with
  | zero =>
    constructor
    · rintro ⟨a1, a2, a3⟩
      exact ⟨R, [], a1, a2, ⟨rfl, rfl⟩, a3⟩
    · rintro ⟨L, Q', a1, a2, ⟨rfl, rfl⟩, a3⟩
      exact ⟨a1, a2, a3⟩
  | succ h =>
    have e : ((h + 1 : Nat) : Int) + 1 = (h : Int) + 2 := by omega
    rw [e]
    exact Iff.rfl
section
variable {T T' : Int → ByteArray → ByteArray → List Pr → List Int → Prop}
theorem ks_append : ∀ {L1 L2 : List Pr} {hi : ByteArray} {R : List Pr} {Q : List Int}, Ks T (L1 ++ L2) hi R Q ↔ ∃ R1 Q1 R2 Q2, Ks T L1 (hiO L2 hi) R1 Q1 ∧ Ks T L2 hi R2 Q2 ∧ R = R1 ++ R2 ∧ Q = Q1 ++ Q2
  | [], L2, hi, R, Q => by
    constructor
    · intro h
      exact ⟨[], [], R, Q, ⟨rfl, rfl⟩, h, rfl, rfl⟩
    · rintro ⟨R1, Q1, R2, Q2, ⟨rfl, rfl⟩, h2, rfl, rfl⟩
      exact h2
  | p :: L1, L2, hi, R, Q => by
    have eh : hiO (L1 ++ L2) hi = hiO L1 (hiO L2 hi) := by cases L1 <;> rfl
    constructor
    · rintro ⟨r, q, R', Q', h1, h2, rfl, rfl⟩
      obtain ⟨R1, Q1, R2, Q2, h3, h4, rfl, rfl⟩ := ks_append.1 h2
      exact ⟨r ++ R1, q ++ Q1, R2, Q2, ⟨r, q, R1, Q1, by rw [← eh]; exact h1, h3, rfl, rfl⟩, h4, by simp, by simp⟩
    · rintro ⟨R1, Q1, R2, Q2, ⟨r, q, R', Q', h1, h2, rfl, rfl⟩, h4, rfl, rfl⟩
      exact ⟨r, q, R' ++ R2, Q' ++ Q2, by rw [show hiO (List.append L1 L2) hi = _ from eh]; exact h1, ks_append.2 ⟨R', Q', R2, Q2, h2, h4, rfl, rfl⟩, by simp, by simp⟩
theorem ks_one {p : Pr} {hi : ByteArray} {R : List Pr} {Q : List Int} : Ks T [p] hi R Q ↔ T (numP p.val) p.key hi R Q := by
  constructor
  · rintro ⟨r, q, R', Q', h, ⟨rfl, rfl⟩, rfl, rfl⟩
    rw [List.append_nil, List.append_nil]
    exact h
  · intro h
    exact ⟨R, Q, [], [], h, ⟨rfl, rfl⟩, by simp, by simp⟩
theorem ks_mid {L1 L2 : List Pr} {p : Pr} {hi : ByteArray} {R : List Pr} {Q : List Int} : Ks T (L1 ++ p :: L2) hi R Q ↔ ∃ R1 Q1 r q R2 Q2, Ks T L1 p.key R1 Q1 ∧ T (numP p.val) p.key (hiO L2 hi) r q ∧ Ks T L2 hi R2 Q2 ∧ R = R1 ++ (r ++ R2) ∧ Q = Q1 ++ (q ++ Q2) := by
  rw [ks_append]
  constructor
  · rintro ⟨R1, Q1, R2, Q2, h1, ⟨r, q, R', Q', h2, h3, rfl, rfl⟩, rfl, rfl⟩
    exact ⟨R1, Q1, r, q, R', Q', h1, h2, h3, rfl, rfl⟩
  · rintro ⟨R1, Q1, r, q, R2, Q2, h1, h2, h3, rfl, rfl⟩
    exact ⟨R1, Q1, r ++ R2, q ++ Q2, h1, ⟨r, q, R2, Q2, h2, h3, rfl, rfl⟩, rfl, rfl⟩
theorem ks_mono : ∀ {L : List Pr} {hi : ByteArray} {R : List Pr} {Q : List Int}, Ks T L hi R Q → (∀ a lo hi r q, (∀ c ∈ q, c ∈ Q) → T a lo hi r q → T' a lo hi r q) → Ks T' L hi R Q
  | [], hi, R, Q, h, _ => h
  | p :: L, hi, R, Q, ⟨r, q, R', Q', h1, h2, h3, h4⟩, hm => by
    subst h3 h4
    exact ⟨r, q, R', Q', hm _ _ _ _ _ (fun c hc => List.mem_append_left _ hc) h1, ks_mono h2 (fun a lo hi r q hc ht => hm a lo hi r q (fun c h => List.mem_append_right _ (hc c h)) ht), rfl, rfl⟩
theorem ks_pages : ∀ {L : List Pr} {hi : ByteArray} {R : List Pr} {Q : List Int} {X : Int → Prop}, Ks T L hi R Q → (∀ a lo hi r q, T a lo hi r q → ∀ c ∈ q, X c) → ∀ c ∈ Q, X c
  | [], hi, R, Q, X, ⟨_, h⟩, _ => by subst h; intro c hc; cases hc
  | p :: L, hi, R, Q, X, ⟨r, q, R', Q', h1, h2, h3, h4⟩, hm => by
    subst h3 h4
    intro c hc
    rcases List.mem_append.1 hc with h | h
    · exact hm _ _ _ _ _ h1 c h
    · exact ks_pages h2 hm c h
end
theorem tr_frame {G G' : Pgs} : ∀ {h : Nat} {a : Int} {lo hi : ByteArray} {R : List Pr} {Q : List Int}, Tr G h a lo hi R Q → (∀ c ∈ Q, G' c = G c) → Tr G' h a lo hi R Q
  | 0, a, lo, hi, R, Q, ⟨h1, h2, h3⟩, hf => by
    subst h3
    exact ⟨by rw [hf a (by simp)]; exact h1, h2, rfl⟩
  | h + 1, a, lo, hi, R, Q, ⟨L, Q', h1, h2, h3, h4⟩, hf => by
    subst h4
    exact ⟨L, Q', by rw [hf a (by simp)]; exact h1, h2, ks_mono h3 (fun a lo hi r q hc ht => tr_frame ht (fun c h => hf c (List.mem_cons_of_mem _ (hc c h)))), rfl⟩
theorem ks_frame {G G' : Pgs} {h : Nat} {L : List Pr} {hi : ByteArray} {R : List Pr} {Q : List Int} (k : Ks (Tr G h) L hi R Q) (hf : ∀ c ∈ Q, G' c = G c) : Ks (Tr G' h) L hi R Q := ks_mono k fun _ _ _ _ _ hc ht => tr_frame ht fun c h => hf c (hc c h)
theorem bd_frame {G G' : Pgs} {h : Nat} {L : List Pr} {hi : ByteArray} {R : List Pr} {Q : List Int} (k : Bd G h L hi R Q) (hf : ∀ c ∈ Q, G' c = G c) : Bd G' h L hi R Q := by
  cases h with
  | zero => exact k
  | succ h => exact ks_frame k hf
theorem tr_some {G : Pgs} : ∀ {h : Nat} {a : Int} {lo hi : ByteArray} {R : List Pr} {Q : List Int}, Tr G h a lo hi R Q → ∀ c ∈ Q, G c ≠ none
  | 0, a, lo, hi, R, Q, ⟨h1, h2, h3⟩ => by
    subst h3
    intro c hc
    simp only [List.mem_singleton] at hc
    subst hc
    rw [h1]
    simp
  | h + 1, a, lo, hi, R, Q, ⟨L, Q', h1, h2, h3, h4⟩ => by
    subst h4
    intro c hc
    rcases List.mem_cons.1 hc with rfl | hc
    · rw [h1]
      simp
    · exact ks_pages h3 (fun _ _ _ _ _ ht => tr_some ht) c hc
theorem tr_root {G : Pgs} {h : Nat} {a : Int} {lo hi : ByteArray} {R : List Pr} {Q : List Int} (t : Tr G h a lo hi R Q) : a ∈ Q := by
  obtain ⟨L, Q', _, _, _, rfl⟩ := tr_iff.1 t
  exact List.mem_cons_self
structure Rec (lo hi : ByteArray) (R : List Pr) : Prop where
  srt : Srt R
  ok : ∀ p ∈ R, RecOk lo hi p
  pos : R ≠ []
theorem lessB_le2 {a b c : ByteArray} (h : lessB a b = false) (k : lessB b c = false) : lessB a c = false := by
  rw [Bool.eq_false_iff]
  intro h2
  have := lessB_le_trans h h2
  rw [k] at this
  cases this
theorem srt_tail {p : Pr} {L : List Pr} (h : Srt (p :: L)) : Srt L ∧ ∀ q ∈ L, lessB p.key q.key = true := by
  refine ⟨fun i j a b hij ha hb => h (i + 1) (j + 1) a b (by omega) ha hb, fun q hq => ?_⟩
  obtain ⟨i, hi⟩ := List.mem_iff_getElem?.1 hq
  exact h 0 (i + 1) p q (by omega) rfl (by simpa using hi)
theorem srt_cons {p : Pr} {L : List Pr} (h : Srt L) (k : ∀ q ∈ L, lessB p.key q.key = true) : Srt (p :: L) := by
  intro i j a b hij ha hb
  cases i with
  | zero =>
    have ha : some p = some a := ha
    cases ha
    obtain ⟨j, rfl⟩ : ∃ k, j = k + 1 := ⟨j - 1, by omega⟩
    exact k b (List.mem_of_getElem? (by simpa using hb))
  | succ i =>
    obtain ⟨j, rfl⟩ : ∃ k, j = k + 1 := ⟨j - 1, by omega⟩
    exact h i j a b (by omega) (by simpa using ha) (by simpa using hb)
theorem srt_iff {p : Pr} {L : List Pr} : Srt (p :: L) ↔ Srt L ∧ ∀ q ∈ L, lessB p.key q.key = true := ⟨srt_tail, fun h => srt_cons h.1 h.2⟩
def Bnd (lo hi : ByteArray) (L : List Pr) : Prop := ∀ p ∈ L, KeyOk lo hi p
theorem risB_iff {lo hi : ByteArray} {L : List Pr} : risB lo hi L = true ↔ Srt L ∧ Bnd lo hi L := by
  constructor
  · intro h
    refine ⟨risB_srt h, fun p hp => ?_⟩
    obtain ⟨i, hi⟩ := List.mem_iff_getElem?.1 hp
    exact risB_key h hi
  · rintro ⟨h1, h2⟩
    refine risB_yes fun i hi => ?_
    obtain ⟨p, hp⟩ : ∃ p, L[i]? = some p := ⟨_, List.getElem?_eq_getElem hi⟩
    refine (okAt_parts hp).2 ⟨h2 p (List.mem_of_getElem? hp), ?_⟩
    by_cases h0 : i = 0
    · exact .inl h0
    · obtain ⟨q, hq⟩ : ∃ q, L[i - 1]? = some q := ⟨_, List.getElem?_eq_getElem (by omega)⟩
      exact .inr ⟨q, hq, h1 _ _ _ _ (by omega) hq hp⟩
theorem rec_of_leaf {lo hi : ByteArray} {L : List Pr} (h : Lawful 1 lo hi L) : Rec lo hi L := by
  obtain ⟨h1, h2⟩ := risB_iff.1 h.rise
  obtain ⟨h3, h4⟩ := recB_iff.1 (h.recs rfl)
  exact ⟨h1, fun p hp => ⟨(h3 p hp).1, (h2 p hp).small, (h3 p hp).2, (h2 p hp).low, (h2 p hp).high⟩, fun e => by rw [e] at h4; simp at h4⟩
theorem ks_rec {T : Int → ByteArray → ByteArray → List Pr → List Int → Prop} (hT : ∀ a lo hi r q, T a lo hi r q → Rec lo hi r) : ∀ {L : List Pr} {lo hi : ByteArray} {R : List Pr} {Q : List Int}, Srt L → Bnd lo hi L → Ks T L hi R Q → Srt R ∧ (∀ p ∈ R, RecOk lo hi p) ∧ (L ≠ [] → R ≠ []) ∧ (∀ k : ByteArray, (∀ q ∈ L, lessB q.key k = false) → ∀ p ∈ R, lessB p.key k = false)
  | [], lo, hi, R, Q, _, _, ⟨h, _⟩ => by
    subst h
    exact ⟨srt_nil, (fun p hp => by cases hp), fun h => absurd rfl h, fun k _ p hp => by cases hp⟩
  | p :: L, lo, hi, R, Q, hs, hb, ⟨r, q, R', Q', h1, h2, h3, h4⟩ => by
    subst h3 h4
    obtain ⟨s1, s2⟩ := srt_tail hs
    obtain ⟨i1, i2, i3, i4⟩ := ks_rec hT (lo := lo) s1 (fun x hx => hb x (List.mem_cons_of_mem _ hx)) h2
    have hr := hT _ _ _ _ _ h1
    have hp := hb p List.mem_cons_self
    -- the bound above the first page's records
    have hup : ∀ x ∈ r, (hi.size = 0 ∨ lessB x.key hi = true) ∧ ∀ y ∈ L, lessB x.key y.key = true := fun x hx => by
      have h5 := (hr.ok x hx).high
      cases L with
      | nil => exact ⟨h5, fun y hy => by cases hy⟩
      | cons y l =>
        have hne := not_empty_of_less (s2 y List.mem_cons_self)
        have h6 : lessB x.key y.key = true := h5.resolve_left hne
        have hy := hb y (by simp)
        refine ⟨hy.high.imp id fun h => lessB_trans h6 h, fun z hz => ?_⟩
        rcases List.mem_cons.1 hz with rfl | hz
        · exact h6
        · exact lessB_trans h6 ((srt_tail s1).2 z hz)
    have hlow : ∀ x ∈ r, lessB x.key p.key = false := fun x hx => (hr.ok x hx).low
    refine ⟨srt_append hr.srt i1 fun a ha b hb2 => ?_, fun x hx => ?_, fun _ => ?_, fun k hk x hx => ?_⟩
    · cases L with
      | nil =>
        obtain ⟨e, _⟩ := h2
        subst e
        cases hb2
      | cons y l =>
        have h7 := (hup a ha).2 y List.mem_cons_self
        have h8 := i4 y.key (fun z hz => by
          rcases List.mem_cons.1 hz with rfl | hz
          · exact lessB_irrefl _
          · exact lessB_asymm ((srt_tail s1).2 z hz)) b hb2
        exact lessB_lt_le h7 h8
    · rcases List.mem_append.1 hx with hx | hx
      · have h9 := hr.ok x hx
        exact ⟨h9.key, h9.small, h9.val, lessB_le2 h9.low hp.low, (hup x hx).1⟩
      · exact i2 x hx
    · intro e
      exact hr.pos (List.append_eq_nil_iff.1 e).1
    · rcases List.mem_append.1 hx with hx | hx
      · exact lessB_le2 (hlow x hx) (hk p List.mem_cons_self)
      · exact i4 k (fun z hz => hk z (List.mem_cons_of_mem _ hz)) x hx
theorem tr_rec {G : Pgs} : ∀ {h : Nat} {a : Int} {lo hi : ByteArray} {R : List Pr} {Q : List Int}, Tr G h a lo hi R Q → Rec lo hi R
  | 0, a, lo, hi, R, Q, ⟨h1, h2, h3⟩ => rec_of_leaf h2
  | h + 1, a, lo, hi, R, Q, ⟨L, Q', h1, h2, h3, h4⟩ => by
    obtain ⟨s, b⟩ := risB_iff.1 h2.rise
    obtain ⟨a1, a2, a3, _⟩ := ks_rec (fun a lo hi r q ht => tr_rec ht) s b h3
    refine ⟨a1, a2, a3 fun e => ?_⟩
    have := (lnkB_iff.1 (h2.links (by omega))).2.1
    rw [e] at this
    simp at this
end Go.Proofs.YtcjfnfdinhbdlaaGreatDoor
namespace Go.Proofs.YtcjfnfdinhbdlaaGreatDoor
set_option maxRecDepth 100000
open Go.ChangeShapes Go.WideShapes Go.ChangeAt Go.RowKit Go.PlainAid
def apartP (level : Int) (L : List Pr) (k : Nat) : Int := max ((wtP level L : Int) - 2 * (wtP level (L.take k) : Int)) (2 * (wtP level (L.take k) : Int) - (wtP level L : Int))
def halfT (level : Int) (L : List Pr) : Nat → Nat × Int
  | 0 => (0, (wtP level L : Int))
  | k + 1 => if apartP level L k < (halfT level L k).2 then (k, apartP level L k) else halfT level L k
def halfP (level : Int) (L : List Pr) : Nat := (halfT level L L.length).1
theorem halfT_spec (level : Int) (L : List Pr) : ∀ k, (∀ j, j < k → (halfT level L k).2 ≤ apartP level L j) ∧ ((halfT level L k) = (0, (wtP level L : Int)) ∨ ((halfT level L k).1 < k ∧ (halfT level L k).2 = apartP level L (halfT level L k).1))
  | 0 => ⟨fun j h => by omega, .inl rfl⟩
  | k + 1 => by
    obtain ⟨h1, h2⟩ := halfT_spec level L k
    unfold halfT
    split
    · next hlt =>
      refine ⟨fun j hj => ?_, .inr ⟨Nat.lt_succ_self _, rfl⟩⟩
      show apartP level L k ≤ _
      rcases Nat.lt_or_eq_of_le (Nat.le_of_lt_succ hj) with h | h
      · have := h1 j h
        omega
      · rw [h]
        exact Int.le_refl _
    · next hge =>
      refine ⟨fun j hj => ?_, ?_⟩
      · rcases Nat.lt_or_eq_of_le (Nat.le_of_lt_succ hj) with h | h
        · exact h1 j h
        · rw [h]
          omega
      · rcases h2 with h | ⟨h, e⟩
        · exact .inl h
        · exact .inr ⟨by omega, e⟩
theorem halfP_lt {level : Int} {L : List Pr} (h : 0 < L.length) : halfP level L < L.length := by
  rcases (halfT_spec level L L.length).2 with e | ⟨e, _⟩
  · unfold halfP
    rw [e]
    exact h
  · exact e
theorem wtP_app (level : Int) (A B : List Pr) : wtP level (A ++ B) = wtP level A + wtP level B := by
  unfold wtP
  rw [List.map_append, List.sum_append]
theorem wtP_cons (level : Int) (p : Pr) (B : List Pr) : wtP level (p :: B) = szP level p + wtP level B := by
  unfold wtP
  rw [List.map_cons, List.sum_cons]
theorem wtP_cut (level : Int) (L : List Pr) (k : Nat) : wtP level (L.take k) + wtP level (L.drop k) = wtP level L := by
  rw [← wtP_app, List.take_append_drop]
theorem wtP_link {level : Int} (h : 1 < level) (L : List Pr) : wtP level L = 36 * L.length := by
  induction L with
  | nil => rfl
  | cons p t ih =>
    rw [wtP_cons, ih, List.length_cons]
    unfold szP
    rw [if_pos h]
    omega
theorem near_cut {level : Int} {L : List Pr} (hsz : ∀ p ∈ L, szP level p ≤ 114) (h : 114 < wtP level L) : ∃ j, j < L.length ∧ apartP level L j ≤ 114 := by
  have key : ∀ k, k ≤ L.length → (∃ j, j < L.length ∧ apartP level L j ≤ 114) ∨ 2 * (wtP level (L.take k) : Int) < (wtP level L : Int) - 114 := by
    intro k
    induction k with
    | zero =>
      intro _
      refine .inr ?_
      rw [List.take_zero, wtP_nil]
      omega
    | succ k ih =>
      intro hk
      rcases ih (by omega) with h1 | h1
      · exact .inl h1
      · obtain ⟨p, hp⟩ : ∃ p, L[k]? = some p := ⟨_, List.getElem?_eq_getElem (by omega)⟩
        have e := wtP_take (level := level) hp
        have hz := hsz p (List.mem_of_getElem? hp)
        by_cases hc : 2 * (wtP level (L.take (k + 1)) : Int) < (wtP level L : Int) - 114
        · exact .inr hc
        · by_cases hl : k + 1 < L.length
          · refine .inl ⟨k + 1, hl, ?_⟩
            unfold apartP
            omega
          · have hle : k + 1 = L.length := by omega
            rw [hle, wtP_all] at e
            omega
  rcases key L.length (Nat.le_refl _) with h1 | h1
  · exact h1
  · rw [wtP_all] at h1
    omega
structure CutOk (level : Int) (L : List Pr) (k : Nat) : Prop where
  left : wtP level (L.take k) ≤ 254
  right : wtP level (L.drop k) ≤ 254
  pos : 0 < k
  lt : k < L.length
  two : 1 < level → 2 ≤ k ∧ k + 2 ≤ L.length
theorem half_ok {level : Int} {L : List Pr} (hsz : ∀ p ∈ L, szP level p ≤ 114) (h1 : 254 < wtP level L) (h2 : wtP level L ≤ 394) : CutOk level L (halfP level L) := by
  obtain ⟨j, hj, ha⟩ := near_cut hsz (by omega)
  obtain ⟨s1, s2⟩ := halfT_spec level L L.length
  have h3 := s1 j hj
  rcases s2 with e | ⟨e1, e2⟩
  · rw [e] at h3
    have h3 : (wtP level L : Int) ≤ apartP level L j := h3
    omega
  · have h4 : apartP level L (halfP level L) ≤ 114 := by
      show apartP level L (halfT level L L.length).1 ≤ 114
      omega
    have hlt : halfP level L < L.length := e1
    generalize halfP level L = k at *
    have hc := wtP_cut level L k
    unfold apartP at h4
    have hpos : 0 < k := by
      rcases Nat.eq_zero_or_pos k with h0 | h0
      · rw [h0, List.take_zero, wtP_nil] at h4
        omega
      · exact h0
    refine ⟨by omega, by omega, hpos, hlt, fun hl => ?_⟩
    have e3 := wtP_link hl (L.take k)
    have e4 := wtP_link hl (L.drop k)
    rw [List.length_take] at e3
    rw [List.length_drop] at e4
    omega
end Go.Proofs.YtcjfnfdinhbdlaaGreatDoor
namespace Go.Proofs.YtcjfnfdinhbdlaaGreatDoor
set_option maxRecDepth 100000
open Go.ChangeShapes Go.WideShapes Go.ChangeAt Go.RowKit Go.PlainAid
def numB (v : Int) : ByteArray := ⟨#[UInt8.ofNat (v % 256).toNat, UInt8.ofNat (v / 256).toNat]⟩
theorem numB_size (v : Int) : (numB v).size = 2 := rfl
theorem numP_numB {v : Int} (h0 : 0 ≤ v) (h1 : v ≤ 65535) : numP (numB v) = v := by
  have e0 : bt (numB v) 0 = v % 256 := by
    show (((UInt8.ofNat (v % 256).toNat).toNat : Nat) : Int) = _
    rw [UInt8.toNat_ofNat']
    omega
  have e1 : bt (numB v) 1 = v / 256 := by
    show (((UInt8.ofNat (v / 256).toNat).toNat : Nat) : Int) = _
    rw [UInt8.toNat_ofNat']
    omega
  unfold numP
  rw [e0, e1]
  omega
structure Near (level : Int) (lo hi : ByteArray) (L : List Pr) : Prop where
  pos : 1 ≤ level
  rise : risB lo hi L = true
  recs : level = 1 → recB L = true
  links : level ≠ 1 → lnkB lo L = true
theorem Lawful.near {level : Int} {lo hi : ByteArray} {L : List Pr} (h : Lawful level lo hi L) : Near level lo hi L := ⟨h.pos, h.rise, h.recs, h.links⟩
theorem Near.lawful {level : Int} {lo hi : ByteArray} {L : List Pr} (h : Near level lo hi L) (hw : wtP level L ≤ 254) : Lawful level lo hi L := ⟨h.pos, hw, h.rise, h.recs, h.links⟩
theorem Near.sz {level : Int} {lo hi : ByteArray} {L : List Pr} (h : Near level lo hi L) : ∀ p ∈ L, szP level p ≤ 114 := fun p hp => by
  unfold szP
  split
  · omega
  · next hl =>
    have e : level = 1 := by have := h.pos; omega
    have h1 := ((risB_iff.1 h.rise).2 p hp).small
    have h2 := ((recB_iff.1 (h.recs e)).1 p hp).2
    omega
theorem srt_parts {L M : List Pr} (h : Srt (L ++ M)) : Srt L ∧ Srt M ∧ ∀ p ∈ L, ∀ q ∈ M, lessB p.key q.key = true := by
  induction L with
  | nil => exact ⟨srt_nil, h, fun p hp => by cases hp⟩
  | cons x l ih =>
    obtain ⟨h1, h2⟩ := srt_tail (show Srt (x :: (l ++ M)) from h)
    obtain ⟨i1, i2, i3⟩ := ih h1
    refine ⟨srt_cons i1 fun q hq => h2 q (List.mem_append_left _ hq), i2, fun p hp q hq => ?_⟩
    rcases List.mem_cons.1 hp with rfl | hp
    · exact h2 q (List.mem_append_right _ hq)
    · exact i3 p hp q hq
theorem hiO_of {L2 : List Pr} {hi : ByteArray} {m : Pr} (h : L2[0]? = some m) : hiO L2 hi = m.key := by
  cases L2 with
  | nil => cases h
  | cons x l =>
    have h : some x = some m := h
    cases h
    rfl
theorem near_split {level : Int} {lo hi : ByteArray} {L M : List Pr} {m : Pr} (h : Near level lo hi (L ++ M)) (hm : M[0]? = some m) (h1 : L ≠ []) (h2 : level ≠ 1 → 2 ≤ L.length ∧ 2 ≤ M.length) :
    Near level lo m.key L ∧ Near level m.key hi M ∧ KeyOk lo hi m ∧ lessB lo m.key = true := by
  obtain ⟨hs, hb⟩ := risB_iff.1 h.rise
  obtain ⟨s1, s2, s3⟩ := srt_parts hs
  have hmm : m ∈ M := List.mem_of_getElem? hm
  have hmk := hb m (List.mem_append_right _ hmm)
  have hlow : ∀ q ∈ M, lessB q.key m.key = false := fun q hq => by
    cases M with
    | nil => cases hm
    | cons x l =>
      have hm : some x = some m := hm
      cases hm
      rcases List.mem_cons.1 hq with rfl | hq
      · exact lessB_irrefl _
      · exact lessB_asymm ((srt_tail s2).2 q hq)
  have hM : M ≠ [] := fun e => by rw [e] at hmm; cases hmm
  obtain ⟨x, l, rfl⟩ : ∃ x l, L = x :: l := by
    cases L with
    | nil => exact absurd rfl h1
    | cons x l => exact ⟨x, l, rfl⟩
  refine ⟨⟨h.pos, risB_iff.2 ⟨s1, fun p hp => ?_⟩, fun e => ?_, fun e => ?_⟩, ⟨h.pos, risB_iff.2 ⟨s2, fun p hp => ?_⟩, fun e => ?_, fun e => ?_⟩, hmk, ?_⟩
  · have := hb p (List.mem_append_left _ hp)
    exact ⟨this.small, this.low, .inr (s3 p hp m hmm)⟩
  · obtain ⟨a, b⟩ := recB_iff.1 (h.recs e)
    exact recB_iff.2 ⟨fun p hp => a p (List.mem_append_left _ hp), by simp⟩
  · obtain ⟨a, b, c⟩ := lnkB_iff.1 (h.links e)
    refine lnkB_iff.2 ⟨fun p hp => a p (List.mem_append_left _ hp), by have := (h2 e).1; omega, ?_⟩
    obtain ⟨p, hp, hk⟩ := c
    exact ⟨p, hp, hk⟩
  · have := hb p (List.mem_append_right _ hp)
    exact ⟨this.small, hlow p hp, this.high⟩
  · obtain ⟨a, b⟩ := recB_iff.1 (h.recs e)
    exact recB_iff.2 ⟨fun p hp => a p (List.mem_append_right _ hp), List.length_pos_iff.2 hM⟩
  · obtain ⟨a, b, c⟩ := lnkB_iff.1 (h.links e)
    exact lnkB_iff.2 ⟨fun p hp => a p (List.mem_append_right _ hp), by have := (h2 e).2; omega, m, hm, rfl⟩
  · have a := s3 x List.mem_cons_self m hmm
    have b := (hb x (by simp)).low
    exact lessB_le_trans b a
theorem bd_append {G : Pgs} {h : Nat} {L1 L2 : List Pr} {hi : ByteArray} {R : List Pr} {Q : List Int} : Bd G h (L1 ++ L2) hi R Q ↔ ∃ R1 Q1 R2 Q2, Bd G h L1 (hiO L2 hi) R1 Q1 ∧ Bd G h L2 hi R2 Q2 ∧ R = R1 ++ R2 ∧ Q = Q1 ++ Q2 := by
  cases h with
  | zero =>
    constructor
    · rintro ⟨rfl, rfl⟩
      exact ⟨L1, [], L2, [], ⟨rfl, rfl⟩, ⟨rfl, rfl⟩, rfl, rfl⟩
    · rintro ⟨R1, Q1, R2, Q2, ⟨rfl, rfl⟩, ⟨rfl, rfl⟩, rfl, rfl⟩
      exact ⟨rfl, rfl⟩
  | succ h => exact ks_append
theorem bd_some {G : Pgs} {h : Nat} {L : List Pr} {hi : ByteArray} {R : List Pr} {Q : List Int} (b : Bd G h L hi R Q) : ∀ c ∈ Q, G c ≠ none := by
  cases h with
  | zero =>
    obtain ⟨_, rfl⟩ := b
    intro c hc
    cases hc
  | succ h => exact ks_pages b fun _ _ _ _ _ ht => tr_some ht
def wrG (G : Pgs) (a l : Int) (L : List Pr) : Pgs := fun c => if c = a then some (l, L) else G c
theorem wrG_self (G : Pgs) (a l : Int) (L : List Pr) : wrG G a l L a = some (l, L) := by unfold wrG; rw [if_pos rfl]
theorem wrG_other {G : Pgs} {a l c : Int} {L : List Pr} (h : c ≠ a) : wrG G a l L c = G c := by unfold wrG; rw [if_neg h]
def Wy (G : Pgs) (a0 : Int) : List (NdD × Nat) → Nat → Int → ByteArray → ByteArray → List Pr → List Pr → List Int → Prop
  | [], _, a, lo, hi, A, B, C => a = a0 ∧ lo = ⟨#[]⟩ ∧ hi = ⟨#[]⟩ ∧ A = [] ∧ B = [] ∧ C = []
  | u :: us, h, a, lo, hi, A, B, C => ∃ L1 p L2 R1 Q1 R2 Q2 A' B' C', u.1.L = L1 ++ p :: L2 ∧ L1.length = u.2 ∧ u.1.level = (h : Int) + 2 ∧ G u.1.at_ = some (u.1.level, u.1.L) ∧ Lawful u.1.level u.1.low u.1.high u.1.L ∧
      numP p.val = a ∧ lo = p.key ∧ hi = hiO L2 u.1.high ∧ Ks (Tr G h) L1 p.key R1 Q1 ∧ Ks (Tr G h) L2 u.1.high R2 Q2 ∧ Wy G a0 us (h + 1) u.1.at_ u.1.low u.1.high A' B' C' ∧ A = A' ++ R1 ∧ B = R2 ++ B' ∧ C = u.1.at_ :: (Q1 ++ (Q2 ++ C'))
theorem wy_frame {G G' : Pgs} {a0 : Int} : ∀ {us : List (NdD × Nat)} {h : Nat} {a : Int} {lo hi : ByteArray} {A B : List Pr} {C : List Int}, Wy G a0 us h a lo hi A B C → (∀ c ∈ C, G' c = G c) → Wy G' a0 us h a lo hi A B C
  | [], _, _, _, _, _, _, _, w, _ => w
  | u :: us, h, a, lo, hi, A, B, C, ⟨L1, p, L2, R1, Q1, R2, Q2, A', B', C', h1, h2, h3, h4, h5, h6, h7, h8, h9, h10, h11, h12, h13, h14⟩, hf => by
    subst h14
    exact ⟨L1, p, L2, R1, Q1, R2, Q2, A', B', C', h1, h2, h3, by rw [hf _ (by simp)]; exact h4, h5, h6, h7, h8, ks_frame h9 fun c hc => hf c (by simp [hc]), ks_frame h10 fun c hc => hf c (by simp [hc]), wy_frame h11 fun c hc => hf c (by simp [hc]), h12, h13, rfl⟩
theorem wy_some {G : Pgs} {a0 : Int} : ∀ {us : List (NdD × Nat)} {h : Nat} {a : Int} {lo hi : ByteArray} {A B : List Pr} {C : List Int}, Wy G a0 us h a lo hi A B C → ∀ c ∈ C, G c ≠ none
  | [], _, _, _, _, _, _, _, ⟨_, _, _, _, _, e⟩ => by
    subst e
    intro c hc
    cases hc
  | u :: us, h, a, lo, hi, A, B, C, ⟨L1, p, L2, R1, Q1, R2, Q2, A', B', C', h1, h2, h3, h4, h5, h6, h7, h8, h9, h10, h11, h12, h13, h14⟩ => by
    subst h14
    intro c hc
    simp only [List.mem_cons, List.mem_append] at hc
    rcases hc with rfl | hc | hc | hc
    · rw [h4]
      simp
    · exact ks_pages h9 (fun _ _ _ _ _ ht => tr_some ht) c hc
    · exact ks_pages h10 (fun _ _ _ _ _ ht => tr_some ht) c hc
    · exact wy_some h11 c hc
theorem wy_climb {G : Pgs} {a0 : Int} : ∀ {us : List (NdD × Nat)} {h : Nat} {a : Int} {lo hi : ByteArray} {A B R : List Pr} {C Q : List Int}, Wy G a0 us h a lo hi A B C → Tr G h a lo hi R Q → ∃ Qn, Tr G (h + us.length) a0 ⟨#[]⟩ ⟨#[]⟩ (A ++ (R ++ B)) Qn ∧ Qn.Perm (Q ++ C)
  | [], h, a, lo, hi, A, B, R, C, Q, ⟨e1, e2, e3, e4, e5, e6⟩, t => by
    subst e1 e2 e3 e4 e5 e6
    exact ⟨Q, by simpa using t, by simp⟩
  | u :: us, h, a, lo, hi, A, B, R, C, Q, ⟨L1, p, L2, R1, Q1, R2, Q2, A', B', C', h1, h2, h3, h4, h5, h6, h7, h8, h9, h10, h11, h12, h13, h14⟩, t => by
    subst h12 h13 h14
    have t2 : Tr G (h + 1) u.1.at_ u.1.low u.1.high (R1 ++ (R ++ R2)) (u.1.at_ :: (Q1 ++ (Q ++ Q2))) := by
      refine ⟨u.1.L, Q1 ++ (Q ++ Q2), by rw [← h3]; exact h4, by rw [← h3]; exact h5, ?_, rfl⟩
      rw [h1]
      exact ks_mid.2 ⟨R1, Q1, R, Q, R2, Q2, h9, by rw [h6, ← h7, ← h8]; exact t, h10, rfl, rfl⟩
    obtain ⟨Qn, t3, hp⟩ := wy_climb h11 t2
    refine ⟨Qn, ?_, hp.trans ?_⟩
    · rw [show h + (u :: us).length = h + 1 + us.length by rw [List.length_cons]; omega]
      rw [show A' ++ R1 ++ (R ++ (R2 ++ B')) = A' ++ (R1 ++ (R ++ R2) ++ B') by simp]
      exact t3
    · rw [List.perm_iff_count]
      intro c
      simp only [List.count_append, List.count_cons]
      omega
def GrowG : List (NdD × Nat) → NdD → Pgs → Pgs → List Int → Option Int → Prop
  | [], x, G, G', N, rt => (wtP x.level x.L ≤ 254 ∧ G' = wrG G x.at_ x.level x.L ∧ N = [] ∧ rt = none) ∨
      (254 < wtP x.level x.L ∧ ∃ v m v2, G v = none ∧ 0 ≤ v ∧ v ≤ 65535 ∧ x.L[halfP x.level x.L]? = some m ∧
        ∃ G1, G1 = wrG (wrG G x.at_ x.level (x.L.take (halfP x.level x.L))) v x.level (x.L.drop (halfP x.level x.L)) ∧ G1 v2 = none ∧
        G' = wrG G1 v2 (x.level + 1) [⟨⟨#[]⟩, numB x.at_⟩, ⟨m.key, numB v⟩] ∧ N = [v, v2] ∧ rt = some v2)
  | u :: us, x, G, G', N, rt => (wtP x.level x.L ≤ 254 ∧ G' = wrG G x.at_ x.level x.L ∧ N = [] ∧ rt = none) ∨
      (254 < wtP x.level x.L ∧ ∃ v m N', G v = none ∧ 0 ≤ v ∧ v ≤ 65535 ∧ x.L[halfP x.level x.L]? = some m ∧ N = v :: N' ∧
        GrowG us { u.1 with L := u.1.L.take (u.2 + 1) ++ ⟨m.key, numB v⟩ :: u.1.L.drop (u.2 + 1) } (wrG (wrG G x.at_ x.level (x.L.take (halfP x.level x.L))) v x.level (x.L.drop (halfP x.level x.L))) G' N' rt)
end Go.Proofs.YtcjfnfdinhbdlaaGreatDoor
namespace Go.Proofs.YtcjfnfdinhbdlaaGreatDoor
set_option maxRecDepth 100000
open Go.ChangeShapes Go.WideShapes Go.ChangeAt Go.RowKit Go.PlainAid
open Go.Sort (grow)
set_option maxHeartbeats 1000000 in
theorem find_any {w : World} {b o : Nat} {x : NdM} (k : ByteArray) (h : NdIs w b o x) (hs : Srt x.L) :
    Calls Tryz.prog 64 #[.pointer (some ⟨b, o, none⟩), .string k] w fun e w' => e = .returned (.tuple #[.int .i64 (posP k x.L), .bool (hitP k x.L)]) ∧ Below w.heap.size w w' := by
  have HS := Lib.hid (search_any x.c k h.rd hs h.small)
  have c4 := h.list
  clear h hs
  go_enter Tryz.func64, Tryz.ntmps64
  go_wp2_with fail
  refine HS.out.mono ?_
  rintro e w1 ⟨rfl, hb⟩
  have HB := Lib.hid hb
  clear hb HS
  go_wp2
  go_returns
  exact ⟨rfl, HB.out⟩
set_option maxHeartbeats 1000000 in
theorem toward_any {w : World} {b o : Nat} {x : NdM} (k : ByteArray) (h : NdIs w b o x) (hs : Srt x.L) :
    Calls Tryz.prog 109 #[.pointer (some ⟨b, o, none⟩), .string k] w fun e w' => e = .returned (.int .i64 (towP k x.L)) ∧ Below w.heap.size w w' := by
  have HF := Lib.hid (find_any k h hs)
  have hle := posP_le k x.L
  have hsm := h.small
  clear h hs
  go_enter Tryz.func109, Tryz.ntmps109
  go_wp2_with fail
  refine HF.out.mono ?_
  rintro e w1 ⟨rfl, hb⟩
  have HB := Lib.hid hb
  clear hb HF
  cases hh : hitP k x.L with
  | true =>
    have HT : Hid (towP k x.L = posP k x.L) := by
      refine Lib.hid ?_
      unfold towP
      rw [if_neg (by rw [hh]; simp)]
    clear hh
    go_wp2
    go_returns
    rw [HT.out]
    exact ⟨rfl, HB.out⟩
  | false =>
    by_cases h0 : 0 < posP k x.L
    · have HT : Hid ((towP k x.L : Int) = (posP k x.L : Int) - 1) := by
        refine Lib.hid ?_
        unfold towP
        rw [if_pos ⟨hh, h0⟩]
        omega
      clear hh
      go_wp2
      go_returns
      rw [HT.out]
      exact ⟨rfl, HB.out⟩
    · have HT : Hid (towP k x.L = posP k x.L) := by
        refine Lib.hid ?_
        unfold towP
        rw [if_neg (fun c => h0 c.2)]
      clear hh
      go_wp2
      go_returns
      rw [HT.out]
      exact ⟨rfl, HB.out⟩
set_option maxHeartbeats 1000000 in
theorem size_any {w : World} {b o : Nat} {x : NdM} (p : Pr) (h : NdIs w b o x) (h1 : p.key.size ≤ 65536) (h2 : p.val.size ≤ 65536) :
    Calls Tryz.prog 179 #[.pointer (some ⟨b, o, none⟩), .agg #[.string p.key, .string p.val]] w fun e w' => e = .returned (.int .i64 (szP x.level p)) ∧ Below w.heap.size w w' := by
  have hb0 : Below w.heap.size w (w.alloc (.cells #[.string p.key, .string p.val] 121)) := by go_grown
  have HB := Lib.hid hb0
  have c1 := (h.on hb0).level
  clear hb0
  by_cases hl : 1 < x.level
  · have HT : Hid ((szP x.level p : Int) = 36) := by
      refine Lib.hid ?_
      unfold szP
      rw [if_pos hl]
      rfl
    go_enter Tryz.func179, Tryz.ntmps179
    go_wp2
    go_returns
    rw [HT.out]
    exact ⟨rfl, HB.out⟩
  · have HT : Hid ((szP x.level p : Int) = 2 + (p.key.size : Int) + p.val.size) := by
      refine Lib.hid ?_
      unfold szP
      rw [if_neg hl]
      omega
    go_enter Tryz.func179, Tryz.ntmps179
    go_wp2
    go_returns
    rw [HT.out]
    exact ⟨rfl, HB.out⟩
def Mod (L : List Pr) : Prop := ∀ p ∈ L, p.key.size ≤ 65536 ∧ p.val.size ≤ 65536
theorem szP_le (level : Int) {p : Pr} (h : p.key.size ≤ 65536 ∧ p.val.size ≤ 65536) : szP level p ≤ 131074 := by
  unfold szP
  split <;> omega
theorem wtP_le (level : Int) {L : List Pr} (h : Mod L) : wtP level L ≤ L.length * 131074 := by
  induction L with
  | nil => exact Nat.zero_le _
  | cons p t ih =>
    have h1 := szP_le level (h p List.mem_cons_self)
    have h2 := ih fun q hq => h q (List.mem_cons_of_mem _ hq)
    unfold wtP at *
    rw [List.map_cons, List.sum_cons, List.length_cons, Nat.succ_mul]
    omega
theorem mod_take {L : List Pr} (h : Mod L) (k : Nat) : Mod (L.take k) := fun p hp => h p (List.mem_of_mem_take hp)
set_option maxHeartbeats 2000000 in
theorem weight_any {w : World} {b o : Nat} {x : NdM} (h : NdIs w b o x) (hm : Mod x.L) :
    Calls Tryz.prog 124 #[.pointer (some ⟨b, o, none⟩)] w fun e w' => e = .returned (.int .i64 (wtP x.level x.L)) ∧ Below w.heap.size w w' := by
  have c4 := h.list
  have hsm := h.small
  have H := Lib.hid h
  have HM := Lib.hid hm
  clear h hm
  go_enter Tryz.func124, Tryz.ntmps124
  go_wp2
  go_loopw [3, 11] (fun s i wr => ∃ k : Nat, k ≤ x.L.length ∧ s = .int .i64 (wtP x.level (x.L.take k)) ∧ i = .int .i64 k ∧ Below w.heap.size w wr) (fun _ i _ => x.L.length - (intOf i).toNat)
  case atStart => exact ⟨0, Nat.zero_le _, rfl, rfl, Below.refl _ _⟩
  case round =>
    obtain ⟨k, hk, rfl, rfl, hb⟩ := hrel
    have HB := Lib.hid hb
    have HN := Lib.hid (H.out.on hb)
    clear hb H c4
    by_cases hlt : k < x.L.length
    · obtain ⟨p, hp⟩ : ∃ p, x.L[k]? = some p := ⟨_, List.getElem?_eq_getElem hlt⟩
      obtain ⟨g, o', hsl, hg, c1, c2⟩ := HN.out.rd.at hp
      have HW := Lib.hid (wtP_take (level := x.level) hp)
      have hw1 := wtP_le x.level (mod_take HM.out k)
      have hpm := HM.out p (List.mem_of_getElem? hp)
      have hw2 := szP_le x.level hpm
      have hlen : (x.L.take k).length ≤ k := List.length_take_le _ _
      clear hp
      have hb1 : Below wr.heap.size wr (wr.alloc (.cells #[.string p.key, .string p.val] 121)) := by go_grown
      have HS := Lib.hid (size_any p (HN.out.on hb1) hpm.1 hpm.2)
      have HB1 := Lib.hid (HB.out.on hb1)
      clear hb1
      have h1 : wtP x.level (x.L.take k) ≤ 600000000 := by
        have := Nat.mul_le_mul_right 131074 hlen
        omega
      clear hw1 hlen
      generalize wtP x.level (x.L.take k) = W at *
      generalize x.sl = sl at *
      subst hsl
      go_wp2_with fail
      refine HS.out.mono ?_
      rintro e w2 ⟨rfl, hb2⟩
      have HB2 := Lib.hid (HB1.out.on hb2)
      clear hb2
      go_wp2
      go_roundw
      case rel => exact ⟨k + 1, by omega, by rw [HW.out]; go_num, by go_num, HB2.out⟩
      case measure => simp [intOf]; omega
    · obtain rfl : k = x.L.length := by omega
      have HW := Lib.hid (wtP_all x.level x.L)
      generalize wtP x.level (x.L.take x.L.length) = W at *
      go_wp2
      go_returns
      exact ⟨by rw [HW.out]; rfl, HB.out⟩
end Go.Proofs.YtcjfnfdinhbdlaaGreatDoor
