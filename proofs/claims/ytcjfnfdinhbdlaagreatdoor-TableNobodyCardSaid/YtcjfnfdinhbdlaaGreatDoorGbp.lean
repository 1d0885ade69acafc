import Derived.Test.YtcjfnfdinhbdlaaGreatDoorGbo
import Derived.Test.YtcjfnfdinhbdlaaGreatDoorGba
namespace Go.Proofs.YtcjfnfdinhbdlaaGreatDoor
set_option maxRecDepth 100000
open Go.ChangeShapes Go.WideShapes Go.ChangeAt Go.RowKit Go.PlainAid
def setV (V : Int → ByteArray) (S : List NdD) : Int → ByteArray := S.foldl (fun V s => updV V s.at_ (filled (packP s.level s.L))) V
def goneV (V : Int → ByteArray) (Z : List Int) : Int → ByteArray := Z.foldl (fun V a => updV V 0 (withS (V 0) a false)) V
def rootV (V : Int → ByteArray) (i root : Int) : Int → ByteArray := if rootZ (V 1) i = root then V else updV V 1 (setRoot (V 1) i root)
def settleV (V : Int → ByteArray) (i : Int) (S : List NdD) (Z : List Int) (root : Int) : Int → ByteArray := rootV (goneV (setV V S) Z) i root
theorem setV_snoc (V : Int → ByteArray) (S : List NdD) (s : NdD) : setV V (S ++ [s]) = updV (setV V S) s.at_ (filled (packP s.level s.L)) := by
  unfold setV
  rw [List.foldl_append]
  rfl
theorem goneV_snoc (V : Int → ByteArray) (Z : List Int) (a : Int) : goneV V (Z ++ [a]) = updV (goneV V Z) 0 (withS (goneV V Z 0) a false) := by
  unfold goneV
  rw [List.foldl_append]
  rfl
structure SetF (n : Nat) (V : Int → ByteArray) (s : NdD) : Prop where
  out : outB n (V 0) s.at_ = true
  pk : pkS s.L ≤ 254
  lev : 0 ≤ s.level ∧ s.level < 256
section
variable {V : Int → ByteArray} {n : Nat} {i : Int}
theorem see_set (hb : BitsOk V n) : ∀ (S : List NdD), (∀ s ∈ S, SetF n V s) → seeV (setV V S) n = finG (seeV V n) S [] ∧ setV V S 0 = V 0 ∧ setV V S 1 = V 1 ∧ BitsOk (setV V S) n := by
  intro S hS
  have key : ∀ k, k ≤ S.length → seeV (setV V (S.take k)) n = finG (seeV V n) (S.take k) [] ∧ setV V (S.take k) 0 = V 0 ∧ setV V (S.take k) 1 = V 1 ∧ BitsOk (setV V (S.take k)) n := by
    intro k
    induction k with
    | zero =>
      intro _
      rw [List.take_zero]
      exact ⟨by rw [finG_nil]; rfl, rfl, rfl, hb⟩
    | succ k ih =>
      intro hk
      obtain ⟨i1, i2, i3, i4⟩ := ih (by omega)
      obtain ⟨s, hs⟩ : ∃ s, S[k]? = some s := ⟨_, List.getElem?_eq_getElem (by omega)⟩
      have hf := hS s (List.mem_of_getElem? hs)
      have hat := out_in hf.out
      rw [List.take_add_one, hs]
      show seeV (setV V (S.take k ++ [s])) n = finG (seeV V n) (S.take k ++ [s]) [] ∧ setV V (S.take k ++ [s]) 0 = V 0 ∧ setV V (S.take k ++ [s]) 1 = V 1 ∧ BitsOk (setV V (S.take k ++ [s])) n
      rw [setV_snoc]
      obtain ⟨b1, b2⟩ := bits_upd (k := s.at_) (s := filled (packP s.level s.L)) i4 (by omega) (filled_size _)
      refine ⟨?_, by rw [b2]; exact i2, by rw [updV_other _ _ (by omega)]; exact i3, b1⟩
      rw [see_upd (by rw [i2]; exact hf.out) hf.pk hf.lev.1 hf.lev.2, i1]
      funext c
      rw [finG_set (by simp)]
      rfl
  have := key S.length (Nat.le_refl _)
  rw [List.take_length] at this
  exact this
theorem see_gone (hb : BitsOk V n) : ∀ (Z : List Int), Z.Nodup → (∀ a ∈ Z, outB n (V 0) a = true) → (∀ c, seeV (goneV V Z) n c = if c ∈ Z then none else seeV V n c) ∧ (∀ c, outB n (goneV V Z 0) c = true ↔ outB n (V 0) c = true ∧ c ∉ Z) ∧ goneV V Z 1 = V 1 ∧ BitsOk (goneV V Z) n ∧ usedN (goneV V Z 0) n + Z.length = usedN (V 0) n := by
  intro Z hnd hZ
  have key : ∀ k, k ≤ Z.length → (∀ c, seeV (goneV V (Z.take k)) n c = if c ∈ Z.take k then none else seeV V n c) ∧ (∀ c, outB n (goneV V (Z.take k) 0) c = true ↔ outB n (V 0) c = true ∧ c ∉ Z.take k) ∧ goneV V (Z.take k) 1 = V 1 ∧ BitsOk (goneV V (Z.take k)) n ∧ usedN (goneV V (Z.take k) 0) n + k = usedN (V 0) n := by
    intro k
    induction k with
    | zero =>
      intro _
      rw [List.take_zero]
      exact ⟨fun c => by simp [goneV], fun c => by simp [goneV], rfl, hb, rfl⟩
    | succ k ih =>
      intro hk
      obtain ⟨i1, i2, i3, i4, i5⟩ := ih (by omega)
      obtain ⟨a, ha⟩ : ∃ a, Z[k]? = some a := ⟨_, List.getElem?_eq_getElem (by omega)⟩
      have haZ := hZ a (List.mem_of_getElem? ha)
      have hat := out_in haZ
      have hno : a ∉ Z.take k := fun hm => by
        obtain ⟨j, hj⟩ := List.mem_iff_getElem?.1 hm
        rw [List.getElem?_take] at hj
        split at hj
        · next hjk =>
          have h1 := (List.getElem?_eq_some_iff.1 hj).1
          have h2 := (List.getElem?_eq_some_iff.1 ha).1
          have := (List.getElem_inj (h₀ := h1) (h₁ := h2) hnd).1 (by rw [(List.getElem?_eq_some_iff.1 hj).2, (List.getElem?_eq_some_iff.1 ha).2])
          omega
        · cases hj
      rw [List.take_add_one, ha]
      show (∀ c, seeV (goneV V (Z.take k ++ [a])) n c = if c ∈ Z.take k ++ [a] then none else seeV V n c) ∧ (∀ c, outB n (goneV V (Z.take k ++ [a]) 0) c = true ↔ outB n (V 0) c = true ∧ c ∉ Z.take k ++ [a]) ∧ goneV V (Z.take k ++ [a]) 1 = V 1 ∧ BitsOk (goneV V (Z.take k ++ [a])) n ∧ usedN (goneV V (Z.take k ++ [a]) 0) n + (k + 1) = usedN (V 0) n
      rw [goneV_snoc]
      have ho : outB n (goneV V (Z.take k) 0) a = true := (i2 a).2 ⟨haZ, hno⟩
      obtain ⟨f1, f2⟩ := see_free (k := a) i4.size i4.pages (out_in ho)
      obtain ⟨b1, b2⟩ := bits_free i4 ho
      refine ⟨fun c => ?_, fun c => ?_, by rw [updV_other _ _ (by omega)]; exact i3, b1, by omega⟩
      · rw [f1, i1]
        by_cases h1 : c = a
        · simp [h1]
        · simp [h1]
      · rw [f2]
        by_cases h1 : c = a
        · simp [h1]
        · rw [if_neg h1, i2]
          simp [h1]
  have := key Z.length (Nat.le_refl _)
  rw [List.take_length] at this
  exact this
theorem see_settle (hi : 0 ≤ i ∧ i < 16) (hb : BitsOk V n) {S : List NdD} {Z : List Int} {root : Int} (hS : ∀ s ∈ S, SetF n V s) (hnd : Z.Nodup) (hZ : ∀ a ∈ Z, outB n (V 0) a = true) (hr : 0 ≤ root ∧ root < 4294967296) :
    seeV (settleV V i S Z root) n = finG (seeV V n) S Z ∧ (∀ c, outB n (settleV V i S Z root 0) c = true ↔ outB n (V 0) c = true ∧ c ∉ Z) ∧ BitsOk (settleV V i S Z root) n ∧ usedN (settleV V i S Z root 0) n + Z.length = usedN (V 0) n ∧
      ∀ j, 0 ≤ j ∧ j < 16 → rootZ (settleV V i S Z root 1) j = if j = i then root else rootZ (V 1) j := by
  obtain ⟨a1, a2, a3, a4⟩ := see_set hb S hS
  obtain ⟨b1, b2, b3, b4, b5⟩ := see_gone a4 Z hnd (fun a ha => by rw [a2]; exact hZ a ha)
  have hs : seeV (goneV (setV V S) Z) n = finG (seeV V n) S Z := by
    funext c
    rw [b1 c, a1]
    unfold finG
    by_cases h : c ∈ Z
    · rw [if_pos h, if_pos h]
    · rw [if_neg h, if_neg h, if_neg (by simp)]
  have e1 : goneV (setV V S) Z 1 = V 1 := by rw [b3, a3]
  rw [a2] at b2 b5
  unfold settleV rootV
  by_cases h : rootZ (goneV (setV V S) Z 1) i = root
  · rw [if_pos h]
    refine ⟨hs, b2, b4, b5, fun j hj => ?_⟩
    rw [e1]
    split
    · next e => rw [e, ← h, e1]
    · rfl
  · rw [if_neg h]
    obtain ⟨c1, c2⟩ := see_page1 (V := goneV (setV V S) Z) (n := n) (setRoot (goneV (setV V S) Z 1) i root)
    obtain ⟨d1, d2⟩ := bits_upd (k := 1) (s := setRoot (goneV (setV V S) Z 1) i root) b4 (by omega) (by rw [e1]; exact setRoot_size hb.size1 hi.1 hi.2)
    refine ⟨by rw [c1]; exact hs, fun c => by rw [d2]; exact b2 c, d1, by rw [d2]; exact b5, fun j hj => ?_⟩
    rw [updV_same, e1, root_set hb.size1 hi hj hr]
theorem delV_ok {H : Nat} {R0 : List Pr} {Q0 : List Int} {x y : NdD} {us : List (NdD × Nat)} {k : ByteArray} (hi : 0 ≤ i ∧ i < 16) (hb : BitsOk V n) (t : Tr (seeV V n) H (rootZ (V 1) i) ⟨#[]⟩ ⟨#[]⟩ R0 Q0) (hnd : Q0.Nodup)
    (hy : rdN V (outB n (V 0)) (rootM (rootZ (V 1) i)).D = (y, false)) (hw : WayL V (outB n (V 0)) k us x y) (hx : x.level = 1) :
    hitP k R0 = hitP k x.L ∧ getB k R0 = getB k x.L ∧ ∃ S Z rt, shrP V (outB n (V 0)) us { x with L := delB k x.L } [] [] = some (S, Z, rt) ∧ (∀ s ∈ S, SetF n V s) ∧ Z.Nodup ∧ (∀ a ∈ Z, outB n (V 0) a = true) ∧ (rt = 0 ∨ (outB n (V 0) rt = true ∧ rt ∉ Z)) ∧
      ∃ Q', TreeTo V (settleV V i S Z rt) n i (delB k R0) Q0 Q' [] Z := by
  obtain ⟨y', Q1, y1, y2, y3, y4, y5, y6, y7, _, y8⟩ := root_read t
  have e : y' = y := by
    rw [y1] at hy
    exact (Prod.mk.inj hy).1
  subst e
  obtain ⟨h1, h2, S, Z, rt, Qn, g1, g2, g3, g4, g5⟩ := tdel_ok t hnd ⟨y2, y3, y4⟩ y8 hw hx
  refine ⟨h1, h2, S, Z, rt, g1, ?_⟩
  have hS : ∀ s ∈ S, SetF n V s := fun s hs => by
    obtain ⟨⟨L0, k1⟩, lo, hi2, k2⟩ := g2 s hs
    have hl := see_lev k1
    refine ⟨see_out (by rw [show seeV V n s.at_ = _ from k1]; simp), ?_, hl.1, by omega⟩
    exact Nat.le_trans (pks_wt fun q hq => (near_prs k2.near q hq).2.1) k2.weight
  have hndp := (List.Perm.nodup_iff g4).1 hnd
  obtain ⟨n1, n2, n3⟩ := List.nodup_append.1 hndp
  have hZ : ∀ a ∈ Z, outB n (V 0) a = true := fun a ha => see_out (tr_some t a (g4.mem_iff.2 (List.mem_append_right _ ha)))
  have hrt : rt = 0 ∨ (outB n (V 0) rt = true ∧ rt ∉ Z) := by
    rcases g3 with ⟨e, _⟩ | ⟨H', t'⟩
    · exact .inl e
    · have hm := tr_root t'
      exact .inr ⟨see_out (tr_some t rt (g4.mem_iff.2 (List.mem_append_left _ hm))), fun hz => n3 rt hm rt hz rfl⟩
  have hrb : 0 ≤ rt ∧ rt < 4294967296 := by
    rcases hrt with e | ⟨e, _⟩
    · omega
    · have := out_in e
      have := hb.pages
      omega
  obtain ⟨s1, s2, s3, s4, s5⟩ := see_settle hi hb hS n2 hZ hrb
  refine ⟨hS, n2, hZ, hrt, Qn, s3, ?_, n1, by rw [List.append_nil]; exact g4, fun j hj hne => by rw [s5 j hj, if_neg hne], fun c hc _ => by rw [s1]; exact g5 c hc, fun c => by rw [s2]; simp, fun c hc => (by cases hc), by rw [s4]; rfl⟩
  rw [s5 i hi, if_pos rfl, s1]
  exact g3
end
end Go.Proofs.YtcjfnfdinhbdlaaGreatDoor
namespace Go.Proofs.YtcjfnfdinhbdlaaGreatDoor
set_option maxRecDepth 100000
open Go.ChangeShapes Go.WideShapes Go.ChangeAt Go.RowKit Go.PlainAid
def updF {α : Type} (f : Nat → α) (i : Nat) (x : α) : Nat → α := fun j => if j = i then x else f j
theorem updF_same {α : Type} (f : Nat → α) (i : Nat) (x : α) : updF f i x i = x := if_pos rfl
theorem updF_other {α : Type} (f : Nat → α) {i j : Nat} (x : α) (h : j ≠ i) : updF f i x j = f j := if_neg h
structure TreesV (V : Int → ByteArray) (n u0 : Nat) (RR : Nat → List Pr) (QQ : Nat → List Int) : Prop where
  bits : BitsOk V n
  tree : ∀ i : Nat, i < 5 → TreeG (seeV V n) (rootZ (V 1) i) (RR i) (QQ i)
  nodup : ∀ i, i < 5 → (QQ i).Nodup
  apart : ∀ i j, i < 5 → j < 5 → i ≠ j → ∀ c ∈ QQ i, c ∉ QQ j
  used : usedN (V 0) n = u0 + ((QQ 0).length + (QQ 1).length + (QQ 2).length + (QQ 3).length + (QQ 4).length)
theorem TreesV.out {V : Int → ByteArray} {n u0 : Nat} {RR : Nat → List Pr} {QQ : Nat → List Int} (h : TreesV V n u0 RR QQ) {i : Nat} (hi : i < 5) : ∀ c ∈ QQ i, outB n (V 0) c = true := fun c hc => see_out ((h.tree i hi).some c hc)
theorem TreesV.to {V V' : Int → ByteArray} {n u0 : Nat} {RR : Nat → List Pr} {QQ : Nat → List Int} (h : TreesV V n u0 RR QQ) {i : Nat} (hi : i < 5) {R' : List Pr} {Q' N Z : List Int} (t : TreeTo V V' n i R' (QQ i) Q' N Z) : TreesV V' n u0 (updF RR i R') (updF QQ i Q') := by
  have hN : ∀ j, j < 5 → ∀ c ∈ QQ j, c ∉ N := fun j hj c hc hn => by
    have h1 := h.out hj c hc
    rw [t.fresh c hn] at h1
    cases h1
  have hQ : ∀ c ∈ Q', c ∈ QQ i ∨ c ∈ N := fun c hc => List.mem_append.1 (t.perm.mem_iff.2 (List.mem_append_left _ hc))
  have hap : ∀ j, j < 5 → j ≠ i → ∀ c ∈ Q', c ∉ QQ j := fun j hj hne c hc hcj => by
    rcases hQ c hc with h1 | h1
    · exact h.apart i j hi hj (fun e => hne e.symm) c h1 hcj
    · exact hN j hj c hcj h1
  refine ⟨t.bits, fun j hj => ?_, fun j hj => ?_, fun a b ha hb hne c hc hcb => ?_, ?_⟩
  · by_cases e : j = i
    · subst e
      rw [updF_same, updF_same]
      exact t.tree
    · rw [updF_other _ _ e, updF_other _ _ e, t.roots j (by omega) (by omega)]
      exact (h.tree j hj).frame fun c hc => t.frame c (fun hci => h.apart j i hj hi e c hc hci) (hN j hj c hc)
  · by_cases e : j = i
    · subst e
      rw [updF_same]
      exact t.nodup
    · rw [updF_other _ _ e]
      exact h.nodup j hj
  · by_cases ea : a = i
    · subst ea
      rw [updF_same] at hc
      rw [updF_other _ _ (fun e => hne e.symm)] at hcb
      exact hap b hb (fun e => hne e.symm) c hc hcb
    · rw [updF_other _ _ ea] at hc
      by_cases eb : b = i
      · subst eb
        rw [updF_same] at hcb
        exact hap a ha ea c hcb hc
      · rw [updF_other _ _ eb] at hcb
        exact h.apart a b ha hb hne c hc hcb
  · have h1 := t.perm.length_eq
    rw [List.length_append, List.length_append] at h1
    have h2 := t.used
    have h3 := h.used
    have h4 : i = 0 ∨ i = 1 ∨ i = 2 ∨ i = 3 ∨ i = 4 := by omega
    rcases h4 with rfl | rfl | rfl | rfl | rfl <;> simp [updF] <;> omega
theorem TreesV.count {V : Int → ByteArray} {n u0 k : Nat} {RR : Nat → List Pr} {QQ : Nat → List Int} (h : TreesV V n u0 RR QQ) (hk : ∀ i, i < 5 → (RR i).length ≤ k) : usedN (V 0) n ≤ u0 + 10 * k := by
  have h0 := (h.tree 0 (by omega)).count
  have h1 := (h.tree 1 (by omega)).count
  have h2 := (h.tree 2 (by omega)).count
  have h3 := (h.tree 3 (by omega)).count
  have h4 := (h.tree 4 (by omega)).count
  have k0 := hk 0 (by omega)
  have k1 := hk 1 (by omega)
  have k2 := hk 2 (by omega)
  have k3 := hk 3 (by omega)
  have k4 := hk 4 (by omega)
  rw [h.used]
  omega
structure TabV (V : Int → ByteArray) (n u0 : Nat) (l : List OpV) (RR : Nat → List Pr) (QQ : Nat → List Int) : Prop where
  trees : TreesV V n u0 RR QQ
  is : ∀ i : Nat, i < 5 → IsW i l (RR i)
  ok : OpsK l
theorem TabV.len {V : Int → ByteArray} {n u0 : Nat} {l : List OpV} {RR : Nat → List Pr} {QQ : Nat → List Int} (h : TabV V n u0 l RR QQ) {i : Nat} (hi : i < 5) : (RR i).length = l.length := by
  obtain ⟨L, e, _, hl⟩ := (h.is i hi).ops h.ok
  rw [e, List.length_map, hl]
end Go.Proofs.YtcjfnfdinhbdlaaGreatDoor
namespace Go.Proofs.YtcjfnfdinhbdlaaGreatDoor
set_option maxRecDepth 100000
open Go.ChangeShapes Go.WideShapes Go.ChangeAt Go.RowKit Go.PlainAid Go.Shelf
open Go.Sort (grow)
theorem putB_mem {r q : Pr} {L : List Pr} (h : q ∈ putB r L) : q = r ∨ q ∈ L := by
  unfold putB at h
  split at h
  · rcases List.mem_or_eq_of_mem_set h with h | h
    · exact .inr h
    · exact .inl h
  · exact mem_ins h
theorem putB_pk (r : Pr) (L : List Pr) : pkS (putB r L) ≤ pkS L + (2 + r.key.size + r.val.size) := by
  unfold putB
  split
  · have key : ∀ (L : List Pr) (j : Nat), pkS (L.set j r) ≤ pkS L + (2 + r.key.size + r.val.size) := by
      intro L
      induction L with
      | nil => intro j; simp [pkS]
      | cons p t ih =>
        intro j
        cases j with
        | zero =>
          unfold pkS
          rw [List.set_cons_zero, List.map_cons, List.sum_cons, List.map_cons, List.sum_cons]
          omega
        | succ j =>
          have := ih j
          unfold pkS at *
          rw [List.set_cons_succ, List.map_cons, List.sum_cons, List.map_cons, List.sum_cons]
          omega
    exact key L _
  · rw [pkS_put]
    exact Nat.le_refl _
theorem putB_pos {r : Pr} {L : List Pr} (h : 0 < L.length) : 0 < (putB r L).length := by
  unfold putB
  split
  · rw [List.length_set]; exact h
  · rw [List.length_append, List.length_cons]; omega
theorem pkS_leaf (L : List Pr) : pkS L = wtP 1 L := by
  unfold pkS wtP
  congr 1
section
variable {w0 w w' : World} {pp n c tb : Nat} {V : Int → ByteArray} {R : List (Nat × Obj)} {i : Int}
def PutSays (V : Int → ByteArray) (n : Nat) (i : Int) (r : Pr) (z : Int) (V' : Int → ByteArray) : Prop :=
  (rootZ (V 1) i = 0 → ∀ v, Least (V 0) 2 n v → z = 0 ∧ V' = topV V i v 1 [r]) ∧
  (∀ y, rootZ (V 1) i ≠ 0 → rdN V (outB n (V 0)) (rootM (rootZ (V 1) i)).D = (y, false) → y.level = 1 → wtP 1 (putB r y.L) ≤ 254 → z = 0 ∧ V' = updV V (rootZ (V 1) i) (filled (packP 1 (putB r y.L))))
def PutEx (V : Int → ByteArray) (n : Nat) (i : Int) (r : Pr) (z : Int) (V' : Int → ByteArray) : Prop := ∀ R0 Q0, BitsOk V n → TreeG (seeV V n) (rootZ (V 1) i) R0 Q0 → Q0.Nodup →
  (z = 0 ∧ ∃ Q' N, TreeTo V V' n i (putB r R0) Q0 Q' N []) ∨ (z = 13 ∧ V' = V ∧ n < usedN (V 0) n + 12)
theorem putEx_first {V V' : Int → ByteArray} {n : Nat} {i z : Int} {r : Pr} (hi : 0 ≤ i ∧ i < 16) (hr : rootZ (V 1) i = 0) (h0 : r.key.size ≠ 0) (h32 : r.key.size ≤ 32) (h80 : r.val.size ≤ 80)
    (h1 : ∀ v, Least (V 0) 2 n v → pkS [r] ≤ 254 → z = 0 ∧ V' = topV V i v 1 [r]) (h2 : (∀ l, ¬ LowP (V 0) 2 n l) → z = 13 ∧ V' = V) : PutEx V n i r z V' := by
  intro R0 Q0 hb ht hnd
  have he : R0 = [] ∧ Q0 = [] := by
    rcases ht with ⟨_, a, b⟩ | ⟨H, t⟩
    · exact ⟨a, b⟩
    · have := root_pos t
      omega
  obtain ⟨rfl, rfl⟩ := he
  rcases least_or2 (V 0) 2 n with ⟨v, hv⟩ | hno
  · obtain ⟨rfl, rfl⟩ := h1 v hv (by
      unfold pkS
      simp only [List.map_cons, List.map_nil, List.sum_cons, List.sum_nil]
      omega)
    exact .inl ⟨rfl, putV_first hi hb hv h0 h32 h80⟩
  · obtain ⟨e1, e2⟩ := h2 hno
    refine .inr ⟨e1, e2, ?_⟩
    by_cases hu : usedN (V 0) n < n
    · obtain ⟨v, hv⟩ := least_of_room hb hu
      exact absurd hv.1 (hno v)
    · omega
theorem putEx_bad {V V' : Int → ByteArray} {n : Nat} {i z : Int} {r : Pr} (hr : rootZ (V 1) i ≠ 0) (hA : wayA V n i r.key = none) : PutEx V n i r z V' := by
  intro R0 Q0 hb ht hnd
  rcases ht with ⟨h, _⟩ | ⟨H, t⟩
  · exact absurd h hr
  · obtain ⟨x, hx⟩ := wayA_some hb.pages hnd t r.key
    rw [hA] at hx
    cases hx
theorem need_map (ns : List NdM) (x : NdM) : needN (upsN ns) x.D = splN 0 ((ns ++ [x]).map fun x => (x.level, x.L)).reverse := by
  unfold needN upsN
  rw [List.map_append, List.reverse_append, List.map_reverse, List.map_map]
  rfl
theorem putEx_some {V V' : Int → ByteArray} {n : Nat} {i z : Int} {r : Pr} {ns : List NdM} {x x' : NdM} (hi : 0 ≤ i ∧ i < 16) (hr : rootZ (V 1) i ≠ 0) (h0 : r.key.size ≠ 0) (h32 : r.key.size ≤ 32) (h80 : r.val.size ≤ 80) (hx : x.level = 1)
    (hw : WayC V n i r.key ns x.D) (hD : x'.D = { x.D with L := putB r x.L })
    (h : (needN (upsN ns) x'.D + usedN (V 0) n ≤ n ∧ (BitsOk V n → CurF n V x'.D → (∀ y ∈ ns, UpF n V y.D) → needN (upsN ns) x'.D + usedN (V 0) n ≤ n → z = 0 ∧ GrowV n i (upsN ns) x'.D V V')) ∨ (n < needN (upsN ns) x'.D + usedN (V 0) n ∧ z = 13 ∧ V' = V)) : PutEx V n i r z V' := by
  intro R0 Q0 hb ht hnd
  rcases ht with ⟨h, _⟩ | ⟨H, t⟩
  · exact absurd h hr
  · obtain ⟨y, hy, hwl⟩ := hw
    obtain ⟨k1, k2, k3, k4⟩ := putV_ok hi hb t hnd hy hwl hx h0 h32 h80
    rw [hD] at h
    rcases h with ⟨a, b⟩ | ⟨a, b, c⟩
    · obtain ⟨e1, e2⟩ := b hb k2 (fun y hy => (k3 (y.D, y.next.toNat) (by unfold upsN; rw [List.mem_reverse]; exact List.mem_map_of_mem hy)).1) a
      exact .inl ⟨e1, k4 _ e2⟩
    · refine .inr ⟨b, c, ?_⟩
      have := splN_le 0 ((x.D.level, putB r x.L) :: (upsN ns).map fun u => (u.1.level, u.1.L))
      rw [List.length_cons, List.length_map] at this
      have e : needN (upsN ns) { x.D with L := putB r x.L } = splN 0 ((x.D.level, putB r x.L) :: (upsN ns).map fun u => (u.1.level, u.1.L)) := rfl
      omega
set_option maxHeartbeats 1000000 in
theorem tput_any (H : PV w0 pp n c V R w) (hT : (tb, treeO pp i) ∈ R) (hn : 1 < n) (hi : 0 ≤ i ∧ i < 16) (hc : c ≤ 600000) (key val : ByteArray) :
    Calls Tryz.prog 29 #[.pointer (some ⟨tb, 0, none⟩), .string key, .string val] w fun e w' => ∃ V' z, e = .returned (.int .i64 z) ∧ (key.size ≠ 0 → key.size ≤ 32 → val.size ≤ 80 → PutSays V n i ⟨key, val⟩ z V' ∧ PutEx V n i ⟨key, val⟩ z V') ∧ PV w0 pp n (c + 2000) V' R w' := by
  obtain ⟨t0, t1⟩ := tree_cells (H.mem hT)
  have HM := Lib.hid (made_yes t0)
  have HW := Lib.hid (way_any H hT hn hi key)
  have HT := Lib.hid hT
  have HH := Lib.hid H
  clear H hT t0 t1
  by_cases hk0 : key.size = 0
  · have f0 := text_empty hk0
    have HK := Lib.hid hk0
    clear hk0
    go_enter Tryz.func29, Tryz.ntmps29
    go_wp2_with fail
    refine HM.out.mono ?_
    rintro e _ ⟨rfl, rfl⟩
    go_wp2
    go_returns
    exact ⟨V, 22, rfl, fun h => absurd HK.out h, HH.out.mono (by omega)⟩
  · have f0 := text_zero hk0
    by_cases hk1 : key.size ≤ 32
    · have f1 : decide ((32 : Int) < key.size) = false := decide_eq_false (by omega)
      by_cases hv1 : val.size ≤ 80
      · have f2 : decide ((80 : Int) < val.size) = false := decide_eq_false (by omega)
        have HK := Lib.hid (And.intro hk0 (And.intro hk1 hv1))
        clear hk0 hk1 hv1
        go_enter Tryz.func29, Tryz.ntmps29
        go_wp2_with fail
        refine HM.out.mono ?_
        rintro e _ ⟨rfl, rfl⟩
        go_wp2_with fail
        refine HW.out.mono ?_
        clear HW HM
        have hleaf : ∀ y, rootZ (V 1) i ≠ 0 → rdN V (outB n (V 0)) (rootM (rootZ (V 1) i)).D = (y, false) → y.level = 1 → wayA V n i key = some y := fun y h0 h1 h2 => by
          unfold wayA
          rw [if_neg h0, h1]
          show leafP V (outB n (V 0)) key 255 y = some y
          unfold leafP
          rw [if_pos h2]
        have HLF := Lib.hid hleaf
        clear hleaf
        rintro e w2 (⟨hA, ⟨z, rfl, hz, hz0⟩, H2⟩ | ⟨ns, x, g, wb, cap, cur, RL, hr0, hA, rfl, H2, hrow, hlw, hcs, hcap, hwb, hgb, hsl, hlv, hup, hups, hlevs, hlen, hat, hlg, hrk⟩)
        · by_cases hzz : z = 0
          · subst hzz
            have hr0 := hz0.1 rfl
            have H3 := ((H2.push (prO ⟨key, val⟩)).drop).push (rowO [⟨key, val⟩])
            rw [World.size_alloc] at H3
            have HTP : Hid (Calls Tryz.prog 68 #[.pointer (some ⟨tb, 0, none⟩), .int .i64 1, .slice (some ⟨w2.heap.size + 1, 0, none⟩) 1 1] ((w2.alloc (.cells #[.string key, .string val] 121)).alloc (.cells #[.string key, .string val] 121)) fun e w' => ∃ V' z, e = .returned (.int .i64 z) ∧ (∀ v, Least (V 0) 2 n v → pkS [⟨key, val⟩] ≤ 254 → z = 0 ∧ V' = topV V i v 1 [⟨key, val⟩]) ∧ ((∀ l, ¬ LowP (V 0) 2 n l) → z = 13 ∧ V' = V) ∧ PV w0 pp n (c + 4) V' ((w2.heap.size + 1, rowO [⟨key, val⟩]) :: R) w') :=
              Lib.hid (top_any H3 (tb := tb) (i := i) (by simp [HT.out]) hn hi (by omega) 1 [⟨key, val⟩] (some ⟨w2.heap.size + 1, 0, none⟩) 1 (Kn.of List.mem_cons_self) (by have := HK.out; unfold pkS; simp only [List.map_cons, List.map_nil, List.sum_cons, List.sum_nil]; omega) (by simp))
            have HR := Lib.hid hr0
            clear H2 H3 hz hz0 hA hr0
            go_wp2_with fail
            refine HTP.out.mono ?_
            rintro e w3 ⟨V3, z3, rfl, hp3, hq3, H3⟩
            have HF := Lib.hid (And.intro hp3 H3)
            have HQ3 := Lib.hid hq3
            clear hp3 hq3 H3 HTP
            go_wp2
            go_returns
            refine ⟨V3, z3, rfl, fun a b c => ⟨⟨fun _ v hv => HF.out.1 v hv ?_, fun y h0 => absurd HR.out h0⟩, putEx_first hi HR.out a b c HF.out.1 HQ3.out⟩, HF.out.2.drop.mono (by omega)⟩
            have := HK.out
            unfold pkS
            simp only [List.map_cons, List.map_nil, List.sum_cons, List.sum_nil]
            omega
          · have hz6 : z = 6 := hz.resolve_left hzz
            subst hz6
            have HR := Lib.hid (And.intro (fun h => hzz (hz0.2 h)) (And.intro hA H2))
            clear H2 hz hz0 hA hzz
            go_wp2
            go_returns
            exact ⟨V, 6, rfl, fun _ _ _ => ⟨⟨fun h => absurd h HR.out.1, fun y h0 h1 h2 => by
              have := HLF.out y h0 h1 h2
              rw [HR.out.2.1] at this
              cases this⟩, putEx_bad HR.out.1 HR.out.2.1⟩, HR.out.2.2.mono (by omega)⟩
        · have HP := Lib.hid (nput_any ((H2.push (prO ⟨key, val⟩)).drop.drew) hrow hcs hcap hwb hgb hsl hup hlw hlg ⟨key, val⟩)
          obtain ⟨m0, m1⟩ := pr_cells (w := w2.alloc (prO ⟨key, val⟩)) (heap_alloc_new w2 _)
          have HWC := Lib.hid hat
          have HX := Lib.hid (And.intro hr0 (And.intro hA (And.intro hcs (And.intro hcap (And.intro hlv (And.intro hup (And.intro hups hlevs)))))))
          clear H2 hrow hcs hcap hwb hgb hsl hup hups hlevs hat hr0 hA hlv
          have hs1 : IntKind.i64.wrap (ns.length : Int) = (ns.length : Int) := IntWalk.i64_in _ (by omega)
          have hs2 : (0 : Int) ≤ (ns.length : Int) := by omega
          have hs3 : (ns.length : Int) < (ns.length : Int) + 1 := by omega
          have hs4 : ns.length < ns.length + 1 := by omega
          unfold prO at m0 m1 HP
          go_wp2_with fail
          go_region_law (first
            | (go_simp; (with_reducible refine HP.out.mono ?_); rintro e w3 ⟨rfl, hpost⟩; have HPP := Lib.hid hpost; clear hpost)
            | fail)
          all_goals
            clear HP m0 m1 hs1 hs2 hs3 hs4
            obtain ⟨x', g', curl, cur', H3, hrow, hcs, hsl, hrp, hlc, hL, hat', hlv', hlo', hhi', hnx', hyw, hgw, hlg'⟩ := HPP.out
            obtain ⟨t0, t1⟩ := tree_cells (H3.mem (x := (tb, treeO pp i)) (by simp [HT.out]))
            simp only at t0 t1
            obtain ⟨rz, hrz⟩ : ∃ rz : Int, (n : Int) - (usedN (V 0) n : Int) = rz := ⟨_, rfl⟩
            have hrz0 : 0 ≤ rz := by have := usedN_le (V 0) n; omega
            have HRM := Lib.hid (H3.room (by omega) rz hrz)
            have HRZ := Lib.hid hrz
            have hgr : GrN x' := by
              have hu := HX.out.2.2.2.2.2.1
              have hl := pkS_law hu.law
              have hk := HK.out
              have hpb := putB_pk ⟨key, val⟩ x.L
              simp only at hpb
              refine ⟨by rw [hL]; exact putB_pos hu.pos, hlc, fun q hq => ?_, by rw [hL]; omega, by rw [hat']; exact hu.at_, by rw [hlv']; exact ⟨hu.law.pos, hu.top⟩⟩
              rw [hL] at hq
              rcases putB_mem hq with rfl | hq
              · exact hk.2.1
              · exact hl.2.2 q hq
            have hGS : ∀ W, PV w0 pp n c V ((wb, wayO cur') :: (g', .cells curl 121 (0, 0)) :: (RL ++ R)) W → GrS w0 pp n R RL wb ns ns.length x' c V W := fun W h => ⟨g', curl, cur', h, by rw [List.take_length]; exact hrow, by rw [hcs]; have := HX.out.2.2.2.1; omega, hsl, hrp, hgr, hyw, hgw⟩
            have hnd : ∀ W, PV w0 pp n c V ((wb, wayO cur') :: (g', .cells curl 121 (0, 0)) :: (RL ++ R)) W → ∀ k y, (ns ++ [x'])[k]? = some y → NdIs W wb (k * 6) y ∧ Mod y.L := fun W h k y hy => by
              by_cases hk : k < ns.length
              · have hy2 : ns[k]? = some y := by rwa [List.getElem?_append_left hk] at hy
                have hu := HX.out.2.2.2.2.2.2.1 y (List.mem_of_getElem? hy2)
                have := hu.small
                exact ⟨nodeIs_of (h.mem (x := (wb, wayO cur')) (by simp)) hrow hy (h.kn (hu.kn.mono fun z hz => by simp [hz])) (by omega), hu.mod⟩
              · have hk2 : k = ns.length := by
                  have := (List.getElem?_eq_some_iff.1 hy).1
                  rw [List.length_append, List.length_singleton] at this
                  omega
                subst hk2
                rw [List.getElem?_append_right (Nat.le_refl _), Nat.sub_self] at hy
                have hy : some x' = some y := hy
                cases hy
                refine ⟨nodeIs_of (i := ns.length) (h.mem (x := (wb, wayO cur')) (by simp)) hrow (by simp) ?_ (by have := hgr.len; omega), hgr.mod⟩
                rw [hsl]
                exact rdP_cur (h.mem (x := (g', .cells curl 121 (0, 0))) (by simp)) hrp
            have HND := Lib.hid hnd
            have HXD : Hid (x'.D = { x.D with L := putB ⟨key, val⟩ x.L }) := Lib.hid (by unfold NdM.D; rw [hL, hat', hlv', hlo', hhi'])
            have HZ := Lib.hid (And.intro hGS (And.intro hL (And.intro hat' (And.intro hlv' H3))))
            clear hGS hnd hgr hL hat' hlv' hlo' hhi' hnx' H3 hrow hcs hsl hrp hlc hyw hgw hlg' hrz
            go_wp2_with fail
            refine HRM.out.mono ?_
            rintro e w4 ⟨rfl, H4⟩
            have hnm := need_map ns x'
            have hsp := splits_any (w := w4) (b := wb) (cp := cap) (ns := ns ++ [x']) (by rw [List.length_append, List.length_singleton]; omega) (HND.out w4 H4)
            rw [List.length_append, List.length_singleton, ← hnm] at hsp
            obtain ⟨sk, hsk⟩ : ∃ sk : Int, ((needN (upsN ns) x'.D : Nat) : Int) = sk := ⟨_, rfl⟩
            rw [hsk] at hsp
            have hsz : wtP 1 (putB ⟨key, val⟩ x.L) ≤ 254 → sk = 0 := fun h => by
              rw [← hsk, needN_fits (by show wtP x'.level x'.L ≤ 254; rw [HZ.out.2.1, HZ.out.2.2.2.1, HX.out.2.2.2.2.1]; exact h)]
              rfl
            have HSKD := Lib.hid hsk
            have HSZ := Lib.hid hsz
            clear hnm hsk hsz
            have HSP := Lib.hid hsp
            have H4' := Lib.hid H4
            clear H4 hsp HRM t0 t1 HND
            go_wp2_with fail
            refine HSP.out.mono ?_
            rintro e w5 ⟨rfl, hb5⟩
            have H5 := H4'.out.on hb5
            have HG5 := Lib.hid (grow_any (HZ.out.1 w5 H5) (tb := tb) (i := i) (cp := cap) HT.out hn hi (by omega) hlw HX.out.2.2.2.2.2.2.1 hlen)
            have H5' := Lib.hid H5
            clear H5 hb5 HSP
            have hz := HSZ.out
            have hxy : ∀ y, rootZ (V 1) i ≠ 0 → rdN V (outB n (V 0)) (rootM (rootZ (V 1) i)).D = (y, false) → y.level = 1 → x.L = y.L ∧ x.at_ = rootZ (V 1) i ∧ outB n (V 0) x.at_ = true := fun y h0 h1 h2 => by
              have h3 := HLF.out y h0 h1 h2
              rw [HX.out.2.1] at h3
              have h4 : x.D = y := Option.some.inj h3
              have h5 := (rdN_of h1).1
              subst h4
              refine ⟨rfl, h5, ?_⟩
              have h6 : x.at_ = rootZ (V 1) i := h5
              unfold rdN at h1
              cases e : rdP V (outB n (V 0)) (rootM (rootZ (V 1) i)).D with
              | none => rw [e] at h1; simp only [Prod.mk.injEq, Bool.true_eq_false, and_false] at h1
              | some q =>
                obtain ⟨l, L⟩ := q
                rw [h6]
                exact (rdP_some e).1
            have HZZ := Lib.hid (And.intro hz hxy)
            clear hz hxy
            by_cases hlt : rz < sk
            · have HL := Lib.hid hlt
              have f5 : decide (rz < sk) = true := decide_eq_true hlt
              clear hlt HG5
              go_wp2
              go_returns
              refine ⟨V, 13, rfl, fun a b c => ⟨⟨fun h => absurd h HX.out.1, fun y h0 h1 h2 h3 => ?_⟩, putEx_some (x := x) (x' := x') hi HX.out.1 a b c HX.out.2.2.2.2.1 HWC.out HXD.out (.inr ⟨by have := HL.out; have := HSKD.out; have := HRZ.out; omega, rfl, rfl⟩)⟩, (H5'.out.sub R fun y hy => by simp [hy]).mono (by omega)⟩
              have h4 := (HZZ.out.2 y h0 h1 h2).1
              have h5 := HZZ.out.1 (by rw [h4]; exact h3)
              have h6 := HL.out
              omega
            · have f5 : decide (rz < sk) = false := decide_eq_false hlt
              have HGE := Lib.hid hlt
              clear hlt
              go_wp2_with fail
              refine HG5.out.mono ?_
              rintro e w6 ⟨V6, z6, rfl, hp6, hx6, H6⟩
              have HX6 := Lib.hid hx6
              clear hx6
              have H6f : PV w0 pp n (c + 2000) V6 R w6 := H6.mono (by omega)
              have HF := Lib.hid (And.intro hp6 H6f)
              clear hp6 H6 H6f HG5
              go_wp2
              go_returns
              refine ⟨V6, z6, rfl, fun a b c => ⟨⟨fun h => absurd h HX.out.1, fun y h0 h1 h2 h3 => ?_⟩, putEx_some (x := x) (x' := x') hi HX.out.1 a b c HX.out.2.2.2.2.1 HWC.out HXD.out (.inl ⟨by have := HGE.out; have := HSKD.out; have := HRZ.out; omega, HX6.out⟩)⟩, HF.out.2⟩
              obtain ⟨h4, h5, h6⟩ := HZZ.out.2 y h0 h1 h2
              have h7 := HF.out.1
              rw [HZ.out.2.1, HZ.out.2.2.1, HZ.out.2.2.2.1, HX.out.2.2.2.2.1, h4] at h7
              rw [h5] at h6 h7
              exact h7 h3 h6 (by rw [pkS_leaf]; exact h3)
      · have f2 : decide ((80 : Int) < val.size) = true := decide_eq_true (by omega)
        have HK := Lib.hid hv1
        clear hk0 hk1 hv1
        go_enter Tryz.func29, Tryz.ntmps29
        go_wp2_with fail
        refine HM.out.mono ?_
        rintro e _ ⟨rfl, rfl⟩
        go_wp2
        go_returns
        exact ⟨V, 21, rfl, fun _ _ h => absurd h HK.out, HH.out.mono (by omega)⟩
    · have f1 : decide ((32 : Int) < key.size) = true := decide_eq_true (by omega)
      have HK := Lib.hid hk1
      clear hk0 hk1
      go_enter Tryz.func29, Tryz.ntmps29
      go_wp2_with fail
      refine HM.out.mono ?_
      rintro e _ ⟨rfl, rfl⟩
      go_wp2
      go_returns
      exact ⟨V, 22, rfl, fun _ h => absurd h HK.out, HH.out.mono (by omega)⟩
end
end Go.Proofs.YtcjfnfdinhbdlaaGreatDoor
namespace Go.Proofs.YtcjfnfdinhbdlaaGreatDoor
set_option maxRecDepth 100000
open Go.ChangeShapes Go.WideShapes Go.ChangeAt Go.RowKit Go.PlainAid Go.Shelf
open Go.Sort (grow)
attribute [local go_sem ↓ high] store_n
def GetEx (V : Int → ByteArray) (n : Nat) (i : Int) (key : ByteArray) (s : ByteArray) (z : Int) : Prop := ∀ R0 Q0, BitsOk V n → TreeG (seeV V n) (rootZ (V 1) i) R0 Q0 → Q0.Nodup → (s, z) = match getB key R0 with | some v => (v, 0) | none => (⟨#[]⟩, 6)
theorem getEx_none {V : Int → ByteArray} {n : Nat} {i : Int} {key : ByteArray} (hA : wayA V n i key = none) : GetEx V n i key ⟨#[]⟩ 6 := by
  intro R0 Q0 hb ht hnd
  rcases ht with ⟨_, rfl, _⟩ | ⟨H, t⟩
  · rfl
  · obtain ⟨x, hx⟩ := wayA_some hb.pages hnd t key
    rw [hA] at hx
    cases hx
theorem getEx_some {V : Int → ByteArray} {n : Nat} {i : Int} {key : ByteArray} {ns : List NdM} {x : NdM} {s : ByteArray} {z : Int} (hi : 0 ≤ i ∧ i < 16) (hr : rootZ (V 1) i ≠ 0) (hx : x.level = 1) (hw : WayC V n i key ns x.D) (h : (s, z) = match getB key x.L with | some v => (v, (0 : Int)) | none => (⟨#[]⟩, 6)) : GetEx V n i key s z := by
  intro R0 Q0 hb ht hnd
  rcases ht with ⟨e, _⟩ | ⟨H, t⟩
  · exact absurd e hr
  · obtain ⟨y, hy, hwl⟩ := hw
    obtain ⟨_, h2, _⟩ := delV_ok hi hb t hnd hy hwl hx
    rw [h2]
    exact h
section
variable {w0 w w' : World} {pp n c tb : Nat} {V : Int → ByteArray} {R : List (Nat × Obj)} {i : Int}
set_option maxHeartbeats 4000000 in
theorem tget_ex (H : PV w0 pp n c V R w) (hT : (tb, treeO pp i) ∈ R) (hn : 1 < n) (hi : 0 ≤ i ∧ i < 16) (key : ByteArray) :
    Calls Tryz.prog 73 #[.pointer (some ⟨tb, 0, none⟩), .string key] w fun e w' => (∃ s z, e = .returned (.tuple #[.string s, .int .i64 z]) ∧ GetEx V n i key s z) ∧ PV w0 pp n c V R w' := by
  have HW := Lib.hid (way_any H hT hn hi key)
  clear H
  go_enter Tryz.func73, Tryz.ntmps73
  go_wp2_with fail
  refine HW.out.mono ?_
  clear HW
  rintro e w2 (⟨hA, ⟨z, rfl, hz, hzz⟩, H2⟩ | ⟨ns, x, g, wb, cap, cur, RL, hr0, hA, rfl, H2, hrow, hlw, hcs, hcap, hwb, hgb, hsl, hlv, hup, hups, hlevs, hlen, hat, hlg, hrk⟩)
  · have HF := Lib.hid (And.intro hA H2)
    clear hA H2 hzz
    rcases hz with rfl | rfl
    all_goals
      go_wp2
      go_returns
      exact ⟨⟨_, _, rfl, getEx_none HF.out.1⟩, HF.out.2⟩
  · have HWC := Lib.hid (And.intro hr0 (And.intro hlv hat))
    have H3 := H2.push (ndO x)
    have hst := store_nd_fresh w2 x
    unfold NdM.cells at hst
    have hNw := nodeIs_of (H2.mem (x := (wb, wayO cur)) (by simp)) hrow (i := ns.length) (x := x) (by simp) (H2.kn (hup.kn.mono fun y hy => by simp at hy; simp [hy])) (by have := hup.small; omega)
    have d0 := hNw.at_
    have d1 := hNw.level
    have d2 := hNw.low
    have d3 := hNw.high
    have d4 := hNw.list
    have d5 := hNw.next
    have hN := ndIs_of (H3.mem List.mem_cons_self) (H3.kn (hup.kn.mono fun y hy => by simp at hy; simp [hy])) (by have := hup.small; omega)
    have HFI := Lib.hid (find_any key hN (risB_srt hup.law.rise))
    have hs1 : IntKind.i64.wrap (ns.length : Int) = (ns.length : Int) := IntWalk.i64_in _ (by omega)
    have hs3 : (ns.length : Int) < (ns.length : Int) + 1 := by omega
    have hs4 : ns.length < ns.length + 1 := by omega
    have hsm := hup.small
    have hjl := posP_le key x.L
    have HX := Lib.hid (And.intro hA (And.intro hup (And.intro hsl H3)))
    clear H2 H3 hNw hN hrow hwb hgb hsl hup hups hlevs hat hA hlv hr0
    go_wp2_with fail
    refine HFI.out.mono ?_
    rintro e w4 ⟨rfl, hb4⟩
    have H4 := HX.out.2.2.2.on hb4
    clear HFI hb4 d0 d1 d2 d3 d4 d5 hst
    obtain ⟨d0, d1, d2, d3, d4, d5⟩ := nd_cells (H4.mem List.mem_cons_self)
    simp only at d0 d1 d2 d3 d4 d5
    rw [HX.out.2.2.1] at d4
    obtain ⟨j, hj⟩ : ∃ j, posP key x.L = j := ⟨_, rfl⟩
    rw [hj] at hjl
    rw [hj]
    cases hh : hitP key x.L with
    | true =>
      obtain ⟨q, hq, _⟩ := hitP_some hh
      rw [hj] at hq
      have hjl2 := (List.getElem?_eq_some_iff.1 hq).1
      have hqs := HX.out.2.1.mod q (List.mem_of_getElem? hq)
      obtain ⟨g', o', he, _, c0, c1⟩ := (H4.kn (HX.out.2.1.kn.mono fun y hy => by simp at hy; simp [hy])).at hq
      rw [HX.out.2.2.1] at he
      cases he
      rw [Nat.zero_add] at c0 c1
      have HQ := Lib.hid (And.intro hj (And.intro hq hh))
      have H4' := Lib.hid H4
      clear H4 hh hj hq
      go_wp2_with fail
      refine (clone_any q.val _ (by omega)).mono ?_
      rintro e w5 ⟨rfl, hb5⟩
      have H5 := Lib.hid (H4'.out.on hb5)
      clear hb5
      go_wp2
      go_returns
      exact ⟨⟨_, _, rfl, getEx_some hi HWC.out.1 HWC.out.2.1 HWC.out.2.2 (by
        unfold getB
        rw [if_pos HQ.out.2.2, HQ.out.1, HQ.out.2.1]
        rfl)⟩, H5.out.sub R fun y hy => by simp [hy]⟩
    | false =>
      have HQ := Lib.hid hh
      have H4' := Lib.hid H4
      clear H4 hh hj
      go_wp2
      go_returns
      exact ⟨⟨_, _, rfl, getEx_some hi HWC.out.1 HWC.out.2.1 HWC.out.2.2 (by
        unfold getB
        rw [if_neg (by rw [HQ.out]; simp)])⟩, H4'.out.sub R fun y hy => by simp [hy]⟩
end
end Go.Proofs.YtcjfnfdinhbdlaaGreatDoor
