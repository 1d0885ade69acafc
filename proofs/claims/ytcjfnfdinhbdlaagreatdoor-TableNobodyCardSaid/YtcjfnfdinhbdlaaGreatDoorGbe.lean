import Derived.Test.YtcjfnfdinhbdlaaGreatDoorGbb
import Derived.Test.YtcjfnfdinhbdlaaGreatDoorGat
import Derived.Test.YtcjfnfdinhbdlaaGreatDoorGba
import Derived.Test.YtcjfnfdinhbdlaaGreatDoorGag
namespace Go.Proofs.YtcjfnfdinhbdlaaGreatDoor
set_option maxRecDepth 100000
open Go.ChangeShapes Go.WideShapes Go.ChangeAt Go.RowKit Go.PlainAid
structure Sto where
  p : Nat
  q : Nat
  bm : Nat
  hc : Nat
  d : D
  h : Hd
  T : Int → Option ByteArray
def Sto.at (S : Sto) (k : Int) : ByteArray := pageS S.d S.h S.T k
def Sto.put (S : Sto) (k : Int) (s : ByteArray) : Sto := { S with T := Go.Proofs.YtcjfnfdinhbdlaaGreatDoor.put S.T k s }
theorem Sto.at_put (S : Sto) (k : Int) (s : ByteArray) (j : Int) : (S.put k s).at j = if j = k then s else S.at j := by
  have e : (S.put k s).T j = if j = k then some s else S.T j := rfl
  unfold Sto.at pageS
  rw [e]
  by_cases h : j = k
  · rw [if_pos h, if_pos h]
  · rw [if_neg h, if_neg h]
    rfl
structure Sto.Ok (S : Sto) : Prop where
  wf : S.h.Wf
  lit : S.d.dark = false
  fit : 2 + S.h.room + S.h.pages ≤ S.d.n
  tx : TxOk S.h S.T
theorem Sto.Ok.put {S : Sto} (h : S.Ok) {k : Int} {s : ByteArray} (h0 : 0 ≤ k) (h1 : k < S.h.pages) (hs : s.size = 256) : (S.put k s).Ok :=
  ⟨h.wf, h.lit, h.fit, fun j t ht => by
    unfold Sto.put Go.Proofs.YtcjfnfdinhbdlaaGreatDoor.put at ht
    by_cases e : j = k
    · subst e
      have ht : some s = some t := by simpa using ht
      obtain rfl := Option.some.inj ht
      exact ⟨h0, h1, hs⟩
    · exact h.tx j t (by simpa [e] using ht)⟩
def pagerO (q hc : Nat) : Obj := .cells #[.pointer (some ⟨q, 0, none⟩), .pointer (some ⟨hc, 0, none⟩)] 101 (0, 0)
structure Kept (S : Sto) (L : List KA.E) : Prop where
  once : Once L
  len : L.length ≤ 32
  all : ∀ e ∈ L, 0 ≤ e.key ∧ e.key < S.h.pages ∧ e.val = S.at e.key ∧ e.pins = 0
structure Pgl (w0 : World) (pp : Nat) (S : Sto) (c : Nat) (L : List KA.E) (R : List (Nat × Obj)) (w : World) : Prop where
  ex : ∃ CB, KA.Frame w0 S.hc 32 L CB ∧ StT w0 S.p S.q S.bm c S.d S.h S.T false (CB ++ (pp, pagerO S.q S.hc) :: R) w ∧ ∀ b o o', (b, o) ∈ (pp, pagerO S.q S.hc) :: R → (b, o') ∉ CB
structure Pag (w0 : World) (pp : Nat) (S : Sto) (c : Nat) (R : List (Nat × Obj)) (w : World) : Prop where
  ok : S.Ok
  ex : ∃ L, Kept S L ∧ Pgl w0 pp S c L R w
section
variable {w0 w w' : World} {pp c : Nat} {S : Sto} {L : List KA.E} {R : List (Nat × Obj)}
theorem Pgl.on (H : Pgl w0 pp S c L R w) (b : Below w.heap.size w w') : Pgl w0 pp S c L R w' := by
  obtain ⟨CB, h1, h2, h3⟩ := H
  exact ⟨CB, h1, h2.on b, h3⟩
theorem Pag.on (H : Pag w0 pp S c R w) (b : Below w.heap.size w w') : Pag w0 pp S c R w' := by
  obtain ⟨h1, L, h2, h3⟩ := H
  exact ⟨h1, L, h2, h3.on b⟩
theorem Pgl.at (H : Pgl w0 pp S c L R w) : w.heap[pp]? = some (pagerO S.q S.hc) := by
  obtain ⟨CB, h1, h2, h3⟩ := H
  exact h2.mem (x := (pp, pagerO S.q S.hc)) (List.mem_append_right _ List.mem_cons_self)
theorem Pag.at (H : Pag w0 pp S c R w) : w.heap[pp]? = some (pagerO S.q S.hc) := by
  obtain ⟨h1, L, h2, h3⟩ := H
  exact h3.at
theorem Pgl.mem (H : Pgl w0 pp S c L R w) {x : Nat × Obj} (hx : x ∈ R) : w.heap[x.1]? = some x.2 := by
  obtain ⟨CB, h1, h2, h3⟩ := H
  exact h2.mem (List.mem_append_right _ (List.mem_cons_of_mem _ hx))
theorem Pag.mem (H : Pag w0 pp S c R w) {x : Nat × Obj} (hx : x ∈ R) : w.heap[x.1]? = some x.2 := by
  obtain ⟨h1, L, h2, h3⟩ := H
  exact h3.mem hx
theorem Pgl.stq (H : Pgl w0 pp S c L R w) : w.heap[S.q]? = some (storeO S.p S.bm S.h false) := by
  obtain ⟨CB, h1, h2, h3⟩ := H
  exact h2.at
theorem Pag.stq (H : Pag w0 pp S c R w) : w.heap[S.q]? = some (storeO S.p S.bm S.h false) := by
  obtain ⟨h1, L, h2, h3⟩ := H
  exact h3.stq
theorem Pgl.below (H : Pgl w0 pp S c L R w) : Below w0.heap.size w0 w := by
  obtain ⟨CB, h1, h2, h3⟩ := H
  exact h2.below
theorem Pag.below (H : Pag w0 pp S c R w) : Below w0.heap.size w0 w := by
  obtain ⟨h1, L, h2, h3⟩ := H
  exact h3.below
theorem Pgl.mono {c' : Nat} (H : Pgl w0 pp S c L R w) (hc : c ≤ c') : Pgl w0 pp S c' L R w := by
  obtain ⟨CB, h1, h2, h3⟩ := H
  exact ⟨CB, h1, h2.mono hc, h3⟩
theorem Pag.mono {c' : Nat} (H : Pag w0 pp S c R w) (hc : c ≤ c') : Pag w0 pp S c' R w := by
  obtain ⟨h1, L, h2, h3⟩ := H
  exact ⟨h1, L, h2, h3.mono hc⟩
theorem pager_cells {w : World} {pp q hc : Nat} (h : w.heap[pp]? = some (pagerO q hc)) : w.cell? ⟨pp, 0, none⟩ = some (.pointer (some ⟨q, 0, none⟩)) ∧ w.cell? ⟨pp, 1, none⟩ = some (.pointer (some ⟨hc, 0, none⟩)) := by
  unfold pagerO at h
  exact ⟨by rw [cell_of_row _ _ _ _ _ _ h]; rfl, by rw [cell_of_row _ _ _ _ _ _ h]; rfl⟩
theorem Pag.size (H : Pag w0 pp S c R w) {k : Int} (h0 : 0 ≤ k) (h1 : k < S.h.pages) : (S.at k).size = 256 := by
  obtain ⟨hO, L, _, CB, _, h2, _⟩ := H
  have hwf := h2.own.wf
  unfold Sto.at pageS
  cases e : S.T k with
  | some s => exact (hO.tx k s e).2.2
  | none =>
    have := hO.fit
    exact hwf.last _ (by omega)
theorem Kept.nil (S : Sto) : Kept S [] := ⟨List.nodup_nil, Nat.zero_le _, fun e h => by cases h⟩
theorem Kept.perm {M : List KA.E} (h : Kept S L) (p : M.Perm L) : Kept S M := ⟨once_perm h.once p, by rw [p.length_eq]; exact h.len, fun e he => h.all e (p.mem_iff.1 he)⟩
theorem Kept.get (h : Kept S L) (k : Int) : Kept S (getL k L) := h.perm get_perm
theorem Kept.drop (h : Kept S L) (k : Int) (s : ByteArray) : Kept (S.put k s) (KA.dropL k L) := by
  unfold KA.dropL
  have hat := S.at_put k s
  split
  · next hp =>
    obtain ⟨e, he, hk⟩ := posK_at hp
    refine ⟨once_erase h.once _, ?_, fun x hx => ?_⟩
    · rw [List.length_eraseIdx_of_lt hp]
      have := h.len
      omega
    · obtain ⟨hxL, hne⟩ := mem_erase h.once he hx
      obtain ⟨a, b, c, d⟩ := h.all x hxL
      refine ⟨a, b, ?_, d⟩
      rw [hat, if_neg (by rw [← hk]; exact hne)]
      exact c
  · next hp =>
    refine ⟨h.once, h.len, fun x hx => ?_⟩
    obtain ⟨a, b, c, d⟩ := h.all x hx
    refine ⟨a, b, ?_, d⟩
    rw [hat, if_neg (posK_none hp x hx)]
    exact c
theorem Kept.dropSame (h : Kept S L) (k : Int) : Kept S (KA.dropL k L) := by
  unfold KA.dropL
  split
  · next hp =>
    refine ⟨once_erase h.once _, ?_, fun x hx => h.all x ((List.eraseIdx_sublist _ _).subset hx)⟩
    rw [List.length_eraseIdx_of_lt hp]
    have := h.len
    omega
  · exact h
theorem Kept.put (h : Kept S L) {k : Int} (h0 : 0 ≤ k) (h1 : k < S.h.pages) : putE 32 k L = 0 ∧ Kept S (putL 32 k (S.at k) L) := by
  obtain ⟨hE, M, hM, hMl⟩ := put_zero (most := 32) h.once (fun e he => (h.all e he).2.2.2) (by omega) k (S.at k)
  refine ⟨hE, once_put h.once 32 k _, put_len h.len k _, fun e he => ?_⟩
  rw [hM] at he
  rcases List.mem_cons.1 he with rfl | he
  · exact ⟨h0, h1, rfl, rfl⟩
  · exact h.all e (hMl e he).1
theorem Kept.val (h : Kept S L) {k : Int} {v : ByteArray} (hv : getV k L = some v) : v = S.at k ∧ 0 ≤ k ∧ k < S.h.pages := by
  obtain ⟨e, he, hk, hev⟩ := getV_some hv
  obtain ⟨a, b, c, _⟩ := h.all e he
  rw [← hk, ← hev]
  exact ⟨c, a, b⟩
theorem Pgl.store (H : Pgl w0 pp S c L R w) : ∃ RS, StT w0 S.p S.q S.bm c S.d S.h S.T false RS w ∧ ∀ c' d' h' T' w1, StT w0 S.p S.q S.bm c' d' h' T' false RS w1 → Pgl w0 pp { S with d := d', h := h', T := T' } c' L R w1 := by
  obtain ⟨CB, h1, h2, h3⟩ := H
  exact ⟨_, h2, fun c' d' h' T' w1 hh => ⟨CB, h1, hh, h3⟩⟩
def held (w : World) (ks : List Nat) : List (Nat × Obj) := ks.filterMap fun k => (w.heap[k]?).map fun o => (k, o)
theorem mem_held {w : World} {ks : List Nat} {b : Nat} {o : Obj} : (b, o) ∈ held w ks ↔ b ∈ ks ∧ w.heap[b]? = some o := by
  unfold held
  rw [List.mem_filterMap]
  constructor
  · rintro ⟨k, hk, he⟩
    cases hw : w.heap[k]? with
    | none => rw [hw] at he; cases he
    | some o2 =>
      rw [hw] at he
      have he : (k, o2) = (b, o) := by simpa using he
      cases he
      exact ⟨hk, hw⟩
  · rintro ⟨hk, hw⟩
    exact ⟨b, hk, by rw [hw]; rfl⟩
def Foot.list (F : Foot) : List Nat := F.p :: F.S :: F.L :: F.lv.ownBlock.toList
theorem Foot.mem_list (F : Foot) (k : Nat) : k ∈ F.list ↔ F.own k := by
  unfold Foot.list Foot.own
  simp only [List.mem_cons, Option.mem_toList]
theorem Dk.held {F : Foot} {d : D} (h : Dk w F d) (hw : ∀ b o, (b, o) ∈ held w F.list → w'.heap[b]? = some o) : Dk w' { F with B := max F.p (max F.S F.L) + 1 } d := by
  have hl : ∀ k, F.own k → w'.heap[k]? = w.heap[k]? := fun k hk => by
    have hlt := DiskAt.own_lt h hk
    have e : w.heap[k]? = some w.heap[k] := Array.getElem?_eq_getElem hlt
    rw [e]
    exact hw k _ (mem_held.2 ⟨(F.mem_list k).2 hk, e⟩)
  have hin : ∀ k, F.own k → k < w'.heap.size := fun k hk => by
    have hlt := DiskAt.own_lt h hk
    have e : w.heap[k]? = some w.heap[k] := Array.getElem?_eq_getElem hlt
    exact heap_lt ((hl k hk).trans e)
  have i1 := hin F.p (.inl rfl)
  have i2 := hin F.S (.inr (.inl rfl))
  have i3 := hin F.L (.inr (.inr (.inl rfl)))
  have b1 := h.pB
  have b2 := h.SB
  have b3 := h.LB
  exact {
    head := (hl F.p (.inl rfl)).trans h.head
    safe := h.safe.keep (hl F.S (.inr (.inl rfl)))
    last := h.last.keep (hl F.L (.inr (.inr (.inl rfl))))
    late := by
      obtain ⟨h1, h2⟩ := h.late
      refine ⟨h1, ?_⟩
      rcases h2 with h2 | ⟨g, cap, cur, hv, hb, hg, h3⟩
      · exact .inl h2
      · exact .inr ⟨g, cap, cur, hv, by show max F.p (max F.S F.L) + 1 ≤ g; omega, (hl g (.inr (.inr (.inr (by rw [hv]; rfl))))).trans hg, h3⟩
    pB := by show F.p < max F.p (max F.S F.L) + 1; omega
    SB := by show F.S < max F.p (max F.S F.L) + 1; omega
    LB := by show F.L < max F.p (max F.S F.L) + 1; omega
    pS := h.pS
    pL := h.pL
    SL := h.SL
    base := by show max F.p (max F.S F.L) + 1 ≤ w'.heap.size; omega
    wf := h.wf }
theorem Pgl.cache (H : Pgl w0 pp S c L R w) : ∃ X, KA.CaT w0 S.hc 32 L X w ∧ ∀ L' w1, KA.CaT w0 S.hc 32 L' X w1 → Pgl w0 pp S c L' R w1 := by
  obtain ⟨CB, h1, ⟨⟨es, clock, hX, ⟨⟨F, hFp, hD, hB, hO, hK⟩, hlo, hne⟩⟩, q1, q2⟩, h3⟩ := H
  have hqF := (hK (S.q, storeO S.p S.bm S.h false) List.mem_cons_self)
  have hbF := (hK (S.bm, .map es clock) (List.mem_cons_of_mem _ List.mem_cons_self))
  have hnb : S.bm ≠ S.q := hne _ List.mem_cons_self
  have hin : ∀ x ∈ CB ++ (pp, pagerO S.q S.hc) :: R, ¬ F.own x.1 ∧ w.heap[x.1]? = some x.2 ∧ x.1 ≠ S.q ∧ x.1 ≠ S.bm := fun x hx =>
    ⟨(hK x (List.mem_cons_of_mem _ (List.mem_cons_of_mem _ hx))).1, (hK x (List.mem_cons_of_mem _ (List.mem_cons_of_mem _ hx))).2, hne x (List.mem_cons_of_mem _ hx), q2 x hx⟩
  let X := held w F.list ++ ((S.q, storeO S.p S.bm S.h false) :: (S.bm, Obj.map es clock) :: (pp, pagerO S.q S.hc) :: R)
  have hXk : ∀ b o, (b, o) ∈ X → w.heap[b]? = some o := fun b o hb => by
    rcases List.mem_append.1 hb with hb | hb
    · exact (mem_held.1 hb).2
    · rcases List.mem_cons.1 hb with hb | hb
      · cases hb; exact hqF.2
      · rcases List.mem_cons.1 hb with hb | hb
        · cases hb; exact hbF.2
        · exact (hin (b, o) (List.mem_append_right _ hb)).2.1
  refine ⟨X, KA.of_frame h1 hB (fun b o hb => (hin (b, o) (List.mem_append_left _ hb)).2.1) hXk (fun b o o' hb hc => ?_), fun L' w1 hC => ?_⟩
  · have hi := hin (b, o') (List.mem_append_left _ hc)
    rcases List.mem_append.1 hb with hb | hb
    · exact hi.1 ((F.mem_list b).1 (mem_held.1 hb).1)
    · rcases List.mem_cons.1 hb with hb | hb
      · cases hb; exact hi.2.2.1 rfl
      · rcases List.mem_cons.1 hb with hb | hb
        · cases hb; exact hi.2.2.2 rfl
        · exact h3 b o o' hb hc
  · obtain ⟨CB', g1, g2, g3⟩ := KA.frame_of hC
    have hk1 : ∀ b o, (b, o) ∈ X → w1.heap[b]? = some o := fun b o hb => (hC.known b o hb).1
    have hsub : ∀ x, x ∈ (pp, pagerO S.q S.hc) :: R → x ∈ X := fun x hx => List.mem_append_right _ (List.mem_cons_of_mem _ (List.mem_cons_of_mem _ hx))
    have hqX : (S.q, storeO S.p S.bm S.h false) ∈ X := List.mem_append_right _ List.mem_cons_self
    have hbX : (S.bm, Obj.map es clock) ∈ X := List.mem_append_right _ (List.mem_cons_of_mem _ List.mem_cons_self)
    have hD1 := Dk.held (w' := w1) hD (fun b o hb => hk1 b o (List.mem_append_left _ hb))
    have hnew : ∀ x ∈ CB', ¬ F.own x.1 ∧ w1.heap[x.1]? = some x.2 ∧ x.1 ≠ S.q ∧ x.1 ≠ S.bm := fun x hx => by
      refine ⟨fun ho => ?_, g2 x.1 x.2 hx, fun e => ?_, fun e => ?_⟩
      · have e : w.heap[x.1]? = some (w.heap[x.1]'(DiskAt.own_lt hD ho)) := Array.getElem?_eq_getElem _
        exact g3 x.1 _ x.2 (List.mem_append_left _ (mem_held.2 ⟨(F.mem_list x.1).2 ho, e⟩)) hx
      · refine g3 S.q _ x.2 hqX ?_
        rw [← e]; exact hx
      · refine g3 S.bm _ x.2 hbX ?_
        rw [← e]; exact hx
    refine ⟨CB', g1, ⟨⟨es, clock, hX, ⟨⟨{ F with B := max F.p (max F.S F.L) + 1 }, hFp, hD1, hC.below, hO, fun x hx => ?_⟩, hlo, fun x hx => ?_⟩⟩, q1, fun x hx => ?_⟩, fun b o o' hb => g3 b o o' (hsub _ hb)⟩
    · rcases List.mem_cons.1 hx with rfl | hx
      · exact ⟨hqF.1, hk1 _ _ hqX⟩
      · rcases List.mem_cons.1 hx with rfl | hx
        · exact ⟨hbF.1, hk1 _ _ hbX⟩
        · rcases List.mem_append.1 hx with hx | hx
          · exact ⟨(hnew x hx).1, (hnew x hx).2.1⟩
          · exact ⟨(hin x (List.mem_append_right _ hx)).1, hk1 _ _ (hsub x hx)⟩
    · rcases List.mem_cons.1 hx with rfl | hx
      · exact hnb
      · rcases List.mem_append.1 hx with hx | hx
        · exact (hnew x hx).2.2.1
        · exact (hin x (List.mem_append_right _ hx)).2.2.1
    · rcases List.mem_append.1 hx with hx | hx
      · exact (hnew x hx).2.2.2
      · exact (hin x (List.mem_append_right _ hx)).2.2.2
end
end Go.Proofs.YtcjfnfdinhbdlaaGreatDoor
namespace Go.Proofs.YtcjfnfdinhbdlaaGreatDoor
set_option maxRecDepth 100000
open Go.ChangeShapes Go.WideShapes Go.ChangeAt Go.RowKit Go.PlainAid
open Go.Sort (grow)
section
variable {w0 w w' : World} {pp c : Nat} {S : Sto} {L : List KA.E} {R : List (Nat × Obj)}
theorem Pgl.get (H : Pgl w0 pp S c L R w) (k : Int) (hl : L.length ≤ 32) :
    Calls Tryz.prog 100 #[.pointer (some ⟨S.hc, 0, none⟩), .int .i64 k] w fun e w' => e = .returned (.tuple #[.string ((getV k L).getD ⟨#[]⟩), .bool (getV k L).isSome]) ∧ Pgl w0 pp S c (getL k L) R w' := by
  obtain ⟨X, hC, hback⟩ := H.cache
  exact (KA.get_any hC k (by omega)).mono fun e w' ⟨he, h⟩ => ⟨he, hback _ _ h⟩
theorem Pgl.putH (H : Pgl w0 pp S c L R w) (k : Int) (v : ByteArray) (hl : L.length ≤ 32) :
    Calls Tryz.prog 101 #[.pointer (some ⟨S.hc, 0, none⟩), .int .i64 k, .string v] w fun e w' => e = .returned (.tuple #[.int .i64 ((putK 32 k L).getD 0), .bool (putK 32 k L).isSome, .int .i64 (putE 32 k L)]) ∧ Pgl w0 pp S c (putL 32 k v L) R w' := by
  obtain ⟨X, hC, hback⟩ := H.cache
  exact (KA.put_any (most := 32) hC k v (by omega) (by omega) hl).mono fun e w' ⟨he, h⟩ => ⟨he, hback _ _ h⟩
theorem Pgl.drop (H : Pgl w0 pp S c L R w) (k : Int) (hl : L.length ≤ 32) :
    Calls Tryz.prog 147 #[.pointer (some ⟨S.hc, 0, none⟩), .int .i64 k] w fun e w' => e = .returned (.bool (decide (posK k L < L.length))) ∧ Pgl w0 pp S c (KA.dropL k L) R w' := by
  obtain ⟨X, hC, hback⟩ := H.cache
  exact (KA.drop_any hC k (by omega)).mono fun e w' ⟨he, h⟩ => ⟨he, hback _ _ h⟩
theorem Pgl.sread (H : Pgl w0 pp S c L R w) (hO : S.Ok) (k : Int) (h0 : 0 ≤ k) (h1 : k < S.h.pages) :
    Calls Tryz.prog 85 #[.pointer (some ⟨S.q, 0, none⟩), .int .i64 k] w fun e w' => e = .returned (.tuple #[.string (S.at k), .int .i64 0]) ∧ Pgl w0 pp S c L R w' := by
  obtain ⟨RS, hS, hback⟩ := H.store
  exact (sread_any hS k h0 h1 hO.wf hO.lit hO.fit).mono fun e w' ⟨he, h, _⟩ => ⟨he, hback _ _ _ _ _ h⟩
theorem Pgl.swrite (H : Pgl w0 pp S c L R w) (k : Int) (s : ByteArray) (h0 : -9223372036854775808 ≤ k) (h1 : k ≤ 9223372036854775807) (hs : s.size ≤ maxLen) (hc : c < 1000000) :
    Calls Tryz.prog 148 #[.pointer (some ⟨S.q, 0, none⟩), .int .i64 k, .string s] w fun e w' => e = .returned (.int .i64 (swriteE S.h k s)) ∧ Pgl w0 pp { S with T := swriteT S.h S.T k s } (c + 1) L R w' := by
  obtain ⟨RS, hS, hback⟩ := H.store
  exact (swrite_any hS k s h0 h1 hs hc).mono fun e w' ⟨he, h, _⟩ => ⟨he, hback _ _ _ _ _ h⟩
theorem Pgl.swrite_ok (H : Pgl w0 pp S c L R w) (k : Int) (s : ByteArray) (h0 : 0 ≤ k) (h1 : k < S.h.pages) (hp : S.h.pages ≤ 1024) (hs : s.size ≤ 256) (hc : c < 1000000) :
    Calls Tryz.prog 148 #[.pointer (some ⟨S.q, 0, none⟩), .int .i64 k, .string s] w fun e w' => e = .returned (.int .i64 0) ∧ Pgl w0 pp (S.put k (filled s)) (c + 1) L R w' := by
  have := H.swrite k s (by omega) (by omega) (by unfold maxLen; omega) hc
  rw [show swriteE S.h k s = 0 by unfold swriteE; rw [if_neg (by omega), if_neg (by omega)], show swriteT S.h S.T k s = Go.Proofs.YtcjfnfdinhbdlaaGreatDoor.put S.T k (filled s) by unfold swriteT; rw [if_neg (by omega)]] at this
  exact this
theorem pmade_any {pp q hc : Nat} (h : w.heap[pp]? = some (pagerO q hc)) :
    Calls Tryz.prog 87 #[.pointer (some ⟨pp, 0, none⟩)] w fun e w' => e = .returned (.bool true) ∧ w = w' := by
  obtain ⟨c0, c1⟩ := pager_cells h
  clear h
  go_enter Tryz.func87, Tryz.ntmps87
  go_wp2
  go_returns
  exact ⟨rfl, rfl⟩
theorem pended_ok (v : Value) (w : World) :
    Calls Tryz.prog 94 #[v, .int .i64 0] w fun e w' => e = .returned (.int .i64 0) ∧ w = w' := by
  go_enter Tryz.func94, Tryz.ntmps94
  go_wp2
  go_returns
  exact ⟨rfl, rfl⟩
def treeE (i : Int) : Int := if i < 0 ∨ 16 ≤ i then 1 else 0
theorem ptree_any {pp q hc : Nat} (h : w.heap[pp]? = some (pagerO q hc)) (i : Int) :
    Calls Tryz.prog 107 #[.pointer (some ⟨pp, 0, none⟩), .int .i64 i] w fun e w' => e = .returned (.int .i64 (treeE i)) ∧ w = w' := by
  have HM := Lib.hid (pmade_any h)
  clear h
  unfold treeE
  rcases Int.lt_or_le i 0 with a | a
  · have hb : decide (i < 0) = true := by simpa using a
    rw [if_pos (.inl a)]
    go_enter Tryz.func107, Tryz.ntmps107
    go_wp2_with fail
    refine HM.out.mono ?_
    rintro e _ ⟨rfl, rfl⟩
    go_wp2
    go_returns
    exact ⟨rfl, rfl⟩
  · have hb : decide (i < 0) = false := by simpa using a
    rcases Int.lt_or_le i 16 with b | b
    · have hb2 : decide (16 ≤ i) = false := by simpa using b
      rw [if_neg (by omega)]
      go_enter Tryz.func107, Tryz.ntmps107
      go_wp2_with fail
      refine HM.out.mono ?_
      rintro e _ ⟨rfl, rfl⟩
      go_wp2
      go_returns
      exact ⟨rfl, rfl⟩
    · have hb2 : decide (16 ≤ i) = true := by simpa using b
      rw [if_pos (.inr b)]
      go_enter Tryz.func107, Tryz.ntmps107
      go_wp2_with fail
      refine HM.out.mono ?_
      rintro e _ ⟨rfl, rfl⟩
      go_wp2
      go_returns
      exact ⟨rfl, rfl⟩
set_option maxHeartbeats 1000000 in
theorem pread_any (H : Pag w0 pp S c R w) (k : Int) (h0 : 0 ≤ k) (h1 : k < S.h.pages) :
    Calls Tryz.prog 53 #[.pointer (some ⟨pp, 0, none⟩), .int .i64 k] w fun e w' => e = .returned (.tuple #[.string (S.at k), .int .i64 0]) ∧ Pag w0 pp S c R w' := by
  obtain ⟨hO, L, hK, hP⟩ := H
  have HO := Lib.hid hO
  have HK := Lib.hid hK
  have HM := Lib.hid (pmade_any hP.at)
  have HG := Lib.hid (hP.get k hK.len)
  obtain ⟨c0, c1⟩ := pager_cells hP.at
  clear hP hO hK
  go_enter Tryz.func53, Tryz.ntmps53
  go_wp2_with fail
  refine HM.out.mono ?_
  rintro e _ ⟨rfl, rfl⟩
  go_wp2_with fail
  refine HG.out.mono ?_
  rintro e w1 ⟨rfl, H1⟩
  have HK1 := Lib.hid (HK.out.get k)
  clear c0 c1 HM HG
  obtain ⟨c0, c1⟩ := pager_cells H1.at
  cases hv : getV k L with
  | some v =>
    obtain ⟨rfl, _, _⟩ := HK.out.val hv
    have H1' := Lib.hid H1
    clear H1 hv
    rw [show ((some (S.at k)).getD ⟨#[]⟩ : ByteArray) = S.at k from rfl, show (some (S.at k)).isSome = true from rfl]
    go_wp2
    go_returns
    exact ⟨rfl, HO.out, _, HK1.out, H1'.out⟩
  | none =>
    have HR := Lib.hid (H1.sread HO.out k h0 h1)
    rw [show ((none : Option ByteArray).getD ⟨#[]⟩ : ByteArray) = ⟨#[]⟩ from rfl, show (none : Option ByteArray).isSome = false from rfl]
    clear H1 hv
    go_wp2_with fail
    refine HR.out.mono ?_
    rintro e w2 ⟨rfl, H2⟩
    clear HR c0 c1
    obtain ⟨c0, c1⟩ := pager_cells H2.at
    have HE := Lib.hid (pended_ok (.pointer (some ⟨pp, 0, none⟩)) w2)
    have HP := Lib.hid (H2.putH k (S.at k) HK1.out.len)
    have HK2 := Lib.hid (HK1.out.put h0 h1)
    clear H2
    go_wp2_with fail
    refine HE.out.mono ?_
    rintro e _ ⟨rfl, rfl⟩
    go_wp2_with fail
    refine HP.out.mono ?_
    rintro e w3 ⟨rfl, H3⟩
    have H3' := Lib.hid H3
    clear H3 HP HE c0 c1
    go_wp2
    go_returns
    exact ⟨rfl, HO.out, _, HK2.out.2, H3'.out⟩
set_option maxHeartbeats 1000000 in
theorem pwrite_any (H : Pag w0 pp S c R w) (k : Int) (s : ByteArray) (h0 : 0 ≤ k) (h1 : k < S.h.pages) (hs : s.size ≤ 256) (hc : c < 1000000) :
    Calls Tryz.prog 90 #[.pointer (some ⟨pp, 0, none⟩), .int .i64 k, .string s] w fun e w' => e = .returned (.int .i64 0) ∧ Pag w0 pp (S.put k (filled s)) (c + 1) R w' := by
  obtain ⟨hO, L, hK, hP⟩ := H
  have HO := Lib.hid (hO.put h0 h1 (filled_size s))
  have HK := Lib.hid (hK.drop k (filled s))
  have HD := Lib.hid (hP.drop k hK.len)
  have hpg := hO.wf.pages
  obtain ⟨c0, c1⟩ := pager_cells hP.at
  clear hP hO hK
  go_enter Tryz.func90, Tryz.ntmps90
  go_wp2_with fail
  refine HD.out.mono ?_
  rintro e w1 ⟨rfl, H1⟩
  clear c0 c1 HD
  obtain ⟨c0, c1⟩ := pager_cells H1.at
  have HW := Lib.hid (H1.swrite_ok k s h0 h1 hpg hs hc)
  clear H1
  go_wp2_with fail
  refine HW.out.mono ?_
  rintro e w2 ⟨rfl, H2⟩
  have HE := Lib.hid (pended_ok (.pointer (some ⟨pp, 0, none⟩)) w2)
  have H2' := Lib.hid H2
  clear H2 HW c0 c1
  go_wp2_with fail
  refine HE.out.mono ?_
  rintro e _ ⟨rfl, rfl⟩
  go_wp2
  go_returns
  exact ⟨rfl, HO.out, _, HK.out, H2'.out⟩
end
end Go.Proofs.YtcjfnfdinhbdlaaGreatDoor
namespace Go.Proofs.YtcjfnfdinhbdlaaGreatDoor
set_option maxRecDepth 100000
open Go.ChangeShapes Go.WideShapes Go.ChangeAt Go.RowKit Go.PlainAid
open Go.Sort (grow)
def outB (n : Nat) (s : ByteArray) (k : Int) : Bool := decide (2 ≤ k) && decide (k < n) && hasB s k
section
variable {w0 w w' : World} {pp c : Nat} {S : Sto} {R : List (Nat × Obj)}
theorem with_full {s : ByteArray} (hs : s.size = 256) (k : Int) (x : Bool) : filled (withS s k x) = withS s k x := filled_full (by rw [with_size]; exact hs)
set_option maxHeartbeats 1000000 in
theorem pmark_any (H : Pag w0 pp S c R w) (s : ByteArray) (hs : s.size = 256) (k : Int) (x : Bool) (b0 : -9223372036854775808 ≤ k) (b1 : k ≤ 9223372036854775807) (hp : 0 < S.h.pages) (hc : c < 1000000) :
    Calls Tryz.prog 172 #[.pointer (some ⟨pp, 0, none⟩), .string s, .int .i64 k, .bool x] w fun e w' => e = .returned (.int .i64 0) ∧ Pag w0 pp (S.put 0 (withS s k x)) (c + 1) R w' := by
  have HW := Lib.hid (with_any s k x w (by omega) b0 b1)
  have HF := Lib.hid (with_full hs k x)
  have HP := Lib.hid fun (w1 : World) (b : Below w.heap.size w w1) => pwrite_any (H.on b) 0 (withS s k x) (by omega) (by omega) (by rw [with_size]; omega) hc
  clear H
  go_enter Tryz.func172, Tryz.ntmps172
  go_wp2_with fail
  refine HW.out.mono ?_
  rintro e w1 ⟨rfl, hb1⟩
  have HP1 := Lib.hid (HP.out w1 hb1)
  rw [HF.out] at HP1
  clear hb1 HW HP HF
  go_wp2_with fail
  refine HP1.out.mono ?_
  rintro e w2 ⟨rfl, H2⟩
  have H2' := Lib.hid H2
  clear H2
  go_wp2
  go_returns
  exact ⟨rfl, H2'.out⟩
theorem slenP (H : Pag w0 pp S c R w) : Calls Tryz.prog 54 #[.pointer (some ⟨S.q, 0, none⟩)] w fun e w' => e = .returned (.int .i64 S.h.pages) ∧ w = w' := slen_any w S.q S.p S.bm S.h false H.stq
set_option maxHeartbeats 1000000 in
theorem pout_yes (H : Pag w0 pp S c R w) (k : Int) (b0 : -9223372036854775808 ≤ k) (b1 : k ≤ 9223372036854775807) (hp : 0 < S.h.pages) (hk : outB S.h.pages (S.at 0) k = true) :
    Calls Tryz.prog 175 #[.pointer (some ⟨pp, 0, none⟩), .int .i64 k] w fun e w' => e = .returned (.tuple #[.string (S.at 0), .int .i64 0]) ∧ Pag w0 pp S c R w' := by
  have HR := Lib.hid (pread_any H 0 (by omega) (by omega))
  have hsz := H.size (k := 0) (by omega) (by omega)
  unfold outB at hk
  simp only [Bool.and_eq_true, decide_eq_true_eq] at hk
  obtain ⟨⟨k1, k2⟩, k3⟩ := hk
  have d1 : decide (k < 2) = false := by simpa using k1
  have d2 : decide ((S.h.pages : Int) ≤ k) = false := by simpa using k2
  have HH := Lib.hid fun (w : World) => has_any (S.at 0) k w (by omega) b0 b1
  rw [k3] at HH
  clear H k3 hsz
  go_enter Tryz.func175, Tryz.ntmps175
  go_wp2_with fail
  refine HR.out.mono ?_
  rintro e w1 ⟨rfl, H1⟩
  obtain ⟨c0, c1⟩ := pager_cells H1.at
  have HL := Lib.hid (slenP H1)
  have H1' := Lib.hid H1
  clear H1 HR
  go_wp2_with fail
  refine HL.out.mono ?_
  rintro e _ ⟨rfl, rfl⟩
  go_wp2_with fail
  refine (HH.out _).mono ?_
  rintro e w2 ⟨rfl, hd2⟩
  have H2 := Lib.hid (H1'.out.on hd2.below)
  clear hd2 HH HL
  go_wp2
  go_returns
  exact ⟨rfl, H2.out⟩
set_option maxHeartbeats 1000000 in
theorem pout_no (H : Pag w0 pp S c R w) (k : Int) (b0 : -9223372036854775808 ≤ k) (b1 : k ≤ 9223372036854775807) (hp : 0 < S.h.pages) (hk : outB S.h.pages (S.at 0) k = false) :
    Calls Tryz.prog 175 #[.pointer (some ⟨pp, 0, none⟩), .int .i64 k] w fun e w' => e = .returned (.tuple #[.string ⟨#[]⟩, .int .i64 6]) ∧ Pag w0 pp S c R w' := by
  have HR := Lib.hid (pread_any H 0 (by omega) (by omega))
  have hsz := H.size (k := 0) (by omega) (by omega)
  have HH := Lib.hid fun (w : World) => has_any (S.at 0) k w (by omega) b0 b1
  clear H hsz
  by_cases k1 : k < 2
  · have d1 : decide (k < 2) = true := by simpa using k1
    clear hk HH
    go_enter Tryz.func175, Tryz.ntmps175
    go_wp2_with fail
    refine HR.out.mono ?_
    rintro e w1 ⟨rfl, H1⟩
    have H1' := Lib.hid H1
    clear H1 HR
    go_wp2
    go_returns
    exact ⟨rfl, H1'.out⟩
  · have d1 : decide (k < 2) = false := by simpa using k1
    by_cases k2 : (S.h.pages : Int) ≤ k
    · have d2 : decide ((S.h.pages : Int) ≤ k) = true := by simpa using k2
      clear hk HH
      go_enter Tryz.func175, Tryz.ntmps175
      go_wp2_with fail
      refine HR.out.mono ?_
      rintro e w1 ⟨rfl, H1⟩
      obtain ⟨c0, c1⟩ := pager_cells H1.at
      have HL := Lib.hid (slenP H1)
      have H1' := Lib.hid H1
      clear H1 HR
      go_wp2_with fail
      refine HL.out.mono ?_
      rintro e _ ⟨rfl, rfl⟩
      go_wp2
      go_returns
      exact ⟨rfl, H1'.out⟩
    · have d2 : decide ((S.h.pages : Int) ≤ k) = false := by simpa using k2
      have k3 : hasB (S.at 0) k = false := by
        unfold outB at hk
        rw [decide_eq_true (by omega), decide_eq_true (by omega)] at hk
        simpa using hk
      rw [k3] at HH
      clear hk k3
      go_enter Tryz.func175, Tryz.ntmps175
      go_wp2_with fail
      refine HR.out.mono ?_
      rintro e w1 ⟨rfl, H1⟩
      obtain ⟨c0, c1⟩ := pager_cells H1.at
      have HL := Lib.hid (slenP H1)
      have H1' := Lib.hid H1
      clear H1 HR
      go_wp2_with fail
      refine HL.out.mono ?_
      rintro e _ ⟨rfl, rfl⟩
      go_wp2_with fail
      refine (HH.out _).mono ?_
      rintro e w2 ⟨rfl, hd2⟩
      have H2 := Lib.hid (H1'.out.on hd2.below)
      clear hd2 HH HL
      go_wp2
      go_returns
      exact ⟨rfl, H2.out⟩
def Sto.given (S : Sto) (v : Int) : Sto := (S.put v (filled ⟨#[]⟩)).put 0 (withS (S.at 0) v true)
set_option maxHeartbeats 2000000 in
theorem palloc_yes (H : Pag w0 pp S c R w) (hp : 0 < S.h.pages) (hc : c < 900000) (v : Int) (hv : Least (S.at 0) 2 S.h.pages v) :
    Calls Tryz.prog 120 #[.pointer (some ⟨pp, 0, none⟩)] w fun e w' => e = .returned (.tuple #[.int .i64 v, .int .i64 0]) ∧ Pag w0 pp (S.given v) (c + 2) R w' := by
  have HR := Lib.hid (pread_any H 0 (by omega) (by omega))
  have hsz := H.size (k := 0) (by omega) (by omega)
  have hpg := H.ok.wf.pages
  obtain ⟨e1, e2⟩ := low_yes hv.1 hv.2
  obtain ⟨⟨v0, v1, v2, v3, v4⟩, _⟩ := hv
  have HLW := Lib.hid fun (w : World) => lowest_any (S.at 0) 2 S.h.pages w (by omega) (by omega) (by omega) (by omega) (by omega)
  rw [e1, e2] at HLW
  clear H e1 e2 v4
  go_enter Tryz.func120, Tryz.ntmps120
  go_wp2_with fail
  refine HR.out.mono ?_
  rintro e w1 ⟨rfl, H1⟩
  obtain ⟨c0, c1⟩ := pager_cells H1.at
  have HL := Lib.hid (slenP H1)
  have H1' := Lib.hid H1
  clear H1 HR
  go_wp2_with fail
  refine HL.out.mono ?_
  rintro e _ ⟨rfl, rfl⟩
  go_wp2_with fail
  refine (HLW.out _).mono ?_
  rintro e w2 ⟨rfl, hb2⟩
  have H2 := Lib.hid (pwrite_any (H1'.out.on hb2) v ⟨#[]⟩ (by omega) (by omega) (by decide) (by omega))
  clear hb2 HLW HL H1' c0 c1
  go_wp2_with fail
  refine H2.out.mono ?_
  rintro e w3 ⟨rfl, H3⟩
  have HM := Lib.hid (pmark_any H3 (S.at 0) hsz v true (by omega) (by omega) hp (by omega))
  clear H3 H2
  go_wp2_with fail
  refine HM.out.mono ?_
  rintro e w4 ⟨rfl, H4⟩
  have H4' := Lib.hid H4
  clear H4 HM
  go_wp2
  go_returns
  exact ⟨rfl, H4'.out⟩
set_option maxHeartbeats 2000000 in
theorem palloc_no (H : Pag w0 pp S c R w) (hp : 0 < S.h.pages) (hv : ∀ l, ¬ LowP (S.at 0) 2 S.h.pages l) :
    Calls Tryz.prog 120 #[.pointer (some ⟨pp, 0, none⟩)] w fun e w' => e = .returned (.tuple #[.int .i64 0, .int .i64 13]) ∧ Pag w0 pp S c R w' := by
  have HR := Lib.hid (pread_any H 0 (by omega) (by omega))
  have hsz := H.size (k := 0) (by omega) (by omega)
  have hpg := H.ok.wf.pages
  obtain ⟨e1, e2⟩ := low_no hv
  have HLW := Lib.hid fun (w : World) => lowest_any (S.at 0) 2 S.h.pages w (by omega) (by omega) (by omega) (by omega) (by omega)
  rw [e1, e2] at HLW
  clear H e1 e2 hv
  go_enter Tryz.func120, Tryz.ntmps120
  go_wp2_with fail
  refine HR.out.mono ?_
  rintro e w1 ⟨rfl, H1⟩
  obtain ⟨c0, c1⟩ := pager_cells H1.at
  have HL := Lib.hid (slenP H1)
  have H1' := Lib.hid H1
  clear H1 HR
  go_wp2_with fail
  refine HL.out.mono ?_
  rintro e _ ⟨rfl, rfl⟩
  go_wp2_with fail
  refine (HLW.out _).mono ?_
  rintro e w2 ⟨rfl, hb2⟩
  have H2 := Lib.hid (H1'.out.on hb2)
  clear hb2 HLW HL H1' c0 c1
  go_wp2
  go_returns
  exact ⟨rfl, H2.out⟩
theorem pfree_no (H : Pag w0 pp S c R w) (k : Int) (b0 : -9223372036854775808 ≤ k) (b1 : k ≤ 9223372036854775807) (hp : 0 < S.h.pages) (hk : outB S.h.pages (S.at 0) k = false) :
    Calls Tryz.prog 170 #[.pointer (some ⟨pp, 0, none⟩), .int .i64 k] w fun e w' => e = .returned (.int .i64 6) ∧ Pag w0 pp S c R w' := by
  have HO := Lib.hid (pout_no H k b0 b1 hp hk)
  clear H hk
  go_enter Tryz.func170, Tryz.ntmps170
  go_wp2_with fail
  refine HO.out.mono ?_
  rintro e w1 ⟨rfl, H1⟩
  have H4' := Lib.hid H1
  clear H1 HO
  go_wp2
  go_returns
  exact ⟨rfl, H4'.out⟩
theorem pget_yes (H : Pag w0 pp S c R w) (k : Int) (b0 : -9223372036854775808 ≤ k) (b1 : k ≤ 9223372036854775807) (hp : 0 < S.h.pages) (hk : outB S.h.pages (S.at 0) k = true) :
    Calls Tryz.prog 209 #[.pointer (some ⟨pp, 0, none⟩), .int .i64 k] w fun e w' => e = .returned (.tuple #[.string (S.at k), .int .i64 0]) ∧ Pag w0 pp S c R w' := by
  have HO := Lib.hid (pout_yes H k b0 b1 hp hk)
  have hk2 : 0 ≤ k ∧ k < S.h.pages := by
    unfold outB at hk
    simp only [Bool.and_eq_true, decide_eq_true_eq] at hk
    omega
  have hsz := H.size (k := k) (by omega) (by omega)
  have HC := Lib.hid fun (w : World) => clone_any (S.at k) w (by omega)
  clear H hk
  go_enter Tryz.func209, Tryz.ntmps209
  go_wp2_with fail
  refine HO.out.mono ?_
  rintro e w1 ⟨rfl, H1⟩
  have HR := Lib.hid (pread_any H1 k hk2.1 hk2.2)
  clear H1 HO
  go_wp2_with fail
  refine HR.out.mono ?_
  rintro e w4 ⟨rfl, H4⟩
  have H4' := Lib.hid H4
  clear H4 HR
  go_wp2_with fail
  refine (HC.out _).mono ?_
  rintro e w5 ⟨rfl, hb5⟩
  have H5' := Lib.hid (H4'.out.on hb5)
  clear hb5 HC H4'
  go_wp2
  go_returns
  exact ⟨rfl, H5'.out⟩
theorem pget_no (H : Pag w0 pp S c R w) (k : Int) (b0 : -9223372036854775808 ≤ k) (b1 : k ≤ 9223372036854775807) (hp : 0 < S.h.pages) (hk : outB S.h.pages (S.at 0) k = false) :
    Calls Tryz.prog 209 #[.pointer (some ⟨pp, 0, none⟩), .int .i64 k] w fun e w' => e = .returned (.tuple #[.string ⟨#[]⟩, .int .i64 6]) ∧ Pag w0 pp S c R w' := by
  have HO := Lib.hid (pout_no H k b0 b1 hp hk)
  clear H hk
  go_enter Tryz.func209, Tryz.ntmps209
  go_wp2_with fail
  refine HO.out.mono ?_
  rintro e w1 ⟨rfl, H1⟩
  have H4' := Lib.hid H1
  clear H1 HO
  go_wp2
  go_returns
  exact ⟨rfl, H4'.out⟩
theorem pset_yes (H : Pag w0 pp S c R w) (k : Int) (s : ByteArray) (b0 : -9223372036854775808 ≤ k) (b1 : k ≤ 9223372036854775807) (hp : 0 < S.h.pages) (hs : s.size ≤ 256) (hc : c < 1000000) (hk : outB S.h.pages (S.at 0) k = true) :
    Calls Tryz.prog 173 #[.pointer (some ⟨pp, 0, none⟩), .int .i64 k, .string s] w fun e w' => e = .returned (.int .i64 0) ∧ Pag w0 pp (S.put k (filled s)) (c + 1) R w' := by
  have HO := Lib.hid (pout_yes H k b0 b1 hp hk)
  have hk2 : 0 ≤ k ∧ k < S.h.pages := by
    unfold outB at hk
    simp only [Bool.and_eq_true, decide_eq_true_eq] at hk
    omega
  clear H hk
  go_enter Tryz.func173, Tryz.ntmps173
  go_wp2_with fail
  refine HO.out.mono ?_
  rintro e w1 ⟨rfl, H1⟩
  have HR := Lib.hid (pwrite_any H1 k s hk2.1 hk2.2 hs hc)
  clear H1 HO
  go_wp2_with fail
  refine HR.out.mono ?_
  rintro e w4 ⟨rfl, H4⟩
  have H4' := Lib.hid H4
  clear H4 HR
  go_wp2
  go_returns
  exact ⟨rfl, H4'.out⟩
theorem pset_no (H : Pag w0 pp S c R w) (k : Int) (s : ByteArray) (b0 : -9223372036854775808 ≤ k) (b1 : k ≤ 9223372036854775807) (hp : 0 < S.h.pages) (hk : outB S.h.pages (S.at 0) k = false) :
    Calls Tryz.prog 173 #[.pointer (some ⟨pp, 0, none⟩), .int .i64 k, .string s] w fun e w' => e = .returned (.int .i64 6) ∧ Pag w0 pp S c R w' := by
  have HO := Lib.hid (pout_no H k b0 b1 hp hk)
  clear H hk
  go_enter Tryz.func173, Tryz.ntmps173
  go_wp2_with fail
  refine HO.out.mono ?_
  rintro e w1 ⟨rfl, H1⟩
  have H4' := Lib.hid H1
  clear H1 HO
  go_wp2
  go_returns
  exact ⟨rfl, H4'.out⟩
end
end Go.Proofs.YtcjfnfdinhbdlaaGreatDoor
