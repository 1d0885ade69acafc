import Derived.Test.YtcjfnfdinhbdlaaGreatDoorGbg
import Derived.Test.YtcjfnfdinhbdlaaGreatDoorGas
import Derived.Test.YtcjfnfdinhbdlaaGreatDoorGat
import Derived.Test.YtcjfnfdinhbdlaaGreatDoorGbb
import Derived.Test.YtcjfnfdinhbdlaaGreatDoorGba
import Derived.Shelf.Sort.Plain
import Derived.Test.YtcjfnfdinhbdlaaGreatDoorRows
import Derived.Sort.OwnSortedInts
import Derived.Handy
import Derived.Laws.IdiomRangeMap
namespace Go.Proofs.YtcjfnfdinhbdlaaGreatDoor
set_option maxRecDepth 100000
open Go.ChangeShapes Go.WideShapes Go.ChangeAt Go.RowKit Go.PlainAid
open Go.Sort (grow)
open Go.ChangeMaps Go.MapKept
section
variable {w0 w w' : World} {pp n c : Nat} {S : Sto} {V : Int → ByteArray} {L : List KA.E} {R : List (Nat × Obj)}
theorem Pgl.sub (H : Pgl w0 pp S c L R w) (R' : List (Nat × Obj)) (hs : ∀ x ∈ R', x ∈ R) : Pgl w0 pp S c L R' w := by
  obtain ⟨CB, h1, h2, h3⟩ := H
  refine ⟨CB, h1, h2.sub _ fun x hx => ?_, fun b o o' hb => h3 b o o' ?_⟩
  · rcases List.mem_append.1 hx with hx | hx
    · exact List.mem_append_left _ hx
    · rcases List.mem_cons.1 hx with rfl | hx
      · exact List.mem_append_right _ List.mem_cons_self
      · exact List.mem_append_right _ (List.mem_cons_of_mem _ (hs x hx))
  · rcases List.mem_cons.1 hb with hb | hb
    · rw [hb]; exact List.mem_cons_self
    · exact List.mem_cons_of_mem _ (hs _ hb)
theorem Pgl.add {g : Nat} {o : Obj} (H : Pgl w0 pp S c L R w) (b : Below w.heap.size w w') (hg : w.heap.size ≤ g) (ho : w'.heap[g]? = some o) : Pgl w0 pp S c L ((g, o) :: R) w' := by
  obtain ⟨CB, h1, h2, h3⟩ := H
  have h4 := h2.add b hg ho
  refine ⟨CB, h1, h4.sub _ fun x hx => ?_, fun b' o1 o2 hb hc => ?_⟩
  · rcases List.mem_append.1 hx with hx | hx
    · exact List.mem_cons_of_mem _ (List.mem_append_left _ hx)
    · rcases List.mem_cons.1 hx with rfl | hx
      · exact List.mem_cons_of_mem _ (List.mem_append_right _ List.mem_cons_self)
      · rcases List.mem_cons.1 hx with rfl | hx
        · exact List.mem_cons_self
        · exact List.mem_cons_of_mem _ (List.mem_append_right _ (List.mem_cons_of_mem _ hx))
  · have hlt := heap_lt (h2.mem (x := (b', o2)) (List.mem_append_left _ hc))
    rcases List.mem_cons.1 hb with hb | hb
    · cases hb
      exact h3 _ _ o2 List.mem_cons_self hc
    · rcases List.mem_cons.1 hb with hb | hb
      · cases hb; omega
      · exact h3 _ _ o2 (List.mem_cons_of_mem _ hb) hc
theorem Pgl.swap {b g : Nat} {o o' : Obj} (H : Pgl w0 pp S c L ((b, o) :: R) w) (hR : ∀ x ∈ R, x.1 ≠ b) (hpp : pp ≠ b) (hs : w.heap.size ≤ w'.heap.size)
    (hoth : ∀ k, k < w.heap.size → k ≠ b → w'.heap[k]? = w.heap[k]?) (hg : g = b ∨ w.heap.size ≤ g) (ho : w'.heap[g]? = some o') (hbel : Below w0.heap.size w0 w') : Pgl w0 pp S c L ((g, o') :: R) w' := by
  obtain ⟨CB, h1, ⟨⟨es, clock, hX, ⟨⟨F, hFp, hD, hB, hO, hK⟩, hlo, hne⟩⟩, q1, q2⟩, h3⟩ := H
  have hbm : ∀ x, x ∈ CB ++ (pp, pagerO S.q S.hc) :: (b, o) :: R → ¬ F.own x.1 ∧ w.heap[x.1]? = some x.2 := fun x hx => hK x (List.mem_cons_of_mem _ (List.mem_cons_of_mem _ hx))
  have hb0 : (b, o) ∈ CB ++ (pp, pagerO S.q S.hc) :: (b, o) :: R := List.mem_append_right _ (List.mem_cons_of_mem _ List.mem_cons_self)
  have hbF := (hbm _ hb0).1
  have hbq : b ≠ S.q := hne _ (List.mem_cons_of_mem _ hb0)
  have hbb : b ≠ S.bm := q2 _ hb0
  have hcb : ∀ x ∈ CB, x.1 ≠ b := fun x hx e => h3 b o x.2 (List.mem_cons_of_mem _ List.mem_cons_self) (by rw [← e]; exact hx)
  have hqm := hK (S.q, storeO S.p S.bm S.h false) List.mem_cons_self
  have hbmm := hK (S.bm, .map es clock) (List.mem_cons_of_mem _ List.mem_cons_self)
  have hgF : ¬ F.own g := by
    rcases hg with rfl | hg
    · exact hbF
    · intro h; have := DiskAt.own_lt hD h; omega
  have hgq : g ≠ S.q := by
    rcases hg with rfl | hg
    · exact hbq
    · have : S.q < w.heap.size := heap_lt hqm.2
      omega
  have hgb : g ≠ S.bm := by
    rcases hg with rfl | hg
    · exact hbb
    · have : S.bm < w.heap.size := heap_lt hbmm.2
      omega
  have hcg : ∀ x ∈ CB, x.1 ≠ g := fun x hx => by
    rcases hg with rfl | hg
    · exact hcb x hx
    · have := heap_lt (hbm x (List.mem_append_left _ hx)).2
      omega
  have keep : ∀ k ob, w.heap[k]? = some ob → k ≠ b → w'.heap[k]? = some ob := fun k ob hk hkb => (hoth k (heap_lt hk) hkb).trans hk
  have hin : ∀ x, x ∈ CB ++ (pp, pagerO S.q S.hc) :: (g, o') :: R → x = (g, o') ∨ (x ∈ CB ++ (pp, pagerO S.q S.hc) :: (b, o) :: R ∧ x.1 ≠ b) := fun x hx => by
    rcases List.mem_append.1 hx with hx | hx
    · exact .inr ⟨List.mem_append_left _ hx, hcb x hx⟩
    · rcases List.mem_cons.1 hx with rfl | hx
      · exact .inr ⟨List.mem_append_right _ List.mem_cons_self, hpp⟩
      · rcases List.mem_cons.1 hx with rfl | hx
        · exact .inl rfl
        · exact .inr ⟨List.mem_append_right _ (List.mem_cons_of_mem _ (List.mem_cons_of_mem _ hx)), hR x hx⟩
  refine ⟨CB, h1, ⟨⟨es, clock, hX, ⟨⟨F, hFp, DiskAt.keep hD hs (fun k hk => hoth k (DiskAt.own_lt hD hk) (fun e => hbF (by rw [← e]; exact hk))), hbel, hO, fun x hx => ?_⟩, hlo, fun x hx => ?_⟩⟩, q1, fun x hx => ?_⟩, fun b' o1 o2 hb hc => ?_⟩
  · rcases List.mem_cons.1 hx with rfl | hx
    · exact ⟨hqm.1, keep _ _ hqm.2 (fun e => hbq e.symm)⟩
    · rcases List.mem_cons.1 hx with rfl | hx
      · exact ⟨hbmm.1, keep _ _ hbmm.2 (fun e => hbb e.symm)⟩
      · rcases hin x hx with rfl | ⟨hx, hxb⟩
        · exact ⟨hgF, ho⟩
        · exact ⟨(hbm x hx).1, keep _ _ (hbm x hx).2 hxb⟩
  · rcases List.mem_cons.1 hx with rfl | hx
    · exact hne _ List.mem_cons_self
    · rcases hin x hx with rfl | ⟨hx, hxb⟩
      · exact hgq
      · exact hne x (List.mem_cons_of_mem _ hx)
  · rcases hin x hx with rfl | ⟨hx, hxb⟩
    · exact hgb
    · exact q2 x hx
  · rcases List.mem_cons.1 hb with hb | hb
    · exact h3 b' o1 o2 (by rw [hb]; exact List.mem_cons_self) hc
    · rcases List.mem_cons.1 hb with hb | hb
      · cases hb
        exact hcg _ hc rfl
      · exact h3 b' o1 o2 (List.mem_cons_of_mem _ (List.mem_cons_of_mem _ hb)) hc
theorem PV.sub (H : PV w0 pp n c V R w) (R' : List (Nat × Obj)) (hs : ∀ x ∈ R', x ∈ R) : PV w0 pp n c V R' w := by
  obtain ⟨S, ⟨h1, L, h2, h3⟩, h4, h5⟩ := H
  exact ⟨S, ⟨h1, L, h2, h3.sub R' hs⟩, h4, h5⟩
theorem PV.add {g : Nat} {o : Obj} (H : PV w0 pp n c V R w) (b : Below w.heap.size w w') (hg : w.heap.size ≤ g) (ho : w'.heap[g]? = some o) : PV w0 pp n c V ((g, o) :: R) w' := by
  obtain ⟨S, ⟨h1, L, h2, h3⟩, h4, h5⟩ := H
  exact ⟨S, ⟨h1, L, h2, h3.add b hg ho⟩, h4, h5⟩
theorem PV.ne (H : PV w0 pp n c V R w) {x : Nat × Obj} (hx : x ∈ R) {cs : Array Value} {t : TypeId} (ht : x.2 = .cells cs t (0, 0)) (hne : t ≠ 101) : pp ≠ x.1 := by
  intro e
  have h1 := H.mem hx
  obtain ⟨S, h, _, _⟩ := H
  have h2 := h.at
  rw [e] at h2
  rw [h2, ht] at h1
  unfold pagerO at h1
  injection h1 with h1
  injection h1 with _ h1
  exact hne h1.symm
theorem PV.swap {b g : Nat} {o o' : Obj} (H : PV w0 pp n c V ((b, o) :: R) w) (hR : ∀ x ∈ R, x.1 ≠ b) (hpp : pp ≠ b) (hs : w.heap.size ≤ w'.heap.size)
    (hoth : ∀ k, k < w.heap.size → k ≠ b → w'.heap[k]? = w.heap[k]?) (hg : g = b ∨ w.heap.size ≤ g) (ho : w'.heap[g]? = some o') (hbel : Below w0.heap.size w0 w') : PV w0 pp n c V ((g, o') :: R) w' := by
  obtain ⟨S, ⟨h1, L, h2, h3⟩, h4, h5⟩ := H
  exact ⟨S, ⟨h1, L, h2, h3.swap hR hpp hs hoth hg ho hbel⟩, h4, h5⟩
end
end Go.Proofs.YtcjfnfdinhbdlaaGreatDoor
namespace Go.Proofs.YtcjfnfdinhbdlaaGreatDoor
set_option maxRecDepth 100000
open Go.ChangeShapes Go.WideShapes Go.ChangeAt Go.RowKit Go.PlainAid Go.Shelf
attribute [local go_sem] Oper.semAt_some
namespace KA
def OwnC (p : Nat) (w : World) (b : Nat) : Prop := b = p ∨ ∃ m v, w.heap[p]? = some (.cells #[m, v] 212 (0, 0)) ∧ v.ownBlock = some b
def KpF (p : Nat) (A B : World) : Prop := ∀ b cs t fr, A.heap[b]? = some (.cells cs t fr) → ¬ OwnC p A b → B.heap[b]? = some (.cells cs t fr) ∧ ¬ OwnC p B b
theorem KpF.trans {p : Nat} {A B C : World} (h : KpF p A B) (h' : KpF p B C) : KpF p A C := fun b cs t fr hb ho => by
  obtain ⟨h1, h2⟩ := h b cs t fr hb ho
  exact h' b cs t fr h1 h2
theorem KpF.refl (p : Nat) (A : World) : KpF p A A := fun _ _ _ _ hb ho => ⟨hb, ho⟩
theorem ownC_of {p : Nat} {A B : World} {b : Nat} (h : B.heap[p]? = A.heap[p]?) (ho : ¬ OwnC p A b) : ¬ OwnC p B b := by
  unfold OwnC at ho ⊢
  rw [h]
  exact ho
theorem KpF.putObj {p : Nat} {W : World} {l : Nat} {o o' : Obj} (hp : l ≠ p) (hl : W.heap[l]? = some o) (hc : o.isCells = false) : KpF p W (W.putObj l o') := fun b cs t fr hb ho =>
  ⟨(World.putObj_heap_other (fun e => by subst e; rw [hl] at hb; cases hb; cases hc)).trans hb, ownC_of (World.putObj_heap_other (fun e => hp e.symm)) ho⟩
theorem CaT.all {w0 : World} {p : Nat} {most : Int} {L : List E} {X : List (Nat × Obj)} {w : World} (h : CaT w0 p most L X w) : ∃ Y, CaT w0 p most L Y w ∧ (∀ x ∈ X, x ∈ Y) ∧ ∀ b o, w.heap[b]? = some o → ¬ OwnC p w b → (b, o) ∈ Y := by
  classical
  obtain ⟨h1, h2, ⟨v, h3, h4, h5, h6⟩, h7⟩ := h
  have hn : ∀ b o, (b, o) ∈ held w ((List.range w.heap.size).filter fun b => decide (¬ OwnC p w b)) → w.heap[b]? = some o ∧ ¬ OwnC p w b := fun b o hb => by
    obtain ⟨a, c⟩ := mem_held.1 hb
    exact ⟨c, by simpa using (List.mem_filter.1 a).2⟩
  refine ⟨X ++ held w ((List.range w.heap.size).filter fun b => decide (¬ OwnC p w b)), ⟨h1, h2, ⟨v, h3, h4, h5, fun b o hb => ?_⟩, fun b o hb => ?_⟩, fun x hx => List.mem_append_left _ hx, fun b o hb ho => ?_⟩
  · rcases List.mem_append.1 hb with hb | hb
    · exact h6 b o hb
    · intro e
      exact (hn b o hb).2 (.inr ⟨_, v, h3, e⟩)
  · rcases List.mem_append.1 hb with hb | hb
    · exact h7 b o hb
    · exact ⟨(hn b o hb).1, fun e => (hn b o hb).2 (.inl e)⟩
  · refine List.mem_append_right _ (mem_held.2 ⟨List.mem_filter.2 ⟨List.mem_range.2 (heap_lt hb), by simpa using ho⟩, hb⟩)
theorem CaT.kept {w0 : World} {p : Nat} {most : Int} {L : List E} {Y : List (Nat × Obj)} {w : World} (h : CaT w0 p most L Y w) {b : Nat} {o : Obj} (hb : (b, o) ∈ Y) : w.heap[b]? = some o ∧ ¬ OwnC p w b := by
  obtain ⟨h1, h2, ⟨v, h3, h4, h5, h6⟩, h7⟩ := h
  refine ⟨(h7 b o hb).1, ?_⟩
  rintro (e | ⟨m, u, hu, e⟩)
  · exact (h7 b o hb).2 e
  · rw [h3] at hu
    injection hu with hu
    injection hu with hu
    have : v = u := by have h9 := congrArg (fun a : Array Value => a.toList) hu; simp at h9; exact h9.2
    subst this
    exact h6 b o hb e
set_option maxHeartbeats 1000000 in
theorem drop_sized {w0 : World} {p : Nat} {most : Int} {L : List E} {R : List (Nat × Obj)} {w : World} (h : CaT w0 p most L R w) (k : Int) (hl : L.length ≤ 4096) :
    Calls Tryz.prog 147 #[.pointer (some ⟨p, 0, none⟩), .int .i64 k] w (fun e w' => DropPost w0 p most L R k e w' ∧ w.heap.size ≤ w'.heap.size) := by
  have H := Lib.hid h
  have hF := Lib.hid (find_any h k hl)
  clear h
  go_enter Tryz.func147, Tryz.ntmps147
  go_wp2_with fail
  refine hF.out.mono ?_
  rintro e w1 (⟨i, x, hx, hk, hpos, rfl, hb⟩ | ⟨hno, rfl, hb⟩)
  · have hil := (List.getElem?_eq_some_iff.1 hx).1
    have h1 := H.out.on hb
    have HZ := Lib.hid hb.size
    obtain ⟨v, hp, hr, _⟩ := h1.row
    obtain ⟨g, cap, cur, rfl, _⟩ := hr.block (by omega)
    have hu := (box_cells hp).2.1
    have hw : IntKind.i64.wrap ((i : Int) + 1) = (i : Int) + 1 := IntWalk.i64_in _ (by omega)
    have HD := Lib.hid fun w (hr : RowE cE 228 w0.heap.size w (.slice (some ⟨g, 0, none⟩) L.length cap) L) => delete_any w0.heap.size g L.length cap i L w hr hil hl
    have HR1 : Hid (decide (posK k L < L.length) = true ∧ dropL k L = L.eraseIdx i) := by
      refine Lib.hid ?_
      unfold dropL
      rw [hpos, if_pos hil]
      exact ⟨decide_eq_true hil, rfl⟩
    have H1 := Lib.hid h1
    have HP := Lib.hid hp
    have HROW := Lib.hid hr
    clear hF hx hk hpos H hb h1 hr hp
    go_wp2_with fail
    refine (HD.out _ HROW.out).mono ?_
    rintro e w2 ⟨rfl, hr2, hb2, ho2⟩
    obtain ⟨c2, f2, h2⟩ := H1.out.deleted HP.out hr2 hb2 ho2
    have H2 := Lib.hid h2
    have HZ2 := Lib.hid (Nat.le_trans HZ.out hb2.size)
    clear h2 hr2 hb2 ho2 HD
    go_wp2
    go_returns
    unfold DropPost
    rw [HR1.out.1, HR1.out.2]
    exact ⟨⟨rfl, H2.out⟩, by simpa using HZ2.out⟩
  · have H1 := Lib.hid (H.out.on hb)
    have HZ := Lib.hid hb.size
    have HR1 : Hid (decide (posK k L < L.length) = false ∧ dropL k L = L) := by
      refine Lib.hid ?_
      unfold dropL
      rw [if_neg hno]
      exact ⟨decide_eq_false hno, rfl⟩
    clear hF hno H hb
    go_wp2
    go_returns
    unfold DropPost
    rw [HR1.out.1, HR1.out.2]
    exact ⟨⟨rfl, H1.out⟩, HZ.out⟩
theorem drop_kp {w0 : World} {p : Nat} {most : Int} {L : List E} {X : List (Nat × Obj)} {w : World} (h : CaT w0 p most L X w) (k : Int) (hl : L.length ≤ 4096) :
    Calls Tryz.prog 147 #[.pointer (some ⟨p, 0, none⟩), .int .i64 k] w fun e w' => e = .returned (.bool (decide (posK k L < L.length))) ∧ CaT w0 p most (dropL k L) X w' ∧ KpF p w w' ∧ (∀ b o, w.heap[b]? = some o → ¬ OwnC p w b → w'.heap[b]? = some o) ∧ w.heap.size ≤ w'.heap.size := by
  obtain ⟨Y, hY, hXY, hall⟩ := h.all
  refine (drop_sized hY k hl).mono ?_
  rintro e w' ⟨⟨he, h'⟩, hz⟩
  exact ⟨he, h'.sub fun b o hb => hXY _ hb, fun b cs t fr hb ho => h'.kept (hall b _ hb ho), fun b o hb ho => (h'.kept (hall b _ hb ho)).1, hz⟩
theorem CaT.typ {w0 : World} {p : Nat} {most : Int} {L : List E} {X : List (Nat × Obj)} {w : World} (h : CaT w0 p most L X w) {b : Nat} {o : Obj} (hb : w.heap[b]? = some o) (ho : OwnC p w b) : (∃ cs, o = .cells cs 212 (0, 0)) ∨ ∃ cs, o = .cells cs 228 (0, 0) := by
  obtain ⟨h1, h2, ⟨v, h3, h4, h5, h6⟩, h7⟩ := h
  rcases ho with rfl | ⟨m, u, hu, e⟩
  · rw [h3] at hb
    exact .inl ⟨_, (Option.some.inj hb).symm⟩
  · rw [h3] at hu
    injection hu with hu
    injection hu with hu
    have : v = u := by have h9 := congrArg (fun a : Array Value => a.toList) hu; simp at h9; exact h9.2
    subst this
    rcases h4.2 with ⟨hv, _⟩ | ⟨g, cap, cur, hv, _, hg, _⟩
    · rw [hv] at e; cases e
    · rw [hv] at e
      have : g = b := by simpa [Value.ownBlock] using e
      subst this
      rw [hg] at hb
      exact .inr ⟨_, (Option.some.inj hb).symm⟩
theorem CaT.grown {w0 : World} {p : Nat} {most : Int} {L : List E} {Y : List (Nat × Obj)} {X X' : World} {row : Option Nat} (h : CaT w0 p most L Y X) (hg : X.grownBy X' row) (hr : ∀ r, row = some r → w0.heap.size ≤ r ∧ (∃ o : Obj, X.heap[r]? = some o ∧ o.isCells = false) ∧ ∀ y ∈ Y, y.1 ≠ r) : CaT w0 p most L Y X' := by
  obtain ⟨h1, h2, ⟨v, h3, h4, h5, h6⟩, h7⟩ := h
  have hk : ∀ b (o : Obj), X.heap[b]? = some o → o.isCells = true → X'.heap[b]? = some o := fun b o hb hc => (hg.block b (heap_lt hb) (fun e => by
    obtain ⟨_, ⟨o2, ho2, hc2⟩, _⟩ := hr b e.symm
    rw [hb] at ho2
    cases ho2
    rw [hc] at hc2
    cases hc2)).trans hb
  refine ⟨h1.grown hg h1.size (fun k e => (hr k e).1), h2, ⟨v, hk _ _ h3 rfl, ⟨h4.1, ?_⟩, h5, h6⟩, fun b o hb => ⟨(hg.block b (heap_lt (h7 b o hb).1) (fun e => ?_)).trans (h7 b o hb).1, (h7 b o hb).2⟩⟩
  · rcases h4.2 with hv | ⟨g, cap, cur, hv, hlo, hg2, rest⟩
    · exact .inl hv
    · exact .inr ⟨g, cap, cur, hv, hlo, hk _ _ hg2 rfl, rest⟩
  · exact (hr b e.symm).2.2 (b, o) hb rfl
def prs (L : List E) : List (Int × ByteArray) := L.map fun e => (e.key, e.val)
theorem prs_len (L : List E) : (prs L).length = L.length := List.length_map _
theorem prs_take {L : List E} {i : Nat} {e : E} (h : L[i]? = some e) : (prs L).take (i + 1) = (prs L).take i ++ [(e.key, e.val)] := by
  rw [List.take_add_one]
  unfold prs
  rw [List.getElem?_map, h]
  rfl
theorem eq_cacheP (p : Nat) : ∀ w, (binOp .eql 99 (.pointer (some ⟨p, 0, none⟩)) (.pointer none)).run Tryz.prog w = .ok (.bool false) w := fun w => by kernel_rfl
theorem eq_yieldP (l : Nat) (w : World) : (binOp .eql 295 (.func (.yield l) #[] #[]) .nilFunc).run Tryz.prog w = .ok (.bool false) w := by kernel_rfl
def encP (x : Int × ByteArray) : Array Value := #[.int .i64 x.1, .string x.2]
def CopyAt (p : Nat) (q : Prop) (gc : Nat) (cc : Array Value) (W : World) : Prop := q → W.heap[gc]? = some (.cells cc 228 (0, 0)) ∧ ¬ OwnC p W gc
theorem CopyAt.kp {p : Nat} {q : Prop} {gc : Nat} {cc : Array Value} {A B : World} (h : CopyAt p q gc cc A) (k : KpF p A B) : CopyAt p q gc cc B := fun hq => k _ _ _ _ (h hq).1 (h hq).2
theorem CopyAt.alloc {p : Nat} {q : Prop} {gc : Nat} {cc : Array Value} {A : World} (h : CopyAt p q gc cc A) (cs : Array Value) : CopyAt p q gc cc (A.alloc (.cells cs 228)) := fun hq => by
  refine ⟨(Below.heap_alloc _ _ _ (heap_in (h hq).1)).trans (h hq).1, ?_⟩
  rintro (e | ⟨m, v, hv, e⟩)
  · exact (h hq).2 (.inl e)
  · rcases Nat.lt_trichotomy p A.heap.size with c | c | c
    · exact (h hq).2 (.inr ⟨m, v, (Below.heap_alloc _ _ _ c).symm.trans hv, e⟩)
    · subst c
      rw [heap_alloc_new] at hv
      injection hv with hv
      injection hv with _ hv
      exact absurd hv (by decide)
    · have := heap_lt hv
      simp at this
      omega
set_option maxHeartbeats 2000000 in
theorem all_in (l bc : Nat) {w0 : World} {p : Nat} {most : Int} {L : List E} {X : List (Nat × Obj)} {W : World} (h : CaT w0 p most L X W) (hc : Boxed W bc 99 (.pointer (some ⟨p, 0, none⟩))) (hl : L.length ≤ 4096) (J Jx : List (Int × ByteArray) → World → Prop) (hA : AbidesFrom W.heap.size J)
    (hY : ∀ pre x W1, J pre W1 → pre.length < L.length → YieldAt Fence.wide 7 Tryz.prog l (encP x) W1 fun e W' =>
      (e = .returned (.bool true) ∧ J (pre ++ [x]) W' ∧ KpF p W1 W') ∨ (e = .returned (.bool false) ∧ Jx (pre ++ [x]) W')) (h0 : J [] W) :
    CallsIn Fence.wide 8 Tryz.prog 225 #[.func (.yield l) #[] #[], .pointer (some ⟨bc, 0, none⟩)] W fun e W' => (∃ v, e = .returned v) ∧
      ((∃ ys, ys = prs L ∧ J ys W') ∨ (∃ pre : List (Int × ByteArray), True ∧ Jx pre W')) := by
  obtain ⟨u, hp, hr, _⟩ := h.row
  have hu := (box_cells hp).2.1
  have hb := hc.cell
  have HC := Lib.hid (clone_any hr hl)
  have HY := Lib.hid hY
  have HA := Lib.hid hA
  have HJ := Lib.hid h0
  have HO : Hid (∀ b, OwnC p W b → b < W.heap.size) := Lib.hid fun b ho => by
    rcases ho with rfl | ⟨m, v, hv, e⟩
    · exact heap_lt hp
    · rw [hp] at hv
      injection hv with hv
      injection hv with hv
      have : u = v := by have h9 := congrArg (fun a : Array Value => a.toList) hv; simp at h9; exact h9.2
      subst this
      rcases hr.2 with ⟨hv, _⟩ | ⟨g, cap, cur, hv, _, hg, _⟩
      · rw [hv] at e; cases e
      · rw [hv] at e
        have : g = b := by simpa [Value.ownBlock] using e
        subst this
        exact heap_lt hg
  have HPS := Lib.hid (heap_lt hp)
  have hy := eq_yieldP l
  have heq := eq_cacheP p
  clear h hY hA h0 hc hp hr
  refine callsIn_of_wp Tryz.func225 rfl trivial ?_ rfl
  simp only [Tryz.ntmps225, List.size_toArray, List.length_cons, List.length_nil, Nat.reduceAdd, Nat.reduceSub, Array.replicate_succ, Array.replicate_zero, List.push_toArray, List.append_toArray, List.nil_append, List.cons_append]
  gi_wp2_with fail
  refine ⟨trivial, (callsIn_wide.2 HC.out).mono ?_⟩
  rintro e w1 ⟨v', rfl, hrow, hb1⟩
  obtain ⟨ao, n, cap, gc, cc, rfl, hnl, hext⟩ : ∃ ao n cap gc cc, v' = .slice ao n cap ∧ n = L.length ∧ (0 < L.length → ao = some ⟨gc, 0, none⟩ ∧ W.heap.size ≤ gc ∧ w1.heap[gc]? = some (.cells cc 228 (0, 0)) ∧ cc.toList.take (L.length * 3) = flat cE L) := by
    rcases hrow.2 with ⟨hv, h0⟩ | ⟨g, cap, cur, hv, hlo, hg, _, _, _, ht⟩
    · exact ⟨none, 0, 0, 0, #[], hv, h0.symm, fun h => by omega⟩
    · exact ⟨_, _, cap, g, cur, hv, rfl, fun _ => ⟨rfl, hlo, hg, ht⟩⟩
  subst hnl
  have HX : Hid (0 < L.length → ao = some ⟨gc, 0, none⟩ ∧ cc.toList.take (L.length * 3) = flat cE L) := Lib.hid fun h => ⟨(hext h).1, (hext h).2.2.2⟩
  have H1 : Hid (J ((prs L).take 0) w1) := Lib.hid (HA.out [] W w1 none HJ.out ⟨hb1.os, hb1.tape, hb1.output, hb1.size, fun k hk _ => hb1.block k hk⟩ (fun r e => by cases e))
  have HCP : Hid (CopyAt p (0 < L.length) gc cc w1) := Lib.hid fun hq => ⟨(hext hq).2.2.1, ownC_of (hb1.block p HPS.out) (fun ho => by have := HO.out gc ho; have := (hext hq).2.1; omega)⟩
  clear hrow hb1 hext HC hb hu HJ HO HPS
  gi_wp2
  gi_loopw [17] (fun i wr => ∃ k : Nat, k ≤ L.length ∧ i = .int .i64 k ∧ J ((prs L).take k) wr ∧ CopyAt p (0 < L.length) gc cc wr) (fun i _ => L.length - (intOf i).toNat)
  case atStart => exact ⟨0, Nat.zero_le _, rfl, H1.out, HCP.out⟩
  case round =>
    obtain ⟨k, hk, rfl, hJ, hC⟩ := hrel
    have HJ := Lib.hid hJ
    have HCP := Lib.hid hC
    clear hJ hC H1
    by_cases hlt : k < L.length
    · obtain ⟨x, hx⟩ : ∃ x, L[k]? = some x := ⟨_, List.getElem?_eq_getElem hlt⟩
      obtain ⟨rfl, ht⟩ := HX.out (by omega)
      have hg := (HCP.out (by omega)).1
      have key : ∀ j, j < 3 → wr.cell? ⟨gc, k * 3 + j, none⟩ = (cE x)[j]? := fun j hj => by
        rw [cell_of_row _ _ _ _ _ _ hg, ← flat_at three hx j hj, ← ht, List.getElem?_take_of_lt (by omega), Array.getElem?_toList]
      have e0 : wr.cell? ⟨gc, k * 3, none⟩ = some (.int .i64 x.key) := key 0 (by omega)
      have e1 : wr.cell? ⟨gc, k * 3 + 1, none⟩ = some (.string x.val) := key 1 (by omega)
      have e2 : wr.cell? ⟨gc, k * 3 + 2, none⟩ = some (.int .i64 (x.pins : Int)) := key 2 (by omega)
      have HT := Lib.hid (prs_take hx)
      have hlen : ((prs L).take k).length < L.length := by rw [List.length_take, prs_len]; omega
      have HJ2 := HA.out _ _ _ none HJ.out (World.grownBy_alloc wr (.cells #[.int .i64 x.key, .string x.val, .int .i64 (x.pins : Int)] 228) none) (fun r e => by cases e)
      have HC2 := Lib.hid (HCP.out.alloc #[.int .i64 x.key, .string x.val, .int .i64 (x.pins : Int)])
      obtain ⟨fn, tmps, assign, body, hyy, hR⟩ := HY.out ((prs L).take k) (x.key, x.val) _ HJ2 hlen
      unfold encP at hyy
      have HR := Lib.hid hR
      clear key hg ht hx hR HJ2 hlen HJ HCP
      gi_wp2
      refine HR.out.mono ?_
      rintro e W3 (⟨rfl, hJ3, hk3⟩ | ⟨rfl, hJx3⟩)
      · have HJ3 := Lib.hid hJ3
        have HC3 := Lib.hid (HC2.out.kp hk3)
        clear hk3 hJ3
        gi_wp2
        go_roundw
        case rel => exact ⟨k + 1, by omega, by go_num, by rw [HT.out]; exact HJ3.out, HC3.out⟩
        case measure => simp [intOf]; omega
      · have HJ3 := Lib.hid hJx3
        clear hJx3
        gi_wp2
        refine bodyPost_ret (results_none rfl _ _ _) rfl ?_
        exact ⟨⟨_, rfl⟩, .inr ⟨_, trivial, HJ3.out⟩⟩
    · obtain rfl : k = L.length := by omega
      gi_wp2
      go_end0
      exact ⟨⟨_, rfl⟩, .inl ⟨_, rfl, by rw [show prs L = (prs L).take L.length from (List.take_of_length_le (by rw [prs_len]; exact Nat.le_refl _)).symm]; exact HJ.out⟩⟩
theorem all_stops (bc : Nat) {w0 : World} {p : Nat} {most : Int} {L : List E} {X : List (Nat × Obj)} {w : World} (h : CaT w0 p most L X w) (hc : Boxed w bc 99 (.pointer (some ⟨p, 0, none⟩))) (hl : L.length ≤ 4096) :
    SeqStopsK Fence.wide 8 Tryz.prog 225 #[.pointer (some ⟨bc, 0, none⟩)] encP (KpF p) (fun ys => ys = prs L) (fun _ => True) L.length w := fun l J Jx _ hW hA _ hY h0 =>
  all_in l bc (h.on hW) ((hW.block bc hc.lt).trans hc) hl J Jx hA hY h0
end KA
end Go.Proofs.YtcjfnfdinhbdlaaGreatDoor
namespace Go.Proofs.YtcjfnfdinhbdlaaGreatDoor
set_option maxRecDepth 100000
open Go.ChangeShapes Go.WideShapes Go.ChangeAt Go.RowKit Go.PlainAid Go.Shelf
attribute [local go_sem] Oper.semAt_some
section
variable {w0 w w' : World} {pp c : Nat} {S : Sto} {R : List (Nat × Obj)}
def Forgets (w0 : World) (S : Sto) (Y : List (Nat × Obj)) (W : World) : Prop := ∃ M, Kept S M ∧ KA.CaT w0 S.hc 32 M Y W
set_option maxHeartbeats 2000000 in
theorem pforget_any (H : Pag w0 pp S c R w) :
    Calls Tryz.prog 150 #[.pointer (some ⟨pp, 0, none⟩)] w fun e w' => e = .returned (.tuple #[]) ∧ Pag w0 pp S c R w' := by
  obtain ⟨W1, hW1⟩ : ∃ x, w.alloc (.cells #[.pointer (some ⟨pp, 0, none⟩)] 24) = x := ⟨_, rfl⟩
  obtain ⟨W2, hW2⟩ : ∃ x, W1.alloc (.cells #[.pointer (some ⟨S.hc, 0, none⟩)] 99) = x := ⟨_, rfl⟩
  have hb1 : Below w.heap.size w W1 := by rw [← hW1]; go_grown
  have hb2 : Below W1.heap.size W1 W2 := by rw [← hW2]; go_grown
  have q1 : Boxed W1 w.heap.size 24 (.pointer (some ⟨pp, 0, none⟩)) := by rw [← hW1]; exact Boxed.new w _ _
  have q2 : Boxed W2 W1.heap.size 99 (.pointer (some ⟨S.hc, 0, none⟩)) := by rw [← hW2]; exact Boxed.new W1 _ _
  obtain ⟨hO, L, hK, hP⟩ := (H.on hb1).on hb2
  obtain ⟨X, hC, hback⟩ := hP.cache
  obtain ⟨Y, hY, hXY, hall⟩ := hC.all
  have hp1 := hP.at
  have q1' := (hb2.block _ q1.lt).trans q1
  have hYp : (pp, pagerO S.q S.hc) ∈ Y := hall _ _ hp1 fun ho => by
    rcases hC.typ hp1 ho with ⟨cs, e⟩ | ⟨cs, e⟩ <;> (unfold pagerO at e; injection e with _ e; exact absurd e (by decide))
  have hYb : (w.heap.size, .cells #[.pointer (some ⟨pp, 0, none⟩)] 24 (0, 0)) ∈ Y := hall _ _ q1' fun ho => by
    rcases hC.typ q1' ho with ⟨cs, e⟩ | ⟨cs, e⟩ <;> (injection e with _ e; exact absurd e (by decide))
  have hYlt : ∀ y ∈ Y, y.1 < W2.heap.size := fun y hy => heap_lt (hY.known y.1 y.2 hy).1
  obtain ⟨c0, c1⟩ := pager_cells ((H.on hb1).at)
  have hbx := q1.cell
  have hI0 : Forgets w0 S Y W2 := ⟨L, hK, hY⟩
  have hL := hK.len
  have hhc : S.hc < W2.heap.size := by
    obtain ⟨v, hv, _⟩ := hC.row
    exact heap_lt hv
  have h0w : w0.heap.size ≤ W2.heap.size := hP.below.size
  have hst := KA.all_stops W1.heap.size hY q2 (by omega)
  have HB := Lib.hid (And.intro hO (And.intro hback (And.intro hXY (And.intro hYp (And.intro hYb hYlt)))))
  have HI := Lib.hid hI0
  have HST := Lib.hid hst
  have HW2 := Lib.hid hW2
  clear H hO hK hP hC hY hback hXY hall hp1 q1 q1' q2 hYp hYb hYlt hI0 hst hb1 hb2 hW2
  refine (callsIn_wide (n := 10)).1 ?_
  refine callsIn_of_wp_marks Tryz.func150 rfl trivial ?_ rfl
  simp only [Tryz.ntmps150, List.size_toArray, List.length_cons, List.length_nil, Nat.reduceAdd, Nat.reduceSub, Array.replicate_succ, Array.replicate_zero, List.push_toArray, List.append_toArray, List.nil_append, List.cons_append]
  refine wpIn_wide.2 ?_
  go_wp2_with fail
  refine (KA.mk_all _ _).mono ?_
  rintro e _ ⟨rfl, rfl⟩
  rw [HW2.out]
  go_wp2_with fail
  refine (wpIn_wide (n := 9)).1 ?_
  refine wpIn_rangeFunc_ownH (w0 := W2) rfl (by decide) (gf := 225) (lb := #[.pointer (some ⟨W1.heap.size, 0, none⟩)]) rfl trivial (enters_of Tryz.func225 (by kernel_rfl) rfl)
    HST.out (fun h k => KA.KpF.trans h k)
    (fun W l o o' hl' h1 h2 _ => KA.KpF.putObj (by omega) h1 h2) (Below.refl _ _) (fun _ => rfl)
    (fun pre W => Forgets w0 S Y W) (fun c pre W => False)
    ?own ?ownx HI.out
    (fun x a' W => a' = {
      tmps := #[Value.pointer (some { block := pp, off := 0 }), Value.pointer (some { block := w.heap.size, off := 0 }), .int .i64 x.1, Value.pointer (some { block := pp, off := 0 }), Value.pointer (some { block := pp, off := 0 }), Value.pointer (some { block := pp, off := 1 }), Value.pointer (some { block := S.hc, off := 0 }),
          Value.func (Fn.func 225) #[] #[Value.pointer (some { block := W1.heap.size, off := 0 })], .int .i64 x.1, .string x.2, undef, undef, undef, undef, undef, undef], defers := [] }) ?ownA ?assign ?body ?done ?stop
  case own =>
    rintro pre A B row ⟨M, h1, h2⟩ hgr hr
    exact ⟨M, h1, h2.grown hgr fun r e => ⟨Nat.le_trans h0w (hr r e).1, (hr r e).2, fun y hy => by have := HB.out.2.2.2.2.2 y hy; have := (hr r e).1; omega⟩⟩
  case ownx =>
    rintro c pre A B row h hgr hr
    exact h
  case ownA =>
    rintro x a' _ A B row h hgr hr
    exact h
  case assign =>
    rintro l pre x W K h1 hK
    have H1 := Lib.hid h1
    unfold KA.encP
    clear h1
    gi_wp2
    exact hK _ _ (KeepsFrom.refl _ _) (KA.KpF.refl _ _) H1.out rfl
  case body =>
    rintro l pre x _ W hl' _ ⟨M, h1, h2⟩ rfl hlt
    have k1 := (h2.known _ _ HB.out.2.2.2.1).1
    have k2 := (h2.known _ _ HB.out.2.2.2.2.1).1
    obtain ⟨c0, c1⟩ := pager_cells k1
    have hbx : W.cell? ⟨w.heap.size, 0, none⟩ = some (.pointer (some ⟨pp, 0, none⟩)) := by rw [cell_of_row _ _ _ _ _ _ k2]; rfl
    have HD := Lib.hid (KA.drop_kp h2 x.1 (by have := h1.len; omega))
    have H1 := Lib.hid (h1.dropSame x.1)
    have HT := Lib.hid fun (b : Nat) (o : Obj) (hb : W.heap[b]? = some o) (ho : o.isCells = false) => (show ¬ KA.OwnC S.hc W b from fun hh => by rcases h2.typ hb hh with ⟨cs, e⟩ | ⟨cs, e⟩ <;> (rw [e] at ho; cases ho))
    clear h1 h2 k1 k2
    gi_wp2_with fail
    refine ⟨trivial, (callsIn_wide.2 HD.out).mono ?_⟩
    rintro e W3 ⟨rfl, h3, h4, h5, h6⟩
    have H3 := Lib.hid (And.intro h3 (And.intro h4 (And.intro h5 h6)))
    clear h3 h4 h5 h6
    gi_wp2
    exact ⟨⟨H3.out.2.2.2, fun k o _ hk ho => H3.out.2.2.1 k o hk (HT.out k o hk ho)⟩, H3.out.2.1, _, H1.out, H3.out.1⟩
  case done =>
    rintro D ys W hD rfl ⟨M, h1, h2⟩ hK
    have h3 := h2.grown (grownBy_putObj' W D (.deferred none)) (fun r e => by
      cases e
      exact ⟨Nat.le_trans h0w hD, ⟨_, hK, rfl⟩, fun y hy => by have := HB.out.2.2.2.2.2 y hy; omega⟩)
    have HP : Hid (Pag w0 pp S c R (W.putObj D (.deferred none))) := Lib.hid ⟨HB.out.1, M, h1, HB.out.2.1 M _ (h3.sub fun b o hb => HB.out.2.2.1 _ hb)⟩
    have HK := Lib.hid hK
    clear h1 h2 h3 hK
    go_wp2_with fail
    refine ⟨by simp, .inl ⟨_, _, rfl, run_takeDeferred HK.out, ?_⟩⟩
    exact ⟨.tuple #[], by simp [results, Tryz.results150, go_sem], rfl, HP.out⟩
  case stop =>
    rintro D c pre W hD hSp h hK
    exact h.elim
end
end Go.Proofs.YtcjfnfdinhbdlaaGreatDoor
namespace Go.Proofs.YtcjfnfdinhbdlaaGreatDoor
set_option maxRecDepth 100000
open Go.ChangeShapes Go.WideShapes Go.ChangeAt Go.RowKit Go.PlainAid
open Go.Sort (grow)
section
variable {w0 w w' : World} {pp c : Nat} {S : Sto} {L : List KA.E} {R : List (Nat × Obj)}
theorem pended_no (H : Pag w0 pp S c R w) (x : Int) (hx : x ≠ 0) :
    Calls Tryz.prog 94 #[.pointer (some ⟨pp, 0, none⟩), .int .i64 x] w fun e w' => e = .returned (.int .i64 x) ∧ Pag w0 pp S c R w' := by
  have HF := Lib.hid (pforget_any H)
  have hz : (x == 0) = false := by simpa using hx
  clear H
  go_enter Tryz.func94, Tryz.ntmps94
  go_wp2_with fail
  refine HF.out.mono ?_
  rintro e w1 ⟨rfl, H1⟩
  have H1' := Lib.hid H1
  clear H1 HF
  go_wp2
  go_returns
  exact ⟨rfl, H1'.out⟩
theorem pwrite_big (H : Pag w0 pp S c R w) (k : Int) (s : ByteArray) (h0 : 0 ≤ k) (h1 : k < S.h.pages) (hs : 256 < s.size) (hs2 : s.size ≤ 2000) (hc : c < 1000000) :
    Calls Tryz.prog 90 #[.pointer (some ⟨pp, 0, none⟩), .int .i64 k, .string s] w fun e w' => e = .returned (.int .i64 21) ∧ Pag w0 pp S (c + 1) R w' := by
  obtain ⟨hO, L, hK, hP⟩ := H
  have HO := Lib.hid hO
  have HK := Lib.hid (hK.dropSame k)
  have HD := Lib.hid (hP.drop k hK.len)
  have hpg := hO.wf.pages
  obtain ⟨c0, c1⟩ := pager_cells hP.at
  clear hP hO hK
  go_enter Tryz.func90, Tryz.ntmps90
  go_wp2_with fail
  refine HD.out.mono ?_
  rintro e w1 ⟨rfl, H1⟩
  clear c0 c1 HD
  obtain ⟨c0, c1⟩ := pager_cells H1.at
  have hW := H1.swrite k s (by omega) (by omega) (by unfold maxLen; omega) hc
  rw [show swriteE S.h k s = 21 by unfold swriteE; rw [if_neg (by omega), if_pos hs], show swriteT S.h S.T k s = S.T by unfold swriteT; rw [if_pos (by omega)]] at hW
  have HW := Lib.hid hW
  clear H1 hW
  go_wp2_with fail
  refine HW.out.mono ?_
  rintro e w2 ⟨rfl, H2⟩
  have HE := Lib.hid (pended_no (S := S) ⟨HO.out, _, HK.out, H2⟩ 21 (by decide))
  clear H2 HW c0 c1
  go_wp2_with fail
  refine HE.out.mono ?_
  rintro e w3 ⟨rfl, H3⟩
  have H3' := Lib.hid H3
  clear H3 HE
  go_wp2
  go_returns
  exact ⟨rfl, H3'.out⟩
theorem pset_big (H : Pag w0 pp S c R w) (k : Int) (s : ByteArray) (b0 : -9223372036854775808 ≤ k) (b1 : k ≤ 9223372036854775807) (hp : 0 < S.h.pages) (hs : 256 < s.size) (hs2 : s.size ≤ 2000) (hc : c < 1000000) (hk : outB S.h.pages (S.at 0) k = true) :
    Calls Tryz.prog 173 #[.pointer (some ⟨pp, 0, none⟩), .int .i64 k, .string s] w fun e w' => e = .returned (.int .i64 21) ∧ Pag w0 pp S (c + 1) R w' := by
  have HO := Lib.hid (pout_yes H k b0 b1 hp hk)
  have hk2 : 0 ≤ k ∧ k < S.h.pages := by
    unfold outB at hk
    simp only [Bool.and_eq_true, decide_eq_true_eq] at hk
    omega
  clear H hk
  go_enter Tryz.func173, Tryz.ntmps173
  go_wp2_with fail
  refine HO.out.mono ?_
  rintro e w1 ⟨rfl, H1⟩
  have HR := Lib.hid (pwrite_big H1 k s hk2.1 hk2.2 hs hs2 hc)
  clear H1 HO
  go_wp2_with fail
  refine HR.out.mono ?_
  rintro e w4 ⟨rfl, H4⟩
  have H4' := Lib.hid H4
  clear H4 HR
  go_wp2
  go_returns
  exact ⟨rfl, H4'.out⟩
end
end Go.Proofs.YtcjfnfdinhbdlaaGreatDoor
