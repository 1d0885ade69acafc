/- Package pager: blocks beside a pager: added, changed, forgotten; a slice of numbers beside it. Package cache, in the laws of package pager: Clone, All. (CacN, without its law.) Package cache: All, in a range statement whose body drops keys. Package pager: forget. Package pager: a page that is set to what doesn't fit; Commit. Package pager: no pager, and one that no New made. -/
import Derived.Test.YtkdhlofcdcnjgaaGreatGQ
import Derived.Test.YtkdhlofcdcnjgaaGreatGN
import Derived.Test.YtkdhlofcdcnjgaaGreatGL
import Derived.RangeFuncBox
import Derived.OwnWalk
import Derived.Deep.AppendLies
import Derived.Lib.SliceRun
import Derived.Test.YtkdhlofcdcnjgaaGreatGH
import Derived.Test.YtkdhlofcdcnjgaaGreatGG
namespace Go.Proofs.YtkdhlofcdcnjgaaGreat
set_option maxRecDepth 100000
open Go.ChangeShapes Go.WideShapes Go.ChangeAt Go.RowKit Go.PlainAid
open Go.Sort (grow)
open Go.ChangeMaps Go.MapKept

section
variable {w0 w w' : World} {pp n c : Nat} {S : Sto} {V : Int → ByteArray} {L : List KA.E} {R : List (Nat × Obj)}
theorem Pgl.sub (H : Pgl w0 pp S c L R w) (R' : List (Nat × Obj)) (hs : ∀ x ∈ R', x ∈ R) : Pgl w0 pp S c L R' w := by
  obtain ⟨CB, h1, h2, h3⟩ := H
  refine ⟨CB, h1, h2.sub _ fun x hx => ?_, fun b o o' hb => h3 b o o' ?_⟩
  · rcases List.mem_append.1 hx with hx | hx
    · exact List.mem_append_left _ hx
    · rcases List.mem_cons.1 hx with rfl | hx
      · exact List.mem_append_right _ List.mem_cons_self
      · exact List.mem_append_right _ (List.mem_cons_of_mem _ (hs x hx))
  · rcases List.mem_cons.1 hb with hb | hb
    · rw [hb]; exact List.mem_cons_self
    · exact List.mem_cons_of_mem _ (hs _ hb)
/-- A new block beside it. -/
theorem Pgl.add {g : Nat} {o : Obj} (H : Pgl w0 pp S c L R w) (b : Below w.heap.size w w') (hg : w.heap.size ≤ g) (ho : w'.heap[g]? = some o) : Pgl w0 pp S c L ((g, o) :: R) w' := by
  obtain ⟨CB, h1, h2, h3⟩ := H
  have h4 := h2.add b hg ho
  refine ⟨CB, h1, h4.sub _ fun x hx => ?_, fun b' o1 o2 hb hc => ?_⟩
  · rcases List.mem_append.1 hx with hx | hx
    · exact List.mem_cons_of_mem _ (List.mem_append_left _ hx)
    · rcases List.mem_cons.1 hx with rfl | hx
      · exact List.mem_cons_of_mem _ (List.mem_append_right _ List.mem_cons_self)
      · rcases List.mem_cons.1 hx with rfl | hx
        · exact List.mem_cons_self
        · exact List.mem_cons_of_mem _ (List.mem_append_right _ (List.mem_cons_of_mem _ hx))
  · have hlt := heap_lt (h2.mem (x := (b', o2)) (List.mem_append_left _ hc))
    rcases List.mem_cons.1 hb with hb | hb
    · cases hb
      exact h3 _ _ o2 List.mem_cons_self hc
    · rcases List.mem_cons.1 hb with hb | hb
      · cases hb; omega
      · exact h3 _ _ o2 (List.mem_cons_of_mem _ hb) hc
/-- A block beside it has changed, or a new one stands for it. -/
theorem Pgl.swap {b g : Nat} {o o' : Obj} (H : Pgl w0 pp S c L ((b, o) :: R) w) (hR : ∀ x ∈ R, x.1 ≠ b) (hpp : pp ≠ b) (hs : w.heap.size ≤ w'.heap.size)
    (hoth : ∀ k, k < w.heap.size → k ≠ b → w'.heap[k]? = w.heap[k]?) (hg : g = b ∨ w.heap.size ≤ g) (ho : w'.heap[g]? = some o') (hbel : Below w0.heap.size w0 w') : Pgl w0 pp S c L ((g, o') :: R) w' := by
  obtain ⟨CB, h1, ⟨⟨es, clock, hX, ⟨⟨F, hFp, hD, hB, hO, hK⟩, hlo, hne⟩⟩, q1, q2⟩, h3⟩ := H
  have hbm : ∀ x, x ∈ CB ++ (pp, pagerO S.q S.hc) :: (b, o) :: R → ¬ F.own x.1 ∧ w.heap[x.1]? = some x.2 := fun x hx => hK x (List.mem_cons_of_mem _ (List.mem_cons_of_mem _ hx))
  have hb0 : (b, o) ∈ CB ++ (pp, pagerO S.q S.hc) :: (b, o) :: R := List.mem_append_right _ (List.mem_cons_of_mem _ List.mem_cons_self)
  have hbF := (hbm _ hb0).1
  have hbq : b ≠ S.q := hne _ (List.mem_cons_of_mem _ hb0)
  have hbb : b ≠ S.bm := q2 _ hb0
  have hcb : ∀ x ∈ CB, x.1 ≠ b := fun x hx e => h3 b o x.2 (List.mem_cons_of_mem _ List.mem_cons_self) (by rw [← e]; exact hx)
  have hqm := hK (S.q, storeO S.p S.bm S.h false) List.mem_cons_self
  have hbmm := hK (S.bm, .map es clock) (List.mem_cons_of_mem _ List.mem_cons_self)
  have hgF : ¬ F.own g := by
    rcases hg with rfl | hg
    · exact hbF
    · intro h; have := DiskAt.own_lt hD h; omega
  have hgq : g ≠ S.q := by
    rcases hg with rfl | hg
    · exact hbq
    · have : S.q < w.heap.size := heap_lt hqm.2
      omega
  have hgb : g ≠ S.bm := by
    rcases hg with rfl | hg
    · exact hbb
    · have : S.bm < w.heap.size := heap_lt hbmm.2
      omega
  have hcg : ∀ x ∈ CB, x.1 ≠ g := fun x hx => by
    rcases hg with rfl | hg
    · exact hcb x hx
    · have := heap_lt (hbm x (List.mem_append_left _ hx)).2
      omega
  have keep : ∀ k ob, w.heap[k]? = some ob → k ≠ b → w'.heap[k]? = some ob := fun k ob hk hkb => (hoth k (heap_lt hk) hkb).trans hk
  have hin : ∀ x, x ∈ CB ++ (pp, pagerO S.q S.hc) :: (g, o') :: R → x = (g, o') ∨ (x ∈ CB ++ (pp, pagerO S.q S.hc) :: (b, o) :: R ∧ x.1 ≠ b) := fun x hx => by
    rcases List.mem_append.1 hx with hx | hx
    · exact .inr ⟨List.mem_append_left _ hx, hcb x hx⟩
    · rcases List.mem_cons.1 hx with rfl | hx
      · exact .inr ⟨List.mem_append_right _ List.mem_cons_self, hpp⟩
      · rcases List.mem_cons.1 hx with rfl | hx
        · exact .inl rfl
        · exact .inr ⟨List.mem_append_right _ (List.mem_cons_of_mem _ (List.mem_cons_of_mem _ hx)), hR x hx⟩
  refine ⟨CB, h1, ⟨⟨es, clock, hX, ⟨⟨F, hFp, DiskAt.keep hD hs (fun k hk => hoth k (DiskAt.own_lt hD hk) (fun e => hbF (by rw [← e]; exact hk))), hbel, hO, fun x hx => ?_⟩, hlo, fun x hx => ?_⟩⟩, q1, fun x hx => ?_⟩, fun b' o1 o2 hb hc => ?_⟩
  · rcases List.mem_cons.1 hx with rfl | hx
    · exact ⟨hqm.1, keep _ _ hqm.2 (fun e => hbq e.symm)⟩
    · rcases List.mem_cons.1 hx with rfl | hx
      · exact ⟨hbmm.1, keep _ _ hbmm.2 (fun e => hbb e.symm)⟩
      · rcases hin x hx with rfl | ⟨hx, hxb⟩
        · exact ⟨hgF, ho⟩
        · exact ⟨(hbm x hx).1, keep _ _ (hbm x hx).2 hxb⟩
  · rcases List.mem_cons.1 hx with rfl | hx
    · exact hne _ List.mem_cons_self
    · rcases hin x hx with rfl | ⟨hx, hxb⟩
      · exact hgq
      · exact hne x (List.mem_cons_of_mem _ hx)
  · rcases hin x hx with rfl | ⟨hx, hxb⟩
    · exact hgb
    · exact q2 x hx
  · rcases List.mem_cons.1 hb with hb | hb
    · exact h3 b' o1 o2 (by rw [hb]; exact List.mem_cons_self) hc
    · rcases List.mem_cons.1 hb with hb | hb
      · cases hb
        exact hcg _ hc rfl
      · exact h3 b' o1 o2 (List.mem_cons_of_mem _ (List.mem_cons_of_mem _ hb)) hc
theorem PV.sub (H : PV w0 pp n c V R w) (R' : List (Nat × Obj)) (hs : ∀ x ∈ R', x ∈ R) : PV w0 pp n c V R' w := by
  obtain ⟨S, ⟨h1, L, h2, h3⟩, h4, h5⟩ := H
  exact ⟨S, ⟨h1, L, h2, h3.sub R' hs⟩, h4, h5⟩
theorem PV.add {g : Nat} {o : Obj} (H : PV w0 pp n c V R w) (b : Below w.heap.size w w') (hg : w.heap.size ≤ g) (ho : w'.heap[g]? = some o) : PV w0 pp n c V ((g, o) :: R) w' := by
  obtain ⟨S, ⟨h1, L, h2, h3⟩, h4, h5⟩ := H
  exact ⟨S, ⟨h1, L, h2, h3.add b hg ho⟩, h4, h5⟩
/-- The pager's own block is not one beside it. -/
theorem PV.ne (H : PV w0 pp n c V R w) {x : Nat × Obj} (hx : x ∈ R) {cs : Array Value} {t : TypeId} (ht : x.2 = .cells cs t (0, 0)) (hne : t ≠ 113) : pp ≠ x.1 := by
  intro e
  have h1 := H.mem hx
  obtain ⟨S, h, _, _⟩ := H
  have h2 := h.at
  rw [e] at h2
  rw [h2, ht] at h1
  unfold pagerO at h1
  injection h1 with h1
  injection h1 with _ h1
  exact hne h1.symm
theorem PV.neMap (H : PV w0 pp n c V R w) {b : Nat} {es : Array MapEntry} {clock : Nat} (hx : (b, Obj.map es clock) ∈ R) : pp ≠ b := by
  intro e
  have h1 := H.mem hx
  obtain ⟨S, h, _, _⟩ := H
  have h2 := h.at
  rw [e] at h2
  simp only at h1
  rw [h2] at h1
  unfold pagerO at h1
  cases h1
theorem PV.swap {b g : Nat} {o o' : Obj} (H : PV w0 pp n c V ((b, o) :: R) w) (hR : ∀ x ∈ R, x.1 ≠ b) (hpp : pp ≠ b) (hs : w.heap.size ≤ w'.heap.size)
    (hoth : ∀ k, k < w.heap.size → k ≠ b → w'.heap[k]? = w.heap[k]?) (hg : g = b ∨ w.heap.size ≤ g) (ho : w'.heap[g]? = some o') (hbel : Below w0.heap.size w0 w') : PV w0 pp n c V ((g, o') :: R) w' := by
  obtain ⟨S, ⟨h1, L, h2, h3⟩, h4, h5⟩ := H
  exact ⟨S, ⟨h1, L, h2, h3.swap hR hpp hs hoth hg ho hbel⟩, h4, h5⟩
/-- A pager with a slice of numbers beside it, which the call owns. -/
def PN (w0 : World) (pp n c : Nat) (V : Int → ByteArray) (L : List Int) (va : Value) (R0 : List (Nat × Obj)) (w : World) : Prop :=
  (L = [] ∧ va = .slice none 0 0 ∧ PV w0 pp n c V R0 w) ∨
  ∃ g cap cur, va = .slice (some ⟨g, 0, none⟩) L.length cap ∧ w0.heap.size ≤ g ∧ L.length ≤ cap ∧ cap ≤ maxLen ∧ cur.size = cap ∧ cur.toList.take L.length = L.map (Value.int .i64) ∧ PV w0 pp n c V ((g, .cells cur 3 (0, 0)) :: R0) w
theorem PN.map {w1 : World} {c' : Nat} {V' : Int → ByteArray} {Ls : List Int} {va : Value} {R0 : List (Nat × Obj)} (H : PN w0 pp n c V Ls va R0 w) (hf : ∀ R, PV w0 pp n c V R w → PV w0 pp n c' V' R w1) : PN w0 pp n c' V' Ls va R0 w1 := by
  rcases H with ⟨h1, h2, h3⟩ | ⟨g, cap, cur, h1, h2, h3, h4, h5, h6, h7⟩
  · exact .inl ⟨h1, h2, hf _ h3⟩
  · exact .inr ⟨g, cap, cur, h1, h2, h3, h4, h5, h6, hf _ h7⟩
theorem PN.mono {c' : Nat} {Ls : List Int} {va : Value} {R0 : List (Nat × Obj)} (H : PN w0 pp n c V Ls va R0 w) (hc : c ≤ c') : PN w0 pp n c' V Ls va R0 w := H.map fun _ h => h.mono hc
theorem PN.on {Ls : List Int} {va : Value} {R0 : List (Nat × Obj)} (H : PN w0 pp n c V Ls va R0 w) (hb : Below w.heap.size w w') : PN w0 pp n c V Ls va R0 w' := H.map fun _ h => h.on hb
theorem PN.call {c' : Nat} {V' : Int → ByteArray} {Ls : List Int} {va : Value} {f : FuncId} {args : Array Value} {e0 : Ending} {R0 : List (Nat × Obj)} (H : PN w0 pp n c V Ls va R0 w)
    (h : ∀ R, PV w0 pp n c V R w → Calls Tryz.prog f args w fun e w' => e = e0 ∧ PV w0 pp n c' V' R w') : Calls Tryz.prog f args w fun e w' => e = e0 ∧ PN w0 pp n c' V' Ls va R0 w' := by
  rcases H with ⟨h1, h2, h3⟩ | ⟨g, cap, cur, h1, h2, h3, h4, h5, h6, h7⟩
  · exact (h _ h3).mono fun e w' ⟨he, h'⟩ => ⟨he, .inl ⟨h1, h2, h'⟩⟩
  · exact (h _ h7).mono fun e w' ⟨he, h'⟩ => ⟨he, .inr ⟨g, cap, cur, h1, h2, h3, h4, h5, h6, h'⟩⟩
theorem PN.pv {Ls : List Int} {va : Value} {R0 : List (Nat × Obj)} (H : PN w0 pp n c V Ls va R0 w) : PV w0 pp n c V R0 w := by
  rcases H with ⟨h1, h2, h3⟩ | ⟨g, cap, cur, h1, h2, h3, h4, h5, h6, h7⟩
  · exact h3
  · exact h7.sub _ fun x hx => List.mem_cons_of_mem _ hx
theorem PN.open {Ls : List Int} {va : Value} {R0 : List (Nat × Obj)} (H : PN w0 pp n c V Ls va R0 w) : ∃ ao cap, va = .slice ao Ls.length cap := by
  rcases H with ⟨rfl, h2, h3⟩ | ⟨g, cap, cur, h1, _⟩
  · exact ⟨_, _, h2⟩
  · exact ⟨_, _, h1⟩
theorem PN.at {Ls : List Int} {va : Value} {R0 : List (Nat × Obj)} (H : PN w0 pp n c V Ls va R0 w) {i : Nat} {x : Int} (hx : Ls[i]? = some x) : ∃ g cap, va = .slice (some ⟨g, 0, none⟩) Ls.length cap ∧ g < w.heap.size ∧ w.cell? ⟨g, i, none⟩ = some (.int .i64 x) := by
  have hi := (List.getElem?_eq_some_iff.1 hx).1
  rcases H with ⟨rfl, _⟩ | ⟨g, cap, cur, h1, h2, h3, h4, h5, h6, h7⟩
  · cases hx
  · have hg := h7.mem List.mem_cons_self
    refine ⟨g, cap, h1, heap_lt hg, ?_⟩
    rw [cell_of_row _ _ _ _ _ _ hg]
    have : (cur.toList.take Ls.length)[i]? = some (.int .i64 x) := by rw [h6, List.getElem?_map, hx]; rfl
    rw [List.getElem?_take_of_lt hi, Array.getElem?_toList] at this
    exact this
theorem PN.row {Ls : List Int} {va : Value} (H : PN w0 pp n c V Ls va [] w) : IntsIn w0.heap.size w va Ls := by
  unfold IntsIn
  rcases H with ⟨rfl, rfl, h3⟩ | ⟨g, cap, cur, h1, h2, h3, h4, h5, h6, h7⟩
  · exact ⟨rfl, .inl ⟨rfl, rfl⟩⟩
  · exact ⟨by simp, .inr ⟨g, cap, cur, h1, h2, h7.mem List.mem_cons_self, h3, h4, by rw [h5, Nat.mul_one], by rw [Nat.mul_one]; exact h6⟩⟩
/-- Behind an append. -/
theorem PN.push {Ls Ms : List Int} {va : Value} {g cap : Nat} {W w2 : World} (H : PN w0 pp n c V Ls va [] w) (hb : Below w.heap.size w W) (hg : W.grownBy w2 va.ownBlock) (hr : IntsIn w0.heap.size w2 (.slice (some ⟨g, 0, none⟩) Ms.length cap) Ms) (h0 : 0 < Ms.length) (hbel : Below w0.heap.size w0 w2)
    (hgg : va.ownBlock = some g ∨ w.heap.size ≤ g) : PN w0 pp n c V Ms (.slice (some ⟨g, 0, none⟩) Ms.length cap) [] w2 := by
  obtain ⟨_, hr2⟩ := hr
  rcases hr2 with ⟨hz, h00⟩ | ⟨g2, cap2, cur2, hv, hlo, hgb, k1, k2, k3, k4⟩
  · omega
  · cases hv
    rw [Nat.mul_one] at k3 k4
    have hsz : w.heap.size ≤ w2.heap.size := Nat.le_trans hb.size hg.size
    have hoth : ∀ k, k < w.heap.size → va.ownBlock ≠ some k → w2.heap[k]? = w.heap[k]? := fun k hk hne => (hg.block k (Nat.lt_of_lt_of_le hk hb.size) (fun e => hne e.symm)).trans (hb.block k hk)
    refine .inr ⟨g, cap, cur2, rfl, hlo, k1, k2, k3, k4, ?_⟩
    rcases H with ⟨_, rfl, h3⟩ | ⟨g1, cap1, cur1, rfl, _, _, _, _, _, h7⟩
    · have hg2 : w.heap.size ≤ g := by
        rcases hgg with h | h
        · cases h
        · exact h
      exact h3.add ⟨hg.os.trans hb.os, hg.tape.trans hb.tape, hg.output.trans hb.output, hsz, fun k hk => hoth k hk (by simp [Value.ownBlock])⟩ hg2 hgb
    · have hg1 := heap_lt (h7.mem List.mem_cons_self)
      have hne : pp ≠ g1 := h7.ne List.mem_cons_self rfl (by decide)
      have hgg2 : g = g1 ∨ w.heap.size ≤ g := by
        rcases hgg with h | h
        · exact .inl (Option.some.inj (by simpa [Value.ownBlock] using h)).symm
        · exact .inr h
      exact h7.swap (fun x hx => by cases hx) hne hsz (fun k hk hkb => hoth k hk (by simp [Value.ownBlock]; omega)) hgg2 hgb hbel
/-- A number more. -/
theorem PN.append {Ls : List Int} {va : Value} (H : PN w0 pp n c V Ls va [] w) (hlen : Ls.length ≤ 1048576) (x : Int) (m : Nat) (hm : Ls.length = m) :
    ∃ g cap w2, (appIM #[va, .slice (some ⟨w.heap.size, 0, none⟩) 1 1]).run Tryz.prog (w.alloc (.cells #[.int .i64 x] 3)) = .ok (.slice (some ⟨g, 0, none⟩) (m + 1) cap) w2 ∧
      PN w0 pp n c V (Ls ++ [x]) (.slice (some ⟨g, 0, none⟩) (m + 1) cap) [] w2 := by
  subst hm
  have hrow := H.row
  have hn := H.pv.below.size
  obtain ⟨i0, hi, hz0, hz1, hz2⟩ := info_parts info_intM
  have hq := heap_alloc_new w (.cells #[.int .i64 x] 3)
  have hba : Below w.heap.size w (w.alloc (.cells #[.int .i64 x] 3)) := by go_grown
  obtain ⟨g, cap, w2, hr, h2, h3, h4, _⟩ := run_append_lies (P := Tryz.prog) (w := w.alloc (.cells #[.int .i64 x] 3)) 41 41 w0.heap.size 3 i0 (.int .i64 0) 1 8 Tryz.underlying41 hi hz0 hz1 hz2 rfl (by decide) va Ls.length (Ls.map (Value.int .i64)) (ownsRow_onM hrow hba) ⟨w.heap.size, 0, none⟩ 1 1 [.int .i64 x] rfl
    (fun j u hu => by
      rcases j with _ | j
      · have : Value.int .i64 x = u := by simpa using hu
        rw [← this]
        show (w.alloc (.cells #[.int .i64 x] 3)).cell? ⟨w.heap.size, 0, none⟩ = _
        rw [cell_of_row _ _ _ _ _ _ hq]
        rfl
      · simp at hu) (fun u hu => by have : u = .int .i64 x := by simpa using hu
                                    rw [this]; rfl) (by decide) (by unfold maxLen; omega) (by omega) (by rw [World.size_alloc]; omega) _ rfl
  have hbel : Below w0.heap.size w0 w2 := H.pv.below.trans ((hba.mono hn).grown h3 (by rw [World.size_alloc]; omega) (fun k e => (hrow.lt k e).1))
  refine ⟨g, cap, w2, hr, ?_⟩
  have hlen2 : (Ls ++ [x]).length = Ls.length + 1 := by simp
  have hI : IntsIn w0.heap.size w2 (.slice (some ⟨g, 0, none⟩) (Ls ++ [x]).length cap) (Ls ++ [x]) := by
    unfold IntsIn
    rw [List.length_append, List.map_append]
    exact h2
  have := H.push hba h3 hI (by rw [hlen2]; omega) hbel (by
    rcases h4 with h4 | h4
    · exact .inl h4
    · exact .inr (by rw [h4, World.size_alloc]; omega))
  rwa [hlen2] at this
/-- A map beside it. -/
theorem PN.withMap {Ls : List Int} {va : Value} {b : Nat} {es : Array MapEntry} {clock : Nat} (H : PN w0 pp n c V Ls va [] w) (hb : Below w.heap.size w w') (hg : w.heap.size ≤ b) (ho : w'.heap[b]? = some (.map es clock)) : PN w0 pp n c V Ls va [(b, .map es clock)] w' := by
  rcases H with ⟨h1, h2, h3⟩ | ⟨g, cap, cur, h1, h2, h3, h4, h5, h6, h7⟩
  · exact .inl ⟨h1, h2, h3.add hb hg ho⟩
  · refine .inr ⟨g, cap, cur, h1, h2, h3, h4, h5, h6, (h7.add hb hg ho).sub _ fun x hx => ?_⟩
    simp only [List.mem_cons, List.not_mem_nil, or_false] at hx ⊢
    exact hx.symm
/-- .. put anew. -/
theorem PN.setMap {Ls : List Int} {va : Value} {b : Nat} {es es' : Array MapEntry} {clock clock' : Nat} (H : PN w0 pp n c V Ls va [(b, .map es clock)] w) (h0 : w0.heap.size ≤ b) : PN w0 pp n c V Ls va [(b, .map es' clock')] (setBlock w b (.map es' clock')) := by
  have hpv := H.pv
  have hbb : w.heap[b]? = some (.map es clock) := hpv.mem List.mem_cons_self
  have hpp := hpv.neMap List.mem_cons_self
  have hsz : (setBlock w b (.map es' clock')).heap.size = w.heap.size := by simp [setBlock]
  have hoth : ∀ k, k < w.heap.size → k ≠ b → (setBlock w b (.map es' clock')).heap[k]? = w.heap[k]? := fun k _ hk => heap_setBlock_other hbb _ hk
  have ho : (setBlock w b (.map es' clock')).heap[b]? = some (.map es' clock') := heap_setBlock_same hbb _
  have hbel : Below w0.heap.size w0 (setBlock w b (.map es' clock')) := by
    have h := hpv.below
    have hlt := heap_lt hbb
    exact ⟨h.os, h.tape, h.output, by rw [hsz]; exact h.size, fun k hk => (hoth k (Nat.lt_of_lt_of_le hk h.size) (by omega)).trans (h.block k hk)⟩
  rcases H with ⟨h1, h2, h3⟩ | ⟨g, cap, cur, h1, h2, h3, h4, h5, h6, h7⟩
  · exact .inl ⟨h1, h2, h3.swap (fun x hx => by cases hx) hpp (Nat.le_of_eq hsz.symm) hoth (.inl rfl) ho hbel⟩
  · have hgb : g ≠ b := by
      intro e
      have hg := h7.mem List.mem_cons_self
      simp only at hg
      rw [e, hbb] at hg
      cases hg
    have h8 : PV w0 pp n c V [(b, .map es clock), (g, .cells cur 3 (0, 0))] w := h7.sub _ fun x hx => by
      simp only [List.mem_cons, List.not_mem_nil, or_false] at hx ⊢
      exact hx.symm
    refine .inr ⟨g, cap, cur, h1, h2, h3, h4, h5, h6, (h8.swap (fun x hx => ?_) hpp (Nat.le_of_eq hsz.symm) hoth (.inl rfl) ho hbel).sub _ fun x hx => ?_⟩
    · rw [List.mem_singleton] at hx
      rw [hx]
      exact hgb
    · simp only [List.mem_cons, List.not_mem_nil, or_false] at hx ⊢
      exact hx.symm
end
end Go.Proofs.YtkdhlofcdcnjgaaGreat
namespace Go.Proofs.YtkdhlofcdcnjgaaGreat
set_option maxRecDepth 100000
open Go.ChangeShapes Go.WideShapes Go.ChangeAt Go.RowKit Go.PlainAid

namespace KA
def appC (vs : Array Value) : Sem Value := Builtin.append_ #[159, 159] 159 vs
theorem app_c (vs : Array Value) : Builtin.append_ #[159, 159] 159 vs = appC vs := rfl
attribute [local go_sem ↓ high] app_c
theorem eq_rows (a : Option Addr) (n c : Nat) : ∀ w, (binOp .eql 159 (.slice a n c) (.slice none 0 0)).run Tryz.prog w = .ok (.bool a.isNone) w := fun w => Lib.run_eql_slice_nil w _ _ a n c 0 0 Tryz.underlying159
/-- A slice of entries, read. -/
def Reads (w : World) (v : Value) (L : List E) : Prop := ∃ ao cap, v = .slice ao L.length cap ∧ (L = [] ∨ ∃ g, ao = some ⟨g, 0, none⟩ ∧ g < w.heap.size ∧ ∀ (i : Nat) (e : E), L[i]? = some e →
  w.cell? ⟨g, i * 3, none⟩ = some (.int .i64 e.key) ∧ w.cell? ⟨g, i * 3 + 1, none⟩ = some (.string e.val) ∧ w.cell? ⟨g, i * 3 + 2, none⟩ = some (.int .i64 (e.pins : Int)))
set_option maxHeartbeats 1000000 in
theorem clone_any {n₀ : Nat} {w : World} {v : Value} {L : List E} (h : RowE cE 178 n₀ w v L) (hl : L.length ≤ 4096) :
    Calls Tryz.prog 164 #[v] w fun e w' => ∃ v', e = .returned v' ∧ RowE cE 178 w.heap.size w' v' L ∧ Below w.heap.size w w' := by
  have hq := eq_rows
  rcases h.2 with ⟨rfl, h0⟩ | ⟨g, cap, cur, rfl, _, hg, hlc, hcm, hcs, ht⟩
  · obtain rfl : L = [] := List.length_eq_zero_iff.1 h0
    clear h
    go_enter Tryz.func164, Tryz.ntmps164
    go_wp2
    go_returns
    exact ⟨_, rfl, ⟨rfl, .inl ⟨rfl, rfl⟩⟩, Below.refl _ _⟩
  · have happ : ∃ v' w', (appC #[.slice (some ⟨w.heap.size, 0, none⟩) 0 0, .slice (some ⟨g, 0, none⟩) L.length cap]).run Tryz.prog (w.alloc (.cells #[] 178)) = .ok v' w' ∧ RowE cE 178 w.heap.size w' v' L ∧ Below w.heap.size w w' := by
      have hnews : ∀ j u, (flat cE L)[j]? = some u → (w.alloc (.cells #[] 178)).cell? ((⟨g, 0, none⟩ : Addr).add j) = some u := fun j u hu => by
        have hj : j < L.length * 3 := by rw [← flat_len three L]; exact (List.getElem?_eq_some_iff.1 hu).1
        have hadd : (⟨g, 0, none⟩ : Addr).add j = ⟨g, j, none⟩ := by unfold Addr.add; split <;> simp_all
        rw [hadd]
        refine Lib.cell?_alloc_some _ ?_
        rw [cell_of_row _ _ _ _ _ _ hg, ← hu, ← ht, List.getElem?_take_of_lt hj, Array.getElem?_toList]
      obtain ⟨i0, hi, hz0, hz1, hz2⟩ := info_parts info_e2
      obtain ⟨v', w', hr, h2, h3, _⟩ := run_append_own_at (P := Tryz.prog) (w := w.alloc (.cells #[] 178)) w.heap.size 159 159 178 i0 _ 3 32 Tryz.underlying159 hi hz0 hz1 hz2 (by simp [Value.cells]) (by decide) (.slice (some ⟨w.heap.size, 0, none⟩) 0 0) 0 []
        (World.ownsRow_made w #[] 0 (Nat.le_refl _) (Nat.zero_le _) rfl) ⟨g, 0, none⟩ L.length cap (flat cE L) (flat_len three L) hnews (flat_one three L) (by unfold maxLen; omega) (by omega) (by simp)
      refine ⟨v', w', hr, ?_, ((Below.refl _ w).alloc (Nat.le_refl _) _).grown h3 (by simp) (by intro k hk; simp [Value.ownBlock] at hk; omega)⟩
      rw [Nat.zero_add, List.nil_append] at h2
      exact h2
    obtain ⟨v', w', hr, h2, h3⟩ := happ
    have H2 := Lib.hid h2
    have H3 := Lib.hid h3
    clear h h2 h3
    go_enter Tryz.func164, Tryz.ntmps164
    go_wp2
    go_returns
    exact ⟨v', rfl, H2.out, H3.out⟩
/-- All gives a closure. -/
theorem mk_all (p : Nat) (w : World) :
    Calls Tryz.prog 146 #[.pointer (some ⟨p, 0, none⟩)] w fun e w' => e = .returned (.func (.func 163) #[] #[.pointer (some ⟨w.heap.size, 0, none⟩)]) ∧ w.alloc (.cells #[.pointer (some ⟨p, 0, none⟩)] 109) = w' := by
  have hmf := make_func
  go_enter Tryz.func146, Tryz.ntmps146
  go_wp2
  go_returns
  exact ⟨rfl, rfl⟩
end KA
end Go.Proofs.YtkdhlofcdcnjgaaGreat
namespace Go.Proofs.YtkdhlofcdcnjgaaGreat
set_option maxRecDepth 100000
open Go.ChangeShapes Go.WideShapes Go.ChangeAt Go.RowKit Go.PlainAid Go.Shelf
attribute [local go_sem] Oper.semAt_some

namespace KA
/-- The blocks that a cache has. -/
def OwnC (p : Nat) (w : World) (b : Nat) : Prop := b = p ∨ ∃ m v, w.heap[p]? = some (.cells #[m, v] 161 (0, 0)) ∧ v.ownBlock = some b
/-- All cells that aren't the cache's are as they were. -/
def KpF (p : Nat) (A B : World) : Prop := ∀ b cs t fr, A.heap[b]? = some (.cells cs t fr) → ¬ OwnC p A b → B.heap[b]? = some (.cells cs t fr) ∧ ¬ OwnC p B b
theorem KpF.trans {p : Nat} {A B C : World} (h : KpF p A B) (h' : KpF p B C) : KpF p A C := fun b cs t fr hb ho => by
  obtain ⟨h1, h2⟩ := h b cs t fr hb ho
  exact h' b cs t fr h1 h2
theorem KpF.refl (p : Nat) (A : World) : KpF p A A := fun _ _ _ _ hb ho => ⟨hb, ho⟩
theorem ownC_of {p : Nat} {A B : World} {b : Nat} (h : B.heap[p]? = A.heap[p]?) (ho : ¬ OwnC p A b) : ¬ OwnC p B b := by
  unfold OwnC at ho ⊢
  rw [h]
  exact ho
theorem KpF.putObj {p : Nat} {W : World} {l : Nat} {o o' : Obj} (hp : l ≠ p) (hl : W.heap[l]? = some o) (hc : o.isCells = false) : KpF p W (W.putObj l o') := fun b cs t fr hb ho =>
  ⟨(World.putObj_heap_other (fun e => by subst e; rw [hl] at hb; cases hb; cases hc)).trans hb, ownC_of (World.putObj_heap_other (fun e => hp e.symm)) ho⟩
/-- All that a cache doesn't have is known beside it. -/
theorem CaT.all {w0 : World} {p : Nat} {most : Int} {L : List E} {X : List (Nat × Obj)} {w : World} (h : CaT w0 p most L X w) : ∃ Y, CaT w0 p most L Y w ∧ (∀ x ∈ X, x ∈ Y) ∧ ∀ b o, w.heap[b]? = some o → ¬ OwnC p w b → (b, o) ∈ Y := by
  classical
  obtain ⟨h1, h2, ⟨v, h3, h4, h5, h6⟩, h7⟩ := h
  have hn : ∀ b o, (b, o) ∈ held w ((List.range w.heap.size).filter fun b => decide (¬ OwnC p w b)) → w.heap[b]? = some o ∧ ¬ OwnC p w b := fun b o hb => by
    obtain ⟨a, c⟩ := mem_held.1 hb
    exact ⟨c, by simpa using (List.mem_filter.1 a).2⟩
  refine ⟨X ++ held w ((List.range w.heap.size).filter fun b => decide (¬ OwnC p w b)), ⟨h1, h2, ⟨v, h3, h4, h5, fun b o hb => ?_⟩, fun b o hb => ?_⟩, fun x hx => List.mem_append_left _ hx, fun b o hb ho => ?_⟩
  · rcases List.mem_append.1 hb with hb | hb
    · exact h6 b o hb
    · intro e
      exact (hn b o hb).2 (.inr ⟨_, v, h3, e⟩)
  · rcases List.mem_append.1 hb with hb | hb
    · exact h7 b o hb
    · exact ⟨(hn b o hb).1, fun e => (hn b o hb).2 (.inl e)⟩
  · refine List.mem_append_right _ (mem_held.2 ⟨List.mem_filter.2 ⟨List.mem_range.2 (heap_lt hb), by simpa using ho⟩, hb⟩)
theorem CaT.kept {w0 : World} {p : Nat} {most : Int} {L : List E} {Y : List (Nat × Obj)} {w : World} (h : CaT w0 p most L Y w) {b : Nat} {o : Obj} (hb : (b, o) ∈ Y) : w.heap[b]? = some o ∧ ¬ OwnC p w b := by
  obtain ⟨h1, h2, ⟨v, h3, h4, h5, h6⟩, h7⟩ := h
  refine ⟨(h7 b o hb).1, ?_⟩
  rintro (e | ⟨m, u, hu, e⟩)
  · exact (h7 b o hb).2 e
  · rw [h3] at hu
    injection hu with hu
    injection hu with hu
    have : v = u := by have h9 := congrArg (fun a : Array Value => a.toList) hu; simp at h9; exact h9.2
    subst this
    exact h6 b o hb e
set_option maxHeartbeats 1000000 in
theorem drop_sized {w0 : World} {p : Nat} {most : Int} {L : List E} {R : List (Nat × Obj)} {w : World} (h : CaT w0 p most L R w) (k : Int) (hl : L.length ≤ 4096) :
    Calls Tryz.prog 70 #[.pointer (some ⟨p, 0, none⟩), .int .i64 k] w (fun e w' => DropPost w0 p most L R k e w' ∧ w.heap.size ≤ w'.heap.size) := by
  have H := Lib.hid h
  have hF := Lib.hid (find_any h k hl)
  clear h
  go_enter Tryz.func70, Tryz.ntmps70
  go_wp2_with fail
  refine hF.out.mono ?_
  rintro e w1 (⟨i, x, hx, hk, hpos, rfl, hb⟩ | ⟨hno, rfl, hb⟩)
  · have hil := (List.getElem?_eq_some_iff.1 hx).1
    have h1 := H.out.on hb
    have HZ := Lib.hid hb.size
    obtain ⟨v, hp, hr, _⟩ := h1.row
    obtain ⟨g, cap, cur, rfl, _⟩ := hr.block (by omega)
    have hu := (box_cells hp).2.1
    have hw : IntKind.i64.wrap ((i : Int) + 1) = (i : Int) + 1 := IntWalk.i64_in _ (by omega)
    have HD := Lib.hid fun w (hr : RowE cE 178 w0.heap.size w (.slice (some ⟨g, 0, none⟩) L.length cap) L) => delete_any w0.heap.size g L.length cap i L w hr hil hl
    have HR1 : Hid (decide (posK k L < L.length) = true ∧ dropL k L = L.eraseIdx i) := by
      refine Lib.hid ?_
      unfold dropL
      rw [hpos, if_pos hil]
      exact ⟨decide_eq_true hil, rfl⟩
    have H1 := Lib.hid h1
    have HP := Lib.hid hp
    have HROW := Lib.hid hr
    clear hF hx hk hpos H hb h1 hr hp
    go_wp2_with fail
    refine (HD.out _ HROW.out).mono ?_
    rintro e w2 ⟨rfl, hr2, hb2, ho2⟩
    obtain ⟨c2, f2, h2⟩ := H1.out.deleted HP.out hr2 hb2 ho2
    have H2 := Lib.hid h2
    have HZ2 := Lib.hid (Nat.le_trans HZ.out hb2.size)
    clear h2 hr2 hb2 ho2 HD
    go_wp2
    go_returns
    unfold DropPost
    rw [HR1.out.1, HR1.out.2]
    exact ⟨⟨rfl, H2.out⟩, by simpa using HZ2.out⟩
  · have H1 := Lib.hid (H.out.on hb)
    have HZ := Lib.hid hb.size
    have HR1 : Hid (decide (posK k L < L.length) = false ∧ dropL k L = L) := by
      refine Lib.hid ?_
      unfold dropL
      rw [if_neg hno]
      exact ⟨decide_eq_false hno, rfl⟩
    clear hF hno H hb
    go_wp2
    go_returns
    unfold DropPost
    rw [HR1.out.1, HR1.out.2]
    exact ⟨⟨rfl, H1.out⟩, HZ.out⟩
/-- Drop leaves all else as it was. -/
theorem drop_kp {w0 : World} {p : Nat} {most : Int} {L : List E} {X : List (Nat × Obj)} {w : World} (h : CaT w0 p most L X w) (k : Int) (hl : L.length ≤ 4096) :
    Calls Tryz.prog 70 #[.pointer (some ⟨p, 0, none⟩), .int .i64 k] w fun e w' => e = .returned (.bool (decide (posK k L < L.length))) ∧ CaT w0 p most (dropL k L) X w' ∧ KpF p w w' ∧ (∀ b o, w.heap[b]? = some o → ¬ OwnC p w b → w'.heap[b]? = some o) ∧ w.heap.size ≤ w'.heap.size := by
  obtain ⟨Y, hY, hXY, hall⟩ := h.all
  refine (drop_sized hY k hl).mono ?_
  rintro e w' ⟨⟨he, h'⟩, hz⟩
  exact ⟨he, h'.sub fun b o hb => hXY _ hb, fun b cs t fr hb ho => h'.kept (hall b _ hb ho), fun b o hb ho => (h'.kept (hall b _ hb ho)).1, hz⟩
/-- What lies where a cache's blocks are. -/
theorem CaT.typ {w0 : World} {p : Nat} {most : Int} {L : List E} {X : List (Nat × Obj)} {w : World} (h : CaT w0 p most L X w) {b : Nat} {o : Obj} (hb : w.heap[b]? = some o) (ho : OwnC p w b) : (∃ cs, o = .cells cs 161 (0, 0)) ∨ ∃ cs, o = .cells cs 178 (0, 0) := by
  obtain ⟨h1, h2, ⟨v, h3, h4, h5, h6⟩, h7⟩ := h
  rcases ho with rfl | ⟨m, u, hu, e⟩
  · rw [h3] at hb
    exact .inl ⟨_, (Option.some.inj hb).symm⟩
  · rw [h3] at hu
    injection hu with hu
    injection hu with hu
    have : v = u := by have h9 := congrArg (fun a : Array Value => a.toList) hu; simp at h9; exact h9.2
    subst this
    rcases h4.2 with ⟨hv, _⟩ | ⟨g, cap, cur, hv, _, hg, _⟩
    · rw [hv] at e; cases e
    · rw [hv] at e
      have : g = b := by simpa [Value.ownBlock] using e
      subst this
      rw [hg] at hb
      exact .inr ⟨_, (Option.some.inj hb).symm⟩
/-- A cache in a world that has grown, or of which another kind of block has changed. -/
theorem CaT.grown {w0 : World} {p : Nat} {most : Int} {L : List E} {Y : List (Nat × Obj)} {X X' : World} {row : Option Nat} (h : CaT w0 p most L Y X) (hg : X.grownBy X' row) (hr : ∀ r, row = some r → w0.heap.size ≤ r ∧ (∃ o : Obj, X.heap[r]? = some o ∧ o.isCells = false) ∧ ∀ y ∈ Y, y.1 ≠ r) : CaT w0 p most L Y X' := by
  obtain ⟨h1, h2, ⟨v, h3, h4, h5, h6⟩, h7⟩ := h
  have hk : ∀ b (o : Obj), X.heap[b]? = some o → o.isCells = true → X'.heap[b]? = some o := fun b o hb hc => (hg.block b (heap_lt hb) (fun e => by
    obtain ⟨_, ⟨o2, ho2, hc2⟩, _⟩ := hr b e.symm
    rw [hb] at ho2
    cases ho2
    rw [hc] at hc2
    cases hc2)).trans hb
  refine ⟨h1.grown hg h1.size (fun k e => (hr k e).1), h2, ⟨v, hk _ _ h3 rfl, ⟨h4.1, ?_⟩, h5, h6⟩, fun b o hb => ⟨(hg.block b (heap_lt (h7 b o hb).1) (fun e => ?_)).trans (h7 b o hb).1, (h7 b o hb).2⟩⟩
  · rcases h4.2 with hv | ⟨g, cap, cur, hv, hlo, hg2, rest⟩
    · exact .inl hv
    · exact .inr ⟨g, cap, cur, hv, hlo, hk _ _ hg2 rfl, rest⟩
  · exact (hr b e.symm).2.2 (b, o) hb rfl
/-- Pairs of a list of entries. -/
def prs (L : List E) : List (Int × ByteArray) := L.map fun e => (e.key, e.val)
theorem prs_len (L : List E) : (prs L).length = L.length := List.length_map _
theorem prs_take {L : List E} {i : Nat} {e : E} (h : L[i]? = some e) : (prs L).take (i + 1) = (prs L).take i ++ [(e.key, e.val)] := by
  rw [List.take_add_one]
  unfold prs
  rw [List.getElem?_map, h]
  rfl
theorem eq_cacheP (p : Nat) : ∀ w, (binOp .eql 109 (.pointer (some ⟨p, 0, none⟩)) (.pointer none)).run Tryz.prog w = .ok (.bool false) w := fun w => by kernel_rfl
theorem eq_yieldP (l : Nat) (w : World) : (binOp .eql 218 (.func (.yield l) #[] #[]) .nilFunc).run Tryz.prog w = .ok (.bool false) w := by kernel_rfl
def encP (x : Int × ByteArray) : Array Value := #[.int .i64 x.1, .string x.2]
/-- A copy of the entries, while they are walked over. -/
def CopyAt (p : Nat) (q : Prop) (gc : Nat) (cc : Array Value) (W : World) : Prop := q → W.heap[gc]? = some (.cells cc 178 (0, 0)) ∧ ¬ OwnC p W gc
theorem CopyAt.kp {p : Nat} {q : Prop} {gc : Nat} {cc : Array Value} {A B : World} (h : CopyAt p q gc cc A) (k : KpF p A B) : CopyAt p q gc cc B := fun hq => k _ _ _ _ (h hq).1 (h hq).2
theorem CopyAt.alloc {p : Nat} {q : Prop} {gc : Nat} {cc : Array Value} {A : World} (h : CopyAt p q gc cc A) (cs : Array Value) : CopyAt p q gc cc (A.alloc (.cells cs 178)) := fun hq => by
  refine ⟨(Below.heap_alloc _ _ _ (heap_in (h hq).1)).trans (h hq).1, ?_⟩
  rintro (e | ⟨m, v, hv, e⟩)
  · exact (h hq).2 (.inl e)
  · rcases Nat.lt_trichotomy p A.heap.size with c | c | c
    · exact (h hq).2 (.inr ⟨m, v, (Below.heap_alloc _ _ _ c).symm.trans hv, e⟩)
    · subst c
      rw [heap_alloc_new] at hv
      injection hv with hv
      injection hv with _ hv
      exact absurd hv (by decide)
    · have := heap_lt hv
      simp at this
      omega
set_option maxHeartbeats 2000000 in
theorem all_in (l bc : Nat) {w0 : World} {p : Nat} {most : Int} {L : List E} {X : List (Nat × Obj)} {W : World} (h : CaT w0 p most L X W) (hc : Boxed W bc 109 (.pointer (some ⟨p, 0, none⟩))) (hl : L.length ≤ 4096) (J Jx : List (Int × ByteArray) → World → Prop) (hA : AbidesFrom W.heap.size J)
    (hY : ∀ pre x W1, J pre W1 → pre.length < L.length → YieldAt Fence.wide 7 Tryz.prog l (encP x) W1 fun e W' =>
      (e = .returned (.bool true) ∧ J (pre ++ [x]) W' ∧ KpF p W1 W') ∨ (e = .returned (.bool false) ∧ Jx (pre ++ [x]) W')) (h0 : J [] W) :
    CallsIn Fence.wide 8 Tryz.prog 163 #[.func (.yield l) #[] #[], .pointer (some ⟨bc, 0, none⟩)] W fun e W' => (∃ v, e = .returned v) ∧
      ((∃ ys, ys = prs L ∧ J ys W') ∨ (∃ pre : List (Int × ByteArray), True ∧ Jx pre W')) := by
  obtain ⟨u, hp, hr, _⟩ := h.row
  have hu := (box_cells hp).2.1
  have hb := hc.cell
  have HC := Lib.hid (clone_any hr hl)
  have HY := Lib.hid hY
  have HA := Lib.hid hA
  have HJ := Lib.hid h0
  have HO : Hid (∀ b, OwnC p W b → b < W.heap.size) := Lib.hid fun b ho => by
    rcases ho with rfl | ⟨m, v, hv, e⟩
    · exact heap_lt hp
    · rw [hp] at hv
      injection hv with hv
      injection hv with hv
      have : u = v := by have h9 := congrArg (fun a : Array Value => a.toList) hv; simp at h9; exact h9.2
      subst this
      rcases hr.2 with ⟨hv, _⟩ | ⟨g, cap, cur, hv, _, hg, _⟩
      · rw [hv] at e; cases e
      · rw [hv] at e
        have : g = b := by simpa [Value.ownBlock] using e
        subst this
        exact heap_lt hg
  have HPS := Lib.hid (heap_lt hp)
  have hy := eq_yieldP l
  have heq := eq_cacheP p
  clear h hY hA h0 hc hp hr
  refine callsIn_of_wp Tryz.func163 rfl trivial ?_ rfl
  simp only [Tryz.ntmps163, List.size_toArray, List.length_cons, List.length_nil, Nat.reduceAdd, Nat.reduceSub, Array.replicate_succ, Array.replicate_zero, List.push_toArray, List.append_toArray, List.nil_append, List.cons_append]
  gi_wp2_with fail
  refine ⟨trivial, (callsIn_wide.2 HC.out).mono ?_⟩
  rintro e w1 ⟨v', rfl, hrow, hb1⟩
  obtain ⟨ao, n, cap, gc, cc, rfl, hnl, hext⟩ : ∃ ao n cap gc cc, v' = .slice ao n cap ∧ n = L.length ∧ (0 < L.length → ao = some ⟨gc, 0, none⟩ ∧ W.heap.size ≤ gc ∧ w1.heap[gc]? = some (.cells cc 178 (0, 0)) ∧ cc.toList.take (L.length * 3) = flat cE L) := by
    rcases hrow.2 with ⟨hv, h0⟩ | ⟨g, cap, cur, hv, hlo, hg, _, _, _, ht⟩
    · exact ⟨none, 0, 0, 0, #[], hv, h0.symm, fun h => by omega⟩
    · exact ⟨_, _, cap, g, cur, hv, rfl, fun _ => ⟨rfl, hlo, hg, ht⟩⟩
  subst hnl
  have HX : Hid (0 < L.length → ao = some ⟨gc, 0, none⟩ ∧ cc.toList.take (L.length * 3) = flat cE L) := Lib.hid fun h => ⟨(hext h).1, (hext h).2.2.2⟩
  have H1 : Hid (J ((prs L).take 0) w1) := Lib.hid (HA.out [] W w1 none HJ.out ⟨hb1.os, hb1.tape, hb1.output, hb1.size, fun k hk _ => hb1.block k hk⟩ (fun r e => by cases e))
  have HCP : Hid (CopyAt p (0 < L.length) gc cc w1) := Lib.hid fun hq => ⟨(hext hq).2.2.1, ownC_of (hb1.block p HPS.out) (fun ho => by have := HO.out gc ho; have := (hext hq).2.1; omega)⟩
  clear hrow hb1 hext HC hb hu HJ HO HPS
  gi_wp2
  gi_loopw [17] (fun i wr => ∃ k : Nat, k ≤ L.length ∧ i = .int .i64 k ∧ J ((prs L).take k) wr ∧ CopyAt p (0 < L.length) gc cc wr) (fun i _ => L.length - (intOf i).toNat)
  case atStart => exact ⟨0, Nat.zero_le _, rfl, H1.out, HCP.out⟩
  case round =>
    obtain ⟨k, hk, rfl, hJ, hC⟩ := hrel
    have HJ := Lib.hid hJ
    have HCP := Lib.hid hC
    clear hJ hC H1
    by_cases hlt : k < L.length
    · obtain ⟨x, hx⟩ : ∃ x, L[k]? = some x := ⟨_, List.getElem?_eq_getElem hlt⟩
      obtain ⟨rfl, ht⟩ := HX.out (by omega)
      have hg := (HCP.out (by omega)).1
      have key : ∀ j, j < 3 → wr.cell? ⟨gc, k * 3 + j, none⟩ = (cE x)[j]? := fun j hj => by
        rw [cell_of_row _ _ _ _ _ _ hg, ← flat_at three hx j hj, ← ht, List.getElem?_take_of_lt (by omega), Array.getElem?_toList]
      have e0 : wr.cell? ⟨gc, k * 3, none⟩ = some (.int .i64 x.key) := key 0 (by omega)
      have e1 : wr.cell? ⟨gc, k * 3 + 1, none⟩ = some (.string x.val) := key 1 (by omega)
      have e2 : wr.cell? ⟨gc, k * 3 + 2, none⟩ = some (.int .i64 (x.pins : Int)) := key 2 (by omega)
      have HT := Lib.hid (prs_take hx)
      have hlen : ((prs L).take k).length < L.length := by rw [List.length_take, prs_len]; omega
      have HJ2 := HA.out _ _ _ none HJ.out (World.grownBy_alloc wr (.cells #[.int .i64 x.key, .string x.val, .int .i64 (x.pins : Int)] 178) none) (fun r e => by cases e)
      have HC2 := Lib.hid (HCP.out.alloc #[.int .i64 x.key, .string x.val, .int .i64 (x.pins : Int)])
      obtain ⟨fn, tmps, assign, body, hyy, hR⟩ := HY.out ((prs L).take k) (x.key, x.val) _ HJ2 hlen
      unfold encP at hyy
      have HR := Lib.hid hR
      clear key hg ht hx hR HJ2 hlen HJ HCP
      gi_wp2
      refine HR.out.mono ?_
      rintro e W3 (⟨rfl, hJ3, hk3⟩ | ⟨rfl, hJx3⟩)
      · have HJ3 := Lib.hid hJ3
        have HC3 := Lib.hid (HC2.out.kp hk3)
        clear hk3 hJ3
        gi_wp2
        go_roundw
        case rel => exact ⟨k + 1, by omega, by go_num, by rw [HT.out]; exact HJ3.out, HC3.out⟩
        case measure => simp [intOf]; omega
      · have HJ3 := Lib.hid hJx3
        clear hJx3
        gi_wp2
        refine bodyPost_ret (results_none rfl _ _ _) rfl ?_
        exact ⟨⟨_, rfl⟩, .inr ⟨_, trivial, HJ3.out⟩⟩
    · obtain rfl : k = L.length := by omega
      gi_wp2
      go_end0
      exact ⟨⟨_, rfl⟩, .inl ⟨_, rfl, by rw [show prs L = (prs L).take L.length from (List.take_of_length_le (by rw [prs_len]; exact Nat.le_refl _)).symm]; exact HJ.out⟩⟩
theorem all_stops (bc : Nat) {w0 : World} {p : Nat} {most : Int} {L : List E} {X : List (Nat × Obj)} {w : World} (h : CaT w0 p most L X w) (hc : Boxed w bc 109 (.pointer (some ⟨p, 0, none⟩))) (hl : L.length ≤ 4096) :
    SeqStopsK Fence.wide 8 Tryz.prog 163 #[.pointer (some ⟨bc, 0, none⟩)] encP (KpF p) (fun ys => ys = prs L) (fun _ => True) L.length w := fun l J Jx _ hW hA _ hY h0 =>
  all_in l bc (h.on hW) ((hW.block bc hc.lt).trans hc) hl J Jx hA hY h0
end KA
end Go.Proofs.YtkdhlofcdcnjgaaGreat
namespace Go.Proofs.YtkdhlofcdcnjgaaGreat
set_option maxRecDepth 100000
open Go.ChangeShapes Go.WideShapes Go.ChangeAt Go.RowKit Go.PlainAid Go.Shelf
attribute [local go_sem] Oper.semAt_some

section
variable {w0 w w' : World} {pp c : Nat} {S : Sto} {R : List (Nat × Obj)}
/-- What stands at hand while pages are forgotten. -/
def Forgets (w0 : World) (S : Sto) (Y : List (Nat × Obj)) (W : World) : Prop := ∃ M, Kept S M ∧ KA.CaT w0 S.hc 32 M Y W
theorem Kept.dropAll {L : List KA.E} (h : Kept S L) (k : Int) : Kept S (KA.dropL k L) := h.dropSame k
set_option maxHeartbeats 2000000 in
theorem pforget_any (H : Pag w0 pp S c R w) :
    Calls Tryz.prog 118 #[.pointer (some ⟨pp, 0, none⟩)] w fun e w' => e = .returned (.tuple #[]) ∧ Pag w0 pp S c R w' := by
  obtain ⟨W1, hW1⟩ : ∃ x, w.alloc (.cells #[.pointer (some ⟨pp, 0, none⟩)] 25) = x := ⟨_, rfl⟩
  obtain ⟨W2, hW2⟩ : ∃ x, W1.alloc (.cells #[.pointer (some ⟨S.hc, 0, none⟩)] 109) = x := ⟨_, rfl⟩
  have hb1 : Below w.heap.size w W1 := by rw [← hW1]; go_grown
  have hb2 : Below W1.heap.size W1 W2 := by rw [← hW2]; go_grown
  have q1 : Boxed W1 w.heap.size 25 (.pointer (some ⟨pp, 0, none⟩)) := by rw [← hW1]; exact Boxed.new w _ _
  have q2 : Boxed W2 W1.heap.size 109 (.pointer (some ⟨S.hc, 0, none⟩)) := by rw [← hW2]; exact Boxed.new W1 _ _
  obtain ⟨hO, L, hK, hP⟩ := (H.on hb1).on hb2
  obtain ⟨X, hC, hback⟩ := hP.cache
  obtain ⟨Y, hY, hXY, hall⟩ := hC.all
  have hp1 := hP.at
  have q1' := (hb2.block _ q1.lt).trans q1
  have hYp : (pp, pagerO S.q S.hc) ∈ Y := hall _ _ hp1 fun ho => by
    rcases hC.typ hp1 ho with ⟨cs, e⟩ | ⟨cs, e⟩ <;> (unfold pagerO at e; injection e with _ e; exact absurd e (by decide))
  have hYb : (w.heap.size, .cells #[.pointer (some ⟨pp, 0, none⟩)] 25 (0, 0)) ∈ Y := hall _ _ q1' fun ho => by
    rcases hC.typ q1' ho with ⟨cs, e⟩ | ⟨cs, e⟩ <;> (injection e with _ e; exact absurd e (by decide))
  have hYlt : ∀ y ∈ Y, y.1 < W2.heap.size := fun y hy => heap_lt (hY.known y.1 y.2 hy).1
  obtain ⟨c0, c1⟩ := pager_cells ((H.on hb1).at)
  have hbx := q1.cell
  have hI0 : Forgets w0 S Y W2 := ⟨L, hK, hY⟩
  have hL := hK.len
  have hhc : S.hc < W2.heap.size := by
    obtain ⟨v, hv, _⟩ := hC.row
    exact heap_lt hv
  have h0w : w0.heap.size ≤ W2.heap.size := hP.below.size
  have hst := KA.all_stops W1.heap.size hY q2 (by omega)
  have HB := Lib.hid (And.intro hO (And.intro hback (And.intro hXY (And.intro hYp (And.intro hYb hYlt)))))
  have HI := Lib.hid hI0
  have HST := Lib.hid hst
  have HW2 := Lib.hid hW2
  clear H hO hK hP hC hY hback hXY hall hp1 q1 q1' q2 hYp hYb hYlt hI0 hst hb1 hb2 hW2
  refine (callsIn_wide (n := 10)).1 ?_
  refine callsIn_of_wp_marks Tryz.func118 rfl trivial ?_ rfl
  simp only [Tryz.ntmps118, List.size_toArray, List.length_cons, List.length_nil, Nat.reduceAdd, Nat.reduceSub, Array.replicate_succ, Array.replicate_zero, List.push_toArray, List.append_toArray, List.nil_append, List.cons_append]
  refine wpIn_wide.2 ?_
  go_wp2_with fail
  refine (KA.mk_all _ _).mono ?_
  rintro e _ ⟨rfl, rfl⟩
  rw [HW2.out]
  go_wp2_with fail
  refine (wpIn_wide (n := 9)).1 ?_
  refine wpIn_rangeFunc_ownH (w0 := W2) rfl (by decide) (gf := 163) (lb := #[.pointer (some ⟨W1.heap.size, 0, none⟩)]) rfl trivial (enters_of Tryz.func163 (by kernel_rfl) rfl)
    HST.out (fun h k => KA.KpF.trans h k)
    (fun W l o o' hl' h1 h2 _ => KA.KpF.putObj (by omega) h1 h2) (Below.refl _ _) (fun _ => rfl)
    (fun pre W => Forgets w0 S Y W) (fun c pre W => False)
    ?own ?ownx HI.out
    (fun x a' W => a' = {
      tmps := #[Value.pointer (some { block := pp, off := 0 }), Value.pointer (some { block := w.heap.size, off := 0 }), .int .i64 x.1, Value.pointer (some { block := pp, off := 0 }), Value.pointer (some { block := pp, off := 0 }), Value.pointer (some { block := pp, off := 1 }), Value.pointer (some { block := S.hc, off := 0 }),
          Value.func (Fn.func 163) #[] #[Value.pointer (some { block := W1.heap.size, off := 0 })], .int .i64 x.1, .string x.2, undef, undef, undef, undef, undef, undef], defers := [] }) ?ownA ?assign ?body ?done ?stop
  case own =>
    rintro pre A B row ⟨M, h1, h2⟩ hgr hr
    exact ⟨M, h1, h2.grown hgr fun r e => ⟨Nat.le_trans h0w (hr r e).1, (hr r e).2, fun y hy => by have := HB.out.2.2.2.2.2 y hy; have := (hr r e).1; omega⟩⟩
  case ownx =>
    rintro c pre A B row h hgr hr
    exact h
  case ownA =>
    rintro x a' _ A B row h hgr hr
    exact h
  case assign =>
    rintro l pre x W K h1 hK
    have H1 := Lib.hid h1
    unfold KA.encP
    clear h1
    gi_wp2
    exact hK _ _ (KeepsFrom.refl _ _) (KA.KpF.refl _ _) H1.out rfl
  case body =>
    rintro l pre x _ W hl' _ ⟨M, h1, h2⟩ rfl hlt
    have k1 := (h2.known _ _ HB.out.2.2.2.1).1
    have k2 := (h2.known _ _ HB.out.2.2.2.2.1).1
    obtain ⟨c0, c1⟩ := pager_cells k1
    have hbx : W.cell? ⟨w.heap.size, 0, none⟩ = some (.pointer (some ⟨pp, 0, none⟩)) := by rw [cell_of_row _ _ _ _ _ _ k2]; rfl
    have HD := Lib.hid (KA.drop_kp h2 x.1 (by have := h1.len; omega))
    have H1 := Lib.hid (h1.dropSame x.1)
    have HT := Lib.hid fun (b : Nat) (o : Obj) (hb : W.heap[b]? = some o) (ho : o.isCells = false) => (show ¬ KA.OwnC S.hc W b from fun hh => by rcases h2.typ hb hh with ⟨cs, e⟩ | ⟨cs, e⟩ <;> (rw [e] at ho; cases ho))
    clear h1 h2 k1 k2
    gi_wp2_with fail
    refine ⟨trivial, (callsIn_wide.2 HD.out).mono ?_⟩
    rintro e W3 ⟨rfl, h3, h4, h5, h6⟩
    have H3 := Lib.hid (And.intro h3 (And.intro h4 (And.intro h5 h6)))
    clear h3 h4 h5 h6
    gi_wp2
    exact ⟨⟨H3.out.2.2.2, fun k o _ hk ho => H3.out.2.2.1 k o hk (HT.out k o hk ho)⟩, H3.out.2.1, _, H1.out, H3.out.1⟩
  case done =>
    rintro D ys W hD rfl ⟨M, h1, h2⟩ hK
    have h3 := h2.grown (grownBy_putObj' W D (.deferred none)) (fun r e => by
      cases e
      exact ⟨Nat.le_trans h0w hD, ⟨_, hK, rfl⟩, fun y hy => by have := HB.out.2.2.2.2.2 y hy; omega⟩)
    have HP : Hid (Pag w0 pp S c R (W.putObj D (.deferred none))) := Lib.hid ⟨HB.out.1, M, h1, HB.out.2.1 M _ (h3.sub fun b o hb => HB.out.2.2.1 _ hb)⟩
    have HK := Lib.hid hK
    clear h1 h2 h3 hK
    go_wp2_with fail
    refine ⟨by simp, .inl ⟨_, _, rfl, run_takeDeferred HK.out, ?_⟩⟩
    exact ⟨.tuple #[], by simp [results, Tryz.results118, go_sem], rfl, HP.out⟩
  case stop =>
    rintro D c pre W hD hSp h hK
    exact h.elim
end
end Go.Proofs.YtkdhlofcdcnjgaaGreat
namespace Go.Proofs.YtkdhlofcdcnjgaaGreat
set_option maxRecDepth 100000
open Go.ChangeShapes Go.WideShapes Go.ChangeAt Go.RowKit Go.PlainAid
open Go.Sort (grow)

/-- As many numbers rise as there are between two, at most. -/
theorem sorted_len : ∀ (l : List Int) (a b : Int), l.Pairwise (· < ·) → (∀ x ∈ l, a ≤ x ∧ x < b) → (l.length : Int) ≤ max 0 (b - a)
  | [], a, b, _, _ => by simp; omega
  | x :: t, a, b, hp, h => by
    have hx := h x List.mem_cons_self
    obtain ⟨h1, h2⟩ := List.pairwise_cons.1 hp
    have := sorted_len t (x + 1) b h2 fun y hy => by
      have := h1 y hy
      have := h y (List.mem_cons_of_mem _ hy)
      omega
    rw [List.length_cons]
    omega
section
variable {w0 w w' : World} {pp c : Nat} {S : Sto} {L : List KA.E} {R : List (Nat × Obj)}
theorem pended_no (H : Pag w0 pp S c R w) (x : Int) (hx : x ≠ 0) :
    Calls Tryz.prog 71 #[.pointer (some ⟨pp, 0, none⟩), .int .i64 x] w fun e w' => e = .returned (.int .i64 x) ∧ Pag w0 pp S c R w' := by
  have HF := Lib.hid (pforget_any H)
  have hz : (x == 0) = false := by simpa using hx
  clear H
  go_enter Tryz.func71, Tryz.ntmps71
  go_wp2_with fail
  refine HF.out.mono ?_
  rintro e w1 ⟨rfl, H1⟩
  have H1' := Lib.hid H1
  clear H1 HF
  go_wp2
  go_returns
  exact ⟨rfl, H1'.out⟩
theorem pwrite_big (H : Pag w0 pp S c R w) (k : Int) (s : ByteArray) (h0 : 0 ≤ k) (h1 : k < S.h.pages) (hs : 256 < s.size) (hs2 : s.size ≤ 2000) (hc : c < 1000000) :
    Calls Tryz.prog 33 #[.pointer (some ⟨pp, 0, none⟩), .int .i64 k, .string s] w fun e w' => e = .returned (.int .i64 21) ∧ Pag w0 pp S (c + 1) R w' := by
  obtain ⟨hO, L, hK, hP⟩ := H
  have HO := Lib.hid hO
  have HK := Lib.hid (hK.dropSame k)
  have HD := Lib.hid (hP.drop k hK.len)
  have hpg := hO.wf.pages
  obtain ⟨c0, c1⟩ := pager_cells hP.at
  clear hP hO hK
  go_enter Tryz.func33, Tryz.ntmps33
  go_wp2_with fail
  refine HD.out.mono ?_
  rintro e w1 ⟨rfl, H1⟩
  clear c0 c1 HD
  obtain ⟨c0, c1⟩ := pager_cells H1.at
  have hW := H1.swrite k s (by omega) (by omega) (by unfold maxLen; omega) hc
  rw [show swriteE S.h k s = 21 by unfold swriteE; rw [if_neg (by omega), if_pos hs], show swriteT S.h S.T k s = S.T by unfold swriteT; rw [if_pos (by omega)]] at hW
  have HW := Lib.hid hW
  clear H1 hW
  go_wp2_with fail
  refine HW.out.mono ?_
  rintro e w2 ⟨rfl, H2⟩
  have HE := Lib.hid (pended_no (S := S) ⟨HO.out, _, HK.out, H2⟩ 21 (by decide))
  clear H2 HW c0 c1
  go_wp2_with fail
  refine HE.out.mono ?_
  rintro e w3 ⟨rfl, H3⟩
  have H3' := Lib.hid H3
  clear H3 HE
  go_wp2
  go_returns
  exact ⟨rfl, H3'.out⟩
theorem pset_big (H : Pag w0 pp S c R w) (k : Int) (s : ByteArray) (b0 : -9223372036854775808 ≤ k) (b1 : k ≤ 9223372036854775807) (hp : 0 < S.h.pages) (hs : 256 < s.size) (hs2 : s.size ≤ 2000) (hc : c < 1000000) (hk : outB S.h.pages (S.at 0) k = true) :
    Calls Tryz.prog 9 #[.pointer (some ⟨pp, 0, none⟩), .int .i64 k, .string s] w fun e w' => e = .returned (.int .i64 21) ∧ Pag w0 pp S (c + 1) R w' := by
  have HO := Lib.hid (pout_yes H k b0 b1 hp hk)
  have hk2 : 0 ≤ k ∧ k < S.h.pages := by
    unfold outB at hk
    simp only [Bool.and_eq_true, decide_eq_true_eq] at hk
    omega
  clear H hk
  go_enter Tryz.func9, Tryz.ntmps9
  go_wp2_with fail
  refine HO.out.mono ?_
  rintro e w1 ⟨rfl, H1⟩
  have HR := Lib.hid (pwrite_big H1 k s hk2.1 hk2.2 hs hs2 hc)
  clear H1 HO
  go_wp2_with fail
  refine HR.out.mono ?_
  rintro e w4 ⟨rfl, H4⟩
  have H4' := Lib.hid H4
  clear H4 HR
  go_wp2
  go_returns
  exact ⟨rfl, H4'.out⟩
end
end Go.Proofs.YtkdhlofcdcnjgaaGreat
namespace Go.Proofs.YtkdhlofcdcnjgaaGreat
set_option maxRecDepth 100000
open Go.ChangeShapes Go.WideShapes Go.ChangeAt Go.RowKit Go.PlainAid
open Go.Sort (grow)

def blankP : Obj := .cells #[.pointer none, .pointer none] 113 (0, 0)
/-- The value is no pager: nil, or a zero value. -/
def NoPager (w : World) (v : Value) : Prop := v = .pointer none ∨ ∃ q, v = .pointer (some ⟨q, 0, none⟩) ∧ w.heap[q]? = some blankP
theorem NoPager.on {w w' : World} {v : Value} (h : NoPager w v) (b : Below w.heap.size w w') : NoPager w' v := by
  rcases h with h | ⟨q, h1, h2⟩
  · exact .inl h
  · exact .inr ⟨q, h1, (b.block q (heap_lt h2)).trans h2⟩
theorem pmade_no (w : World) (v : Value) (h : NoPager w v) :
    Calls Tryz.prog 54 #[v] w fun e w' => e = .returned (.bool false) ∧ w = w' := by
  rcases h with rfl | ⟨q, rfl, hq⟩
  · go_enter Tryz.func54, Tryz.ntmps54
    go_wp2
    go_returns
    exact ⟨rfl, rfl⟩
  · have c0 : w.cell? ⟨q, 0, none⟩ = some (.pointer none) := by unfold blankP at hq; rw [cell_of_row _ _ _ _ _ _ hq]; rfl
    clear hq
    go_enter Tryz.func54, Tryz.ntmps54
    go_wp2
    go_returns
    exact ⟨rfl, rfl⟩
theorem pread_no (w : World) (v : Value) (k : Int) (h : NoPager w v) :
    Calls Tryz.prog 64 #[v, .int .i64 k] w fun e w' => e = .returned (.tuple #[.string ⟨#[]⟩, .int .i64 3]) ∧ w = w' := by
  go_enter Tryz.func64, Tryz.ntmps64
  go_wp2_with fail
  refine (pmade_no _ v h).mono ?_
  rintro e _ ⟨rfl, rfl⟩
  go_wp2
  go_returns
  exact ⟨rfl, rfl⟩
theorem pout_nil (w : World) (v : Value) (k : Int) (h : NoPager w v) :
    Calls Tryz.prog 32 #[v, .int .i64 k] w fun e w' => e = .returned (.tuple #[.string ⟨#[]⟩, .int .i64 3]) ∧ w = w' := by
  go_enter Tryz.func32, Tryz.ntmps32
  go_wp2_with fail
  refine (pread_no _ v 0 h).mono ?_
  rintro e _ ⟨rfl, rfl⟩
  go_wp2
  go_returns
  exact ⟨rfl, rfl⟩
theorem palloc_nil (w : World) (v : Value) (h : NoPager w v) :
    Calls Tryz.prog 60 #[v] w fun e w' => e = .returned (.tuple #[.int .i64 0, .int .i64 3]) ∧ w = w' := by
  go_enter Tryz.func60, Tryz.ntmps60
  go_wp2_with fail
  refine (pread_no _ v 0 h).mono ?_
  rintro e _ ⟨rfl, rfl⟩
  go_wp2
  go_returns
  exact ⟨rfl, rfl⟩
theorem pfree_nil (w : World) (v : Value) (k : Int) (h : NoPager w v) :
    Calls Tryz.prog 124 #[v, .int .i64 k] w fun e w' => e = .returned (.int .i64 3) ∧ w = w' := by
  go_enter Tryz.func124, Tryz.ntmps124
  go_wp2_with fail
  refine (pout_nil _ v k h).mono ?_
  rintro e _ ⟨rfl, rfl⟩
  go_wp2
  go_returns
  exact ⟨rfl, rfl⟩
theorem pget_nil (w : World) (v : Value) (k : Int) (h : NoPager w v) :
    Calls Tryz.prog 119 #[v, .int .i64 k] w fun e w' => e = .returned (.tuple #[.string ⟨#[]⟩, .int .i64 3]) ∧ w = w' := by
  go_enter Tryz.func119, Tryz.ntmps119
  go_wp2_with fail
  refine (pout_nil _ v k h).mono ?_
  rintro e _ ⟨rfl, rfl⟩
  go_wp2
  go_returns
  exact ⟨rfl, rfl⟩
theorem pset_nil (w : World) (v : Value) (k : Int) (s : ByteArray) (h : NoPager w v) :
    Calls Tryz.prog 9 #[v, .int .i64 k, .string s] w fun e w' => e = .returned (.int .i64 3) ∧ w = w' := by
  go_enter Tryz.func9, Tryz.ntmps9
  go_wp2_with fail
  refine (pout_nil _ v k h).mono ?_
  rintro e _ ⟨rfl, rfl⟩
  go_wp2
  go_returns
  exact ⟨rfl, rfl⟩
theorem ptree_nil (w : World) (v : Value) (k : Int) (h : NoPager w v) :
    Calls Tryz.prog 88 #[v, .int .i64 k] w fun e w' => e = .returned (.int .i64 3) ∧ w = w' := by
  go_enter Tryz.func88, Tryz.ntmps88
  go_wp2_with fail
  refine (pmade_no _ v h).mono ?_
  rintro e _ ⟨rfl, rfl⟩
  go_wp2
  go_returns
  exact ⟨rfl, rfl⟩
theorem proot_nil (w : World) (v : Value) (k : Int) (h : NoPager w v) :
    Calls Tryz.prog 45 #[v, .int .i64 k] w fun e w' => e = .returned (.tuple #[.int .i64 0, .int .i64 3]) ∧ w = w' := by
  go_enter Tryz.func45, Tryz.ntmps45
  go_wp2_with fail
  refine (ptree_nil _ v k h).mono ?_
  rintro e _ ⟨rfl, rfl⟩
  go_wp2
  go_returns
  exact ⟨rfl, rfl⟩
theorem psetroot_nil (w : World) (v : Value) (k j : Int) (h : NoPager w v) :
    Calls Tryz.prog 62 #[v, .int .i64 k, .int .i64 j] w fun e w' => e = .returned (.int .i64 3) ∧ w = w' := by
  go_enter Tryz.func62, Tryz.ntmps62
  go_wp2_with fail
  refine (ptree_nil _ v k h).mono ?_
  rintro e _ ⟨rfl, rfl⟩
  go_wp2
  go_returns
  exact ⟨rfl, rfl⟩
theorem proom_nil (w : World) (v : Value) (h : NoPager w v) :
    Calls Tryz.prog 29 #[v] w fun e w' => e = .returned (.int .i64 0) ∧ w = w' := by
  go_enter Tryz.func29, Tryz.ntmps29
  go_wp2_with fail
  refine (pread_no _ v 0 h).mono ?_
  rintro e _ ⟨rfl, rfl⟩
  go_wp2
  go_returns
  exact ⟨rfl, rfl⟩
theorem pformat_nil (w : World) (v : Value) (h : NoPager w v) :
    Calls Tryz.prog 24 #[v] w fun e w' => e = .returned (.int .i64 3) ∧ w = w' := by
  go_enter Tryz.func24, Tryz.ntmps24
  go_wp2_with fail
  refine (pmade_no _ v h).mono ?_
  rintro e _ ⟨rfl, rfl⟩
  go_wp2
  go_returns
  exact ⟨rfl, rfl⟩
theorem pnew_nil (w : World) :
    Calls Tryz.prog 23 #[.pointer none] w fun e w' => e = .returned (.tuple #[.pointer none, .int .i64 3]) ∧ w = w' := by
  have hn : NoStore w (.pointer none) := .inl rfl
  have HN := Lib.hid (sread_no w (.pointer none) 0 hn)
  clear hn
  go_enter Tryz.func23, Tryz.ntmps23
  go_wp2_with fail
  refine HN.out.mono ?_
  rintro e _ ⟨rfl, rfl⟩
  go_wp2
  go_returns
  exact ⟨rfl, rfl⟩
end Go.Proofs.YtkdhlofcdcnjgaaGreat
