/- Package pager: blocks beside a pager: added, changed, forgotten; a slice of numbers beside it. A set of numbers, as a map of bools in memory. The lists of texts, and of numbers, that a law of package pager is called with, as plain data. -/
import Derived.Test.YtcoebinljdjemaaGQ
import Derived.Test.YtcoebinljdjemaaGN
import Derived.Test.YtcoebinljdjemaaGL
import Derived.Maps.OwnSet
import Derived.Test.YtcoebinljdjemaaRows
import Derived.Test.YtcoebinljdjemaaGA
import Derived.Deep.Slices
import Derived.Deep.Fields
import Derived.ChangeSame
namespace Go.Proofs.Ytcoebinljdjemaa
set_option maxRecDepth 100000
open Go.ChangeShapes Go.WideShapes Go.ChangeAt Go.RowKit Go.PlainAid
open Go.Sort (grow)
open Go.ChangeMaps Go.MapKept

section
variable {w0 w w' : World} {pp n c : Nat} {S : Sto} {V : Int → ByteArray} {L : List KA.E} {R : List (Nat × Obj)}
theorem Pgl.sub (H : Pgl w0 pp S c L R w) (R' : List (Nat × Obj)) (hs : ∀ x ∈ R', x ∈ R) : Pgl w0 pp S c L R' w := by
  obtain ⟨CB, h1, h2, h3⟩ := H
  refine ⟨CB, h1, h2.sub _ fun x hx => ?_, fun b o o' hb => h3 b o o' ?_⟩
  · rcases List.mem_append.1 hx with hx | hx
    · exact List.mem_append_left _ hx
    · rcases List.mem_cons.1 hx with rfl | hx
      · exact List.mem_append_right _ List.mem_cons_self
      · exact List.mem_append_right _ (List.mem_cons_of_mem _ (hs x hx))
  · rcases List.mem_cons.1 hb with hb | hb
    · rw [hb]; exact List.mem_cons_self
    · exact List.mem_cons_of_mem _ (hs _ hb)
/-- A new block beside it. -/
theorem Pgl.add {g : Nat} {o : Obj} (H : Pgl w0 pp S c L R w) (b : Below w.heap.size w w') (hg : w.heap.size ≤ g) (ho : w'.heap[g]? = some o) : Pgl w0 pp S c L ((g, o) :: R) w' := by
  obtain ⟨CB, h1, h2, h3⟩ := H
  have h4 := h2.add b hg ho
  refine ⟨CB, h1, h4.sub _ fun x hx => ?_, fun b' o1 o2 hb hc => ?_⟩
  · rcases List.mem_append.1 hx with hx | hx
    · exact List.mem_cons_of_mem _ (List.mem_append_left _ hx)
    · rcases List.mem_cons.1 hx with rfl | hx
      · exact List.mem_cons_of_mem _ (List.mem_append_right _ List.mem_cons_self)
      · rcases List.mem_cons.1 hx with rfl | hx
        · exact List.mem_cons_self
        · exact List.mem_cons_of_mem _ (List.mem_append_right _ (List.mem_cons_of_mem _ hx))
  · have hlt := heap_lt (h2.mem (x := (b', o2)) (List.mem_append_left _ hc))
    rcases List.mem_cons.1 hb with hb | hb
    · cases hb
      exact h3 _ _ o2 List.mem_cons_self hc
    · rcases List.mem_cons.1 hb with hb | hb
      · cases hb; omega
      · exact h3 _ _ o2 (List.mem_cons_of_mem _ hb) hc
/-- A block beside it has changed, or a new one stands for it. -/
theorem Pgl.swap {b g : Nat} {o o' : Obj} (H : Pgl w0 pp S c L ((b, o) :: R) w) (hR : ∀ x ∈ R, x.1 ≠ b) (hpp : pp ≠ b) (hs : w.heap.size ≤ w'.heap.size)
    (hoth : ∀ k, k < w.heap.size → k ≠ b → w'.heap[k]? = w.heap[k]?) (hg : g = b ∨ w.heap.size ≤ g) (ho : w'.heap[g]? = some o') (hbel : Below w0.heap.size w0 w') : Pgl w0 pp S c L ((g, o') :: R) w' := by
  obtain ⟨CB, h1, ⟨⟨es, clock, hX, ⟨⟨F, hFp, hD, hB, hO, hK⟩, hlo, hne⟩⟩, q1, q2⟩, h3⟩ := H
  have hbm : ∀ x, x ∈ CB ++ (pp, pagerO S.q S.hc) :: (b, o) :: R → ¬ F.own x.1 ∧ w.heap[x.1]? = some x.2 := fun x hx => hK x (List.mem_cons_of_mem _ (List.mem_cons_of_mem _ hx))
  have hb0 : (b, o) ∈ CB ++ (pp, pagerO S.q S.hc) :: (b, o) :: R := List.mem_append_right _ (List.mem_cons_of_mem _ List.mem_cons_self)
  have hbF := (hbm _ hb0).1
  have hbq : b ≠ S.q := hne _ (List.mem_cons_of_mem _ hb0)
  have hbb : b ≠ S.bm := q2 _ hb0
  have hcb : ∀ x ∈ CB, x.1 ≠ b := fun x hx e => h3 b o x.2 (List.mem_cons_of_mem _ List.mem_cons_self) (by rw [← e]; exact hx)
  have hqm := hK (S.q, storeO S.p S.bm S.h false) List.mem_cons_self
  have hbmm := hK (S.bm, .map es clock) (List.mem_cons_of_mem _ List.mem_cons_self)
  have hgF : ¬ F.own g := by
    rcases hg with rfl | hg
    · exact hbF
    · intro h; have := DiskAt.own_lt hD h; omega
  have hgq : g ≠ S.q := by
    rcases hg with rfl | hg
    · exact hbq
    · have : S.q < w.heap.size := heap_lt hqm.2
      omega
  have hgb : g ≠ S.bm := by
    rcases hg with rfl | hg
    · exact hbb
    · have : S.bm < w.heap.size := heap_lt hbmm.2
      omega
  have hcg : ∀ x ∈ CB, x.1 ≠ g := fun x hx => by
    rcases hg with rfl | hg
    · exact hcb x hx
    · have := heap_lt (hbm x (List.mem_append_left _ hx)).2
      omega
  have keep : ∀ k ob, w.heap[k]? = some ob → k ≠ b → w'.heap[k]? = some ob := fun k ob hk hkb => (hoth k (heap_lt hk) hkb).trans hk
  have hin : ∀ x, x ∈ CB ++ (pp, pagerO S.q S.hc) :: (g, o') :: R → x = (g, o') ∨ (x ∈ CB ++ (pp, pagerO S.q S.hc) :: (b, o) :: R ∧ x.1 ≠ b) := fun x hx => by
    rcases List.mem_append.1 hx with hx | hx
    · exact .inr ⟨List.mem_append_left _ hx, hcb x hx⟩
    · rcases List.mem_cons.1 hx with rfl | hx
      · exact .inr ⟨List.mem_append_right _ List.mem_cons_self, hpp⟩
      · rcases List.mem_cons.1 hx with rfl | hx
        · exact .inl rfl
        · exact .inr ⟨List.mem_append_right _ (List.mem_cons_of_mem _ (List.mem_cons_of_mem _ hx)), hR x hx⟩
  refine ⟨CB, h1, ⟨⟨es, clock, hX, ⟨⟨F, hFp, DiskAt.keep hD hs (fun k hk => hoth k (DiskAt.own_lt hD hk) (fun e => hbF (by rw [← e]; exact hk))), hbel, hO, fun x hx => ?_⟩, hlo, fun x hx => ?_⟩⟩, q1, fun x hx => ?_⟩, fun b' o1 o2 hb hc => ?_⟩
  · rcases List.mem_cons.1 hx with rfl | hx
    · exact ⟨hqm.1, keep _ _ hqm.2 (fun e => hbq e.symm)⟩
    · rcases List.mem_cons.1 hx with rfl | hx
      · exact ⟨hbmm.1, keep _ _ hbmm.2 (fun e => hbb e.symm)⟩
      · rcases hin x hx with rfl | ⟨hx, hxb⟩
        · exact ⟨hgF, ho⟩
        · exact ⟨(hbm x hx).1, keep _ _ (hbm x hx).2 hxb⟩
  · rcases List.mem_cons.1 hx with rfl | hx
    · exact hne _ List.mem_cons_self
    · rcases hin x hx with rfl | ⟨hx, hxb⟩
      · exact hgq
      · exact hne x (List.mem_cons_of_mem _ hx)
  · rcases hin x hx with rfl | ⟨hx, hxb⟩
    · exact hgb
    · exact q2 x hx
  · rcases List.mem_cons.1 hb with hb | hb
    · exact h3 b' o1 o2 (by rw [hb]; exact List.mem_cons_self) hc
    · rcases List.mem_cons.1 hb with hb | hb
      · cases hb
        exact hcg _ hc rfl
      · exact h3 b' o1 o2 (List.mem_cons_of_mem _ (List.mem_cons_of_mem _ hb)) hc
theorem PV.sub (H : PV w0 pp n c V R w) (R' : List (Nat × Obj)) (hs : ∀ x ∈ R', x ∈ R) : PV w0 pp n c V R' w := by
  obtain ⟨S, ⟨h1, L, h2, h3⟩, h4, h5⟩ := H
  exact ⟨S, ⟨h1, L, h2, h3.sub R' hs⟩, h4, h5⟩
theorem PV.add {g : Nat} {o : Obj} (H : PV w0 pp n c V R w) (b : Below w.heap.size w w') (hg : w.heap.size ≤ g) (ho : w'.heap[g]? = some o) : PV w0 pp n c V ((g, o) :: R) w' := by
  obtain ⟨S, ⟨h1, L, h2, h3⟩, h4, h5⟩ := H
  exact ⟨S, ⟨h1, L, h2, h3.add b hg ho⟩, h4, h5⟩
/-- The pager's own block is not one beside it. -/
theorem PV.ne (H : PV w0 pp n c V R w) {x : Nat × Obj} (hx : x ∈ R) {cs : Array Value} {t : TypeId} (ht : x.2 = .cells cs t (0, 0)) (hne : t ≠ 57) : pp ≠ x.1 := by
  intro e
  have h1 := H.mem hx
  obtain ⟨S, h, _, _⟩ := H
  have h2 := h.at
  rw [e] at h2
  rw [h2, ht] at h1
  unfold pagerO at h1
  injection h1 with h1
  injection h1 with _ h1
  exact hne h1.symm
theorem PV.neMap (H : PV w0 pp n c V R w) {b : Nat} {es : Array MapEntry} {clock : Nat} (hx : (b, Obj.map es clock) ∈ R) : pp ≠ b := by
  intro e
  have h1 := H.mem hx
  obtain ⟨S, h, _, _⟩ := H
  have h2 := h.at
  rw [e] at h2
  simp only at h1
  rw [h2] at h1
  unfold pagerO at h1
  cases h1
theorem PV.swap {b g : Nat} {o o' : Obj} (H : PV w0 pp n c V ((b, o) :: R) w) (hR : ∀ x ∈ R, x.1 ≠ b) (hpp : pp ≠ b) (hs : w.heap.size ≤ w'.heap.size)
    (hoth : ∀ k, k < w.heap.size → k ≠ b → w'.heap[k]? = w.heap[k]?) (hg : g = b ∨ w.heap.size ≤ g) (ho : w'.heap[g]? = some o') (hbel : Below w0.heap.size w0 w') : PV w0 pp n c V ((g, o') :: R) w' := by
  obtain ⟨S, ⟨h1, L, h2, h3⟩, h4, h5⟩ := H
  exact ⟨S, ⟨h1, L, h2, h3.swap hR hpp hs hoth hg ho hbel⟩, h4, h5⟩
/-- A pager with a slice of numbers beside it, which the call owns. -/
def PN (w0 : World) (pp n c : Nat) (V : Int → ByteArray) (L : List Int) (va : Value) (R0 : List (Nat × Obj)) (w : World) : Prop :=
  (L = [] ∧ va = .slice none 0 0 ∧ PV w0 pp n c V R0 w) ∨
  ∃ g cap cur, va = .slice (some ⟨g, 0, none⟩) L.length cap ∧ w0.heap.size ≤ g ∧ L.length ≤ cap ∧ cap ≤ maxLen ∧ cur.size = cap ∧ cur.toList.take L.length = L.map (Value.int .i64) ∧ PV w0 pp n c V ((g, .cells cur 3 (0, 0)) :: R0) w
theorem PN.map {w1 : World} {c' : Nat} {V' : Int → ByteArray} {Ls : List Int} {va : Value} {R0 : List (Nat × Obj)} (H : PN w0 pp n c V Ls va R0 w) (hf : ∀ R, PV w0 pp n c V R w → PV w0 pp n c' V' R w1) : PN w0 pp n c' V' Ls va R0 w1 := by
  rcases H with ⟨h1, h2, h3⟩ | ⟨g, cap, cur, h1, h2, h3, h4, h5, h6, h7⟩
  · exact .inl ⟨h1, h2, hf _ h3⟩
  · exact .inr ⟨g, cap, cur, h1, h2, h3, h4, h5, h6, hf _ h7⟩
theorem PN.mono {c' : Nat} {Ls : List Int} {va : Value} {R0 : List (Nat × Obj)} (H : PN w0 pp n c V Ls va R0 w) (hc : c ≤ c') : PN w0 pp n c' V Ls va R0 w := H.map fun _ h => h.mono hc
theorem PN.on {Ls : List Int} {va : Value} {R0 : List (Nat × Obj)} (H : PN w0 pp n c V Ls va R0 w) (hb : Below w.heap.size w w') : PN w0 pp n c V Ls va R0 w' := H.map fun _ h => h.on hb
theorem PN.call {c' : Nat} {V' : Int → ByteArray} {Ls : List Int} {va : Value} {f : FuncId} {args : Array Value} {e0 : Ending} {R0 : List (Nat × Obj)} (H : PN w0 pp n c V Ls va R0 w)
    (h : ∀ R, PV w0 pp n c V R w → Calls Try.prog f args w fun e w' => e = e0 ∧ PV w0 pp n c' V' R w') : Calls Try.prog f args w fun e w' => e = e0 ∧ PN w0 pp n c' V' Ls va R0 w' := by
  rcases H with ⟨h1, h2, h3⟩ | ⟨g, cap, cur, h1, h2, h3, h4, h5, h6, h7⟩
  · exact (h _ h3).mono fun e w' ⟨he, h'⟩ => ⟨he, .inl ⟨h1, h2, h'⟩⟩
  · exact (h _ h7).mono fun e w' ⟨he, h'⟩ => ⟨he, .inr ⟨g, cap, cur, h1, h2, h3, h4, h5, h6, h'⟩⟩
theorem PN.pv {Ls : List Int} {va : Value} {R0 : List (Nat × Obj)} (H : PN w0 pp n c V Ls va R0 w) : PV w0 pp n c V R0 w := by
  rcases H with ⟨h1, h2, h3⟩ | ⟨g, cap, cur, h1, h2, h3, h4, h5, h6, h7⟩
  · exact h3
  · exact h7.sub _ fun x hx => List.mem_cons_of_mem _ hx
theorem PN.open {Ls : List Int} {va : Value} {R0 : List (Nat × Obj)} (H : PN w0 pp n c V Ls va R0 w) : ∃ ao cap, va = .slice ao Ls.length cap := by
  rcases H with ⟨rfl, h2, h3⟩ | ⟨g, cap, cur, h1, _⟩
  · exact ⟨_, _, h2⟩
  · exact ⟨_, _, h1⟩
theorem PN.at {Ls : List Int} {va : Value} {R0 : List (Nat × Obj)} (H : PN w0 pp n c V Ls va R0 w) {i : Nat} {x : Int} (hx : Ls[i]? = some x) : ∃ g cap, va = .slice (some ⟨g, 0, none⟩) Ls.length cap ∧ g < w.heap.size ∧ w.cell? ⟨g, i, none⟩ = some (.int .i64 x) := by
  have hi := (List.getElem?_eq_some_iff.1 hx).1
  rcases H with ⟨rfl, _⟩ | ⟨g, cap, cur, h1, h2, h3, h4, h5, h6, h7⟩
  · cases hx
  · have hg := h7.mem List.mem_cons_self
    refine ⟨g, cap, h1, heap_lt hg, ?_⟩
    rw [cell_of_row _ _ _ _ _ _ hg]
    have : (cur.toList.take Ls.length)[i]? = some (.int .i64 x) := by rw [h6, List.getElem?_map, hx]; rfl
    rw [List.getElem?_take_of_lt hi, Array.getElem?_toList] at this
    exact this
theorem PN.row {Ls : List Int} {va : Value} (H : PN w0 pp n c V Ls va [] w) : IntsIn w0.heap.size w va Ls := by
  unfold IntsIn
  rcases H with ⟨rfl, rfl, h3⟩ | ⟨g, cap, cur, h1, h2, h3, h4, h5, h6, h7⟩
  · exact ⟨rfl, .inl ⟨rfl, rfl⟩⟩
  · exact ⟨by simp, .inr ⟨g, cap, cur, h1, h2, h7.mem List.mem_cons_self, h3, h4, by rw [h5, Nat.mul_one], by rw [Nat.mul_one]; exact h6⟩⟩
/-- Behind an append. -/
theorem PN.push {Ls Ms : List Int} {va : Value} {g cap : Nat} {W w2 : World} (H : PN w0 pp n c V Ls va [] w) (hb : Below w.heap.size w W) (hg : W.grownBy w2 va.ownBlock) (hr : IntsIn w0.heap.size w2 (.slice (some ⟨g, 0, none⟩) Ms.length cap) Ms) (h0 : 0 < Ms.length) (hbel : Below w0.heap.size w0 w2)
    (hgg : va.ownBlock = some g ∨ w.heap.size ≤ g) : PN w0 pp n c V Ms (.slice (some ⟨g, 0, none⟩) Ms.length cap) [] w2 := by
  obtain ⟨_, hr2⟩ := hr
  rcases hr2 with ⟨hz, h00⟩ | ⟨g2, cap2, cur2, hv, hlo, hgb, k1, k2, k3, k4⟩
  · omega
  · cases hv
    rw [Nat.mul_one] at k3 k4
    have hsz : w.heap.size ≤ w2.heap.size := Nat.le_trans hb.size hg.size
    have hoth : ∀ k, k < w.heap.size → va.ownBlock ≠ some k → w2.heap[k]? = w.heap[k]? := fun k hk hne => (hg.block k (Nat.lt_of_lt_of_le hk hb.size) (fun e => hne e.symm)).trans (hb.block k hk)
    refine .inr ⟨g, cap, cur2, rfl, hlo, k1, k2, k3, k4, ?_⟩
    rcases H with ⟨_, rfl, h3⟩ | ⟨g1, cap1, cur1, rfl, _, _, _, _, _, h7⟩
    · have hg2 : w.heap.size ≤ g := by
        rcases hgg with h | h
        · cases h
        · exact h
      exact h3.add ⟨hg.os.trans hb.os, hg.tape.trans hb.tape, hg.output.trans hb.output, hsz, fun k hk => hoth k hk (by simp [Value.ownBlock])⟩ hg2 hgb
    · have hg1 := heap_lt (h7.mem List.mem_cons_self)
      have hne : pp ≠ g1 := h7.ne List.mem_cons_self rfl (by decide)
      have hgg2 : g = g1 ∨ w.heap.size ≤ g := by
        rcases hgg with h | h
        · exact .inl (Option.some.inj (by simpa [Value.ownBlock] using h)).symm
        · exact .inr h
      exact h7.swap (fun x hx => by cases hx) hne hsz (fun k hk hkb => hoth k hk (by simp [Value.ownBlock]; omega)) hgg2 hgb hbel
/-- A number more. -/
theorem PN.append {Ls : List Int} {va : Value} (H : PN w0 pp n c V Ls va [] w) (hlen : Ls.length ≤ 1048576) (x : Int) (m : Nat) (hm : Ls.length = m) :
    ∃ g cap w2, (appIM #[va, .slice (some ⟨w.heap.size, 0, none⟩) 1 1]).run Try.prog (w.alloc (.cells #[.int .i64 x] 3)) = .ok (.slice (some ⟨g, 0, none⟩) (m + 1) cap) w2 ∧
      PN w0 pp n c V (Ls ++ [x]) (.slice (some ⟨g, 0, none⟩) (m + 1) cap) [] w2 := by
  subst hm
  have hrow := H.row
  have hn := H.pv.below.size
  obtain ⟨i0, hi, hz0, hz1, hz2⟩ := info_parts info_intM
  have hq := heap_alloc_new w (.cells #[.int .i64 x] 3)
  have hba : Below w.heap.size w (w.alloc (.cells #[.int .i64 x] 3)) := by go_grown
  obtain ⟨g, cap, w2, hr, h2, h3, h4, _⟩ := run_append_lies (P := Try.prog) (w := w.alloc (.cells #[.int .i64 x] 3)) 31 31 w0.heap.size 3 i0 (.int .i64 0) 1 8 Try.underlying31 hi hz0 hz1 hz2 rfl (by decide) va Ls.length (Ls.map (Value.int .i64)) (ownsRow_onM hrow hba) ⟨w.heap.size, 0, none⟩ 1 1 [.int .i64 x] rfl
    (fun j u hu => by
      rcases j with _ | j
      · have : Value.int .i64 x = u := by simpa using hu
        rw [← this]
        show (w.alloc (.cells #[.int .i64 x] 3)).cell? ⟨w.heap.size, 0, none⟩ = _
        rw [cell_of_row _ _ _ _ _ _ hq]
        rfl
      · simp at hu) (fun u hu => by have : u = .int .i64 x := by simpa using hu
                                    rw [this]; rfl) (by decide) (by unfold maxLen; omega) (by omega) (by rw [World.size_alloc]; omega) _ rfl
  have hbel : Below w0.heap.size w0 w2 := H.pv.below.trans ((hba.mono hn).grown h3 (by rw [World.size_alloc]; omega) (fun k e => (hrow.lt k e).1))
  refine ⟨g, cap, w2, hr, ?_⟩
  have hlen2 : (Ls ++ [x]).length = Ls.length + 1 := by simp
  have hI : IntsIn w0.heap.size w2 (.slice (some ⟨g, 0, none⟩) (Ls ++ [x]).length cap) (Ls ++ [x]) := by
    unfold IntsIn
    rw [List.length_append, List.map_append]
    exact h2
  have := H.push hba h3 hI (by rw [hlen2]; omega) hbel (by
    rcases h4 with h4 | h4
    · exact .inl h4
    · exact .inr (by rw [h4, World.size_alloc]; omega))
  rwa [hlen2] at this
/-- A map beside it. -/
theorem PN.withMap {Ls : List Int} {va : Value} {b : Nat} {es : Array MapEntry} {clock : Nat} (H : PN w0 pp n c V Ls va [] w) (hb : Below w.heap.size w w') (hg : w.heap.size ≤ b) (ho : w'.heap[b]? = some (.map es clock)) : PN w0 pp n c V Ls va [(b, .map es clock)] w' := by
  rcases H with ⟨h1, h2, h3⟩ | ⟨g, cap, cur, h1, h2, h3, h4, h5, h6, h7⟩
  · exact .inl ⟨h1, h2, h3.add hb hg ho⟩
  · refine .inr ⟨g, cap, cur, h1, h2, h3, h4, h5, h6, (h7.add hb hg ho).sub _ fun x hx => ?_⟩
    simp only [List.mem_cons, List.not_mem_nil, or_false] at hx ⊢
    exact hx.symm
/-- .. put anew. -/
theorem PN.setMap {Ls : List Int} {va : Value} {b : Nat} {es es' : Array MapEntry} {clock clock' : Nat} (H : PN w0 pp n c V Ls va [(b, .map es clock)] w) (h0 : w0.heap.size ≤ b) : PN w0 pp n c V Ls va [(b, .map es' clock')] (setBlock w b (.map es' clock')) := by
  have hpv := H.pv
  have hbb : w.heap[b]? = some (.map es clock) := hpv.mem List.mem_cons_self
  have hpp := hpv.neMap List.mem_cons_self
  have hsz : (setBlock w b (.map es' clock')).heap.size = w.heap.size := by simp [setBlock]
  have hoth : ∀ k, k < w.heap.size → k ≠ b → (setBlock w b (.map es' clock')).heap[k]? = w.heap[k]? := fun k _ hk => heap_setBlock_other hbb _ hk
  have ho : (setBlock w b (.map es' clock')).heap[b]? = some (.map es' clock') := heap_setBlock_same hbb _
  have hbel : Below w0.heap.size w0 (setBlock w b (.map es' clock')) := by
    have h := hpv.below
    have hlt := heap_lt hbb
    exact ⟨h.os, h.tape, h.output, by rw [hsz]; exact h.size, fun k hk => (hoth k (Nat.lt_of_lt_of_le hk h.size) (by omega)).trans (h.block k hk)⟩
  rcases H with ⟨h1, h2, h3⟩ | ⟨g, cap, cur, h1, h2, h3, h4, h5, h6, h7⟩
  · exact .inl ⟨h1, h2, h3.swap (fun x hx => by cases hx) hpp (Nat.le_of_eq hsz.symm) hoth (.inl rfl) ho hbel⟩
  · have hgb : g ≠ b := by
      intro e
      have hg := h7.mem List.mem_cons_self
      simp only at hg
      rw [e, hbb] at hg
      cases hg
    have h8 : PV w0 pp n c V [(b, .map es clock), (g, .cells cur 3 (0, 0))] w := h7.sub _ fun x hx => by
      simp only [List.mem_cons, List.not_mem_nil, or_false] at hx ⊢
      exact hx.symm
    refine .inr ⟨g, cap, cur, h1, h2, h3, h4, h5, h6, (h8.swap (fun x hx => ?_) hpp (Nat.le_of_eq hsz.symm) hoth (.inl rfl) ho hbel).sub _ fun x hx => ?_⟩
    · rw [List.mem_singleton] at hx
      rw [hx]
      exact hgb
    · simp only [List.mem_cons, List.not_mem_nil, or_false] at hx ⊢
      exact hx.symm
end
end Go.Proofs.Ytcoebinljdjemaa
namespace Go.Proofs.Ytcoebinljdjemaa
set_option maxRecDepth 100000
open Go.ChangeShapes Go.WideShapes Go.ChangeAt Go.RowKit Go.PlainAid Go.ChangeMaps Go.MapKept
open Go.WideElems (rd rg pl)
open Go.Maps (Keyed)
namespace MB
/-- How a value in the map reads. -/
def rdV (v : Value) : Option (DataW Unit × List MemPlace) := match v with | .bool s => some (.lit (.bool s), []) | _ => none
theorem rdV_inv {v : Value} {y : DataW Unit × List MemPlace} (h : rdV v = some y) : ∃ s, v = .bool s ∧ y = (.lit (.bool s), []) := by
  unfold rdV at h
  split at h
  · rename_i s
    exact ⟨s, rfl, (Option.some.inj h).symm⟩
  · cases h
/-- What the entries read as. -/
noncomputable def Dm (es : Array MapEntry) : DataW Unit := .map ((es.toList.map (rg Try.prog 3 rdV)).foldr DataW.insert [])
theorem keyed : Keyed Try.prog 3 := Maps.int_keyed Try.underlying3
theorem size_Dm (es : Array MapEntry) : Maps.size (Dm es) = es.size := by simp [Maps.size, Dm, length_sorted]
/-- A map holds just these, n of them. -/
structure Is (es : Array MapEntry) (clock n : Nat) (G : Int → Bool) : Prop where
  fit : Go.WideElems.Fit Try.prog 3 rdV es clock
  tidy : Maps.Tidy (Dm es)
  size : es.size = n
  has : ∀ k : Int, Maps.has (Dm es) (.int .i64 k) = G k
  get : ∀ k : Int, G k = true → ∀ zd, (Dm es).atKey (.int .i64 k) zd = .lit (.bool true)
theorem empty (clock : Nat) : Is #[] clock 0 fun _ => false := ⟨⟨by simp, stamped_empty clock, by simp⟩, Maps.tidy_empty, rfl, fun k => rfl, fun k h => by cases h⟩
/-- G, and k. -/
def put (G : Int → Bool) (k : Int) : Int → Bool := fun i => if i = k then true else G i
theorem zero (w : World) : (zeroValue 4).run Try.prog w = .ok (.bool false) w := by kernel_rfl
/-- m[k]. -/
theorem Is.look {es : Array MapEntry} {clock n : Nat} {G : Int → Bool} (h : Is es clock n G) {w : World} {b : Nat} (hb : w.heap[b]? = some (.map es clock)) (k : Int) (hk0 : -9223372036854775808 ≤ k ∧ k ≤ 9223372036854775807) (x : Bool) (hx : G k = x) :
    (Instr.lookup 36 (.map (some b)) (.int .i64 k) false).run Try.prog w = .ok (.bool x) w := by
  subst hx
  have hk : keyOf Try.prog 3 (.int .i64 k) = some (.int .i64 k) := Maps.keyOf_int_mk Try.underlying3 (WalkArith.wf_i64 hk0)
  rcases Maps.fit_look false keyed Try.underlying36 (zero w) hb h.fit hk with ⟨hrun, _, hat⟩ | ⟨e0, y, _, _, hrun, hR, hat, _⟩
  · have h1 : Maps.has (Dm es) (.int .i64 k) = false := Maps.has_false_of_atKey hat
    rw [h.has k] at h1
    rw [h1]
    exact hrun
  · have h1 : Maps.has (Dm es) (.int .i64 k) = true := Maps.has_true_of_atKey hat
    rw [h.has k] at h1
    obtain ⟨t, hv, rfl⟩ := rdV_inv hR
    have e := (h.get k h1 .nil).symm.trans (hat .nil)
    have : true = t := by simpa using e
    subst this
    rw [hv] at hrun
    rw [h1]
    exact hrun
/-- m[k] = true. -/
theorem Is.put {es : Array MapEntry} {clock n : Nat} {G : Int → Bool} (h : Is es clock n G) {w : World} {b : Nat} (hb : w.heap[b]? = some (.map es clock)) (hc : n < 1000000) (k : Int) (hk0 : -9223372036854775808 ≤ k ∧ k ≤ 9223372036854775807) :
    ∃ es' clock', (Instr.mapUpdate 36 (.map (some b)) (.int .i64 k) (.bool true)).run Try.prog w = .ok () (setBlock w b (.map es' clock')) ∧ Is es' clock' (n + (!G k).toNat) (MB.put G k) := by
  have hk : keyOf Try.prog 3 (.int .i64 k) = some (.int .i64 k) := Maps.keyOf_int_mk Try.underlying3 (WalkArith.wf_i64 hk0)
  have hsz := h.size
  obtain ⟨es', clock', hrun, F', hput, _⟩ := Maps.fit_store (R' := rdV) (val := .bool true) (yv := (.lit (.bool true), [])) keyed Try.underlying36 hb h.fit (by unfold maxLen; omega) (fun _ _ _ _ hz => hz) hk rfl
  have hD : Dm es' = (Dm es).put (.int .i64 k) (.lit (.bool true)) := by unfold Dm; rw [hput]; rfl
  have hM : Maps.IsMap (Dm es) := ⟨_, rfl⟩
  have hKL : WideAt.IsKeyLit (.int .i64 k) := by unfold WideAt.IsKeyLit; trivial
  refine ⟨es', clock', hrun, F', ?_, ?_, fun j => ?_, fun j hj => ?_⟩
  · rw [hD]
    exact h.tidy.put hKL _
  · rw [← size_Dm es', hD, Maps.size_put h.tidy, h.has k, size_Dm, hsz]
    cases G k <;> rfl
  · rw [hD]
    by_cases e : j = k
    · subst e
      rw [Maps.has_put_same hM hKL]; simp [MB.put]
    · rw [Maps.has_put_other (by intro c; exact e (by simpa using c)), h.has j]; simp [MB.put, e]
  · rw [hD]
    by_cases e : j = k
    · subst e
      exact fun zd => Maps.atKey_put_same hM hKL _ _
    · have hj2 : G j = true := by simpa [MB.put, e] using hj
      exact fun zd => by rw [Maps.atKey_put_other (by intro c; exact e (by simpa using c)), h.get j hj2]
theorem Is.len {es : Array MapEntry} {clock n : Nat} {G : Int → Bool} (h : Is es clock n G) {w : World} {b : Nat} (hb : w.heap[b]? = some (.map es clock)) (ty : TypeId) :
    (Builtin.len_ #[36] ty #[.map (some b)]).run Try.prog w = .ok (.int .i64 n) w := by
  rw [← h.size]
  simp [Builtin.len_, run_underlying Try.underlying36, MapKept.run_getObj_map hb, goInt, Result.andThen]
end MB
end Go.Proofs.Ytcoebinljdjemaa
namespace Go.Proofs.Ytcoebinljdjemaa
set_option maxRecDepth 100000
open Go.ChangeShapes Go.WideShapes Go.ChangeAt Go.RowKit Go.PlainAid Go.Deep

/-- The numbers that a slice reads as, in world w. -/
def UintsOf (w : World) (v : Value) (l : List Int) : Prop :=
  (l = [] ∧ ∃ ao cap, v = .slice ao 0 cap) ∨ ∃ b o cap, v = .slice (some ⟨b, o, none⟩) l.length cap ∧ b < w.heap.size ∧ 0 < l.length ∧ (l.length : Int) ≤ 9223372036854775807 ∧ ∀ (i : Nat) (x : Int), l[i]? = some x → (0 ≤ x ∧ x ≤ 18446744073709551615) ∧ w.cell? ⟨b, o + i, none⟩ = some (.int .u64 x)
theorem UintsOf.on {w w' : World} {v : Value} {l : List Int} (h : UintsOf w v l) (hb : Below w.heap.size w w') : UintsOf w' v l := by
  rcases h with h | ⟨b, o, cap, hv, hlt, h0, hm, hr⟩
  · exact .inl h
  · exact .inr ⟨b, o, cap, hv, Nat.lt_of_lt_of_le hlt hb.size, h0, hm, fun i x hx => ⟨(hr i x hx).1, (hb.cell (p := ⟨b, o + i, none⟩) hlt).trans (hr i x hx).2⟩⟩
theorem uints_open {H : Type} {enc : TypeId × Value → H} {w : World} {base b0 : Nat} {sp : Nat → Bool} {held : Bool} {r : Reach} {v : Value} {d : DataW H} {p : List MemPlace}
    (hv : Value.okWide Try.prog w r b0 23 v) (h : DataW.Trod enc Try.prog w base sp held 23 v d p) : ∃ l : List Int, UintsOf w v l := by
  obtain ⟨ao, len0, cap0, rfl⟩ := okWide_slice Try.underlying23 hv
  obtain ⟨fuel, hf⟩ := h
  rcases open_slice Try.underlying23 hf with ⟨h0, _⟩ | ⟨a, len, cap, m, n, Dt, Pl, hcs, hb, hl, hm, hmm, _, hi⟩
  · refine ⟨[], .inl ⟨rfl, ao, cap0, ?_⟩⟩
    have : Value.slice ao len0 cap0 = .slice none 0 0 := by simpa [Value.cells] using h0
    cases this
    rfl
  · have e : Value.slice ao len0 cap0 = .slice (some a) len cap := by simpa [Value.cells] using hcs
    cases e
    have hC : Try.prog.cellsOf 37 = 1 := by kernel_rfl
    have hlm : len0 ≤ m := by rw [hmm]; split <;> omega
    by_cases h0 : len0 = 0
    · subst h0
      exact ⟨[], .inl ⟨rfl, _, _, rfl⟩⟩
    · have each : ∀ i, ∃ y : Int, i < len0 → (0 ≤ y ∧ y ≤ 18446744073709551615) ∧ w.cell? (a.add i) = some (.int .u64 y) := fun i => by
        by_cases c : i < len0
        · obtain ⟨cs', hc, ht⟩ := hi i (by omega)
          rw [hC] at hc
          obtain ⟨_, hcl, hat⟩ := World.cells?_some hc
          obtain ⟨y, hy, _, hw⟩ := DataW.trod_int Try.underlying37 ht
          refine ⟨y, fun _ => ⟨bounds_u64 hw, ?_⟩⟩
          have := hat 0 (by omega)
          rw [hy, Go.Deep.add_add, Nat.mul_one, Nat.add_zero] at this
          exact this
        · exact ⟨0, fun h => absurd h c⟩
      obtain ⟨f, hf'⟩ := Classical.axiomOfChoice each
      have h00 := (hf' 0 (by omega)).2
      obtain ⟨b, off, spot⟩ := a
      have hspot : spot = none := by simpa [Addr.add] using World.cell?_spot h00
      subst hspot
      refine ⟨(List.range len0).map f, .inr ⟨b, off, cap0, by simp, World.block_lt_of_cell? w _ h00, by simp; omega, by simp; unfold maxLen at hm; omega, fun i x hx => ?_⟩⟩
      have hil : i < len0 := by have := (List.getElem?_eq_some_iff.1 hx).1; simpa using this
      have hxf : f i = x := by simpa [List.getElem?_map, List.getElem?_range hil] using hx
      subst hxf
      obtain ⟨hw, hc⟩ := hf' i hil
      exact ⟨hw, by rw [← hc, Addr.add_mid]⟩
/-- The texts that a slice reads as, in world w. -/
def TextsOf (w : World) (v : Value) (l : List ByteArray) : Prop :=
  (l = [] ∧ ∃ ao cap, v = .slice ao 0 cap) ∨ ∃ b o cap, v = .slice (some ⟨b, o, none⟩) l.length cap ∧ b < w.heap.size ∧ 0 < l.length ∧ (l.length : Int) ≤ 9223372036854775807 ∧ ∀ (i : Nat) (x : ByteArray), l[i]? = some x → (x.size : Int) ≤ 9223372036854775807 ∧ w.cell? ⟨b, o + i, none⟩ = some (.string x)
theorem TextsOf.on {w w' : World} {v : Value} {l : List ByteArray} (h : TextsOf w v l) (hb : Below w.heap.size w w') : TextsOf w' v l := by
  rcases h with h | ⟨b, o, cap, hv, hlt, h0, hm, hr⟩
  · exact .inl h
  · exact .inr ⟨b, o, cap, hv, Nat.lt_of_lt_of_le hlt hb.size, h0, hm, fun i x hx => ⟨(hr i x hx).1, (hb.cell (p := ⟨b, o + i, none⟩) hlt).trans (hr i x hx).2⟩⟩
theorem texts_open {H : Type} {enc : TypeId × Value → H} {w : World} {base b0 : Nat} {sp : Nat → Bool} {held : Bool} {r : Reach} {v : Value} {d : DataW H} {p : List MemPlace}
    (hv : Value.okWide Try.prog w r b0 22 v) (h : DataW.Trod enc Try.prog w base sp held 22 v d p) : ∃ l : List ByteArray, TextsOf w v l := by
  obtain ⟨ao, len0, cap0, rfl⟩ := okWide_slice Try.underlying22 hv
  obtain ⟨fuel, hf⟩ := h
  rcases open_slice Try.underlying22 hf with ⟨h0, _⟩ | ⟨a, len, cap, m, n, Dt, Pl, hcs, hb, hl, hm, hmm, _, hi⟩
  · refine ⟨[], .inl ⟨rfl, ao, cap0, ?_⟩⟩
    have : Value.slice ao len0 cap0 = .slice none 0 0 := by simpa [Value.cells] using h0
    cases this
    rfl
  · have e : Value.slice ao len0 cap0 = .slice (some a) len cap := by simpa [Value.cells] using hcs
    cases e
    have hC : Try.prog.cellsOf 9 = 1 := by kernel_rfl
    have hlm : len0 ≤ m := by rw [hmm]; split <;> omega
    by_cases h0 : len0 = 0
    · subst h0
      exact ⟨[], .inl ⟨rfl, _, _, rfl⟩⟩
    · have each : ∀ i, ∃ y : ByteArray, i < len0 → (y.size : Int) ≤ 9223372036854775807 ∧ w.cell? (a.add i) = some (.string y) := fun i => by
        by_cases c : i < len0
        · obtain ⟨cs', hc, ht⟩ := hi i (by omega)
          rw [hC] at hc
          obtain ⟨_, hcl, hat⟩ := World.cells?_some hc
          obtain ⟨y, hy, _, hw⟩ := DataW.trod_string Try.underlying9 ht
          refine ⟨y, fun _ => ⟨by unfold maxLen at hw; omega, ?_⟩⟩
          have := hat 0 (by omega)
          rw [hy, Go.Deep.add_add, Nat.mul_one, Nat.add_zero] at this
          exact this
        · exact ⟨ByteArray.empty, fun h => absurd h c⟩
      obtain ⟨f, hf'⟩ := Classical.axiomOfChoice each
      have h00 := (hf' 0 (by omega)).2
      obtain ⟨b, off, spot⟩ := a
      have hspot : spot = none := by simpa [Addr.add] using World.cell?_spot h00
      subst hspot
      refine ⟨(List.range len0).map f, .inr ⟨b, off, cap0, by simp, World.block_lt_of_cell? w _ h00, by simp; omega, by simp; unfold maxLen at hm; omega, fun i x hx => ?_⟩⟩
      have hil : i < len0 := by have := (List.getElem?_eq_some_iff.1 hx).1; simpa using this
      have hxf : f i = x := by simpa [List.getElem?_map, List.getElem?_range hil] using hx
      subst hxf
      obtain ⟨hw, hc⟩ := hf' i hil
      exact ⟨hw, by rw [← hc, Addr.add_mid]⟩
end Go.Proofs.Ytcoebinljdjemaa
