/- Package btree: a page's records, given. Package btree: From's iterator, with a closure. Package btree: From and All; the law's takers. -/
import Derived.Test.YtkdhlofcdcnjgaaGreatBB
import Derived.Test.YtkdhlofcdcnjgaaGreatGM
import Derived.Deep.RegionHeld3
namespace Go.Proofs.YtkdhlofcdcnjgaaGreat
set_option maxRecDepth 100000
open Go.ChangeShapes Go.WideShapes Go.ChangeAt Go.RowKit Go.PlainAid Go.Shelf
open Go.Sort (grow)

attribute [local go_sem ↓ high] store_n
attribute [local go_sem] Oper.semAt_some
/-- What a page gives from a key on. -/
def givP (from_ : ByteArray) (x : NdD) : List Pr := if x.level = 1 then x.L.drop (posP from_ x.L) else []
/-- What pages give, till one that can't be read. -/
def fromL (from_ : ByteArray) : List (NdD × Bool) → List Pr
  | [] => []
  | x :: l => if x.2 = true then [] else givP from_ x.1 ++ fromL from_ l
theorem take_snoc2 {α : Type} {L : List α} {k : Nat} {p : α} (h : L[k]? = some p) : L.take (k + 1) = L.take k ++ [p] := by
  rw [List.take_add_one, h]
  rfl
theorem pr_cellsN {w : World} {b : Nat} {r : Pr} (h : w.heap[b]? = some (prO r)) : w.cell? ⟨b, 0, none⟩ = some (.string r.key) ∧ w.cell? ⟨b, 1, none⟩ = some (.string r.val) := by
  unfold prO at h
  exact ⟨by rw [cell_of_row _ _ _ _ _ _ h]; rfl, by rw [cell_of_row _ _ _ _ _ _ h]; rfl⟩
section
variable {w0 : World} {pp n c : Nat} {V : Int → ByteArray}
/-- How a record's taker leaves things. -/
def TakePost (w0 : World) (pp n c : Nat) (V : Int → ByteArray) (K Kx : List Pr → List (Nat × Obj) → Prop) (X : List (Nat × Obj)) (pre l : List Pr) (e : Ending) (W' : World) : Prop :=
  (e = .returned (.bool true) ∧ ∃ Rc', (K (pre ++ l) Rc' ∧ Ap X Rc') ∧ PV w0 pp n c V (X ++ Rc') W') ∨ (e = .returned (.bool false) ∧ ∃ q Rc', q <+: l ∧ (Kx (pre ++ q) Rc' ∧ Ap X Rc') ∧ PV w0 pp n c V (X ++ Rc') W')
/-- A closure takes records. -/
def Takes (w0 : World) (pp n c : Nat) (V : Int → ByteArray) (f : FuncId) (caps : Array Value) (K Kx : List Pr → List (Nat × Obj) → Prop) : Prop :=
  ∀ (pre : List Pr) (X Rc : List (Nat × Obj)) (p : Pr) (W : World), K pre Rc ∧ Ap X Rc → PV w0 pp n c V (X ++ Rc) W → p.key.size ≤ 65536 → p.val.size ≤ 65536 →
    Calls Tryz.prog f (#[.string p.key, .string p.val] ++ caps) W (TakePost w0 pp n c V K Kx X pre [p])
set_option maxHeartbeats 4000000 in
theorem give_c {f : FuncId} {caps : Array Value} {K Kx : List Pr → List (Nat × Obj) → Prop} (hf : ∀ args w, (callFunc f args).run Tryz.prog w = .ok (.enter f args) w) (hY : Takes w0 pp n c V f caps K Kx) (from_ : ByteArray) (pre : List Pr) (X Rc : List (Nat × Obj)) (nb : Nat) (x : NdM) (W : World)
    (hK : K pre Rc ∧ Ap X Rc) (H : PV w0 pp n c V (X ++ Rc) W) (hnb : (nb, ndO x) ∈ X) (hF : FitN X x false) :
    Calls Tryz.prog 77 #[.pointer (some ⟨nb, 0, none⟩), .string from_, .func (.func f) #[] caps] W (TakePost w0 pp n c V K Kx X pre (givP from_ x.D)) := by
  obtain ⟨d0, d1, d2, d3, d4, d5⟩ := nd_cells (H.mem (x := (nb, ndO x)) (List.mem_append_left _ hnb))
  simp only at d0 d1 d2 d3 d4 d5
  have hlaw := hF.law rfl
  have hpos := hlaw.pos
  have hsm := hF.small
  by_cases h1 : x.level = 1
  · have f1 : decide ((1 : Int) < x.level) = false := decide_eq_false (by omega)
    have hN := ndIs_of (H.mem (x := (nb, ndO x)) (List.mem_append_left _ hnb)) (H.kn ((hF.kn rfl).mono fun y hy => List.mem_append_left _ hy)) hsm
    have HFI := Lib.hid (find_any from_ hN (risB_srt hlaw.rise))
    have hle := posP_le from_ x.L
    obtain ⟨t, ht⟩ : ∃ t, posP from_ x.L = t := ⟨_, rfl⟩
    rw [ht] at HFI hle
    have HG : Hid (givP from_ x.D = x.L.drop t) := Lib.hid (by
      unfold givP
      rw [if_pos (show x.D.level = 1 from h1)]
      show x.L.drop (posP from_ x.L) = _
      rw [ht])
    obtain ⟨p0, hp0⟩ : ∃ p, x.L[0]? = some p := ⟨_, List.getElem?_eq_getElem (recB_iff.1 (hlaw.recs h1)).2⟩
    obtain ⟨g, o, hsl, _, _, _⟩ := (H.kn ((hF.kn rfl).mono fun y hy => List.mem_append_left _ hy)).at hp0
    have hcap := hF.cap rfl
    have hadd : (⟨g, o, none⟩ : Addr).add (t * 2) = ⟨g, o + t * 2, none⟩ := by unfold Addr.add; split <;> simp_all
    have HX := Lib.hid (And.intro hK (And.intro H (And.intro hnb hF)))
    have HSL := Lib.hid hsl
    rw [hsl] at d4
    clear hK H hnb hF hlaw hN h1 ht hp0 hsl
    go_enter Tryz.func77, Tryz.ntmps77
    go_wp2_with fail
    refine HFI.out.mono ?_
    rintro e w2 ⟨rfl, hb2⟩
    have H2 := HX.out.2.1.on hb2
    clear HFI hb2 d0 d1 d2 d3 d4 d5
    obtain ⟨d0, d1, d2, d3, d4, d5⟩ := nd_cells (H2.mem (x := (nb, ndO x)) (List.mem_append_left _ HX.out.2.2.1))
    simp only at d0 d1 d2 d3 d4 d5
    rw [HSL.out] at d4
    by_cases htl : t < x.L.length
    · have hcne : ¬ (x.c = t) := by omega
      have htc : t ≤ x.c := by omega
      have H2' := Lib.hid H2
      clear H2
      go_wp2_with fail
      go_loopw [29] (fun iv wr => ∃ (k : Nat) (Rc' : List (Nat × Obj)), k ≤ x.L.length - t ∧ iv = .int .i64 k ∧ Hid ((K (pre ++ (x.L.drop t).take k) Rc' ∧ Ap X Rc') ∧ PV w0 pp n c V (X ++ Rc') wr)) (fun iv _ => x.L.length - t - (intOf iv).toNat)
      case atStart => exact ⟨0, Rc, Nat.zero_le _, rfl, Lib.hid ⟨by rw [List.take_zero, List.append_nil]; exact HX.out.1, H2'.out⟩⟩
      case round =>
        obtain ⟨k, Rc', hk, rfl, HP⟩ := hrel
        clear H2' d0 d1 d2 d3 d4 d5
        by_cases hlt : k < x.L.length - t
        · obtain ⟨p, hp⟩ : ∃ p, x.L[t + k]? = some p := ⟨_, List.getElem?_eq_getElem (by omega)⟩
          obtain ⟨g', o', he, hg', c0, c1⟩ := (HP.out.2.kn ((HX.out.2.2.2.kn rfl).mono fun y hy => List.mem_append_left _ hy)).at hp
          rw [HSL.out] at he
          cases he
          have hpm := HX.out.2.2.2.mod rfl p (List.mem_of_getElem? hp)
          rw [show o + (t + k) * 2 = o + t * 2 + k * 2 by omega] at c0 c1
          have HPP := Lib.hid hp
          have H4 := HP.out.2.push (prO p)
          obtain ⟨m0, m1⟩ := pr_cellsN (H4.mem List.mem_cons_self)
          simp only at m0 m1
          have HPD : Hid (PV w0 pp n c V (((wr.heap.size, prO p) :: X) ++ Rc') (wr.alloc (prO p)).drew) := Lib.hid H4.drew
          have HAP : Hid (Ap ((wr.heap.size, prO p) :: X) Rc') := Lib.hid (HP.out.1.2.push HP.out.2 _)
          clear hp H4
          go_wp2_with fail
          go_region_held3 (fun w' => w'.cell? ⟨wr.heap.size, 0, none⟩ = some (.string p.key) ∧ w'.cell? ⟨wr.heap.size, 1, none⟩ = some (.string p.val)) (go_keep)
            (first
              | (go_at_call 40
                 with_reducible refine (clone_any p.key _ (by omega)).mono ?_
                 rintro e w5 ⟨rfl, hb5⟩
                 have H5 := HPD.out.on hb5
                 obtain ⟨y0, y1⟩ := pr_cellsN (H5.mem List.mem_cons_self)
                 simp only at y0 y1
                 have HP5 := Lib.hid H5
                 clear H5 hb5)
              | (go_at_call 40
                 with_reducible refine (clone_any p.val _ (by omega)).mono ?_
                 rintro e w6 ⟨rfl, hb6⟩
                 have H6 := HP5.out.on hb6
                 obtain ⟨z0, z1⟩ := pr_cellsN (H6.mem List.mem_cons_self)
                 simp only at z0 z1
                 have HP6 := Lib.hid H6
                 clear H6 hb6)
              | (refine (hY (pre ++ (x.L.drop t).take k) ((wr.heap.size, prO p) :: X) Rc' p _ ⟨HP.out.1.1, HAP.out⟩ HP6.out hpm.1 hpm.2).mono ?_
                 rintro e w7 hpost
                 have H7 : ∃ b, e = .returned (.bool b) ∧ PV w0 pp n c V [(wr.heap.size, prO p)] w7 := by
                   rcases hpost with ⟨rfl, Rc2, _, h⟩ | ⟨rfl, q, Rc2, _, _, h⟩
                   · exact ⟨_, rfl, h.sub _ fun y hy => by rw [List.mem_singleton] at hy; rw [hy]; exact List.mem_cons_self⟩
                   · exact ⟨_, rfl, h.sub _ fun y hy => by rw [List.mem_singleton] at hy; rw [hy]; exact List.mem_cons_self⟩
                 obtain ⟨b7, rfl, H7⟩ := H7
                 obtain ⟨z0, z1⟩ := pr_cellsN (H7.mem List.mem_cons_self)
                 simp only at z0 z1
                 have HPO := Lib.hid hpost
                 clear H7 hpost))
          have htk : Hid ((x.L.drop t).take (k + 1) = (x.L.drop t).take k ++ [p]) := Lib.hid (take_snoc2 (by rw [List.getElem?_drop]; exact HPP.out))
          all_goals
            clear z0 z1 hY hf
            cases b7 with
            | true =>
              have hp : ∃ Rc2, (K (pre ++ (x.L.drop t).take (k + 1)) Rc2 ∧ Ap X Rc2) ∧ PV w0 pp n c V (X ++ Rc2) w7 := by
                rcases HPO.out with ⟨_, Rc2, ⟨h1, h2⟩, h3⟩ | ⟨h, _⟩
                · exact ⟨Rc2, ⟨by rw [htk.out, ← List.append_assoc]; exact h1, h2.tail⟩, h3.drop⟩
                · cases h
              obtain ⟨Rc2, hp⟩ := hp
              have HZ := Lib.hid hp
              clear hp
              go_wp2
              go_roundw
              case rel => exact ⟨k + 1, Rc2, by omega, by go_num, HZ⟩
              case measure => simp [intOf]; omega
            | false =>
              have hp : ∃ q Rc2, q <+: [p] ∧ (Kx ((pre ++ (x.L.drop t).take k) ++ q) Rc2 ∧ Ap X Rc2) ∧ PV w0 pp n c V (X ++ Rc2) w7 := by
                rcases HPO.out with ⟨h, _⟩ | ⟨_, q, Rc2, hq, ⟨h1, h2⟩, h3⟩
                · cases h
                · exact ⟨q, Rc2, hq, ⟨h1, h2.tail⟩, h3.drop⟩
              obtain ⟨q, Rc2, hq, ⟨h1, h2⟩, h3⟩ := hp
              have HZ : Hid (TakePost w0 pp n c V K Kx X pre (givP from_ x.D) (.returned (.bool false)) w7) := Lib.hid (.inr ⟨rfl, (x.L.drop t).take k ++ q, Rc2, by
                rw [HG.out]
                have h4 : (x.L.drop t).take k ++ q <+: (x.L.drop t).take k ++ [p] := (List.prefix_append_right_inj _).2 hq
                rw [← htk.out] at h4
                exact h4.trans (List.take_prefix _ _), ⟨by rw [← List.append_assoc]; exact h1, h2⟩, h3⟩)
              clear hq h1 h2 h3
              go_wp2
              go_returns
              exact HZ.out
        · obtain rfl : k = x.L.length - t := by omega
          have HZ : Hid (TakePost w0 pp n c V K Kx X pre (givP from_ x.D) (.returned (.bool true)) wr) := Lib.hid (.inl ⟨rfl, Rc', by
            have h := HP.out.1
            rw [List.take_of_length_le (by rw [List.length_drop]; exact Nat.le_refl _)] at h
            rw [HG.out]
            exact h, HP.out.2⟩)
          clear HP hk hY hf
          go_wp2
          go_returns
          exact HZ.out
    · have hte : t = x.L.length := by omega
      have HZ : Hid (TakePost w0 pp n c V K Kx X pre (givP from_ x.D) (.returned (.bool true)) w2) := Lib.hid (.inl ⟨rfl, Rc, by
        rw [HG.out, hte, List.drop_length, List.append_nil]
        exact HX.out.1, H2⟩)
      have hz0 : x.L.length - t = 0 := by omega
      have htc : t ≤ x.c := by omega
      clear H2 hY hf hte
      go_wp2_with fail
      all_goals
        go_loopw [29] (fun iv wr => iv = .int .i64 0 ∧ wr = w2) (fun _ _ => 0)
        case atStart => exact ⟨rfl, rfl⟩
        case round =>
          obtain ⟨rfl, rfl⟩ := hrel
          go_wp2
          go_returns
          exact HZ.out
  · have f1 : decide ((1 : Int) < x.level) = true := decide_eq_true (by omega)
    have HZ : Hid (TakePost w0 pp n c V K Kx X pre (givP from_ x.D) (.returned (.bool true)) W) := Lib.hid (.inl ⟨rfl, Rc, by
      unfold givP
      rw [if_neg (show ¬ x.D.level = 1 from h1), List.append_nil]
      exact hK, H⟩)
    clear hK H hnb hF hlaw hY hf h1
    go_enter Tryz.func77, Tryz.ntmps77
    go_wp2
    go_returns
    exact HZ.out
end
end Go.Proofs.YtkdhlofcdcnjgaaGreat
namespace Go.Proofs.YtkdhlofcdcnjgaaGreat
set_option maxRecDepth 100000
open Go.ChangeShapes Go.WideShapes Go.ChangeAt Go.RowKit Go.PlainAid Go.Shelf
open Go.Sort (grow)

attribute [local go_sem ↓ high] store_n
attribute [local go_sem] Oper.semAt_some
theorem fromL_app (f : ByteArray) (a b : List (NdD × Bool)) (h : ∀ y ∈ a, y.2 = false) : fromL f (a ++ b) = fromL f a ++ fromL f b := by
  induction a with
  | nil => rfl
  | cons x l ih =>
    have hx := h x List.mem_cons_self
    show (if x.2 = true then [] else givP f x.1 ++ fromL f (l ++ b)) = (if x.2 = true then [] else givP f x.1 ++ fromL f l) ++ fromL f b
    rw [hx, if_neg (by simp), if_neg (by simp), ih fun y hy => h y (List.mem_cons_of_mem _ hy), List.append_assoc]
theorem fromL_bad (f : ByteArray) (a b : List (NdD × Bool)) (y : NdD) (h : ∀ y ∈ a, y.2 = false) : fromL f (a ++ [(y, true)] ++ b) = fromL f a := by
  rw [List.append_assoc, fromL_app f a _ h]
  show fromL f a ++ [] = _
  rw [List.append_nil]
theorem fromL_prefix (f : ByteArray) : ∀ (a b : List (NdD × Bool)), fromL f a <+: fromL f (a ++ b)
  | [], b => ⟨fromL f b, rfl⟩
  | x :: l, b => by
    show (if x.2 = true then [] else givP f x.1 ++ fromL f l) <+: (if x.2 = true then [] else givP f x.1 ++ fromL f (l ++ b))
    by_cases hx : x.2 = true
    · rw [if_pos hx, if_pos hx]
      exact List.prefix_refl _
    · rw [if_neg hx, if_neg hx]
      exact (List.prefix_append_right_inj _).2 (fromL_prefix f l b)
theorem fromL_one (f : ByteArray) (a : List (NdD × Bool)) (x : NdD) (h : ∀ y ∈ a, y.2 = false) : fromL f (a ++ [(x, false)]) = fromL f a ++ givP f x := by
  rw [fromL_app f a _ h]
  show fromL f a ++ (if false = true then [] else givP f x ++ []) = _
  rw [if_neg (by simp), List.append_nil]
theorem eq_yieldS (fn : Fn) (a b : Array Value) (w : World) : (binOp .eql 83 (.func fn a b) .nilFunc).run Tryz.prog w = .ok (.bool false) w := by kernel_rfl
/-- The box of a closure. -/
def boxF (f : FuncId) (caps : Array Value) : Obj := .cells #[.func (.func f) #[] caps] 83 (0, 0)
theorem boxF_cell {w : World} {b : Nat} {f : FuncId} {caps : Array Value} (h : w.heap[b]? = some (boxF f caps)) : w.cell? ⟨b, 0, none⟩ = some (.func (.func f) #[] caps) := by
  unfold boxF at h
  rw [cell_of_row _ _ _ _ _ _ h]
  rfl
/-- What a round of From keeps. -/
def FrK (bf b0 : Nat) (f : ByteArray) (g : FuncId) (caps : Array Value) (K : List Pr → List (Nat × Obj) → Prop) (pre : List (NdD × Bool)) (Rc : List (Nat × Obj)) : Prop := (∀ y ∈ pre, y.2 = false) ∧
  ∃ R0, Rc = (bf, boxS f) :: (b0, boxF g caps) :: R0 ∧ Ap [(bf, boxS f), (b0, boxF g caps)] R0 ∧ K (fromL f pre) R0
def FrX (bf b0 : Nat) (f : ByteArray) (g : FuncId) (caps : Array Value) (K Kx : List Pr → List (Nat × Obj) → Prop) (cd : Code) (pre : List (NdD × Bool)) (Rc : List (Nat × Obj)) : Prop := cd = .ret ∧
  ∃ R0, Rc = (bf, boxS f) :: (b0, boxF g caps) :: R0 ∧ Ap [(bf, boxS f), (b0, boxF g caps)] R0 ∧ ((∃ a y, pre = a ++ [(y, true)] ∧ (∀ z ∈ a, z.2 = false) ∧ K (fromL f a) R0) ∨ ∃ q, q <+: fromL f pre ∧ Kx q R0)
section
variable {w0 : World} {pp n c tb : Nat} {V : Int → ByteArray} {i : Int}
theorem from_end {f : ByteArray} {K Kx : List Pr → List (Nat × Obj) → Prop} {xs vs : List (NdD × Bool)} {R0 : List (Nat × Obj)} (hp : xs <+: vs) (h : (∃ a y, xs = a ++ [(y, true)] ∧ (∀ z ∈ a, z.2 = false) ∧ K (fromL f a) R0) ∨ ∃ q, q <+: fromL f xs ∧ Kx q R0) : K (fromL f vs) R0 ∨ ∃ q, q <+: fromL f vs ∧ Kx q R0 := by
  obtain ⟨b, rfl⟩ := hp
  rcases h with ⟨a, y, rfl, hg, hK⟩ | ⟨q, hq, hK⟩
  · exact .inl (by rw [fromL_bad f a b y hg]; exact hK)
  · exact .inr ⟨q, hq.trans (fromL_prefix f xs b), hK⟩
/-- What From's iterator leaves. -/
def FromPost (w0 : World) (pp n c : Nat) (V : Int → ByteArray) (K Kx : List Pr → List (Nat × Obj) → Prop) (X : List (Nat × Obj)) (l : List Pr) (e : Ending) (W' : World) : Prop :=
  e = .returned (.tuple #[]) ∧ ∃ Rc', PV w0 pp n c V (X ++ Rc') W' ∧ (K l Rc' ∨ ∃ q, q <+: l ∧ Kx q Rc')
set_option maxHeartbeats 4000000 in
theorem from1_c {f : FuncId} {caps : Array Value} {K Kx : List Pr → List (Nat × Obj) → Prop} (hf : ∀ args w, (callFunc f args).run Tryz.prog w = .ok (.enter f args) w) (hY : Takes w0 pp n c V f caps K Kx) (hn : 1 < n) (hi : 0 ≤ i ∧ i < 16) (from_ : ByteArray) (bt bf : Nat) (X Rc : List (Nat × Obj)) (W : World)
    (hK : K [] Rc ∧ Ap X ((bf, boxS from_) :: Rc) ∧ Ap [(bf, boxS from_)] Rc) (H : PV w0 pp n c V (X ++ ((bf, boxS from_) :: Rc)) W) (hT : (tb, treeO pp i) ∈ X) (h1 : (bt, boxT tb) ∈ X) :
    Calls Tryz.prog 76 #[.func (.func f) #[] caps, .pointer (some ⟨bt, 0, none⟩), .pointer (some ⟨bf, 0, none⟩)] W (FromPost w0 pp n c V K Kx X (fromL from_ (visA V n i from_))) := by
  have hnil := eq_yieldS
  have H1 : PV w0 pp n c V ((W.heap.size, boxF f caps) :: (X ++ ((bf, boxS from_) :: Rc))) (W.alloc (boxF f caps)) := H.push (boxF f caps)
  have c1 := boxT_cell (H1.mem (x := (bt, boxT tb)) (by simp [h1]))
  have c2 := boxS_cell (H1.mem (x := (bf, boxS from_)) (by simp))
  have c3 := boxF_cell (H1.mem (x := (W.heap.size, boxF f caps)) (by simp))
  have H1' := Lib.hid H1
  clear H1
  unfold boxF at c1 c2 c3
  refine (callsIn_wide (n := 10)).1 ?_
  refine callsIn_of_wp_marks Tryz.func76 rfl trivial ?_ rfl
  simp only [Tryz.ntmps76, List.size_toArray, List.length_cons, List.length_nil, Nat.reduceAdd, Nat.reduceSub, Array.replicate_succ, Array.replicate_zero, List.push_toArray, List.append_toArray, List.nil_append, List.cons_append]
  refine wpIn_wide.2 ?_
  go_wp2_with fail
  refine (nodes_mk _ _).mono ?_
  rintro e _ ⟨rfl, rfl⟩
  go_wp2_with fail
  obtain ⟨b0, hb0⟩ : ∃ b0, W.heap.size = b0 := ⟨_, rfl⟩
  have H7 : PV w0 pp n c V (((b0 + 1 + 1, boxS from_) :: (b0 + 1, boxT tb) :: X) ++ ((bf, boxS from_) :: (b0, boxF f caps) :: Rc)) (((W.alloc (boxF f caps)).alloc (boxT tb)).alloc (boxS from_)) := by
    have h := (H1'.out.push (boxT tb)).push (boxS from_)
    rw [World.size_alloc, World.size_alloc, hb0] at h
    refine h.sub _ fun y hy => ?_
    simp only [List.mem_append, List.mem_cons] at hy ⊢
    rcases hy with (h | h | h) | h | h | h
    · exact .inl h
    · exact .inr (.inl h)
    · exact .inr (.inr (.inr (.inl h)))
    · exact .inr (.inr (.inr (.inr (.inl h))))
    · exact .inr (.inr (.inl h))
    · exact .inr (.inr (.inr (.inr (.inr h))))
  have hAp : Ap ((b0 + 1 + 1, boxS from_) :: (b0 + 1, boxT tb) :: X) ((bf, boxS from_) :: (b0, boxF f caps) :: Rc) := fun z hz y hy => by
    have hzl : z ∈ X → z.1 < b0 := fun h => by rw [← hb0]; exact H.lt (x := z) (by simp [h])
    have hyl : y.1 ≤ b0 := by
      simp only [List.mem_cons] at hy
      rw [← hb0]
      rcases hy with rfl | rfl | hy
      · exact Nat.le_of_lt (H.lt (x := (bf, boxS from_)) (by simp))
      · exact Nat.le_of_eq hb0.symm
      · exact Nat.le_of_lt (H.lt (x := y) (by simp [hy]))
    rcases List.mem_cons.1 hz with rfl | hz
    · simp only; omega
    · rcases List.mem_cons.1 hz with rfl | hz
      · simp only; omega
      · simp only [List.mem_cons] at hy
        rcases hy with rfl | rfl | hy
        · exact hK.2.1 z hz _ (by simp)
        · have := hzl hz
          simp only; omega
        · exact hK.2.1 z hz _ (by simp [hy])
  have hAq : Ap [(bf, boxS from_), (b0, boxF f caps)] Rc := fun z hz y hy => by
    have hyl : y.1 < b0 := by rw [← hb0]; exact H.lt (x := y) (by simp [hy])
    simp only [List.mem_cons, List.not_mem_nil, or_false] at hz
    rcases hz with rfl | rfl
    · exact hK.2.2 _ (by simp) y hy
    · simp only; omega
  have hW7e : ((W.alloc (.cells #[.func (.func f) #[] caps] 83)).alloc (boxT tb)).alloc (boxS from_) = ((W.alloc (boxF f caps)).alloc (boxT tb)).alloc (boxS from_) := rfl
  obtain ⟨W7, hW7⟩ : ∃ W7, ((W.alloc (boxF f caps)).alloc (boxT tb)).alloc (boxS from_) = W7 := ⟨_, rfl⟩
  rw [hW7] at H7 hW7e
  rw [hW7e, hb0]
  clear c1 c2 c3 H1' H hW7e hW7 hb0
  have hGB := H7.gb
  have hHK := Lib.hid (And.intro hK.1 hAq)
  clear hK hAq
  refine (wpIn_wide (n := 9)).1 ?_
  refine wpIn_rounds (key := keyN) (encs := encN) (Fit := FitX) ((b0 + 1 + 1, boxS from_) :: (b0 + 1, boxT tb) :: X) ((bf, boxS from_) :: (b0, boxF f caps) :: Rc) (gf := 74) (lb := #[.pointer (some ⟨b0 + 1, 0, none⟩), .pointer (some ⟨b0 + 1 + 1, 0, none⟩)]) rfl (enters_of Tryz.func74 (by kernel_rfl) rfl) (fun _ => rfl) H7 (hGB.sub fun y hy => List.mem_append_left _ hy) (hGB.sub fun y hy => List.mem_append_right _ hy)
    (FrK bf b0 from_ f caps K) (FrX bf b0 from_ f caps K Kx) ⟨⟨(fun _ h => by cases h), Rc, rfl, hHK.out.2, hHK.out.1⟩, hAp⟩
    (fun xs => xs = visA V n i from_) (fun xs => xs <+: visA V n i from_)
    (fun K' Kx' R' W hY hK H => nodes_seq (tb := tb) (bt := b0 + 1) (bf := b0 + 1 + 1) hn hi from_ (by simp [hT]) (by simp) (by simp) (hGB.sub fun y hy => List.mem_append_left _ hy) K' Kx' R' W hY hK H _)
    (fun X1 y a' => ∃ nb : Nat, X1 = [(nb, ndO y.1)] ∧ a' = { tmps := #[.func (.func f) #[] caps, .pointer (some ⟨bt, 0, none⟩), .pointer (some ⟨bf, 0, none⟩), .pointer (some ⟨b0, 0, none⟩), .pointer (some ⟨nb, 0, none⟩), errV y.2, .func (.func f) #[] caps, .bool false, .pointer (some ⟨tb, 0, none⟩), .string from_, .func (.func 74) #[] #[.pointer (some ⟨b0 + 1, 0, none⟩), .pointer (some ⟨b0 + 1 + 1, 0, none⟩)], .agg y.1.cells, errV y.2, undef, undef, undef, undef, undef, undef, undef, undef], defers := [] }) ?assign ?body ?done ?stop
  case assign =>
    intro l x W X' Kc hF hk hK
    obtain ⟨ev, hev⟩ : ∃ ev : Int, (if x.2 = true then (6 : Int) else 0) = ev := ⟨_, rfl⟩
    have he : encN x = #[.agg x.1.cells, .int .i64 ev] := by
      unfold encN errV
      rw [hev]
    rw [he]
    have hst := store_nd_fresh W x.1
    obtain ⟨W5, hW5⟩ : ∃ W5, W.alloc (ndO x.1) = W5 := ⟨_, rfl⟩
    rw [hW5] at hst
    gi_wp2
    refine hK _ _ _ (.inr ⟨ndO x.1, rfl, hW5.symm, rfl⟩) ⟨W.heap.size, rfl, ?_⟩
    unfold errV
    rw [hev]
  case body =>
    rintro l r pre y X' X1 R' a' W ⟨⟨hgood, R0, rfl, hA0, hK⟩, hA⟩ hF ⟨nb, rfl, rfl⟩ hGX hGR h
    obtain ⟨ny, b⟩ := y
    have c2 := boxS_cell (h.mem (x := (bf, boxS from_)) (by simp))
    have c3 := boxF_cell (h.mem (x := (b0, boxF f caps)) (by simp))
    cases b with
    | true =>
      have HP := Lib.hid (And.intro hgood (And.intro hK (And.intro hA (And.intro hA0 (And.intro hGR (h.sub ((W7.heap.size + 1, .loop r) :: (W7.heap.size, .deferred (some [])) :: (X' ++ ((bf, boxS from_) :: (b0, boxF f caps) :: R0))) fun y hy => by simp only [List.mem_cons, List.mem_append] at hy ⊢; rcases hy with h | h | h | h | h | h <;> simp [h]))))))
      clear h hgood hGR hK hA hA0
      unfold errV
      gi_wp2
      refine ⟨trivial, ?_⟩
      gi_wp2
      exact ⟨_, ⟨⟨rfl, R0, rfl, HP.out.2.2.2.1, .inl ⟨pre, ny.D, rfl, HP.out.1, HP.out.2.1⟩⟩, fun z hz => HP.out.2.2.1 z (by simp [hz])⟩, HP.out.2.2.2.2.1, HP.out.2.2.2.2.2⟩
    | false =>
      have hF' : FitN X' ny false := hF
      have hAg : Ap ((W7.heap.size + 1, .loop r) :: (W7.heap.size, .deferred (some [])) :: (nb, ndO ny) :: (bf, boxS from_) :: (b0, boxF f caps) :: X') R0 := fun z hz y hy => by
        simp only [List.mem_cons] at hz
        have hyR := hGR y (by simp [hy])
        have hPa := h.apart rfl rfl (by
          refine (GB.cons (GB.nil _) rfl).app (hGX.app hGR))
        rcases hz with rfl | rfl | rfl | rfl | rfl | hz
        · exact fun e => hPa.1 y (by simp [hy]) e.symm
        · exact fun e => hPa.2 y (by simp [hy]) e.symm
        · exact hA (nb, ndO ny) (by simp) y (by simp [hy])
        · exact hA0 _ (by simp) y hy
        · exact hA0 _ (by simp) y hy
        · exact hA z (by simp [hz]) y (by simp [hy])
      have HG := Lib.hid (give_c hf hY from_ (fromL from_ pre) ((W7.heap.size + 1, .loop r) :: (W7.heap.size, .deferred (some [])) :: (nb, ndO ny) :: (bf, boxS from_) :: (b0, boxF f caps) :: X') R0 nb ny W ⟨hK, hAg⟩ (h.sub _ fun y hy => by simp only [List.mem_cons, List.mem_append, List.cons_append] at hy ⊢; rcases hy with h | h | h | h | h | h | h <;> simp [h]) (by simp) { hF' with kn := fun h => (hF'.kn h).mono fun y hy => by simp [hy] })
      have HX := Lib.hid (And.intro hgood (And.intro hA (And.intro hA0 hGR)))
      clear h hgood hA hA0 hGR hK hAg hF' hF hGX
      unfold errV
      gi_wp2
      refine ⟨trivial, (((callsIn_wide (n := 6)).2 HG.out).inRound l).mono ?_⟩
      rintro e w8 (⟨rfl, Rc', ⟨hK, hA⟩, h⟩ | ⟨rfl, q, Rc', hq, ⟨hK, hA⟩, h⟩)
      · have HZ : Hid (∃ R', (FrK bf b0 from_ f caps K (pre ++ [keyN (ny, false)]) R' ∧ Ap X' R') ∧ GB W7.heap.size R' ∧ PV w0 pp n c V ((W7.heap.size + 1, .loop r) :: (W7.heap.size, .deferred (some [])) :: (X' ++ R')) w8) := Lib.hid (by
          refine ⟨(bf, boxS from_) :: (b0, boxF f caps) :: Rc', ⟨⟨?_, Rc', rfl, fun z hz y hy => hA z (by simp only [List.mem_cons, List.not_mem_nil, or_false] at hz ⊢; rcases hz with h | h <;> simp [h]) y hy, ?_⟩, ?_⟩, ?_, ?_⟩
          · intro z hz
            rcases List.mem_append.1 hz with hz | hz
            · exact HX.out.1 z hz
            · rw [List.mem_singleton] at hz
              rw [hz]
              rfl
          · rw [show keyN (ny, false) = (ny.D, false) from rfl, fromL_one from_ pre _ HX.out.1]
            exact hK
          · intro z hz y hy
            simp only [List.mem_cons] at hy
            rcases hy with rfl | rfl | hy
            · exact HX.out.2.1 z (by simp [hz]) _ (by simp)
            · exact HX.out.2.1 z (by simp [hz]) _ (by simp)
            · exact hA z (by simp [hz]) y hy
          · refine (GB.cons (GB.cons (fun y hy => .inr ⟨?_, ?_⟩) rfl) rfl)
            · exact fun e => hA (W7.heap.size, .deferred (some [])) (by simp) y hy e.symm
            · exact fun e => hA (W7.heap.size + 1, .loop r) (by simp) y hy e.symm
          · exact h.sub _ fun y hy => by simp only [List.mem_cons, List.mem_append, List.cons_append] at hy ⊢; rcases hy with h | h | h | h | h | h <;> simp [h])
        clear hK hA h HG
        gi_wp2
        exact HZ.out
      · have HZ : Hid (∃ R', (FrX bf b0 from_ f caps K Kx .ret (pre ++ [keyN (ny, false)]) R' ∧ Ap X' R') ∧ GB W7.heap.size R' ∧ PV w0 pp n c V ((W7.heap.size + 1, .loop r) :: (W7.heap.size, .deferred (some [])) :: (X' ++ R')) w8) := Lib.hid (by
          refine ⟨(bf, boxS from_) :: (b0, boxF f caps) :: Rc', ⟨⟨rfl, Rc', rfl, fun z hz y hy => hA z (by simp only [List.mem_cons, List.not_mem_nil, or_false] at hz ⊢; rcases hz with h | h <;> simp [h]) y hy, .inr ⟨fromL from_ pre ++ q, ?_, hK⟩⟩, ?_⟩, ?_, ?_⟩
          · rw [show keyN (ny, false) = (ny.D, false) from rfl, fromL_one from_ pre _ HX.out.1]
            exact (List.prefix_append_right_inj _).2 hq
          · intro z hz y hy
            simp only [List.mem_cons] at hy
            rcases hy with rfl | rfl | hy
            · exact HX.out.2.1 z (by simp [hz]) _ (by simp)
            · exact HX.out.2.1 z (by simp [hz]) _ (by simp)
            · exact hA z (by simp [hz]) y hy
          · refine (GB.cons (GB.cons (fun y hy => .inr ⟨?_, ?_⟩) rfl) rfl)
            · exact fun e => hA (W7.heap.size, .deferred (some [])) (by simp) y hy e.symm
            · exact fun e => hA (W7.heap.size + 1, .loop r) (by simp) y hy e.symm
          · exact h.sub _ fun y hy => by simp only [List.mem_cons, List.mem_append, List.cons_append] at hy ⊢; rcases hy with h | h | h | h | h | h <;> simp [h])
        clear hK hA h HG hq
        gi_wp2
        exact HZ.out
  case done =>
    intro xs R' W hS hK h hne
    obtain ⟨hgood, R0, rfl, hA0, hK⟩ := hK
    have h3 := h.obj (o' := .deferred none) hne rfl rfl H7.below.size
    have hd := h.mem (x := (W7.heap.size, .deferred (some []))) (by simp)
    have HP := Lib.hid (And.intro (h3.sub (X ++ ((bf, boxS from_) :: R0)) fun y hy => by simp only [List.mem_cons, List.mem_append, List.cons_append] at hy ⊢; rcases hy with h | h | h <;> simp [h]) (And.intro hd (And.intro hS hK)))
    clear h h3 hd hS hgood hne hK hA0
    go_wp2_with fail
    refine ⟨by simp, .inl ⟨_, _, rfl, run_takeDeferred HP.out.2.1, ?_⟩⟩
    exact ⟨.tuple #[], by simp [results, Tryz.results76, go_sem], rfl, _, HP.out.1.sub (X ++ R0) fun y hy => by simp only [List.mem_append, List.mem_cons] at hy ⊢; rcases hy with h | h <;> simp [h], .inl (by rw [← HP.out.2.2.1]; exact HP.out.2.2.2)⟩
  case stop =>
    intro cd xs R' W hSp hK h hne
    obtain ⟨rfl, R0, rfl, hA0, hK⟩ := hK
    have h3 := h.obj (o' := .deferred none) hne rfl rfl H7.below.size
    have hd := h.mem (x := (W7.heap.size, .deferred (some []))) (by simp)
    have HP := Lib.hid (And.intro (h3.sub (X ++ ((bf, boxS from_) :: R0)) fun y hy => by simp only [List.mem_cons, List.mem_append, List.cons_append] at hy ⊢; rcases hy with h | h | h <;> simp [h]) (And.intro hd (And.intro hSp hK)))
    clear h h3 hd hSp hne hK hA0
    refine wpIn_wide.2 ?_
    go_wp2_with fail
    refine ⟨by simp, .inl ⟨_, _, rfl, run_takeDeferred HP.out.2.1, ?_⟩⟩
    exact ⟨.tuple #[], by simp [results, Tryz.results76, go_sem], rfl, _, HP.out.1.sub (X ++ R0) fun y hy => by simp only [List.mem_append, List.mem_cons] at hy ⊢; rcases hy with h | h <;> simp [h], from_end HP.out.2.2.1 HP.out.2.2.2⟩
end
end Go.Proofs.YtkdhlofcdcnjgaaGreat
namespace Go.Proofs.YtkdhlofcdcnjgaaGreat
set_option maxRecDepth 100000
open Go.ChangeShapes Go.WideShapes Go.ChangeAt Go.RowKit Go.PlainAid Go.Shelf
open Go.Sort (grow)

attribute [local go_sem ↓ high] store_n
attribute [local go_sem] Oper.semAt_some
section
variable {w0 : World} {pp n c tb : Nat} {V : Int → ByteArray} {i : Int} {R : List (Nat × Obj)} {w : World}
/-- What From gives. -/
def FrOf (w0 : World) (pp n c tb : Nat) (V : Int → ByteArray) (R : List (Nat × Obj)) (w : World) (key : ByteArray) (e : Ending) (w' : World) : Prop :=
  ∃ bt bf, e = .returned (.func (.func 76) #[] #[.pointer (some ⟨bt, 0, none⟩), .pointer (some ⟨bf, 0, none⟩)]) ∧ PV w0 pp n c V ((bf, boxS key) :: (bt, boxT tb) :: R) w' ∧ w.heap.size ≤ bt ∧ bt < bf
theorem from_mk (key : ByteArray) (hk : key.size ≤ 65536) (H : PV w0 pp n c V R w) :
    Calls Tryz.prog 36 #[.pointer (some ⟨tb, 0, none⟩), .string key] w (FrOf w0 pp n c tb V R w key) := by
  have hmf := make_func
  go_enter Tryz.func36, Tryz.ntmps36
  have H1 : Hid (PV w0 pp n c V ((w.heap.size, boxT tb) :: R) (w.alloc (boxT tb))) := Lib.hid (H.push (boxT tb))
  clear H
  go_wp2_with fail
  refine (clone_any key _ (by omega)).mono ?_
  rintro e w5 ⟨rfl, hb⟩
  have H5 : PV w0 pp n c V ((w.heap.size, boxT tb) :: R) w5 := H1.out.on hb
  have hsz : w.heap.size + 1 ≤ w5.heap.size := by
    have := hb.size
    rw [World.size_alloc] at this
    exact this
  have H6 : Hid (PV w0 pp n c V ((w5.heap.size, boxS key) :: (w.heap.size, boxT tb) :: R) (w5.alloc (boxS key))) := Lib.hid (H5.push (boxS key))
  have HS := Lib.hid hsz
  clear H5 hb hsz H1
  go_wp2
  go_returns
  exact ⟨_, _, rfl, H6.out, Nat.le_refl _, HS.out⟩
theorem all_mk (H : PV w0 pp n c V R w) :
    Calls Tryz.prog 43 #[.pointer (some ⟨tb, 0, none⟩)] w (FrOf w0 pp n c tb V R w ⟨#[]⟩) := by
  have HF := Lib.hid (from_mk (tb := tb) ⟨#[]⟩ (by decide) H)
  clear H
  go_enter Tryz.func43, Tryz.ntmps43
  go_wp2_with fail
  refine HF.out.mono ?_
  rintro e w5 ⟨bt, bf, rfl, H⟩
  have HZ := Lib.hid H
  clear H HF
  go_wp2
  go_returns
  exact ⟨_, _, rfl, HZ.out⟩
end
/-- A list of pairs in a law: its box. -/
def boxL (v : Value) : Obj := .cells #[v] 39 (0, 0)
end Go.Proofs.YtkdhlofcdcnjgaaGreat
