import Derived.Test.YtcjfnfdinhbdlaaGreatDoorGbm
import Derived.Test.YtcjfnfdinhbdlaaGreatDoorGaz
namespace Go.Proofs.YtcjfnfdinhbdlaaGreatDoor
set_option maxRecDepth 100000
open Go.ChangeShapes Go.WideShapes Go.ChangeAt Go.RowKit Go.PlainAid Go.Shelf
open Go.Sort (grow)
theorem getElem_set_ext {α : Type} (l : List α) (i : Nat) (v : α) (j : Nat) : (l.set i v)[j]? = if i = j ∧ j < l.length then some v else l[j]? := by
  rw [List.getElem?_set]
  by_cases h : i = j
  · subst h
    by_cases h2 : i < l.length
    · simp [h2]
    · simp [h2]
  · simp [h]
theorem RowN.setList {cur : Array Value} {ns : List NdM} (h : RowN cur ns) {i : Nat} {x x' : NdM} (hx : ns[i]? = some x) (v : Value) (hx' : x'.cells = x.cells.setIfInBounds 4 v) (hsz : ns.length * 6 ≤ cur.size) :
    RowN (cur.setIfInBounds (i * 6 + 4) v) (ns.set i x') := by
  have hi := (List.getElem?_eq_some_iff.1 hx).1
  unfold RowN
  rw [List.length_set]
  apply List.ext_getElem?
  intro j
  rw [List.getElem?_take]
  by_cases hj : j < ns.length * 6
  · rw [if_pos hj, Array.toList_setIfInBounds, getElem_set_ext, Array.length_toList]
    obtain ⟨a, t, ht, rfl⟩ : ∃ a t, t < 6 ∧ j = a * 6 + t := ⟨j / 6, j % 6, Nat.mod_lt _ (by decide), by omega⟩
    have ha : a < ns.length := by omega
    obtain ⟨y, hy⟩ : ∃ y, ns[a]? = some y := ⟨_, List.getElem?_eq_getElem ha⟩
    have hc := h.at hy t ht
    by_cases hai : a = i
    · subst hai
      rw [hx] at hy
      cases hy
      have hn : (ns.set a x')[a]? = some x' := by rw [getElem_set_ext, if_pos ⟨rfl, ha⟩]
      rw [flatN_at _ a x' hn t ht, hx', Array.getElem?_setIfInBounds]
      by_cases h4 : t = 4
      · subst h4
        rw [if_pos ⟨rfl, by omega⟩, if_pos rfl, if_pos (by rw [nd_six]; decide)]
      · rw [if_neg (by omega), if_neg (by omega), ← hc, Array.getElem?_toList]
    · have hn : (ns.set i x')[a]? = some y := by rw [getElem_set_ext, if_neg (by omega)]; exact hy
      rw [flatN_at _ a y hn t ht, if_neg (by omega), ← hc, Array.getElem?_toList]
  · rw [if_neg hj, List.getElem?_eq_none (by rw [flatN_len, List.length_set]; omega)]
theorem flatP_set : ∀ (L : List Pr) (i : Nat) (r : Pr), ((flatP L).set (i * 2) (.string r.key)).set (i * 2 + 1) (.string r.val) = flatP (L.set i r)
  | [], i, r => by simp [flatP]
  | p :: t, 0, r => rfl
  | p :: t, i + 1, r => by
    have e : flatP (p :: t) = .string p.key :: .string p.val :: flatP t := rfl
    have e2 : flatP (p :: t.set i r) = .string p.key :: .string p.val :: flatP (t.set i r) := rfl
    rw [e, List.set_cons_succ, e2, ← flatP_set t i r, show (i + 1) * 2 = i * 2 + 1 + 1 by omega]
    rfl
theorem pr_cells {w : World} {b : Nat} {r : Pr} (h : w.heap[b]? = some (prO r)) : w.cell? ⟨b, 0, none⟩ = some (.string r.key) ∧ w.cell? ⟨b, 1, none⟩ = some (.string r.val) := by
  unfold prO at h
  exact ⟨by rw [cell_of_row _ _ _ _ _ _ h]; rfl, by rw [cell_of_row _ _ _ _ _ _ h]; rfl⟩
section
variable {w0 w w' : World} {pp n c tb : Nat} {V : Int → ByteArray} {Y : List (Nat × Obj)} {i : Int}
def PutPost (w0 : World) (pp n c : Nat) (V : Int → ByteArray) (Y : List (Nat × Obj)) (wb cap : Nat) (ns : List NdM) (x : NdM) (r : Pr) (w' : World) : Prop :=
  ∃ x' g' curl cur', PV w0 pp n c V ((wb, wayO cur') :: (g', .cells curl 121 (0, 0)) :: Y) w' ∧ RowN cur' (ns ++ [x']) ∧ cur'.size = cap * 6 ∧ x'.sl = some ⟨g', 0, none⟩ ∧ RowP curl x'.L ∧ x'.L.length ≤ x'.c ∧ x'.L = putB r x.L ∧
    x'.at_ = x.at_ ∧ x'.level = x.level ∧ x'.low = x.low ∧ x'.high = x.high ∧ x'.next = x.next ∧ (∀ y ∈ Y, y.1 ≠ wb) ∧ g' ≠ wb ∧ w0.heap.size ≤ g'
set_option maxHeartbeats 4000000 in
theorem nput_any {wb g cap : Nat} {cur : Array Value} {ns : List NdM} {x : NdM} (H : PV w0 pp n c V ((wb, wayO cur) :: (g, rowO x.L) :: Y) w) (hr : RowN cur (ns ++ [x])) (hcs : cur.size = cap * 6) (hcap : ns.length + 1 ≤ cap)
    (hwb : ∀ y ∈ (g, rowO x.L) :: Y, y.1 ≠ wb) (hgb : ∀ y ∈ Y, y.1 ≠ g) (hsl : x.sl = some ⟨g, 0, none⟩) (hu : UpOk [(g, rowO x.L)] x) (hlb : w0.heap.size ≤ wb) (hlg : w0.heap.size ≤ g) (r : Pr) :
    Calls Tryz.prog 69 #[.pointer (some ⟨wb, ns.length * 6, none⟩), .agg #[.string r.key, .string r.val]] w fun e w' => e = .returned (.tuple #[]) ∧ PutPost w0 pp n c V Y wb cap ns x r w' := by
  have H1 := H.push (prO r)
  have hxi : (ns ++ [x])[ns.length]? = some x := by simp
  have hkn := hu.kn
  have hsm := hu.small
  have hpos := hu.pos
  have hN := nodeIs_of (H1.mem (x := (wb, wayO cur)) (by simp)) hr hxi (H1.kn (hkn.mono fun y hy => by simp at hy; simp [hy])) (by omega)
  obtain ⟨m0, m1⟩ := pr_cells (H1.mem List.mem_cons_self)
  simp only at m0 m1
  have hltg := H.lt (x := (g, rowO x.L)) (by simp)
  have HF := Lib.hid (find_any r.key hN (risB_srt hu.law.rise))
  have HX := Lib.hid (And.intro hr (And.intro hcs (And.intro hwb (And.intro hgb (And.intro hsl (And.intro hu (And.intro hkn (And.intro H1 hltg))))))))
  clear H H1 hN hr hcs hwb hgb hsl hu hkn
  go_enter Tryz.func69, Tryz.ntmps69
  go_wp2_with fail
  refine HF.out.mono ?_
  rintro e w2 ⟨rfl, hb2⟩
  have H2 := HX.out.2.2.2.2.2.2.2.1.on hb2
  clear m0 m1
  obtain ⟨m0, m1⟩ := pr_cells (H2.mem List.mem_cons_self)
  simp only at m0 m1
  have c4 := (nodeIs_of (H2.mem (x := (wb, wayO cur)) (by simp)) HX.out.1 hxi (H2.kn (HX.out.2.2.2.2.2.2.1.mono fun y hy => by simp at hy; simp [hy])) (by omega)).list
  rw [HX.out.2.2.2.2.1] at c4
  obtain ⟨j, hj⟩ : ∃ j, posP r.key x.L = j := ⟨_, rfl⟩
  have hjl := posP_le r.key x.L
  rw [hj] at hjl
  rw [hj]
  cases hh : hitP r.key x.L with
  | true =>
    obtain ⟨q, hq, _⟩ := hitP_some hh
    rw [hj] at hq
    have hjl2 := (List.getElem?_eq_some_iff.1 hq).1
    have hgm := H2.mem (x := (g, rowO x.L)) (by simp)
    unfold rowO at hgm
    simp only at hgm
    obtain ⟨v0, v1⟩ := flatP_at x.L j q hq
    have s0 : w2.cell? ⟨g, j * 2, none⟩ = some (.string q.key) := by rw [cell_of_row _ _ _ _ _ _ hgm]; simpa using v0
    have s1 : w2.cell? ⟨g, j * 2 + 1, none⟩ = some (.string q.val) := by rw [cell_of_row _ _ _ _ _ _ hgm]; simpa using v1
    have s2 : w2.frozen? ⟨g, j * 2, none⟩ = false := frozen_of_row _ _ _ _ _ hgm
    have s3 : w2.frozen? ⟨g, j * 2 + 1, none⟩ = false := frozen_of_row _ _ _ _ _ hgm
    have hRg : ∀ y ∈ (w.heap.size, prO r) :: (wb, wayO cur) :: Y, y.1 ≠ g := fun y hy => by
      rcases List.mem_cons.1 hy with rfl | hy
      · have := HX.out.2.2.2.2.2.2.2.2
        simp only at this ⊢
        omega
      · rcases List.mem_cons.1 hy with rfl | hy
        · exact fun e => HX.out.2.2.1 (g, rowO x.L) (by simp) e.symm
        · exact HX.out.2.2.2.1 y hy
    have H3 := (((H2.drew.sub ((g, rowO x.L) :: (w.heap.size, prO r) :: (wb, wayO cur) :: Y) (fun y hy => by
      simp only [List.mem_cons] at hy ⊢
      rcases hy with h | h | h | h
      · exact .inr (.inr (.inl h))
      · exact .inl h
      · exact .inr (.inl h)
      · exact .inr (.inr (.inr h)))).into hRg (by decide) hlg (j * 2) (.string r.key)).into hRg (by decide) hlg (j * 2 + 1) (.string r.val))
    rw [List.setIfInBounds_toArray, List.setIfInBounds_toArray, flatP_set] at H3
    have hl' : (x.L.set j r).length = x.L.length := List.length_set
    have HQ : Hid (PutPost w0 pp n c V Y wb cap ns x r ((w2.drew.setCell ⟨g, j * 2, none⟩ (.string r.key)).setCell ⟨g, j * 2 + 1, none⟩ (.string r.val))) := Lib.hid ⟨{ x with L := x.L.set j r }, g, (flatP (x.L.set j r)).toArray, cur, H3.sub _ (fun y hy => by
      simp only [List.mem_cons] at hy ⊢
      rcases hy with h | h | h
      · exact .inr (.inr (.inl h))
      · exact .inl h
      · exact .inr (.inr (.inr h))), by
        have h := HX.out.1
        unfold RowN at h ⊢
        rw [List.length_append, List.length_singleton, flatN_app] at h ⊢
        rw [h]
        congr 1
        unfold flatN NdM.cells
        simp only [List.flatMap_cons, List.flatMap_nil, hl'], HX.out.2.1, HX.out.2.2.2.2.1, rowP_self _, by show (x.L.set j r).length ≤ x.c; rw [hl', HX.out.2.2.2.2.2.1.c]; exact Nat.le_refl _, by show x.L.set j r = putB r x.L; unfold putB; rw [if_pos hh, hj], rfl, rfl, rfl, rfl, rfl, fun y hy => HX.out.2.2.1 y (List.mem_cons_of_mem _ hy), HX.out.2.2.1 (g, rowO x.L) (by simp), hlg⟩
    clear hb2 HF hq hRg H3 hgm v0 v1 H2 hh hj
    go_wp2_with fail
    go_region_law (fail)
    all_goals
      go_wp2
      go_returns
      exact ⟨rfl, HQ.out⟩
  | false =>
    have HC := HX.out.2.2.2.2.2.1.c
    rw [HC] at c4
    obtain ⟨va, hva⟩ : ∃ va : Obj, va = .cells #[.string r.key, .string r.val] 121 (0, 0) := ⟨_, rfl⟩
    have H3 := H2.push va
    have hbv : Below w2.heap.size w2 (w2.alloc va) := by go_grown
    have c5 : (w2.alloc va).cell? ⟨wb, ns.length * 6 + 4, none⟩ = some (.slice (some ⟨g, 0, none⟩) x.L.length x.L.length) := (hbv.cell (p := ⟨wb, _, none⟩) (H2.lt (x := (wb, wayO cur)) (by simp))).trans c4
    have m2 : (w2.alloc va).cell? ⟨w.heap.size, 0, none⟩ = some (.string r.key) := (hbv.cell (p := ⟨w.heap.size, _, none⟩) (H2.lt (x := (w.heap.size, prO r)) (by simp))).trans m0
    have m3 : (w2.alloc va).cell? ⟨w.heap.size, 1, none⟩ = some (.string r.val) := (hbv.cell (p := ⟨w.heap.size, _, none⟩) (H2.lt (x := (w.heap.size, prO r)) (by simp))).trans m1
    have HI : Hid (Calls Tryz.prog 123 #[.slice (some ⟨g, 0, none⟩) x.L.length x.L.length, .int .i64 j, .slice (some ⟨w2.heap.size, 0, none⟩) 1 1] (w2.alloc va).drew (InsPost (w2.alloc va).drew (x.L.take j ++ r :: x.L.drop j))) :=
      Lib.hid (insert_any (w := (w2.alloc va).drew) r j hjl hpos (by omega) (H3.drew.mem (x := (g, rowO x.L)) (by simp)) (by rw [hva]; exact heap_alloc_new w2 _))
    have H3' := Lib.hid H3.drew
    have hL' : Hid (x.L.take j ++ r :: x.L.drop j = putB r x.L) := Lib.hid (by unfold putB; rw [if_neg (by rw [hh]; simp), hj])
    clear H2 H3 hbv hh hj HF hb2
    rw [hva] at c5 m2 m3 HI
    have facts : ∀ w3, Below (w2.alloc va).drew.heap.size (w2.alloc va).drew w3 → w3.cell? ⟨wb, ns.length * 6 + 4, none⟩ = some (.slice (some ⟨g, 0, none⟩) x.L.length x.L.length) ∧ w3.frozen? ⟨wb, ns.length * 6 + 4, none⟩ = false := fun w3 hb => by
      have hwm := (H3'.out.on hb).mem (x := (wb, wayO cur)) (by simp)
      unfold wayO at hwm
      simp only at hwm
      refine ⟨?_, frozen_of_row _ _ _ _ _ hwm⟩
      rw [cell_of_row _ _ _ _ _ _ hwm, HX.out.1.at hxi 4 (by decide)]
      unfold NdM.cells
      rw [HX.out.2.2.2.2.1, HC]
      rfl
    rw [hva] at facts
    have HFA := Lib.hid facts
    clear facts
    go_wp2_with fail
    go_region_law (first
      | (go_simp; (with_reducible refine HI.out.mono ?_); rintro e w3 ⟨g', cap', curl, rfl, hg', hm', hrp, hlc, hb3⟩; obtain ⟨c6, f6⟩ := HFA.out w3 hb3; have HZ := Lib.hid (And.intro hm' (And.intro hrp (And.intro hlc (And.intro hb3 hg')))); clear hm' hrp hlc hb3 hg')
      | fail)
    all_goals
      have hln : (x.L.take j ++ r :: x.L.drop j).length = j + (x.L.length - j + 1) := by rw [List.length_append, List.length_cons, List.length_take, List.length_drop]; omega
      have H5 := H3'.out.add (by rw [hva]; exact HZ.out.2.2.2.1) (by rw [hva]; exact HZ.out.2.2.2.2) HZ.out.1
      have hwg : g' ≠ wb := fun e => by
        have h1 := H3'.out.lt (x := (wb, wayO cur)) (by simp)
        have h2 := HZ.out.2.2.2.2
        rw [← hva] at h2
        simp only at h1
        omega
      have H6 := (H5.sub ((wb, wayO cur) :: (g', .cells curl 121 (0, 0)) :: Y) (fun y hy => by
        simp only [List.mem_cons] at hy ⊢
        rcases hy with h | h | h
        · exact .inr (.inr (.inr (.inl h)))
        · exact .inl h
        · exact .inr (.inr (.inr (.inr (.inr h)))))).into (fun y hy => by
          rcases List.mem_cons.1 hy with rfl | hy
          · exact hwg
          · exact HX.out.2.2.1 y (List.mem_cons_of_mem _ hy)) (by decide) hlb (ns.length * 6 + 4) (.slice (some ⟨g', 0, none⟩) (j + (x.L.length - j + 1)) cap')
      have hrow := HX.out.1.setList (x' := { x with L := x.L.take j ++ r :: x.L.drop j, sl := some ⟨g', 0, none⟩, c := cap' }) hxi (.slice (some ⟨g', 0, none⟩) (j + (x.L.length - j + 1)) cap') (by
        unfold NdM.cells
        simp only [hln]
        rfl) (by rw [List.length_append, List.length_singleton, HX.out.2.1]; omega)
      rw [List.set_append_right _ _ (Nat.le_refl _), Nat.sub_self, List.set_cons_zero] at hrow
      have HQ : Hid (PutPost w0 pp n c V Y wb cap ns x r (w3.setCell ⟨wb, ns.length * 6 + 4, none⟩ (.slice (some ⟨g', 0, none⟩) (j + (x.L.length - j + 1)) cap'))) :=
        Lib.hid ⟨_, g', curl, _, H6, hrow, by rw [Array.size_setIfInBounds]; exact HX.out.2.1, rfl, HZ.out.2.1, HZ.out.2.2.1, hL'.out, rfl, rfl, rfl, rfl, rfl, fun y hy => HX.out.2.2.1 y (List.mem_cons_of_mem _ hy), hwg, Nat.le_trans H3'.out.below.size (by rw [hva]; exact HZ.out.2.2.2.2)⟩
      clear H5 H6 hrow hwg hln c6 f6
      go_wp2
      go_end0
      exact ⟨rfl, HQ.out⟩
end
end Go.Proofs.YtcjfnfdinhbdlaaGreatDoor
namespace Go.Proofs.YtcjfnfdinhbdlaaGreatDoor
set_option maxRecDepth 100000
open Go.ChangeShapes Go.WideShapes Go.ChangeAt Go.RowKit Go.PlainAid Go.Shelf
open Go.Sort (grow)
attribute [local go_sem ↓ high] store_n
theorem pkS_law {level : Int} {low high : ByteArray} {L : List Pr} (h : Lawful level low high L) : pkS L ≤ 254 ∧ (level = 1 → pkS L = wtP level L) ∧ ∀ q ∈ L, q.key.size ≤ 32 := by
  have hk : ∀ q ∈ L, q.key.size ≤ 32 := fun q hq => by
    obtain ⟨j, hj⟩ := List.mem_iff_getElem?.1 hq
    exact (risB_key h.rise hj).small
  have key : ∀ M : List Pr, (∀ q ∈ M, 2 + q.key.size + q.val.size ≤ szP level q) → pkS M ≤ wtP level M := by
    intro M hM
    induction M with
    | nil => exact Nat.le_refl _
    | cons q t ih =>
      have h1 := hM q List.mem_cons_self
      have h2 := ih fun r hr => hM r (List.mem_cons_of_mem _ hr)
      unfold pkS wtP at *
      rw [List.map_cons, List.sum_cons, List.map_cons, List.sum_cons]
      omega
  have he : level = 1 → pkS L = wtP level L := fun e => by
    unfold pkS wtP
    congr 1
    refine List.map_congr_left fun q _ => ?_
    unfold szP
    rw [if_neg (by omega)]
  refine ⟨Nat.le_trans (key L fun q hq => ?_) h.weight, he, hk⟩
  unfold szP
  by_cases h1 : 1 < level
  · rw [if_pos h1]
    have h2 := (lnkB_iff.1 (h.links (by omega))).1 q hq
    have := hk q hq
    omega
  · rw [if_neg h1]
    exact Nat.le_refl _
theorem pkS_put (r : Pr) (L : List Pr) (j : Nat) : pkS (L.take j ++ r :: L.drop j) = pkS L + (2 + r.key.size + r.val.size) := by
  have h : pkS L = pkS (L.take j) + pkS (L.drop j) := by
    conv => lhs; rw [← List.take_append_drop j L]
    unfold pkS
    rw [List.map_append, List.sum_append]
  rw [h]
  unfold pkS
  rw [List.map_append, List.sum_append, List.map_cons, List.sum_cons]
  omega
theorem mem_ins {r q : Pr} {L : List Pr} {j : Nat} (h : q ∈ L.take j ++ r :: L.drop j) : q = r ∨ q ∈ L := by
  rcases List.mem_append.1 h with h | h
  · exact .inr (List.mem_of_mem_take h)
  · rcases List.mem_cons.1 h with h | h
    · exact .inl h
    · exact .inr (List.mem_of_mem_drop h)
theorem pkS_mem {L : List Pr} {q : Pr} (h : q ∈ L) : 2 + q.key.size + q.val.size ≤ pkS L := by
  obtain ⟨A, B, rfl⟩ := List.append_of_mem h
  unfold pkS
  rw [List.map_append, List.sum_append, List.map_cons, List.sum_cons]
  omega
theorem pkS_len (L : List Pr) : 2 * L.length ≤ pkS L := by
  induction L with
  | nil => exact Nat.le_refl _
  | cons q t ih =>
    unfold pkS at *
    rw [List.map_cons, List.sum_cons, List.length_cons]
    omega
structure GrN (x : NdM) : Prop where
  pos : 0 < x.L.length
  c : x.L.length ≤ x.c
  k32 : ∀ q ∈ x.L, q.key.size ≤ 32
  pk : pkS x.L ≤ 400
  at_ : 2 ≤ x.at_ ∧ x.at_ ≤ 1023
  lev : 1 ≤ x.level ∧ x.level ≤ 255
theorem GrN.len {x : NdM} (h : GrN x) : x.L.length ≤ 200 := by
  have := pkS_len x.L
  have := h.pk
  omega
theorem GrN.mod {x : NdM} (h : GrN x) : Mod x.L := fun q hq => by
  have := pkS_mem hq
  have := h.pk
  omega
theorem RowN.prefix {cur : Array Value} {A B : List NdM} (h : RowN cur (A ++ B)) : RowN cur A := by
  unfold RowN at *
  rw [List.length_append, flatN_app] at h
  have e : (flatN A).length = A.length * 6 := flatN_len A
  have h2 : (cur.toList.take ((A.length + B.length) * 6)).take (A.length * 6) = flatN A := by rw [h, ← e, List.take_left]
  rw [List.take_take, Nat.min_eq_left (by omega)] at h2
  exact h2
section
variable {w0 w w' : World} {pp n c tb : Nat} {V : Int → ByteArray} {R RL : List (Nat × Obj)} {i : Int}
def GrS (w0 : World) (pp n : Nat) (R RL : List (Nat × Obj)) (wb : Nat) (ns : List NdM) (m : Nat) (xm : NdM) (c : Nat) (V : Int → ByteArray) (w : World) : Prop :=
  ∃ gm curl cur, PV w0 pp n c V ((wb, wayO cur) :: (gm, .cells curl 121 (0, 0)) :: (RL ++ R)) w ∧ RowN cur (ns.take m ++ [xm]) ∧ (ns.length + 1) * 6 ≤ cur.size ∧ xm.sl = some ⟨gm, 0, none⟩ ∧ RowP curl xm.L ∧ GrN xm ∧ (∀ y ∈ RL ++ R, y.1 ≠ wb) ∧ gm ≠ wb
end
def GrI (V : Int → ByteArray) (n : Nat) (i : Int) (ns : List NdM) (x : NdM) (m : Nat) (xm : NdM) (V' : Int → ByteArray) : Prop :=
  BitsOk V n → CurF n V x.D → (∀ y ∈ ns, UpF n V y.D) → needN (upsN ns) x.D + usedN (V 0) n ≤ n →
    BitsOk V' n ∧ CurF n V' xm.D ∧ (∀ y ∈ ns.take m, UpF n V' y.D) ∧ needN (upsN (ns.take m)) xm.D + usedN (V' 0) n ≤ n ∧ ∀ V2, GrowV n i (upsN (ns.take m)) xm.D V' V2 → GrowV n i (upsN ns) x.D V V2
section
variable {V V' V6 : Int → ByteArray} {n m : Nat} {i : Int} {ns : List NdM} {x xm : NdM} {z : Int} {q : Pr}
theorem grI_zero (V : Int → ByteArray) (n : Nat) (i : Int) (ns : List NdM) (x : NdM) : GrI V n i ns x ns.length x V := by
  intro a b c d
  rw [List.take_length]
  exact ⟨a, b, c, d, fun _ h => h⟩
theorem grow_fits {us : List (NdD × Nat)} {x : NdD} (hw : wtP x.level x.L ≤ 254) : GrowV n i us x V (updV V x.at_ (filled (packP x.level x.L))) := by
  cases us with
  | nil => exact .inl ⟨hw, rfl⟩
  | cons u us => exact .inl ⟨hw, rfl⟩
theorem grI_fits (hI : GrI V n i ns x m xm V') (hw : wtP xm.level xm.L ≤ 254) (h6 : outB n (V' 0) xm.at_ = true → pkS xm.L ≤ 254 → z = 0 ∧ V6 = updV V' xm.at_ (filled (packP xm.level xm.L))) :
    BitsOk V n → CurF n V x.D → (∀ y ∈ ns, UpF n V y.D) → needN (upsN ns) x.D + usedN (V 0) n ≤ n → z = 0 ∧ GrowV n i (upsN ns) x.D V V6 := by
  intro a b c d
  obtain ⟨h1, h2, h3, h4, h5⟩ := hI a b c d
  have hpk : pkS xm.L ≤ wtP xm.level xm.L := h2.pk
  obtain ⟨rfl, rfl⟩ := h6 h2.out (by omega)
  exact ⟨rfl, h5 _ (grow_fits (x := xm.D) hw)⟩
theorem need_pos {us : List (NdD × Nat)} {x : NdD} (hw : 254 < wtP x.level x.L) : 1 ≤ needN us x := by
  unfold needN splN
  rw [if_neg (by show ¬ wtP x.level x.L + 0 ≤ 254; omega)]
  omega
def CutS (V' V6 : Int → ByteArray) (n : Nat) (xm : NdM) (z : Int) (q : Pr) : Prop := ∀ v', Least (V' 0) 2 n v' → outB n (V' 0) xm.at_ = true → pkS (xm.L.take (halfP xm.level xm.L)) ≤ 254 → pkS (xm.L.drop (halfP xm.level xm.L)) ≤ 254 → z = 0 ∧ V6 = cutV V' xm.D v' ∧ ∃ m, xm.L[halfP xm.level xm.L]? = some m ∧ q = ⟨m.key, numB v'⟩
theorem grI_cut (hI : GrI V n i ns x m xm V') (hw : 254 < wtP xm.level xm.L) (hs : CutS V' V6 n xm z q) :
    BitsOk V n → CurF n V x.D → (∀ y ∈ ns, UpF n V y.D) → needN (upsN ns) x.D + usedN (V 0) n ≤ n → ∃ v mm, Least (V' 0) 2 n v ∧ z = 0 ∧ V6 = cutV V' xm.D v ∧ xm.L[halfP xm.level xm.L]? = some mm ∧ q = ⟨mm.key, numB v⟩ := by
  intro a b c d
  obtain ⟨h1, h2, h3, h4, h5⟩ := hI a b c d
  have hn := need_pos (us := upsN (ns.take m)) (x := xm.D) hw
  obtain ⟨v, hv⟩ := least_of_room h1 (by omega)
  have hc : CutOk xm.level xm.L (halfP xm.level xm.L) := h2.cut hw
  have k1 : pkS (xm.L.take (halfP xm.level xm.L)) ≤ wtP xm.level (xm.L.take (halfP xm.level xm.L)) := h2.take _
  have k2 : pkS (xm.L.drop (halfP xm.level xm.L)) ≤ wtP xm.level (xm.L.drop (halfP xm.level xm.L)) := h2.drop _
  obtain ⟨e1, e2, mm, e3, e4⟩ := hs v hv h2.out (by have := hc.left; omega) (by have := hc.right; omega)
  exact ⟨v, mm, hv, e1, e2, e3, e4⟩
theorem grI_next {j t : Nat} {y xm' : NdM} (hI : GrI V n i ns x (j + 1) xm V') (hw : 254 < wtP xm.level xm.L) (hs : CutS V' V6 n xm z q) (hy : ns[j]? = some y) (ht : y.next = (t : Int)) (hx' : xm'.D = upI (y.D, t) q) : GrI V n i ns x j xm' V6 := by
  intro a b c d
  obtain ⟨v, mm, hv, rfl, rfl, hm, rfl⟩ := grI_cut hI hw hs a b c d
  obtain ⟨h1, h2, h3, h4, h5⟩ := hI a b c d
  obtain ⟨s1, s2, s3, s4, s5⟩ := see_cut h1 h2 hw hv
  have hups : upsN (ns.take (j + 1)) = (y.D, t) :: upsN (ns.take j) := by
    unfold upsN
    rw [take_snoc hy, List.map_append, List.reverse_append]
    show (y.D, y.next.toNat) :: _ = _
    rw [ht]
    rfl
  rw [hups] at h4 h5
  have hmem : ∀ z ∈ ns.take j, z ∈ ns.take (j + 1) := fun z hz => by rw [take_snoc hy]; exact List.mem_append_left _ hz
  have hyU : UpF n V' y.D := h3 y (by rw [take_snoc hy]; simp)
  have hout : ∀ c, outB n (V' 0) c = true → outB n (cutV V' xm.D v 0) c = true := fun c hc => by
    rw [s2]
    split
    · rfl
    · exact hc
  have hmk := (h2.prs mm (List.mem_of_getElem? hm)).1
  have hn := needN_up (u := (y.D, t)) (us := upsN (ns.take j)) (x := xm.D) hw hyU.lev.1 ⟨mm.key, numB v⟩
  rw [hx']
  refine ⟨s3, CurF.up (u := (y.D, t)) hyU hmk rfl (hout _ hyU.out), fun w hw => ?_, by omega, fun V2 h => h5 V2 (.inr ⟨hw, v, mm, hv, hm, h⟩)⟩
  have := h3 w (hmem w hw)
  exact ⟨this.lev, this.prs, this.wt, hout _ this.out⟩
theorem grI_root {z9 : Int} {V9 : Int → ByteArray} {s : ByteArray} (hI : GrI V n i ns x 0 xm V') (hw : 254 < wtP xm.level xm.L) (hs : CutS V' V6 n xm z q) (hs8 : s = numB xm.at_) (h9 : ∀ v, Least (V6 0) 2 n v → pkS [⟨⟨#[]⟩, s⟩, q] ≤ 254 → z9 = 0 ∧ V9 = topV V6 i v (xm.level + 1) [⟨⟨#[]⟩, s⟩, q]) :
    BitsOk V n → CurF n V x.D → (∀ y ∈ ns, UpF n V y.D) → needN (upsN ns) x.D + usedN (V 0) n ≤ n → z9 = 0 ∧ GrowV n i (upsN ns) x.D V V9 := by
  intro a b c d
  obtain ⟨v, mm, hv, rfl, rfl, hm, rfl⟩ := grI_cut hI hw hs a b c d
  obtain ⟨h1, h2, h3, h4, h5⟩ := hI a b c d
  obtain ⟨s1, s2, s3, s4, s5⟩ := see_cut h1 h2 hw hv
  have h4 : needN [] xm.D + usedN (V' 0) n ≤ n := h4
  rw [needN_root hw] at h4
  have h1 := h1.pages
  obtain ⟨v2, hv2⟩ := least_of_room s3 (by omega)
  have hmk := (h2.prs mm (List.mem_of_getElem? hm)).1
  subst hs8
  obtain ⟨e1, e2⟩ := h9 v2 hv2 (by
    unfold pkS
    simp only [List.map_cons, List.map_nil, List.sum_cons, List.sum_nil, numB_size]
    show 2 + 0 + 2 + _ ≤ 254
    have hmk : mm.key.size ≤ 32 := hmk
    omega)
  exact ⟨e1, h5 _ (.inr ⟨hw, v, mm, v2, hv, hm, hv2, e2⟩)⟩
end
section
variable {w0 w w' : World} {pp n c tb : Nat} {V : Int → ByteArray} {R RL : List (Nat × Obj)} {i : Int}
set_option maxHeartbeats 8000000 in
theorem grow_any {wb cp : Nat} {ns : List NdM} {x : NdM} (hS : GrS w0 pp n R RL wb ns ns.length x c V w) (hT : (tb, treeO pp i) ∈ R) (hn : 1 < n) (hi : 0 ≤ i ∧ i < 16) (hc : c ≤ 700000) (hlb : w0.heap.size ≤ wb) (hup : ∀ y ∈ ns, UpOk RL y) (hlen : ns.length ≤ 255) :
    Calls Tryz.prog 71 #[.pointer (some ⟨tb, 0, none⟩), .slice (some ⟨wb, 0, none⟩) (ns.length + 1) cp] w fun e w' => ∃ V' z, e = .returned (.int .i64 z) ∧ (wtP x.level x.L ≤ 254 → outB n (V 0) x.at_ = true → pkS x.L ≤ 254 → z = 0 ∧ V' = updV V x.at_ (filled (packP x.level x.L))) ∧ (BitsOk V n → CurF n V x.D → (∀ y ∈ ns, UpF n V y.D) → needN (upsN ns) x.D + usedN (V 0) n ≤ n → z = 0 ∧ GrowV n i (upsN ns) x.D V V') ∧ PV w0 pp n (c + 4 * (ns.length + 2)) V' R w' := by
  have HS := Lib.hid hS
  have HT := Lib.hid hT
  have HU := Lib.hid hup
  clear hS hT hup
  go_enter Tryz.func71, Tryz.ntmps71
  go_wp2_with fail
  go_loopw [5] (fun iv wr => ∃ (m : Nat) (xm : NdM) (c' : Nat) (V' : Int → ByteArray), iv = .int .i64 (m : Int) ∧ m ≤ ns.length ∧ c' ≤ c + 4 * (ns.length - m) ∧ Hid (GrS w0 pp n R RL wb ns m xm c' V' wr ∧ (m = ns.length → xm = x ∧ V' = V ∧ c' = c))
    ∧ Hid (m < ns.length → ¬ wtP x.level x.L ≤ 254) ∧ Hid (GrI V n i ns x m xm V')) (fun iv _ => (intOf iv).toNat)
  case atStart => exact ⟨ns.length, x, c, V, rfl, Nat.le_refl _, by omega, Lib.hid ⟨HS.out, fun _ => ⟨rfl, rfl, rfl⟩⟩, Lib.hid fun h => absurd h (Nat.lt_irrefl _), Lib.hid (grI_zero V n i ns x)⟩
  case round =>
    obtain ⟨m, xm, c', V', rfl, hm, hc', HG, HNW, HGI⟩ := hrel
    clear HS
    obtain ⟨gm, curl, cur, H, hrow, hcs, hsl, hrp, hgr, hyw, hgw⟩ := HG.out.1
    have hmi : (ns.take m ++ [xm])[m]? = some xm := by
      rw [List.getElem?_append_right (by rw [List.length_take]; omega), List.length_take, Nat.min_eq_left hm, Nat.sub_self]
      rfl
    have hkn : Kn [(gm, .cells curl 121 (0, 0))] xm.sl xm.L := fun W hW => by
      rw [hsl]
      exact rdP_cur (hW _ List.mem_cons_self) hrp
    have hln := hgr.len
    have hN := nodeIs_of (H.mem (x := (wb, wayO cur)) (by simp)) hrow hmi (H.kn (hkn.mono fun y hy => by simp at hy; simp [hy])) (by omega)
    have d0 := hN.at_
    have d1 := hN.level
    have d2 := hN.low
    have d3 := hN.high
    have d4 := hN.list
    have d5 := hN.next
    have H1 := H.push (ndO xm)
    have hst := store_nd_fresh wr xm
    unfold NdM.cells at hst
    have hN1 := ndIs_of (H1.mem List.mem_cons_self) (H1.kn (hkn.mono fun y hy => by simp at hy; simp [hy])) (by omega)
    have HW := Lib.hid (weight_any hN1 hgr.mod)
    have hwl := wtP_le xm.level hgr.mod
    have hwb : wtP xm.level xm.L ≤ 600000000 := by
      have := Nat.mul_le_mul_right 131074 hln
      omega
    have hat := hgr.at_
    have hlev := hgr.lev
    have HX := Lib.hid (And.intro H (And.intro hrow (And.intro hcs (And.intro hsl (And.intro hrp (And.intro hgr (And.intro hyw (And.intro hgw (And.intro hkn H1)))))))))
    clear H hrow hcs hsl hrp hgr hyw hgw hmi hkn hN H1 hN1 hwl
    obtain ⟨A, hA⟩ : ∃ A, wtP xm.level xm.L = A := ⟨_, rfl⟩
    rw [hA] at HW hwb
    have HA := Lib.hid hA
    clear hA
    have hmn1 : (m : Int) < (ns.length : Int) + 1 := by omega
    have hmn2 : m < ns.length + 1 := by omega
    go_wp2_with fail
    refine HW.out.mono ?_
    rintro e w5 ⟨rfl, hb5⟩
    have H5 := HX.out.2.2.2.2.2.2.2.2.2.on hb5
    clear d0 d1 d2 d3 d4 d5 HW hst
    obtain ⟨d0, d1, d2, d3, d4, d5⟩ := nd_cells (H5.mem List.mem_cons_self)
    simp only at d0 d1 d2 d3 d4 d5
    by_cases hle : A ≤ 254
    · have f1 : decide ((A : Int) ≤ 254) = true := decide_eq_true (by omega)
      have HWR := Lib.hid (twrite_any H5 (x := xm) (i := i) (tb := tb) (by simp [HT.out]) (by omega) (by omega) (HX.out.2.2.2.2.2.2.2.2.1.mono fun y hy => by simp at hy; simp [hy]) (by have := HX.out.2.2.2.2.2.1.pk; omega) (by omega) (by omega) (by omega))
      unfold NdM.cells at HWR
      have HLE := Lib.hid hle
      clear hle hb5 H5
      go_wp2_with fail
      refine HWR.out.mono ?_
      rintro e w6 ⟨V6, z6, rfl, hp6, H6⟩
      have HF := Lib.hid (And.intro hp6 H6)
      clear hp6 H6 HWR d0 d1 d2 d3 d4 d5
      go_wp2
      go_returns
      refine ⟨V6, z6, rfl, fun h1 h2 h3 => ?_, grI_fits HGI.out (by rw [HA.out]; exact HLE.out) HF.out.1, (HF.out.2.sub R fun y hy => by simp [hy]).mono (by omega)⟩
      by_cases hmm : m = ns.length
      · obtain ⟨rfl, rfl, rfl⟩ := HG.out.2 hmm
        exact HF.out.1 h2 h3
      · exact absurd h1 (HNW.out (by omega))
    · have f1 : decide ((A : Int) ≤ 254) = false := decide_eq_false (by omega)
      have HSP := Lib.hid (split_any H5 (x := xm) (i := i) (tb := tb) (by simp [HT.out]) hn (by omega) gm HX.out.2.2.2.1 (HX.out.2.2.2.2.2.2.2.2.1.mono fun y hy => by simp at hy; simp [hy]) (by have := HX.out.2.2.2.2.2.1.pk; omega) (by omega) HX.out.2.2.2.2.2.1.pos HX.out.2.2.2.2.2.1.c HX.out.2.2.2.2.2.1.mod HX.out.2.2.2.2.2.1.k32 (by omega) (by omega))
      unfold NdM.cells at HSP
      have HLE := Lib.hid hle
      clear hle hb5 H5
      go_wp2_with fail
      refine HSP.out.mono ?_
      rintro e w6 ⟨V6, z6, q, rfl, hq1, hq2, hcs, H6⟩
      have HCS : Hid (CutS V' V6 n xm z6 q) := Lib.hid hcs
      have HW2 : Hid (254 < wtP xm.level xm.L) := Lib.hid (by rw [HA.out]; have := HLE.out; omega)
      clear hcs
      by_cases hz : z6 = 0
      · subst hz
        have H6' := Lib.hid H6
        clear HSP d0 d1 d2 d3 d4 d5
        obtain ⟨d0, d1, d2, d3, d4, d5⟩ := nd_cells (H6.mem List.mem_cons_self)
        simp only at d0 d1 d2 d3 d4 d5
        clear H6
        by_cases hm0 : m = 0
        · subst hm0
          have H7 := H6'.out.push (prO q)
          have f7 : ∀ (c8 : Nat) (V8 : Int → ByteArray) (W : World) (Z : List (Nat × Obj)), PV w0 pp n c8 V8 (Z ++ ((w6.heap.size, prO q) :: (wr.heap.size, ndO xm) :: (wb, wayO cur) :: (gm, .cells curl 121 (0, 0)) :: (RL ++ R))) W →
              W.cell? ⟨wr.heap.size, 0, none⟩ = some (.int .i64 xm.at_) ∧ W.cell? ⟨wr.heap.size, 1, none⟩ = some (.int .i64 xm.level) ∧ W.cell? ⟨w6.heap.size, 0, none⟩ = some (.string q.key) ∧ W.cell? ⟨w6.heap.size, 1, none⟩ = some (.string q.val) := fun c8 V8 W Z h => by
            obtain ⟨a0, a1, _⟩ := nd_cells (h.mem (x := (wr.heap.size, ndO xm)) (by simp))
            obtain ⟨b0, b1⟩ := pr_cells (h.mem (x := (w6.heap.size, prO q)) (by simp))
            exact ⟨a0, a1, b0, b1⟩
          have HF7 := Lib.hid f7
          obtain ⟨an, han⟩ := Int.eq_ofNat_of_zero_le (show 0 ≤ xm.at_ by omega)
          obtain ⟨a0, a1, a2, a3⟩ := f7 _ _ _ [] H7.drew
          have H7' := Lib.hid H7
          have hlv1 : IntKind.i64.wrap (xm.level + 1) = xm.level + 1 := IntWalk.i64_in _ (by omega)
          have HAN := Lib.hid (And.intro han (show an ≤ 65535 by omega))
          clear f7 H7 han
          go_wp2_with fail
          obtain ⟨W7, hW7⟩ : ∃ W7, w6.alloc (prO q) = W7 := ⟨_, rfl⟩
          rw [hW7] at H7' a0 a1 a2 a3
          rw [show w6.alloc (.cells #[.string q.key, .string q.val] 121) = W7 from hW7]
          clear hW7
          go_region_held3 (fun w' => w'.cell? ⟨wr.heap.size, 0, none⟩ = some (.int .i64 xm.at_) ∧ w'.cell? ⟨wr.heap.size, 1, none⟩ = some (.int .i64 xm.level) ∧ w'.cell? ⟨w6.heap.size, 0, none⟩ = some (.string q.key) ∧ w'.cell? ⟨w6.heap.size, 1, none⟩ = some (.string q.val)) (go_keep)
            (first
              | (go_at_call 126
                 rw [HAN.out.1]
                 refine (number_any an _ HAN.out.2).mono ?_
                 rintro e w8 ⟨⟨s8, rfl, hs8⟩, hb8⟩
                 have H8 := H7'.out.drew.on hb8
                 obtain ⟨y0, y1, y2, y3⟩ := HF7.out _ _ _ [] H8
                 have H8' := Lib.hid (And.intro hs8 H8)
                 clear H8 hb8 hs8)
              | (go_at_call 68
                 have H9 := H8'.out.2.push (rowO [⟨⟨#[]⟩, s8⟩, q])
                 have HTP := top_any H9 (tb := tb) (i := i) (by simp [HT.out]) hn hi (by omega) (xm.level + 1) [⟨⟨#[]⟩, s8⟩, q] (some ⟨w8.heap.size, 0, none⟩) 2 (Kn.of List.mem_cons_self) (by have := H8'.out.1; unfold pkS; simp only [List.map_cons, List.map_nil, List.sum_cons, List.sum_nil]; show 2 + 0 + s8.size + _ ≤ _; omega) (by simp)
                 refine HTP.mono ?_
                 rintro e w9 ⟨V9, z9, rfl, hp9, _, H9'⟩
                 have HP9 := Lib.hid hp9
                 clear hp9
                 obtain ⟨y0, y1, y2, y3⟩ := HF7.out _ _ _ [(w8.heap.size, rowO [⟨⟨#[]⟩, s8⟩, q])] H9'
                 have H9f := Lib.hid (H9'.sub R fun y hy => by simp [hy])
                 clear H9 H9' HTP))
          all_goals
            go_wp2
            go_returns
            refine ⟨V9, z9, rfl, fun h1 h2 h3 => ?_, grI_root HGI.out HW2.out HCS.out (by rw [H8'.out.1.2, HAN.out.1]) HP9.out, H9f.out.mono (by omega)⟩
            by_cases hmm : 0 = ns.length
            · obtain ⟨rfl, rfl, rfl⟩ := HG.out.2 hmm
              have h4 := HA.out
              have h5 := HLE.out
              omega
            · exact absurd h1 (HNW.out (by omega))
        · obtain ⟨j, rfl⟩ : ∃ j, m = j + 1 := ⟨m - 1, by omega⟩
          have hjn : j < ns.length := by omega
          obtain ⟨y, hy⟩ : ∃ y, ns[j]? = some y := ⟨_, List.getElem?_eq_getElem hjn⟩
          have huy := HU.out y (List.mem_of_getElem? hy)
          have hyi : (ns.take (j + 1) ++ [xm])[j]? = some y := by
            rw [List.getElem?_append_left (by rw [List.length_take]; omega), List.getElem?_take_of_lt (by omega)]
            exact hy
          obtain ⟨gy, hgy, hgm⟩ := huy.lst
          obtain ⟨t, ht, htl⟩ := huy.next
          have hyc := huy.c
          have hys := huy.small
          have hcy := fun k hk => HX.out.2.1.at hyi k hk
          have H7 := H6'.out.push (prO q)
          have f7 : ∀ (c8 : Nat) (V8 : Int → ByteArray) (W : World) (Z : List (Nat × Obj)), PV w0 pp n c8 V8 (Z ++ ((w6.heap.size, prO q) :: (wr.heap.size, ndO xm) :: (wb, wayO cur) :: (gm, .cells curl 121 (0, 0)) :: (RL ++ R))) W →
              W.cell? ⟨wb, j * 6 + 4, none⟩ = some (.slice (some ⟨gy, 0, none⟩) y.L.length y.L.length) ∧ W.cell? ⟨wb, j * 6 + 5, none⟩ = some (.int .i64 (t : Int)) ∧ W.cell? ⟨w6.heap.size, 0, none⟩ = some (.string q.key) ∧ W.cell? ⟨w6.heap.size, 1, none⟩ = some (.string q.val) ∧ W.frozen? ⟨wb, j * 6 + 4, none⟩ = false := fun c8 V8 W Z h => by
            have hm := h.mem (x := (wb, wayO cur)) (by simp)
            obtain ⟨b0, b1⟩ := pr_cells (h.mem (x := (w6.heap.size, prO q)) (by simp))
            unfold wayO at hm
            simp only at hm
            refine ⟨?_, ?_, b0, b1, frozen_of_row _ _ _ _ _ hm⟩
            · rw [cell_of_row _ _ _ _ _ _ hm, hcy 4 (by decide)]
              unfold NdM.cells
              rw [hgy, hyc]
              rfl
            · rw [cell_of_row _ _ _ _ _ _ hm, hcy 5 (by decide)]
              unfold NdM.cells
              rw [ht]
              rfl
          obtain ⟨W7, hW7⟩ : ∃ W7, w6.alloc (prO q) = W7 := ⟨_, rfl⟩
          rw [hW7] at H7
          obtain ⟨a0, a1, a2, a3, _⟩ := f7 _ _ _ [] H7
          obtain ⟨va, hva⟩ : ∃ va : Obj, va = .cells #[.string q.key, .string q.val] 121 (0, 0) := ⟨_, rfl⟩
          have H8 := H7.push va
          obtain ⟨b0, b1, b2, b3, _⟩ := f7 _ _ _ [(W7.heap.size, va)] H8
          have hin := insert_any (w := (W7.alloc va).drew) (vb := W7.heap.size) q (t + 1) (by omega) (by omega) (by omega) (H8.drew.mem (x := (gy, rowO y.L)) (by simp [hgm])) (by rw [hva]; exact heap_alloc_new W7 _)
          rw [show ((t + 1 : Nat) : Int) = (t : Int) + 1 by omega] at hin
          have HI := Lib.hid hin
          have hwt : IntKind.i64.wrap ((t : Int) + 1) = (t : Int) + 1 := IntWalk.i64_in _ (by omega)
          have HFA : Hid (∀ w3, Below (W7.alloc va).drew.heap.size (W7.alloc va).drew w3 → w3.cell? ⟨wb, j * 6 + 4, none⟩ = some (.slice (some ⟨gy, 0, none⟩) y.L.length y.L.length) ∧ w3.frozen? ⟨wb, j * 6 + 4, none⟩ = false) := Lib.hid fun w3 hb => by
            obtain ⟨r0, _, _, _, r4⟩ := f7 _ _ _ [(W7.heap.size, va)] (H8.drew.on hb)
            exact ⟨r0, r4⟩
          have H8' := Lib.hid H8.drew
          have HY := Lib.hid (And.intro huy (And.intro hyi (And.intro hy (And.intro hgy (And.intro hgm (And.intro ht hyc))))))
          have HFIN : Hid (∀ (w3 : World) (g' cap' : Nat) (curl' : Array Value), w3.heap[g']? = some (.cells curl' 121 (0, 0)) → RowP curl' (y.L.take (t + 1) ++ q :: y.L.drop (t + 1)) → (y.L.take (t + 1) ++ q :: y.L.drop (t + 1)).length ≤ cap' → Below (W7.alloc va).drew.heap.size (W7.alloc va).drew w3 → (W7.alloc va).drew.heap.size ≤ g' →
              ∃ xm', xm'.D = upI (y.D, t) q ∧ GrS w0 pp n R RL wb ns j xm' (c' + 4) V6 (w3.setCell ⟨wb, j * 6 + 4, none⟩ (.slice (some ⟨g', 0, none⟩) (min (t + 1) y.L.length + (y.L.length - (t + 1) + 1)) cap'))) := Lib.hid fun w3 g' cap' curl' hm' hrp hlc hb3 hg' => by
            have hln : (y.L.take (t + 1) ++ q :: y.L.drop (t + 1)).length = min (t + 1) y.L.length + (y.L.length - (t + 1) + 1) := by rw [List.length_append, List.length_cons, List.length_take, List.length_drop]
            obtain ⟨xm', hxm⟩ : ∃ xm' : NdM, ({ y with L := y.L.take (t + 1) ++ q :: y.L.drop (t + 1), sl := some ⟨g', 0, none⟩, c := cap' } : NdM) = xm' := ⟨_, rfl⟩
            have hxc : xm'.cells = y.cells.setIfInBounds 4 (.slice (some ⟨g', 0, none⟩) (min (t + 1) y.L.length + (y.L.length - (t + 1) + 1)) cap') := by
              rw [← hxm]
              unfold NdM.cells
              simp only [hln]
              rfl
            have hwg : g' ≠ wb := fun e => by
              have h1 := H8.lt (x := (wb, wayO cur)) (by simp)
              have h2 : (W7.alloc va).heap.size ≤ g' := hg'
              simp only at h1
              omega
            have H5 := H8.drew.add hb3 hg' hm'
            have H6 := (H5.sub ((wb, wayO cur) :: (g', .cells curl' 121 (0, 0)) :: (RL ++ R)) (fun z hz => by
              simp only [List.mem_cons] at hz ⊢
              rcases hz with h | h | h
              · exact .inr (.inr (.inr (.inr (.inl h))))
              · exact .inl h
              · exact .inr (.inr (.inr (.inr (.inr (.inr h))))))).into (fun z hz => by
                rcases List.mem_cons.1 hz with rfl | hz
                · exact hwg
                · exact HX.out.2.2.2.2.2.2.1 z hz) (by decide) hlb (j * 6 + 4) (.slice (some ⟨g', 0, none⟩) (min (t + 1) y.L.length + (y.L.length - (t + 1) + 1)) cap')
            have hrow := HX.out.2.1.setList (x' := xm') hyi (.slice (some ⟨g', 0, none⟩) (min (t + 1) y.L.length + (y.L.length - (t + 1) + 1)) cap') hxc (by
              have := HX.out.2.2.1
              rw [List.length_append, List.length_take, List.length_singleton]
              omega)
            have hset : (ns.take (j + 1) ++ [xm]).set j xm' = (ns.take j ++ [xm']) ++ [xm] := by
              have e : ns.take (j + 1) = ns.take j ++ [y] := take_snoc hy
              have e2 : (ns.take j).length = j := by rw [List.length_take]; omega
              rw [e, List.append_assoc, List.set_append_right _ _ (by omega), e2, Nat.sub_self]
              simp
            rw [hset] at hrow
            have hlaw := pkS_law huy.law
            refine ⟨xm', by rw [← hxm]; rfl, g', curl', _, H6, hrow.prefix, by rw [Array.size_setIfInBounds]; exact HX.out.2.2.1, by rw [← hxm], by rw [← hxm]; exact hrp, ?_, HX.out.2.2.2.2.2.2.1, hwg⟩
            rw [← hxm]
            refine ⟨by show 0 < _; rw [hln]; omega, hlc, fun r hr => ?_, by show pkS _ ≤ _; rw [pkS_put]; omega, huy.at_, ⟨huy.law.pos, huy.top⟩⟩
            rcases mem_ins hr with rfl | hr
            · exact hq1
            · exact hlaw.2.2 r hr
          rw [hva] at HFIN
          clear H7 H8 f7 hin huy hyi hy hgm hyc hcy ht hm0
          rw [hva] at b0 b1 b2 b3 HI HFA
          go_wp2_with fail
          rw [show w6.alloc (.cells #[.string q.key, .string q.val] 121) = W7 from hW7]
          clear hW7
          go_region_law (first
            | (go_simp; (with_reducible refine HI.out.mono ?_); rintro e w3 ⟨g', cap', curl', rfl, hg', hm', hrp, hlc, hb3⟩; obtain ⟨c6, f6⟩ := HFA.out w3 hb3; have HZ := Lib.hid (And.intro hm' (And.intro hrp (And.intro hlc (And.intro hb3 hg')))); clear hm' hrp hlc hb3 hg')
            | fail)
          all_goals
            obtain ⟨xm', hxD, hfin⟩ := HFIN.out w3 g' cap' curl' HZ.out.1 HZ.out.2.1 HZ.out.2.2.1 HZ.out.2.2.2.1 HZ.out.2.2.2.2
            have HFI := Lib.hid hfin
            have HGN := Lib.hid (grI_next HGI.out HW2.out HCS.out HY.out.2.2.1 HY.out.2.2.2.2.2.1 hxD)
            clear hfin hxD c6 f6
            go_wp2
            go_roundw
            case rel =>
              refine ⟨j, xm', c' + 4, V6, by go_num, by omega, by omega, Lib.hid ⟨HFI.out, fun h => absurd h (by omega)⟩, Lib.hid fun _ h1 => ?_, HGN⟩
              by_cases hmm : j + 1 = ns.length
              · obtain ⟨rfl, rfl, rfl⟩ := HG.out.2 hmm
                have h4 := HA.out
                have h5 := HLE.out
                omega
              · exact absurd h1 (HNW.out (by omega))
            case measure => simp [intOf]
      · have hz1 : (z6 != 0) = true := by simpa using hz
        have H6f : PV w0 pp n (c + 4 * (ns.length + 2)) V6 R w6 := (H6.sub R fun y hy => by simp [hy]).mono (by omega)
        have HF := Lib.hid H6f
        clear H6 H6f HSP d0 d1 d2 d3 d4 d5
        go_wp2_with fail
        go_returns
        exact ⟨V6, z6, rfl, fun h1 h2 h3 => by
          by_cases hmm : m = ns.length
          · obtain ⟨rfl, rfl, rfl⟩ := HG.out.2 hmm
            have h4 := HA.out
            have h5 := HLE.out
            omega
          · exact absurd h1 (HNW.out (by omega)), fun a b c d => absurd (grI_cut HGI.out HW2.out HCS.out a b c d).choose_spec.choose_spec.2.1 hz, (HF.out.push (prO q)).drop⟩
end
end Go.Proofs.YtcjfnfdinhbdlaaGreatDoor
