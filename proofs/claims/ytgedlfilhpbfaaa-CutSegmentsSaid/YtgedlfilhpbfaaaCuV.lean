/- Package cut, plain: what the laws ask of cuts. -/
import Derived.Test.YtgedlfilhpbfaaaCuW
namespace Go.Proofs.Ytgedlfilhpbfaaa
set_option maxRecDepth 100000
namespace Cu
theorem valid_alike {l : List OpV} (h : Hs.checkL HL l = 0) : Alike l := by
  have hv := (Hs.check_ok HL).1 h
  intro x hx y hy he
  obtain ⟨i, hi, rfl⟩ := List.mem_iff_getElem.1 hx
  obtain ⟨j, hj, rfl⟩ := List.mem_iff_getElem.1 hy
  have hr := hv.rise
  rcases Nat.lt_trichotomy i j with c | rfl | c
  · have := List.pairwise_iff_getElem.1 hr i j hi hj c
    exact absurd he (Int.ne_of_lt this)
  · rfl
  · have := List.pairwise_iff_getElem.1 hr j i hj hi c
    exact absurd he.symm (Int.ne_of_lt this)
theorem ObjOk.mem {l : List OpV} {r : List SegV} (h : ObjOk l r) {s : SegV} (hs : s ∈ r) : ∀ o ∈ s.ops, o ∈ l ∧ o.obj = s.obj := fun o ho => by
  have := List.mem_filter.1 ((h.each s hs).1.1.mem_iff.1 ho)
  exact ⟨this.1, of_decide_eq_true this.2⟩
/-- Put in order again, a segment stays. -/
theorem again {l c S : List OpV} (ha : Alike l) (hm : ∀ o ∈ c, o ∈ l) (hc : c.Pairwise fun x y => ltO cfInv y x = false) (h : Sorted cfInv c S) : S = c :=
  sorted_same (fun x hx y hy => ha x (hm x hx) y (hm y hy)) h ⟨List.Perm.refl _, hc⟩
/-- A piece of a segment. -/
theorem piece {S c : List OpV} (hp : S.Pairwise fun x y => ltO cfInv y x = false) (hc : c ∈ cutL S) : (∀ o ∈ c, o ∈ S) ∧ (c.Pairwise fun x y => ltO cfInv y x = false) ∧ cutL c = [c] ∧ c ≠ [] := by
  have hk := cutL_ok S
  have hsub : c.Sublist S := by
    have := List.sublist_flatten_of_mem hc
    rwa [hk.flat] at this
  exact ⟨fun o ho => hsub.subset ho, hp.sublist hsub, hk.one c hc, hk.ne c hc⟩
/-- All of a piece are before all of the next. -/
theorem quiet_all {S c d : List OpV} {i : Nat} (hp : S.Pairwise fun x y => ltO cfInv y x = false) (hc : (cutL S)[i]? = some c) (hd : (cutL S)[i + 1]? = some d) {x y : OpV} (hx : x ∈ c) (hy : y ∈ d) : befB x y = true ∧ x.done = true := by
  have hk := cutL_ok S
  obtain ⟨_, hpd, _, hne⟩ := piece hp (List.mem_of_getElem? hd)
  obtain ⟨z, r, rfl⟩ : ∃ z r, d = z :: r := by
    cases d with
    | nil => exact absurd rfl hne
    | cons z r => exact ⟨z, r, rfl⟩
  have hq := hk.quiet i c (z :: r) x z hc hd hx rfl
  have hzy : z.inv ≤ y.inv := by
    rcases List.mem_cons.1 hy with rfl | hy
    · exact Int.le_refl _
    · have := (List.pairwise_cons.1 hpd).1 y hy
      rw [lt_no, inv_lt] at this
      omega
  unfold befB at hq ⊢
  cases hxd : x.done with
  | false => rw [hxd] at hq; simp at hq
  | true =>
    rw [hxd] at hq
    simp at hq ⊢
    omega
theorem valid_kind {l : List OpV} (h : Hs.checkL HL l = 0) {x y : OpV} (hx : x ∈ l) (hy : y ∈ l) (he : x.obj = y.obj) : x.kind = y.kind := by
  have hv := (Hs.check_ok HL).1 h
  have hs := (hv.side x hx y hy).1
  by_cases hid : y.id = x.id
  · rw [valid_alike h x hx y hy hid.symm]
  · by_cases hk : x.kind = y.kind
    · exact hk
    · exact absurd (show Hs.otherKind HL y x from ⟨hid, he.symm, fun e => hk e.symm⟩) hs
theorem ObjOk.kind {l : List OpV} {r : List SegV} (h : ObjOk l r) (hv : Hs.checkL HL l = 0) {s : SegV} (hs : s ∈ r) {o : OpV} (ho : o ∈ s.ops) : o.kind = s.kind := by
  obtain ⟨_, x, hx, hk⟩ := h.each s hs
  have h1 := h.mem hs o ho
  have h2 := h.mem hs x (List.mem_of_mem_head? hx)
  rw [hk]
  exact valid_kind hv h1.1 h2.1 (h1.2.trans h2.2.symm)
theorem filter_both (p : OpV → Bool) : ∀ l : List OpV, (l.filter p).length + (l.filter fun o => !p o).length = l.length
  | [] => rfl
  | o :: r => by
    have := filter_both p r
    cases h : p o <;> simp [h] <;> omega
theorem count_objs : ∀ (r : List Int) (l : List OpV), r.Nodup → (∀ o ∈ l, o.obj ∈ r) → (r.map fun k => (l.filter fun o => decide (o.obj = k)).length).sum = l.length
  | [], l, _, h => by
    cases l with
    | nil => rfl
    | cons o t => exact absurd (h o (by simp)) (by simp)
  | k :: r, l, hn, h => by
    obtain ⟨h1, h2⟩ := List.nodup_cons.1 hn
    have ih := count_objs r (l.filter fun o => !decide (o.obj = k)) h2 fun o ho => by
      obtain ⟨a, b⟩ := List.mem_filter.1 ho
      rcases List.mem_cons.1 (h o a) with e | e
      · simp [e] at b
      · exact e
    have e : (r.map fun j => ((l.filter fun o => !decide (o.obj = k)).filter fun o => decide (o.obj = j)).length) = r.map fun j => (l.filter fun o => decide (o.obj = j)).length := List.map_congr_left fun j hj => by
      rw [List.filter_filter]
      congr 1
      refine List.filter_congr fun o _ => ?_
      by_cases c : o.obj = j
      · have : ¬ o.obj = k := by rw [c]; exact fun e => h1 (e ▸ hj)
        simp [c] at this ⊢
        exact this
      · simp [c]
    rw [e] at ih
    rw [List.map_cons, List.sum_cons, ih]
    exact filter_both (fun o => decide (o.obj = k)) l
theorem ObjOk.sum {l : List OpV} {r : List SegV} (h : ObjOk l r) : (r.map fun s => s.ops.length).sum = l.length := by
  have hn : (r.map SegV.obj).Nodup := by
    rw [List.nodup_iff_pairwise_ne, List.pairwise_map]
    exact h.rise.imp fun h => Int.ne_of_lt h
  have hc := count_objs (r.map SegV.obj) l hn fun o ho => by
    obtain ⟨s, hs, e⟩ := h.all o ho
    exact List.mem_map.2 ⟨s, hs, e⟩
  rw [← hc, List.map_map]
  congr 1
  exact List.map_congr_left fun s hs => (h.each s hs).1.1.length_eq
theorem ObjOk.few {l : List OpV} {r : List SegV} (h : ObjOk l r) : r.length ≤ l.length := by
  have hs := h.sum
  have : ∀ r : List SegV, (∀ s ∈ r, ∃ o, s.ops.head? = some o) → r.length ≤ (r.map fun s => s.ops.length).sum := fun r => by
    induction r with
    | nil => intro _; simp
    | cons s t ih =>
      intro hh
      rw [List.map_cons, List.sum_cons, List.length_cons]
      have h1 := ih fun u hu => hh u (by simp [hu])
      obtain ⟨o, ho⟩ := hh s (by simp)
      have : 0 < s.ops.length := List.length_pos_of_mem (List.mem_of_mem_head? ho)
      omega
  have h2 := this r fun s hs => by
    obtain ⟨_, o, ho, _⟩ := h.each s hs
    exact ⟨o, ho⟩
  omega
theorem sum_take {r : List SegV} {i : Nat} {s : SegV} (hs : r[i]? = some s) : ((r.take (i + 1)).map fun s => s.ops.length).sum = ((r.take i).map fun s => s.ops.length).sum + s.ops.length := by
  rw [List.take_add_one, hs]
  simp
theorem sum_le {r : List SegV} (i : Nat) : ((r.take i).map fun s => s.ops.length).sum ≤ (r.map fun s => s.ops.length).sum := by
  conv => rhs; rw [← List.take_append_drop i r, List.map_append, List.sum_append]
  omega
end Cu
end Go.Proofs.Ytgedlfilhpbfaaa
