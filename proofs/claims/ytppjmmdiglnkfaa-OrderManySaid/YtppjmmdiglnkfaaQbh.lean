/- Package cut, plain: histories cut by objects, and where nothing is under way. Package cut: Objects. -/
import Derived.Test.YtppjmmdiglnkfaaQbg
namespace Go.Proofs.Ytppjmmdiglnkfaa
set_option maxRecDepth 100000
namespace Cu
/-- What is cut so far, of operations that rise by objects. -/
structure GrpI (P : List OpV) (l : List SegV) : Prop where
  flat : l.flatMap SegV.ops = P
  each : ∀ s ∈ l, (∀ o ∈ s.ops, o.obj = s.obj) ∧ ∃ o, s.ops.head? = some o ∧ s.kind = o.kind
  rise : l.Pairwise fun a b => a.obj < b.obj
theorem GrpI.nil : GrpI [] [] := ⟨rfl, (fun s hs => by cases hs), List.Pairwise.nil⟩
theorem head_add {l : List OpV} {o x : OpV} (h : l.head? = some o) : (l ++ [x]).head? = some o := by
  cases l with
  | nil => cases h
  | cons a r => simpa using h
theorem GrpI.put {P : List OpV} {init : List SegV} {s : SegV} {o : OpV} (h : GrpI P (init ++ [s])) (he : s.obj = o.obj) : GrpI (P ++ [o]) (init ++ [s.add o]) := by
  obtain ⟨h1, h2, h3⟩ := h
  refine ⟨by rw [← h1]; simp [SegV.add], fun t ht => ?_, ?_⟩
  · rcases List.mem_append.1 ht with ht | ht
    · exact h2 t (by simp [ht])
    · rw [List.mem_singleton] at ht
      subst ht
      obtain ⟨k1, x, k2, k3⟩ := h2 s (by simp)
      refine ⟨fun y hy => ?_, x, head_add k2, k3⟩
      rcases List.mem_append.1 hy with hy | hy
      · exact k1 y hy
      · rw [List.mem_singleton.1 hy]; exact he.symm
  · rw [List.pairwise_append] at h3 ⊢
    exact ⟨h3.1, by simp, fun a ha b hb => by rw [List.mem_singleton.1 hb]; exact h3.2.2 a ha s (by simp)⟩
theorem GrpI.new {P : List OpV} {l : List SegV} {o : OpV} (h : GrpI P l) (hl : ∀ s ∈ l, s.obj < o.obj) : GrpI (P ++ [o]) (l ++ [⟨o.obj, o.kind, [o]⟩]) := by
  obtain ⟨h1, h2, h3⟩ := h
  refine ⟨by rw [← h1]; simp, fun t ht => ?_, ?_⟩
  · rcases List.mem_append.1 ht with ht | ht
    · exact h2 t ht
    · rw [List.mem_singleton] at ht
      subst ht
      exact ⟨fun y hy => by rw [List.mem_singleton.1 hy], o, rfl, rfl⟩
  · rw [List.pairwise_append]
    exact ⟨h3, by simp, fun a ha b hb => by rw [List.mem_singleton.1 hb]; exact hl a ha⟩
/-- Operations that rise: the last segment's object is not above the next operation's. -/
theorem GrpI.last {P : List OpV} {init : List SegV} {s : SegV} {o : OpV} (h : GrpI P (init ++ [s])) (hs : ∀ x ∈ P, x.obj ≤ o.obj) : s.obj ≤ o.obj ∧ (s.obj ≠ o.obj → ∀ t ∈ init ++ [s], t.obj < o.obj) := by
  obtain ⟨h1, h2, h3⟩ := h
  obtain ⟨k1, x, k2, _⟩ := h2 s (by simp)
  have hx : x ∈ s.ops := List.mem_of_mem_head? k2
  have hle : s.obj ≤ o.obj := by
    rw [← k1 x hx]
    exact hs x (by rw [← h1]; simp [hx])
  refine ⟨hle, fun hne t ht => ?_⟩
  rcases List.mem_append.1 ht with ht | ht
  · have := (List.pairwise_append.1 h3).2.2 t ht s (by simp)
    omega
  · rw [List.mem_singleton.1 ht]; omega
theorem flat_filter : ∀ {l : List SegV}, (∀ s ∈ l, ∀ o ∈ s.ops, o.obj = s.obj) → l.Pairwise (fun a b => a.obj < b.obj) → ∀ s ∈ l, (l.flatMap SegV.ops).filter (fun o => decide (o.obj = s.obj)) = s.ops
  | [], _, _, s, hs => by cases hs
  | t :: r, h1, h2, s, hs => by
    rw [List.flatMap_cons, List.filter_append]
    obtain ⟨h3, h4⟩ := List.pairwise_cons.1 h2
    rcases List.mem_cons.1 hs with rfl | hs
    · rw [List.filter_eq_self.2 (fun o ho => decide_eq_true (h1 s (by simp) o ho)), List.filter_eq_nil_iff.2 (fun o ho => ?_), List.append_nil]
      obtain ⟨u, hu, ho⟩ := List.mem_flatMap.1 ho
      have e1 := h1 u (by simp [hu]) o ho
      have := h3 u hu
      simp; omega
    · rw [List.filter_eq_nil_iff.2 (fun o ho => ?_), List.nil_append, flat_filter (fun u hu => h1 u (by simp [hu])) h4 s hs]
      have e1 := h1 t (by simp) o ho
      have := h3 s hs
      simp; omega
/-- A history cut by objects. -/
structure ObjOk (l : List OpV) (r : List SegV) : Prop where
  rise : r.Pairwise fun a b => a.obj < b.obj
  all : ∀ o ∈ l, ∃ s ∈ r, s.obj = o.obj
  each : ∀ s ∈ r, Sorted cfInv (l.filter fun o => decide (o.obj = s.obj)) s.ops ∧ ∃ o, s.ops.head? = some o ∧ s.kind = o.kind
theorem obj_inv {x y : OpV} (h : ltO cfObj y x = false) (he : x.obj = y.obj) : ltO cfInv y x = false := by
  rw [lt_no, obj_lt] at h
  rw [lt_no, inv_lt]
  omega
theorem GrpI.ok {l S : List OpV} {r : List SegV} (h : GrpI S r) (hs : Sorted cfObj l S) : ObjOk l r := by
  obtain ⟨h1, h2, h3⟩ := h
  refine ⟨h3, fun o ho => ?_, fun s hs' => ⟨?_, (h2 s hs').2⟩⟩
  · have : o ∈ r.flatMap SegV.ops := by rw [h1]; exact hs.1.mem_iff.2 ho
    obtain ⟨s, hs, ho⟩ := List.mem_flatMap.1 this
    exact ⟨s, hs, ((h2 s hs).1 o ho).symm⟩
  · have e := flat_filter (fun s hs => (h2 s hs).1) h3 s hs'
    rw [h1] at e
    refine ⟨by rw [← e]; exact hs.1.filter _, ?_⟩
    have hp : s.ops.Pairwise fun x y => ltO cfObj y x = false := by rw [← e]; exact hs.2.filter _
    exact hp.imp_of_mem fun hx hy hxy => obj_inv hxy (by rw [(h2 s hs').1 _ hx, (h2 s hs').1 _ hy])
/-- Operations of one number are alike. -/
def Alike (l : List OpV) : Prop := ∀ x ∈ l, ∀ y ∈ l, x.id = y.id → x = y
theorem inv_same {x y : OpV} (h1 : ltO cfInv x y = false) (h2 : ltO cfInv y x = false) : x.id = y.id := by
  rw [lt_no, inv_lt] at h1 h2
  omega
theorem sorted_same {l S S' : List OpV} (ha : Alike l) (h : Sorted cfInv l S) (h' : Sorted cfInv l S') : S = S' :=
  sorted_one (h.1.trans h'.1.symm) h.2 h'.2 fun x y hx hy h1 h2 => ha x (h'.1.mem_iff.1 hx) y (h'.1.mem_iff.1 hy) (inv_same h1 h2)
theorem Alike.filter {l : List OpV} (h : Alike l) (p : OpV → Bool) : Alike (l.filter p) := fun x hx y hy => h x (List.mem_filter.1 hx).1 y (List.mem_filter.1 hy).1
theorem SegV.ext' {s t : SegV} (h1 : s.obj = t.obj) (h2 : s.kind = t.kind) (h3 : s.ops = t.ops) : s = t := by
  cases s; cases t; cases h1; cases h2; cases h3; rfl
theorem rise_ext : ∀ {a b : List SegV}, a.Pairwise (fun x y => x.obj < y.obj) → b.Pairwise (fun x y => x.obj < y.obj) → (∀ s, s ∈ a ↔ s ∈ b) → a = b
  | [], [], _, _, _ => rfl
  | [], t :: r, _, _, h => absurd ((h t).2 (by simp)) (by simp)
  | t :: r, [], _, _, h => absurd ((h t).1 (by simp)) (by simp)
  | s :: r, t :: q, h1, h2, h => by
    obtain ⟨h3, h4⟩ := List.pairwise_cons.1 h1
    obtain ⟨h5, h6⟩ := List.pairwise_cons.1 h2
    have e : s = t := by
      rcases List.mem_cons.1 ((h s).1 (by simp)) with e | e
      · exact e
      · rcases List.mem_cons.1 ((h t).2 (by simp)) with e2 | e2
        · exact e2.symm
        · have := h5 s e; have := h3 t e2; omega
    subst e
    rw [rise_ext h4 h6 fun u => ?_]
    constructor
    · intro hu
      rcases List.mem_cons.1 ((h u).1 (by simp [hu])) with rfl | e
      · exact absurd (h3 u hu) (by omega)
      · exact e
    · intro hu
      rcases List.mem_cons.1 ((h u).2 (by simp [hu])) with rfl | e
      · exact absurd (h5 u hu) (by omega)
      · exact e
theorem ObjOk.seg {l : List OpV} {a b : List SegV} (ha : Alike l) (h1 : ObjOk l a) (h2 : ObjOk l b) {s : SegV} (hs : s ∈ a) : s ∈ b := by
  obtain ⟨k1, o, k2, k3⟩ := h1.each s hs
  have ho : o ∈ l ∧ o.obj = s.obj := by
    have := List.mem_filter.1 (k1.1.mem_iff.1 (List.mem_of_mem_head? k2))
    exact ⟨this.1, of_decide_eq_true this.2⟩
  obtain ⟨t, ht, he⟩ := h2.all o ho.1
  obtain ⟨q1, x, q2, q3⟩ := h2.each t ht
  have e : t.obj = s.obj := he.trans ho.2
  rw [e] at q1
  have e3 := sorted_same (ha.filter _) k1 q1
  rw [← e3, k2] at q2
  cases q2
  rw [SegV.ext' e.symm (k3.trans q3.symm) e3]
  exact ht
theorem obj_one {l : List OpV} {a b : List SegV} (ha : Alike l) (h1 : ObjOk l a) (h2 : ObjOk l b) : a = b := rise_ext h1.rise h2.rise fun _ => ⟨h1.seg ha h2, h2.seg ha h1⟩
/-! ### Quiet cuts -/
def cutStep (st : List (List OpV)) (o : OpV) : List (List OpV) := match st.getLast? with
  | none => [[o]]
  | some c => if c.all (befB · o) then st ++ [[o]] else st.dropLast ++ [c ++ [o]]
def cutL (S : List OpV) : List (List OpV) := S.foldl cutStep []
theorem cutL_snoc (S : List OpV) (o : OpV) : cutL (S ++ [o]) = cutStep (cutL S) o := by unfold cutL; rw [List.foldl_append]; rfl
theorem cutStep_nil (o : OpV) : cutStep [] o = [[o]] := rfl
theorem cutStep_cut {init : List (List OpV)} {c : List OpV} {o : OpV} (h : c.all (befB · o) = true) : cutStep (init ++ [c]) o = init ++ [c] ++ [[o]] := by
  unfold cutStep
  rw [List.getLast?_concat]
  simp only [h, if_true]
theorem cutStep_on {init : List (List OpV)} {c : List OpV} {o : OpV} (h : c.all (befB · o) = false) : cutStep (init ++ [c]) o = init ++ [c ++ [o]] := by
  unfold cutStep
  rw [List.getLast?_concat]
  simp only [h]
  simp
theorem snoc_of {α : Type} {l : List α} (h : l ≠ []) : ∃ init c, l = init ++ [c] := ⟨l.dropLast, l.getLast h, (List.dropLast_concat_getLast h).symm⟩
theorem cutStep_ne (st : List (List OpV)) (o : OpV) : cutStep st o ≠ [] := by
  by_cases h : st = []
  · subst h; rw [cutStep_nil]; simp
  · obtain ⟨i, c, rfl⟩ := snoc_of h
    cases hc : c.all (befB · o) with
    | true => rw [cutStep_cut hc]; simp
    | false => rw [cutStep_on hc]; simp
/-- What cuts are: all, in order; each piece not empty, quiet behind, not to be cut anew. -/
structure CutOk (S : List OpV) (st : List (List OpV)) : Prop where
  flat : st.flatten = S
  ne : ∀ c ∈ st, c ≠ []
  one : ∀ c ∈ st, cutL c = [c]
  quiet : ∀ (i : Nat) (c d : List OpV) (x y : OpV), st[i]? = some c → st[i + 1]? = some d → x ∈ c → d.head? = some y → befB x y = true
theorem snoc_ind {p : List OpV → Prop} (h0 : p []) (h1 : ∀ S o, p S → p (S ++ [o])) (S : List OpV) : p S := by
  have : ∀ (n : Nat) (S : List OpV), S.length = n → p S := fun n => by
    induction n with
    | zero => intro S h; rw [List.length_eq_zero_iff.1 h]; exact h0
    | succ n ih =>
      intro S h
      obtain ⟨i, c, rfl⟩ := snoc_of (l := S) (by intro e; rw [e] at h; cases h)
      exact h1 i c (ih i (by simpa using h))
  exact this _ S rfl
theorem cutL_ok (S : List OpV) : CutOk S (cutL S) := by
  refine snoc_ind (p := fun S => CutOk S (cutL S)) ?_ ?_ S
  · exact ⟨rfl, by simp [cutL], by simp [cutL], by simp [cutL]⟩
  · intro S o ih
    rw [cutL_snoc]
    obtain ⟨h1, h2, h3, h4⟩ := ih
    by_cases h : cutL S = []
    · rw [h, cutStep_nil]
      rw [h] at h1
      refine ⟨by rw [← h1]; rfl, by simp, by simp [cutL, cutStep], fun i c d x y hc hd => ?_⟩
      simp at hd
    · obtain ⟨init, c, hc⟩ := snoc_of h
      rw [hc] at h1 h2 h3 h4 ⊢
      cases ha : c.all (befB · o) with
      | true =>
        rw [cutStep_cut ha]
        refine ⟨by rw [List.flatten_append, h1]; rfl, fun d hd => ?_, fun d hd => ?_, fun i a d x y hia hd hx hy => ?_⟩
        · rcases List.mem_append.1 hd with hd | hd
          · exact h2 d hd
          · rw [List.mem_singleton.1 hd]; simp
        · rcases List.mem_append.1 hd with hd | hd
          · exact h3 d hd
          · rw [List.mem_singleton.1 hd]; rfl
        · have hlen : i + 1 < (init ++ [c] ++ [[o]]).length := (List.getElem?_eq_some_iff.1 hd).1
          simp only [List.length_append, List.length_cons, List.length_nil] at hlen
          rw [List.getElem?_append_left (by simp; omega)] at hia
          by_cases e : i + 1 < init.length + 1
          · rw [List.getElem?_append_left (by simp; omega)] at hd
            exact h4 i a d x y hia hd hx hy
          · have e2 : i = init.length := by omega
            subst e2
            rw [List.getElem?_append_right (by simp)] at hd
            simp at hd hia
            subst hd hia
            simp at hy
            subst hy
            exact List.all_eq_true.1 ha x hx
      | false =>
        rw [cutStep_on ha]
        refine ⟨by rw [← h1]; simp, fun d hd => ?_, fun d hd => ?_, fun i a d x y hia hd hx hy => ?_⟩
        · rcases List.mem_append.1 hd with hd | hd
          · exact h2 d (by simp [hd])
          · rw [List.mem_singleton.1 hd]; simp
        · rcases List.mem_append.1 hd with hd | hd
          · exact h3 d (by simp [hd])
          · rw [List.mem_singleton.1 hd, cutL_snoc, h3 c (by simp)]
            exact cutStep_on (init := []) ha
        · have hlen : i + 1 < (init ++ [c ++ [o]]).length := (List.getElem?_eq_some_iff.1 hd).1
          simp only [List.length_append, List.length_cons, List.length_nil] at hlen
          rw [List.getElem?_append_left (by omega)] at hia
          have hia' : (init ++ [c])[i]? = some a := by rw [List.getElem?_append_left (by omega)]; exact hia
          by_cases e : i + 1 < init.length
          · rw [List.getElem?_append_left e] at hd
            exact h4 i a d x y hia' (by rw [List.getElem?_append_left e]; exact hd) hx hy
          · have e2 : i + 1 = init.length := by omega
            rw [List.getElem?_append_right (by omega), e2] at hd
            simp at hd
            subst hd
            have hc0 := h2 c (by simp)
            obtain ⟨z, hz⟩ : ∃ z, c.head? = some z := by
              cases c with
              | nil => exact absurd rfl hc0
              | cons z r => exact ⟨z, rfl⟩
            rw [head_add hz] at hy
            cases hy
            refine h4 i a c x _ hia' ?_ hx hz
            rw [List.getElem?_append_right (by omega), e2]
            simp
/-- Of operations that end, the one that ends last is before an operation just if all are. -/
theorem ends_all {c : List OpV} {last o : OpV} (h : ∀ p, befB last p = c.all (befB · p)) : ∀ p, befB (if endB o last then o else last) p = (c ++ [o]).all (befB · p) := fun p => by
  rw [List.all_append, ← h p]
  simp only [List.all_cons, List.all_nil, Bool.and_true]
  unfold endB befB
  cases hl : last.done <;> cases ho : o.done <;> simp only [Bool.false_and, Bool.true_and, Bool.not_true, Bool.not_false, Bool.false_or, Bool.true_or, Bool.and_false, Bool.and_true, if_true, if_false, hl, ho, Bool.false_eq_true]
  by_cases e : o.ret > last.ret
  · rw [if_pos (decide_eq_true e)]
    rw [ho]
    by_cases f : o.ret < p.inv
    · rw [decide_eq_true f, decide_eq_true (show last.ret < p.inv by omega)]
      try rfl
    · rw [decide_eq_false f]
      try simp
  · rw [if_neg (by simpa using e)]
    rw [hl]
    by_cases f : last.ret < p.inv
    · rw [decide_eq_true f, decide_eq_true (show o.ret < p.inv by omega)]
      try rfl
    · rw [decide_eq_false f]
      try rfl
end Cu
end Go.Proofs.Ytppjmmdiglnkfaa
namespace Go.Proofs.Ytppjmmdiglnkfaa
set_option maxRecDepth 100000
open Go.ChangeShapes Go.WideShapes Go.ChangeAt Go.RowKit Go.PlainAid Go.Deep Go.Shelf Go.Sort
namespace Cu
attribute [local go_sem ↓ high] load_op store_o app_seg
/-- A row that is read off its known blocks. -/
theorem own_known {n₀ : Nat} {W : World} {v : Value} {S : List OpV} (h : OpsOwn n₀ W v S) (hw : ∀ o ∈ S, o.Wf) : ∃ Rs : List (Nat × Obj), (∀ x ∈ Rs, W.heap[x.1]? = some x.2 ∧ n₀ ≤ x.1) ∧ ∀ W', (∀ x ∈ Rs, W'.heap[x.1]? = some x.2) → OpsOf W' v S := by
  rcases h.2 with ⟨rfl, h0⟩ | ⟨g, cap, cur, rfl, hn, hg, hl, hc, hsz, ht⟩
  · exact ⟨[], by simp, fun W' _ => ⟨.inl ⟨List.length_eq_zero_iff.1 h0, _, _, rfl⟩, hw⟩⟩
  · refine ⟨[(g, .cells cur 43 (0, 0))], fun x hx => by rw [List.mem_singleton.1 hx]; exact ⟨hg, hn⟩, fun W' hW => ?_⟩
    have hg' := hW _ (List.mem_singleton.2 rfl)
    exact OpsOwn.reads (n₀ := n₀) ⟨h.1, .inr ⟨g, cap, cur, rfl, hn, hg', hl, hc, hsz, ht⟩⟩ hw
def LastOk (w0 W : World) (v : Value) (ps : List (SegV × Value)) (R : List (Nat × Obj)) : Prop := (ps = [] ∧ v = .slice none 0 0) ∨ ∃ init q, ps = init ++ [q] ∧ LastM w0 W init q R
theorem GrpI.le {P : List OpV} {l : List SegV} (h : GrpI P l) {s : SegV} (hs : s ∈ l) : s.ops.length ≤ P.length := by
  rw [← h.flat]
  exact List.Sublist.length_le (List.sublist_flatten_of_mem (List.mem_map.2 ⟨s, hs, rfl⟩) |>.trans (by rw [List.flatMap]; exact List.Sublist.refl _))
theorem GrpI.few {P : List OpV} {l : List SegV} (h : GrpI P l) : l.length ≤ P.length := by
  have : ∀ l : List SegV, (∀ s ∈ l, ∃ o, s.ops.head? = some o) → l.length ≤ (l.flatMap SegV.ops).length := fun l => by
    induction l with
    | nil => intro _; simp
    | cons s r ih =>
      intro hs
      rw [List.flatMap_cons, List.length_append, List.length_cons]
      have h1 := ih fun t ht => hs t (by simp [ht])
      obtain ⟨o, ho⟩ := hs s (by simp)
      have : 0 < s.ops.length := List.length_pos_of_mem (List.mem_of_mem_head? ho)
      omega
  have h2 := this l fun s hs => by
    obtain ⟨_, o, ho, _⟩ := h.each s hs
    exact ⟨o, ho⟩
  rwa [h.flat] at h2
theorem rise_obj {S : List OpV} (h : S.Pairwise fun x y => ltO cfObj y x = false) {k : Nat} {o : OpV} (ho : S[k]? = some o) : ∀ x ∈ S.take k, x.obj ≤ o.obj := fun x hx => by
  obtain ⟨i, hi, rfl⟩ := List.mem_iff_getElem.1 hx
  rw [List.length_take] at hi
  obtain ⟨hk, rfl⟩ := List.getElem?_eq_some_iff.1 ho
  have := List.pairwise_iff_getElem.1 h i k (by omega) hk (by omega)
  rw [List.getElem_take]
  rw [lt_no, obj_lt] at this
  omega
theorem take_snoc {S : List OpV} {k : Nat} {o : OpV} (ho : S[k]? = some o) : S.take (k + 1) = S.take k ++ [o] := by
  rw [List.take_add_one, ho]; rfl
/-- What is known at a round's end. -/
def ObjI (w W : World) (S : List OpV) (k : Nat) (v : Value) (ps : List (SegV × Value)) (R : List (Nat × Obj)) : Prop := SegM w W v ps R ∧ GrpI (S.take k) (ps.map Prod.fst) ∧ LastOk w W v ps R
end Cu
end Go.Proofs.Ytppjmmdiglnkfaa
