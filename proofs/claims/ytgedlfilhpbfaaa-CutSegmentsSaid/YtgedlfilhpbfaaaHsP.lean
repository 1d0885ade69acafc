/- Histories as plain lists: where an ID stands, and what is put there, set there, and taken from there. -/
import Derived.Test.YtgedlfilhpbfaaaHsB
namespace Go.Proofs.Ytgedlfilhpbfaaa.Hs

section
variable {O : Type} (H : Look O)
/-- How many stand ahead of an ID. -/
def ahead (l : List O) (x : Int) : Nat := l.countP fun o => decide (H.id o < x)
theorem ahead_le (l : List O) (x : Int) : ahead H l x ≤ l.length := List.countP_le_length
theorem ahead_cons_lt {l : List O} {a : O} {x : Int} (h : H.id a < x) : ahead H (a :: l) x = ahead H l x + 1 := by
  unfold ahead
  rw [List.countP_cons, if_pos (by simpa using h)]
theorem ahead_cons_ge {l : List O} {a : O} {x : Int} (hr : (a :: l).Pairwise fun x y => H.id x < H.id y) (h : ¬ H.id a < x) : ahead H (a :: l) x = 0 := by
  unfold ahead
  rw [List.countP_eq_zero]
  intro o ho
  rcases List.mem_cons.1 ho with e | e
  · rw [e]; simpa using h
  · have := (List.pairwise_cons.1 hr).1 o e
    simp
    omega
theorem take_ahead : ∀ {l : List O} (_ : l.Pairwise fun x y => H.id x < H.id y) (x : Int), l.take (ahead H l x) = l.filter fun o => decide (H.id o < x)
  | [], _, _ => rfl
  | a :: r, hr, x => by
    by_cases c : H.id a < x
    · rw [ahead_cons_lt H c, List.take_succ_cons, take_ahead (List.pairwise_cons.1 hr).2 x, List.filter_cons, if_pos (by simpa using c)]
    · rw [ahead_cons_ge H hr c, List.take_zero]
      symm
      rw [List.filter_eq_nil_iff]
      intro o ho
      rcases List.mem_cons.1 ho with e | e
      · rw [e]; simpa using c
      · have := (List.pairwise_cons.1 hr).1 o e
        simp
        omega
theorem drop_ahead : ∀ {l : List O} (_ : l.Pairwise fun x y => H.id x < H.id y) (x : Int), l.drop (ahead H l x) = l.filter fun o => decide (x ≤ H.id o)
  | [], _, _ => rfl
  | a :: r, hr, x => by
    by_cases c : H.id a < x
    · rw [ahead_cons_lt H c, List.drop_succ_cons, drop_ahead (List.pairwise_cons.1 hr).2 x, List.filter_cons, if_neg (by simp; omega)]
    · rw [ahead_cons_ge H hr c, List.drop_zero]
      symm
      rw [List.filter_eq_self]
      intro o ho
      rcases List.mem_cons.1 ho with e | e
      · rw [e]; simp; omega
      · have := (List.pairwise_cons.1 hr).1 o e
        simp
        omega
theorem back_none {l : List O} {x : Int} (h : ∀ o ∈ l, H.id o ≠ x) : (l.filter fun o => decide (x ≤ H.id o)) = l.filter fun o => decide (x < H.id o) := by
  apply List.filter_congr
  intro o ho
  have := h o ho
  rw [decide_eq_decide]
  omega
theorem back_some : ∀ {l : List O} (_ : l.Pairwise fun x y => H.id x < H.id y) {o : O} (_ : o ∈ l), (l.filter fun a => decide (H.id o ≤ H.id a)) = o :: l.filter fun a => decide (H.id o < H.id a)
  | a :: r, hr, o, ho => by
    obtain ⟨h1, h2⟩ := List.pairwise_cons.1 hr
    rcases List.mem_cons.1 ho with e | e
    · subst e
      rw [List.filter_cons, if_pos (by simp), List.filter_cons, if_neg (by simp)]
      congr 1
      exact back_none H fun b hb => by have := h1 b hb; omega
    · have := h1 o e
      rw [List.filter_cons, if_neg (by simp; omega), List.filter_cons, if_neg (by simp; omega)]
      exact back_some h2 e
/-- Put in its place. -/
theorem put_in {l : List O} (hr : l.Pairwise fun x y => H.id x < H.id y) {o : O} (hn : ∀ a ∈ l, H.id a ≠ H.id o) : l.take (ahead H l (H.id o)) ++ o :: l.drop (ahead H l (H.id o)) = inL H l o := by
  rw [take_ahead H hr, drop_ahead H hr, back_none H hn]
  rfl
theorem drop_one {l : List O} (hr : l.Pairwise fun x y => H.id x < H.id y) {o : O} (ho : o ∈ l) : l.drop (ahead H l (H.id o) + 1) = l.filter fun a => decide (H.id o < H.id a) := by
  have := drop_ahead H hr (H.id o)
  rw [back_some H hr ho] at this
  rw [← List.drop_drop, this]
  rfl
/-- Set in its place. -/
theorem set_in {l : List O} (hr : l.Pairwise fun x y => H.id x < H.id y) {o a : O} (ho : o ∈ l) (e : H.id a = H.id o) : l.take (ahead H l (H.id o)) ++ a :: l.drop (ahead H l (H.id o) + 1) = inL H l a := by
  rw [take_ahead H hr, drop_one H hr ho, ← e]
  rfl
/-- Taken out. -/
theorem cut_out {l : List O} (hr : l.Pairwise fun x y => H.id x < H.id y) {o : O} (ho : o ∈ l) : l.take (ahead H l (H.id o)) ++ l.drop (ahead H l (H.id o) + 1) = outL H l (H.id o) := by
  rw [take_ahead H hr, drop_one H hr ho]
  refine sorted_ext H ?_ (out_rise H hr) fun b => ?_
  · refine List.pairwise_append.2 ⟨hr.sublist List.filter_sublist, hr.sublist List.filter_sublist, fun b hb c hc => ?_⟩
    have h1 : H.id b < H.id o := by simpa using (List.mem_filter.1 hb).2
    have h2 : H.id o < H.id c := by simpa using (List.mem_filter.1 hc).2
    omega
  · rw [out_mem, List.mem_append, List.mem_filter, List.mem_filter]
    simp only [decide_eq_true_eq]
    constructor
    · rintro (⟨h, c⟩ | ⟨h, c⟩) <;> exact ⟨h, by omega⟩
    · rintro ⟨h, c⟩
      rcases Int.lt_or_gt_of_ne c with d | d
      · exact .inl ⟨h, d⟩
      · exact .inr ⟨h, d⟩
/-- What stands there. -/
theorem at_ahead {l : List O} (hr : l.Pairwise fun x y => H.id x < H.id y) {o : O} (ho : o ∈ l) : l[ahead H l (H.id o)]? = some o := by
  have := drop_ahead H hr (H.id o)
  rw [back_some H hr ho] at this
  have h2 := congrArg (·[0]?) this
  simpa [List.getElem?_drop] using h2
theorem ahead_lt {l : List O} (hr : l.Pairwise fun x y => H.id x < H.id y) {o : O} (ho : o ∈ l) : ahead H l (H.id o) < l.length := (List.getElem?_eq_some_iff.1 (at_ahead H hr ho)).1
/-- A place: those below it are ahead, the others not. -/
theorem ahead_is {l : List O} {x : Int} {i : Nat} (hi : i ≤ l.length) (h1 : ∀ t a, t < i → l[t]? = some a → H.id a < x) (h2 : ∀ t a, i ≤ t → l[t]? = some a → x ≤ H.id a) : ahead H l x = i := by
  unfold ahead
  have e : l = l.take i ++ l.drop i := (List.take_append_drop i l).symm
  rw [e, List.countP_append]
  have a1 : (l.take i).countP (fun o => decide (H.id o < x)) = i := by
    have : (l.take i).countP (fun o => decide (H.id o < x)) = (l.take i).length := by
      rw [List.countP_eq_length]
      intro o ho
      obtain ⟨t, ht, rfl⟩ := List.mem_iff_getElem.1 ho
      have ht' : t < i := by rw [List.length_take] at ht; omega
      have := h1 t _ ht' (by rw [← List.getElem?_take_of_lt ht']; exact List.getElem?_eq_getElem ht)
      simpa using this
    rw [this, List.length_take]
    omega
  have a2 : (l.drop i).countP (fun o => decide (H.id o < x)) = 0 := by
    rw [List.countP_eq_zero]
    intro o ho
    obtain ⟨t, ht, rfl⟩ := List.mem_iff_getElem.1 ho
    have := h2 (i + t) (l.drop i)[t] (by omega) (by rw [← List.getElem?_drop]; exact List.getElem?_eq_getElem ht)
    rw [decide_eq_true_eq]
    omega
  rw [a1, a2]
  rfl
/-- Is the ID there? By what stands at its place. -/
theorem get_place {l : List O} (hr : l.Pairwise fun x y => H.id x < H.id y) {x : Int} {o : O} (h : l[ahead H l x]? = some o) : getL H l x = if H.id o = x then some o else none := by
  by_cases c : H.id o = x
  · rw [if_pos c, ← c]
    exact get_is H hr (List.mem_of_getElem? h)
  · rw [if_neg c]
    refine get_no H fun a ha e => ?_
    subst e
    rw [at_ahead H hr ha] at h
    exact c (congrArg H.id (Option.some.inj h)).symm
theorem get_past {l : List O} (hr : l.Pairwise fun x y => H.id x < H.id y) {x : Int} (h : l.length ≤ ahead H l x) : getL H l x = none :=
  get_no H fun a ha e => by
    subst e
    have := ahead_lt H hr ha
    omega
end
end Go.Proofs.Ytgedlfilhpbfaaa.Hs
