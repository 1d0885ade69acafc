/- Histories as plain lists: edits; what is edited may be, is taken back, and two edits of different operations go in both orders. Histories as plain lists: where an ID stands, and what is put there, set there, and taken from there. Package hist: what a history asks of operations; what updates leave; comparing IDs. -/
import Derived.Test.YtppjmmdiglnkfaaQad
import Derived.Test.YtppjmmdiglnkfaaQac
namespace Go.Proofs.Ytppjmmdiglnkfaa.Hs

section
variable {O : Type} (H : Look O) (U : Int → O → O → O)

/-- What an edit comes to: the history, the operation as it was, as it is, and what is wrong. -/
abbrev Res (O : Type) := List O × Option O × Option O × Int
def bad {O : Type} (e : Int) : Res O := ([], none, none, e)
noncomputable def addL (l : List O) (e : O) : Res O :=
  if H.chk e ≠ 0 then bad (H.chk e) else if (getL H l (H.id e)).isSome = true then bad 7 else if besideZ H l e ≠ 0 then bad (besideZ H l e) else if 64 ≤ l.length then bad 34 else (inL H l e, none, some e, 0)
noncomputable def setL (l : List O) (was o : O) : Res O :=
  if H.chk o ≠ 0 then bad (H.chk o) else if besideZ H l o ≠ 0 then bad (besideZ H l o) else (inL H l o, some was, some o, 0)
/-- May an operation be answered, or its answer be taken back? -/
def stateB (k : Int) (was : O) : Bool := (k == 5 && H.done was) || (k == 6 && !H.done was)
noncomputable def applyL (l : List O) (k : Int) (e : O) : Res O :=
  if k < 1 ∨ 6 < k then bad 1 else if k = 1 then addL H l e else
    match getL H l (H.id e) with
    | none => bad 6
    | some was => if k = 2 then (outL H l (H.id e), some was, none, 0) else if stateB H k was = true then bad 8 else setL H l was (U k was e)
/-- An edit that is let, what it leaves, the operation as it was, and as it is. -/
inductive Let (l : List O) : Int → O → List O → Option O → Option O → Prop
  | add (e : O) (hc : H.chk e = 0) (hn : ∀ a ∈ l, H.id a ≠ H.id e) (hs : besideZ H l e = 0) (hl : l.length < 64) : Let l 1 e (inL H l e) none (some e)
  | del (e was : O) (hw : was ∈ l) (hi : H.id was = H.id e) : Let l 2 e (outL H l (H.id e)) (some was) none
  | set (k : Int) (e was : O) (hk : 3 ≤ k ∧ k ≤ 6) (hw : was ∈ l) (hi : H.id was = H.id e) (hst : stateB H k was = false) (hc : H.chk (U k was e) = 0) (hs : besideZ H l (U k was e) = 0) : Let l k e (inL H l (U k was e)) (some was) (some (U k was e))
theorem apply_let {l : List O} {k : Int} {e : O} {L : List O} {w n : Option O} (h : applyL H U l k e = (L, w, n, 0)) : Let H U l k e L w n := by
  unfold applyL at h
  by_cases c0 : k < 1 ∨ 6 < k
  · rw [if_pos c0] at h; simp [bad] at h
  rw [if_neg c0] at h
  by_cases c1 : k = 1
  · rw [if_pos c1] at h
    unfold addL at h
    by_cases d1 : H.chk e = 0
    · rw [if_neg (by rw [d1]; simp)] at h
      cases d2 : getL H l (H.id e) with
      | some a => rw [d2] at h; simp [bad] at h
      | none =>
        rw [d2] at h
        by_cases d3 : besideZ H l e = 0
        · rw [if_neg (by simp), if_neg (by rw [d3]; simp)] at h
          by_cases d4 : 64 ≤ l.length
          · rw [if_pos d4] at h; simp [bad] at h
          · rw [if_neg d4] at h
            simp only [Prod.mk.injEq] at h
            obtain ⟨rfl, rfl, rfl, _⟩ := h
            subst c1
            exact .add e d1 (get_none H d2) d3 (by omega)
        · rw [if_neg (by simp), if_pos d3] at h
          simp only [bad, Prod.mk.injEq] at h
          exact absurd h.2.2.2 d3
    · rw [if_pos d1] at h
      simp only [bad, Prod.mk.injEq] at h
      exact absurd h.2.2.2 d1
  rw [if_neg c1] at h
  cases d2 : getL H l (H.id e) with
  | none => rw [d2] at h; simp [bad] at h
  | some was =>
    rw [d2] at h
    obtain ⟨hw, hi⟩ := get_some H d2
    by_cases c2 : k = 2
    · simp only [if_pos c2, Prod.mk.injEq] at h
      obtain ⟨rfl, rfl, rfl, _⟩ := h
      subst c2
      exact .del e was hw hi
    · simp only [if_neg c2] at h
      cases c3 : stateB H k was with
      | true => rw [c3] at h; simp [bad] at h
      | false =>
        rw [c3, if_neg (by simp)] at h
        unfold setL at h
        by_cases d1 : H.chk (U k was e) = 0
        · rw [if_neg (by rw [d1]; simp)] at h
          by_cases d3 : besideZ H l (U k was e) = 0
          · rw [if_neg (by rw [d3]; simp)] at h
            simp only [Prod.mk.injEq] at h
            obtain ⟨rfl, rfl, rfl, _⟩ := h
            exact .set k e was (by omega) hw hi c3 d1 d3
          · rw [if_pos d3] at h
            simp only [bad, Prod.mk.injEq] at h
            exact absurd h.2.2.2 d3
        · rw [if_pos d1] at h
          simp only [bad, Prod.mk.injEq] at h
          exact absurd h.2.2.2 d1
theorem let_apply {l : List O} {k : Int} {e : O} {L : List O} {w n : Option O} (hr : l.Pairwise fun x y => H.id x < H.id y) (h : Let H U l k e L w n) : applyL H U l k e = (L, w, n, 0) := by
  cases h with
  | add e hc hn hs hl =>
    unfold applyL addL
    rw [if_neg (by omega), if_pos rfl, if_neg (by rw [hc]; simp), get_no H hn, if_neg (by simp), if_neg (by rw [hs]; simp), if_neg (by omega)]
  | del e was hw hi =>
    unfold applyL
    rw [if_neg (by omega), if_neg (by omega), ← hi, get_is H hr hw]
    simp
  | set k e was hk hw hi hst hc hs =>
    unfold applyL
    rw [if_neg (by omega), if_neg (by omega), ← hi, get_is H hr hw]
    simp only [if_neg (show ¬ k = 2 by omega), hst]
    unfold setL
    rw [if_neg (by simp), if_neg (by rw [hc]; simp), if_neg (by rw [hs]; simp)]
/-- An edit that is refused tells nothing. -/
theorem apply_bad {l : List O} {k : Int} {e : O} (h : (applyL H U l k e).2.2.2 ≠ 0) : applyL H U l k e = bad (applyL H U l k e).2.2.2 := by
  unfold applyL addL setL at *
  repeat' split
  all_goals first | rfl | (simp_all)
/-- An update keeps who an operation is. -/
structure Keep : Prop where
  id : ∀ k was e, H.id (U k was e) = H.id was
  obj : ∀ k was e, H.obj (U k was e) = H.obj was
  kind : ∀ k was e, H.kind (U k was e) = H.kind was
  proc : ∀ k was e, H.proc (U k was e) = H.proc was
variable {H U}
theorem Let.now_id {l : List O} {k : Int} {e : O} {L : List O} {w n : Option O} (hk : Keep H U) (h : Let H U l k e L w n) : ∀ a, n = some a → H.id a = H.id e ∧ H.chk a = 0 ∧ besideZ H l a = 0 := by
  cases h with
  | add e hc hn hs hl => intro a ha; cases ha; exact ⟨rfl, hc, hs⟩
  | del e was hw hi => intro a ha; cases ha
  | set k e was hkk hw hi hst hc hs => intro a ha; cases ha; exact ⟨(hk.id k was e).trans hi, hc, hs⟩
theorem Let.mem {l : List O} {k : Int} {e : O} {L : List O} {w n : Option O} (hk : Keep H U) (h : Let H U l k e L w n) : ∀ a, a ∈ L ↔ n = some a ∨ (a ∈ l ∧ H.id a ≠ H.id e) := by
  intro a
  cases h with
  | add e hc hn hs hl => rw [in_mem]; constructor <;> (rintro (c | c); exact .inl (by first | rw [c] | exact (Option.some.inj c).symm); exact .inr c)
  | del e was hw hi => rw [out_mem]; constructor
                       · exact fun c => .inr c
                       · rintro (c | c)
                         · cases c
                         · exact c
  | set k e was hkk hw hi hst hc hs =>
    rw [in_mem, (hk.id k was e).trans hi]
    constructor <;> (rintro (c | c); exact .inl (by first | rw [c] | exact (Option.some.inj c).symm); exact .inr c)
theorem Let.rise {l : List O} {k : Int} {e : O} {L : List O} {w n : Option O} (hr : l.Pairwise fun x y => H.id x < H.id y) (h : Let H U l k e L w n) : L.Pairwise fun x y => H.id x < H.id y := by
  cases h with
  | add e hc hn hs hl => exact in_rise H hr
  | del e was hw hi => exact out_rise H hr
  | set k e was hkk hw hi hst hc hs => exact in_rise H hr
/-- How long the history is then. -/
theorem Let.len {l : List O} {k : Int} {e : O} {L : List O} {w n : Option O} (hk : Keep H U) (hr : l.Pairwise fun x y => H.id x < H.id y) (h : Let H U l k e L w n) : (k = 1 ∧ l.length < 64 ∧ L.length = l.length + 1) ∨ (k ≠ 1 ∧ L.length ≤ l.length ∧ 0 < l.length) := by
  cases h with
  | add e hc hn hs hl => exact .inl ⟨rfl, hl, by rw [in_len, out_none H hn]⟩
  | del e was hw hi => exact .inr ⟨by omega, out_len H, List.length_pos_of_mem hw⟩
  | set k e was hkk hw hi hst hc hs =>
    refine .inr ⟨by omega, ?_, List.length_pos_of_mem hw⟩
    rw [in_len, hk.id, out_one H hr hw]
    exact Nat.le_refl _
/-- What is edited may be. -/
theorem Let.valid {l : List O} {k : Int} {e : O} {L : List O} {w n : Option O} (hk : Keep H U) (hv : Valid H l) (h : Let H U l k e L w n) : Valid H L := by
  cases h with
  | add e hc hn hs hl => exact valid_in H hv hc hs (by rw [out_none H hn]; exact hl)
  | del e was hw hi => exact valid_out H hv _
  | set k e was hkk hw hi hst hc hs =>
    refine valid_in H hv hc hs ?_
    rw [hk.id]
    have := out_one H hv.rise hw
    have := hv.few
    omega
/-- Beside a history that has changed. -/
theorem beside_moved {l L : List O} {e : O} {n : Option O} (hm : ∀ a, a ∈ L ↔ n = some a ∨ (a ∈ l ∧ H.id a ≠ H.id e)) {o : O} (hs : besideZ H l o = 0) (hc : ∀ a, n = some a → ¬ otherKind H a o ∧ ¬ overlaps H a o) : besideZ H L o = 0 := by
  refine (beside_ok H).2 fun a ha => ?_
  rcases (hm a).1 ha with c | c
  · exact hc a c
  · exact (beside_ok H).1 hs a c.1
/-- An edit of another operation goes behind one that was let, if both go beside each other. -/
theorem Let.move {l : List O} {k1 k2 : Int} {e1 e2 : O} {A B : List O} {w1 n1 w2 n2 : Option O} (hk : Keep H U) (h1 : Let H U l k1 e1 A w1 n1) (h2 : Let H U l k2 e2 B w2 n2) (hne : H.id e1 ≠ H.id e2)
    (hc : ∀ a b, n1 = some a → n2 = some b → ¬ otherKind H a b ∧ ¬ overlaps H a b) (hl : k2 = 1 → A.length < 64) : ∃ C, Let H U A k2 e2 C w2 n2 := by
  have hm := h1.mem hk
  have hid := h1.now_id hk
  cases h2 with
  | add e hcc hn hs hl2 =>
    refine ⟨_, .add e2 hcc (fun a ha => ?_) (beside_moved hm hs fun a ha => hc a e2 ha rfl) (hl rfl)⟩
    rcases (hm a).1 ha with c | c
    · rw [(hid a c).1]; exact hne
    · exact hn a c.1
  | del e was hw hi => exact ⟨_, .del e2 was ((hm was).2 (.inr ⟨hw, fun c => hne (by rw [← c, hi])⟩)) hi⟩
  | set k e was hkk hw hi hst hcc hs =>
    exact ⟨_, .set k2 e2 was hkk ((hm was).2 (.inr ⟨hw, fun c => hne (by rw [← c, hi])⟩)) hi hst hcc (beside_moved hm hs fun a ha => hc a _ ha rfl)⟩
/-- .. and only then. -/
theorem Let.moved {l : List O} {k1 k2 : Int} {e1 e2 : O} {A B C : List O} {w1 n1 w2 n2 w3 n3 : Option O} (hk : Keep H U) (hr : l.Pairwise fun x y => H.id x < H.id y) (h1 : Let H U l k1 e1 A w1 n1) (h2 : Let H U l k2 e2 B w2 n2) (hne : H.id e1 ≠ H.id e2) (h3 : Let H U A k2 e2 C w3 n3) :
    w3 = w2 ∧ n3 = n2 ∧ (∀ a b, n1 = some a → n2 = some b → ¬ otherKind H a b ∧ ¬ overlaps H a b) ∧ (k2 = 1 → A.length < 64) := by
  have hm := h1.mem hk
  have old : ∀ x y : O, x ∈ A → y ∈ l → H.id x = H.id e2 → H.id y = H.id e2 → x = y := fun x y hx hy ex ey => by
    rcases (hm x).1 hx with c | c
    · exact absurd ((h1.now_id hk x c).1.symm.trans ex) hne
    · exact same_id H hr c.1 hy (ex.trans ey.symm)
  have new : ∀ b, besideZ H A b = 0 → ∀ a, n1 = some a → ¬ otherKind H a b ∧ ¬ overlaps H a b := fun b hb a ha => (beside_ok H).1 hb a ((hm a).2 (.inl ha))
  cases h3 with
  | add e hcc hn hs hl =>
    cases h2 with
    | add e hcc' hn' hs' hl' => exact ⟨rfl, rfl, fun a b ha hb => by cases hb; exact new _ hs a ha, fun _ => hl⟩
    | set k e was hkk => omega
  | del e was hw hi =>
    cases h2 with
    | del e was' hw' hi' => exact ⟨by rw [old was was' hw hw' hi hi'], rfl, fun a b ha hb => (by cases hb), fun c => by omega⟩
    | set k e was hkk => omega
  | set k e was hkk hw hi hst hcc hs =>
    cases h2 with
    | add e => omega
    | del e => omega
    | set k e was' hkk' hw' hi' hst' hcc' hs' =>
      have := old was was' hw hw' hi hi'
      subst this
      exact ⟨rfl, rfl, fun a b ha hb => by cases hb; exact new _ hs a ha, fun c => by omega⟩
/-- Two edits of different operations: both orders are let, or none; and both come to the same. -/
theorem let_two {l : List O} {k1 k2 : Int} {e1 e2 : O} {A B : List O} {w1 n1 w2 n2 : Option O} (hk : Keep H U) (hv : Valid H l) (h1 : Let H U l k1 e1 A w1 n1) (h2 : Let H U l k2 e2 B w2 n2) (hne : H.id e1 ≠ H.id e2) :
    (∀ {C w n}, Let H U A k2 e2 C w n → ∃ D w' n', Let H U B k1 e1 D w' n' ∧ C = D) := by
  intro C w n h3
  obtain ⟨rfl, rfl, hc, hl⟩ := h1.moved hk hv.rise h2 hne h3
  have hl' : k1 = 1 → B.length < 64 := fun e => by
    rcases h1.len hk hv.rise with c | c
    · rcases h2.len hk hv.rise with d | d
      · have := hl d.1
        have := c.2.2
        have := d.2.2
        omega
      · have := c.2.1
        have := d.2.1
        omega
    · exact absurd e c.1
  obtain ⟨D, h4⟩ := h2.move hk h1 (fun e => hne e.symm) (fun a b ha hb => ⟨fun c => (hc b a hb ha).1 (otherKind_symm H c), fun c => (hc b a hb ha).2 (overlaps_symm H c)⟩) hl'
  refine ⟨D, _, _, h4, sorted_ext H (h3.rise (h1.rise hv.rise)) (h4.rise (h2.rise hv.rise)) fun a => ?_⟩
  rw [h3.mem hk, h4.mem hk, h1.mem hk, h2.mem hk]
  have i1 := h1.now_id hk
  have i2 := h2.now_id hk
  constructor
  · rintro (c | ⟨c | c, d⟩)
    · exact .inr ⟨.inl c, by rw [(i2 a c).1]; exact fun e => hne e.symm⟩
    · exact .inl c
    · exact .inr ⟨.inr ⟨c.1, d⟩, c.2⟩
  · rintro (c | ⟨c | c, d⟩)
    · exact .inr ⟨.inl c, by rw [(i1 a c).1]; exact hne⟩
    · exact .inl c
    · exact .inr ⟨.inr ⟨c.1, d⟩, c.2⟩
/-- What updates undo. -/
structure Undo (H : Look O) (U : Int → O → O → O) : Prop where
  three : ∀ was e, U 3 (U 3 was e) was = was
  four : ∀ was e, U 4 (U 4 was e) was = was
  five : ∀ was e, H.chk was = 0 → H.done was = false → U 6 (U 5 was e) was = was
  six : ∀ was e, H.done was = true → U 5 (U 6 was e) was = was
  done5 : ∀ was e, H.done (U 5 was e) = true
  done6 : ∀ was e, H.done (U 6 was e) = false
/-- The edit that takes one back. -/
def backK (k : Int) : Int := if k = 1 then 2 else if k = 2 then 1 else if k = 5 then 6 else if k = 6 then 5 else k
/-- An edit that is taken back leaves what was. -/
theorem let_back {l : List O} {k : Int} {e : O} {L : List O} {w n : Option O} (hk : Keep H U) (hu : Undo H U) (hv : Valid H l) (h : Let H U l k e L w n) (b : O) (hb : (k = 1 ∧ n = some b) ∨ (k ≠ 1 ∧ w = some b)) : Let H U L (backK k) b l n w := by
  have hm := h.mem hk
  have hr := h.rise hv.rise
  have id_in : ∀ (was : O), was ∈ l → H.id was = H.id e → inL H L was = l := fun was hw hi => sorted_ext H (in_rise H hr) hv.rise fun a => by
    rw [in_mem, hm, hi]
    constructor
    · rintro (c | ⟨c | c, d⟩)
      · rw [c]; exact hw
      · exact absurd (h.now_id hk a c).1 d
      · exact c.1
    · intro ha
      by_cases c : H.id a = H.id e
      · exact .inl (same_id H hv.rise ha hw (c.trans hi.symm))
      · exact .inr ⟨.inr ⟨ha, c⟩, c⟩
  have side_in : ∀ (was : O), was ∈ l → H.id was = H.id e → besideZ H L was = 0 := fun was hw hi => (beside_ok H).2 fun a ha => by
    rcases (hm a).1 ha with c | c
    · have := (h.now_id hk a c).1
      exact ⟨fun d => d.1 (this.trans hi.symm), fun d => d.1 (this.trans hi.symm)⟩
    · exact hv.side was hw a c.1
  cases h with
  | add _ hc hn hs hl =>
    rcases hb with ⟨_, hb⟩ | ⟨c, _⟩
    · cases hb
      have e2 : outL H (inL H l e) (H.id e) = l := sorted_ext H (out_rise H hr) hv.rise fun a => by
        rw [out_mem, hm]
        constructor
        · rintro ⟨c | c, d⟩
          · cases c; exact absurd rfl d
          · exact c.1
        · intro ha
          exact ⟨.inr ⟨ha, hn a ha⟩, hn a ha⟩
      have := Let.del (H := H) (U := U) (l := inL H l e) e e ((hm e).2 (.inl rfl)) rfl
      rw [e2] at this
      exact this
    · omega
  | del _ was hw hi =>
    rcases hb with ⟨c, _⟩ | ⟨_, hb⟩
    · omega
    · have hbw := Option.some.inj hb
      subst hbw
      have := Let.add (H := H) (U := U) (l := outL H l (H.id e)) was (hv.chk was hw) (fun a ha => by rw [hi]; exact ((out_mem H).1 ha).2) (side_in was hw hi) (by
        have h1 := out_one H hv.rise hw
        rw [hi] at h1
        have := hv.few
        omega)
      rw [id_in was hw hi] at this
      exact this
  | set _ _ was hkk hw hi hst hc hs =>
    rcases hb with ⟨c, _⟩ | ⟨_, hb⟩
    · omega
    · have hbw := Option.some.inj hb
      subst hbw
      have hin : U k was e ∈ inL H l (U k was e) := (hm _).2 (.inl rfl)
      have hii : H.id (U k was e) = H.id was := hk.id k was e
      have go : ∀ k', 3 ≤ k' ∧ k' ≤ 6 → backK k = k' → stateB H k' (U k was e) = false → U k' (U k was e) was = was → Let H U (inL H l (U k was e)) (backK k) was l (some (U k was e)) (some was) := fun k' hk' hbk hs' hback => by
        have := Let.set (H := H) (U := U) (l := inL H l (U k was e)) k' was (U k was e) hk' hin hii hs' (by rw [hback]; exact hv.chk was hw) (by rw [hback]; exact side_in was hw hi)
        rw [hback, id_in was hw hi] at this
        rw [hbk]
        exact this
      by_cases k3 : k = 3
      · subst k3; exact go 3 (by omega) rfl (by simp [stateB]) (hu.three was e)
      by_cases k4 : k = 4
      · subst k4; exact go 4 (by omega) rfl (by simp [stateB]) (hu.four was e)
      by_cases k5 : k = 5
      · subst k5
        have hd : H.done was = false := by simpa [stateB] using hst
        exact go 6 (by omega) rfl (by simp [stateB, hu.done5]) (hu.five was e (hv.chk was hw) hd)
      · have k6 : k = 6 := by omega
        subst k6
        have hd : H.done was = true := by simpa [stateB] using hst
        exact go 5 (by omega) rfl (by simp [stateB, hu.done6]) (hu.six was e hd)
end
end Go.Proofs.Ytppjmmdiglnkfaa.Hs
namespace Go.Proofs.Ytppjmmdiglnkfaa.Hs

section
variable {O : Type} (H : Look O)
/-- How many stand ahead of an ID. -/
def ahead (l : List O) (x : Int) : Nat := l.countP fun o => decide (H.id o < x)
theorem ahead_le (l : List O) (x : Int) : ahead H l x ≤ l.length := List.countP_le_length
theorem ahead_cons_lt {l : List O} {a : O} {x : Int} (h : H.id a < x) : ahead H (a :: l) x = ahead H l x + 1 := by
  unfold ahead
  rw [List.countP_cons, if_pos (by simpa using h)]
theorem ahead_cons_ge {l : List O} {a : O} {x : Int} (hr : (a :: l).Pairwise fun x y => H.id x < H.id y) (h : ¬ H.id a < x) : ahead H (a :: l) x = 0 := by
  unfold ahead
  rw [List.countP_eq_zero]
  intro o ho
  rcases List.mem_cons.1 ho with e | e
  · rw [e]; simpa using h
  · have := (List.pairwise_cons.1 hr).1 o e
    simp
    omega
theorem take_ahead : ∀ {l : List O} (_ : l.Pairwise fun x y => H.id x < H.id y) (x : Int), l.take (ahead H l x) = l.filter fun o => decide (H.id o < x)
  | [], _, _ => rfl
  | a :: r, hr, x => by
    by_cases c : H.id a < x
    · rw [ahead_cons_lt H c, List.take_succ_cons, take_ahead (List.pairwise_cons.1 hr).2 x, List.filter_cons, if_pos (by simpa using c)]
    · rw [ahead_cons_ge H hr c, List.take_zero]
      symm
      rw [List.filter_eq_nil_iff]
      intro o ho
      rcases List.mem_cons.1 ho with e | e
      · rw [e]; simpa using c
      · have := (List.pairwise_cons.1 hr).1 o e
        simp
        omega
theorem drop_ahead : ∀ {l : List O} (_ : l.Pairwise fun x y => H.id x < H.id y) (x : Int), l.drop (ahead H l x) = l.filter fun o => decide (x ≤ H.id o)
  | [], _, _ => rfl
  | a :: r, hr, x => by
    by_cases c : H.id a < x
    · rw [ahead_cons_lt H c, List.drop_succ_cons, drop_ahead (List.pairwise_cons.1 hr).2 x, List.filter_cons, if_neg (by simp; omega)]
    · rw [ahead_cons_ge H hr c, List.drop_zero]
      symm
      rw [List.filter_eq_self]
      intro o ho
      rcases List.mem_cons.1 ho with e | e
      · rw [e]; simp; omega
      · have := (List.pairwise_cons.1 hr).1 o e
        simp
        omega
theorem back_none {l : List O} {x : Int} (h : ∀ o ∈ l, H.id o ≠ x) : (l.filter fun o => decide (x ≤ H.id o)) = l.filter fun o => decide (x < H.id o) := by
  apply List.filter_congr
  intro o ho
  have := h o ho
  rw [decide_eq_decide]
  omega
theorem back_some : ∀ {l : List O} (_ : l.Pairwise fun x y => H.id x < H.id y) {o : O} (_ : o ∈ l), (l.filter fun a => decide (H.id o ≤ H.id a)) = o :: l.filter fun a => decide (H.id o < H.id a)
  | a :: r, hr, o, ho => by
    obtain ⟨h1, h2⟩ := List.pairwise_cons.1 hr
    rcases List.mem_cons.1 ho with e | e
    · subst e
      rw [List.filter_cons, if_pos (by simp), List.filter_cons, if_neg (by simp)]
      congr 1
      exact back_none H fun b hb => by have := h1 b hb; omega
    · have := h1 o e
      rw [List.filter_cons, if_neg (by simp; omega), List.filter_cons, if_neg (by simp; omega)]
      exact back_some h2 e
/-- Put in its place. -/
theorem put_in {l : List O} (hr : l.Pairwise fun x y => H.id x < H.id y) {o : O} (hn : ∀ a ∈ l, H.id a ≠ H.id o) : l.take (ahead H l (H.id o)) ++ o :: l.drop (ahead H l (H.id o)) = inL H l o := by
  rw [take_ahead H hr, drop_ahead H hr, back_none H hn]
  rfl
theorem drop_one {l : List O} (hr : l.Pairwise fun x y => H.id x < H.id y) {o : O} (ho : o ∈ l) : l.drop (ahead H l (H.id o) + 1) = l.filter fun a => decide (H.id o < H.id a) := by
  have := drop_ahead H hr (H.id o)
  rw [back_some H hr ho] at this
  rw [← List.drop_drop, this]
  rfl
/-- Set in its place. -/
theorem set_in {l : List O} (hr : l.Pairwise fun x y => H.id x < H.id y) {o a : O} (ho : o ∈ l) (e : H.id a = H.id o) : l.take (ahead H l (H.id o)) ++ a :: l.drop (ahead H l (H.id o) + 1) = inL H l a := by
  rw [take_ahead H hr, drop_one H hr ho, ← e]
  rfl
/-- Taken out. -/
theorem cut_out {l : List O} (hr : l.Pairwise fun x y => H.id x < H.id y) {o : O} (ho : o ∈ l) : l.take (ahead H l (H.id o)) ++ l.drop (ahead H l (H.id o) + 1) = outL H l (H.id o) := by
  rw [take_ahead H hr, drop_one H hr ho]
  refine sorted_ext H ?_ (out_rise H hr) fun b => ?_
  · refine List.pairwise_append.2 ⟨hr.sublist List.filter_sublist, hr.sublist List.filter_sublist, fun b hb c hc => ?_⟩
    have h1 : H.id b < H.id o := by simpa using (List.mem_filter.1 hb).2
    have h2 : H.id o < H.id c := by simpa using (List.mem_filter.1 hc).2
    omega
  · rw [out_mem, List.mem_append, List.mem_filter, List.mem_filter]
    simp only [decide_eq_true_eq]
    constructor
    · rintro (⟨h, c⟩ | ⟨h, c⟩) <;> exact ⟨h, by omega⟩
    · rintro ⟨h, c⟩
      rcases Int.lt_or_gt_of_ne c with d | d
      · exact .inl ⟨h, d⟩
      · exact .inr ⟨h, d⟩
/-- What stands there. -/
theorem at_ahead {l : List O} (hr : l.Pairwise fun x y => H.id x < H.id y) {o : O} (ho : o ∈ l) : l[ahead H l (H.id o)]? = some o := by
  have := drop_ahead H hr (H.id o)
  rw [back_some H hr ho] at this
  have h2 := congrArg (·[0]?) this
  simpa [List.getElem?_drop] using h2
theorem ahead_lt {l : List O} (hr : l.Pairwise fun x y => H.id x < H.id y) {o : O} (ho : o ∈ l) : ahead H l (H.id o) < l.length := (List.getElem?_eq_some_iff.1 (at_ahead H hr ho)).1
/-- A place: those below it are ahead, the others not. -/
theorem ahead_is {l : List O} {x : Int} {i : Nat} (hi : i ≤ l.length) (h1 : ∀ t a, t < i → l[t]? = some a → H.id a < x) (h2 : ∀ t a, i ≤ t → l[t]? = some a → x ≤ H.id a) : ahead H l x = i := by
  unfold ahead
  have e : l = l.take i ++ l.drop i := (List.take_append_drop i l).symm
  rw [e, List.countP_append]
  have a1 : (l.take i).countP (fun o => decide (H.id o < x)) = i := by
    have : (l.take i).countP (fun o => decide (H.id o < x)) = (l.take i).length := by
      rw [List.countP_eq_length]
      intro o ho
      obtain ⟨t, ht, rfl⟩ := List.mem_iff_getElem.1 ho
      have ht' : t < i := by rw [List.length_take] at ht; omega
      have := h1 t _ ht' (by rw [← List.getElem?_take_of_lt ht']; exact List.getElem?_eq_getElem ht)
      simpa using this
    rw [this, List.length_take]
    omega
  have a2 : (l.drop i).countP (fun o => decide (H.id o < x)) = 0 := by
    rw [List.countP_eq_zero]
    intro o ho
    obtain ⟨t, ht, rfl⟩ := List.mem_iff_getElem.1 ho
    have := h2 (i + t) (l.drop i)[t] (by omega) (by rw [← List.getElem?_drop]; exact List.getElem?_eq_getElem ht)
    rw [decide_eq_true_eq]
    omega
  rw [a1, a2]
  rfl
/-- Is the ID there? By what stands at its place. -/
theorem get_place {l : List O} (hr : l.Pairwise fun x y => H.id x < H.id y) {x : Int} {o : O} (h : l[ahead H l x]? = some o) : getL H l x = if H.id o = x then some o else none := by
  by_cases c : H.id o = x
  · rw [if_pos c, ← c]
    exact get_is H hr (List.mem_of_getElem? h)
  · rw [if_neg c]
    refine get_no H fun a ha e => ?_
    subst e
    rw [at_ahead H hr ha] at h
    exact c (congrArg H.id (Option.some.inj h)).symm
theorem get_past {l : List O} (hr : l.Pairwise fun x y => H.id x < H.id y) {x : Int} (h : l.length ≤ ahead H l x) : getL H l x = none :=
  get_no H fun a ha e => by
    subst e
    have := ahead_lt H hr ha
    omega
end
end Go.Proofs.Ytppjmmdiglnkfaa.Hs
namespace Go.Proofs.Ytppjmmdiglnkfaa
set_option maxRecDepth 100000
open Go.ChangeShapes Go.WideShapes Go.ChangeAt Go.RowKit Go.PlainAid Go.Deep

/-- What a history asks of its operations. -/
def HL : Hs.Look OpV := ⟨OpV.id, OpV.obj, OpV.kind, OpV.proc, OpV.done, checkZ, befB⟩
/-- An operation with what an edit names. -/
def updZ (k : Int) (was e : OpV) : OpV :=
  if k = 3 then ⟨was.id, was.proc, was.obj, was.kind, was.meth, was.arg, was.sec, was.done, was.res, e.inv, e.ret⟩
  else if k = 4 then ⟨was.id, was.proc, was.obj, was.kind, e.meth, e.arg, e.sec, was.done, e.res, was.inv, was.ret⟩
  else if k = 5 then ⟨was.id, was.proc, was.obj, was.kind, was.meth, was.arg, was.sec, true, e.res, was.inv, e.ret⟩
  else ⟨was.id, was.proc, was.obj, was.kind, was.meth, was.arg, was.sec, false, 0, was.inv, 0⟩
theorem upd_keep : Hs.Keep HL updZ := by
  refine ⟨fun k was e => ?_, fun k was e => ?_, fun k was e => ?_, fun k was e => ?_⟩ <;> (unfold updZ HL; repeat' split) <;> rfl
theorem check_parts {o : OpV} (h : checkZ o = 0) : namedB o = true ∧ ruledB o = true ∧ timedB o = true := by
  unfold checkZ at h
  cases h1 : namedB o <;> cases h2 : ruledB o <;> cases h3 : timedB o <;> simp [h1, h2, h3] at h ⊢
/-- Pending, and it may be: no answer, no return. -/
theorem pending_zero {o : OpV} (h : checkZ o = 0) (hd : o.done = false) : o.res = 0 ∧ o.ret = 0 := by
  obtain ⟨_, h2, h3⟩ := check_parts h
  constructor
  · unfold ruledB at h2
    cases hr : ruleOf o.kind o.meth with
    | none => rw [hr] at h2; simp at h2
    | some r =>
      rw [hr] at h2
      simp only [fitB, Bool.and_eq_true] at h2
      have := h2.2
      rw [resB_no hd] at this
      simpa using this
  · unfold timedB at h3
    rw [hd] at h3
    simp at h3
    exact h3.2
theorem upd_undo : Hs.Undo HL updZ := by
  refine ⟨fun was e => rfl, fun was e => rfl, fun was e hc hd => ?_, fun was e hd => ?_, fun was e => rfl, fun was e => rfl⟩
  · obtain ⟨h1, h2⟩ := pending_zero hc hd
    have hd' : was.done = false := hd
    show (⟨was.id, was.proc, was.obj, was.kind, was.meth, was.arg, was.sec, false, 0, was.inv, 0⟩ : OpV) = was
    cases was
    simp_all
  · have hd' : was.done = true := hd
    show (⟨was.id, was.proc, was.obj, was.kind, was.meth, was.arg, was.sec, true, was.res, was.inv, was.ret⟩ : OpV) = was
    cases was
    simp_all
theorem upd_wf {k : Int} {was e : OpV} (h : was.Wf) (h' : e.Wf) : (updZ k was e).Wf := by
  unfold updZ
  split
  · exact ⟨h.id, h.proc, h.obj, h.kind, h.meth, h.arg, h.sec, h.res, h'.inv, h'.ret⟩
  · split
    · exact ⟨h.id, h.proc, h.obj, h.kind, h'.meth, h'.arg, h'.sec, h'.res, h.inv, h.ret⟩
    · split
      · exact ⟨h.id, h.proc, h.obj, h.kind, h.meth, h.arg, h.sec, h'.res, h.inv, h'.ret⟩
      · exact ⟨h.id, h.proc, h.obj, h.kind, h.meth, h.arg, h.sec, (by decide : (-9223372036854775808 : Int) ≤ 0 ∧ (0 : Int) ≤ 9223372036854775807), h.inv, (by decide : (-9223372036854775808 : Int) ≤ 0 ∧ (0 : Int) ≤ 9223372036854775807)⟩
/-- The zero operation. -/
def zeroV : OpV := ⟨0, 0, 0, 0, 0, 0, 0, false, 0, 0, 0⟩
theorem zero_wf : zeroV.Wf := by constructor <;> (simp [zeroV])
def optV (o : Option OpV) : OpV := o.getD zeroV
/-- By rising IDs. -/
def RiseO (l : List OpV) : Prop := l.Pairwise fun a b => HL.id a < HL.id b

/-- cmp.Compare of two numbers. -/
def cmpZ (a b : Int) : Int := if a < b then -1 else if b < a then 1 else 0
theorem isnan_any (a : Int) (w : World) : Calls Try.prog 85 #[.int .i64 a] w fun e w' => e = .returned (.bool false) ∧ w = w' := by
  go_enter Try.func85, Try.ntmps85
  go_wp2
  go_returns
  exact ⟨by simp, rfl⟩
theorem compare_any (a b : Int) (w : World) : Calls Try.prog 62 #[.int .i64 a, .int .i64 b] w fun e w' => e = .returned (.int .i64 (cmpZ a b)) ∧ w = w' := by
  by_cases h1 : a < b
  · have h := Lib.hid (show cmpZ a b = -1 by unfold cmpZ; rw [if_pos h1])
    go_enter Try.func62, Try.ntmps62
    go_wp2_with fail
    refine (isnan_any a _).mono ?_
    rintro _ _ ⟨rfl, rfl⟩
    go_wp2_with fail
    refine (isnan_any b _).mono ?_
    rintro _ _ ⟨rfl, rfl⟩
    go_wp2
    go_returns
    exact ⟨by rw [h.out]; rfl, rfl⟩
  · by_cases h2 : b < a
    · have h := Lib.hid (show cmpZ a b = 1 by unfold cmpZ; rw [if_neg h1, if_pos h2])
      go_enter Try.func62, Try.ntmps62
      go_wp2_with fail
      refine (isnan_any a _).mono ?_
      rintro _ _ ⟨rfl, rfl⟩
      go_wp2_with fail
      refine (isnan_any b _).mono ?_
      rintro _ _ ⟨rfl, rfl⟩
      go_wp2
      go_returns
      exact ⟨by rw [h.out]; rfl, rfl⟩
    · have h := Lib.hid (show cmpZ a b = 0 by unfold cmpZ; rw [if_neg h1, if_neg h2])
      go_enter Try.func62, Try.ntmps62
      go_wp2_with fail
      refine (isnan_any a _).mono ?_
      rintro _ _ ⟨rfl, rfl⟩
      go_wp2_with fail
      refine (isnan_any b _).mono ?_
      rintro _ _ ⟨rfl, rfl⟩
      go_wp2
      go_returns
      exact ⟨by rw [h.out]; rfl, rfl⟩
end Go.Proofs.Ytppjmmdiglnkfaa
