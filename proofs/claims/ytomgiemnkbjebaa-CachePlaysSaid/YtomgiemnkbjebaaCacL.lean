/- Plain: what Puts, Gets and Pins leave, as laws ask; a map beside a cache is changed. -/
import Derived.Test.YtomgiemnkbjebaaCacM
namespace Go.Proofs.Ytomgiemnkbjebaa
set_option maxRecDepth 100000
open Go.ChangeShapes Go.WideShapes Go.ChangeAt Go.RowKit Go.PlainAid Go.MapKept Go.ChangeMaps

section
variable {K V : Type}
theorem posK_head [DecidableEq K] (e : Ent K V) (M : List (Ent K V)) : posK e.key (e :: M) = 0 := by simp [posK, List.findIdx_cons]
theorem use_perm {L : List (Ent K V)} {i : Nat} : (useL i L).Perm L := by
  by_cases h : i < L.length
  · rw [useL_some (List.getElem?_eq_getElem h)]
    rw [erase_cut]
    refine (List.perm_middle (l₁ := L.take i) (a := L[i]) (l₂ := L.drop (i + 1))).symm.trans ?_
    rw [← List.drop_eq_getElem_cons h, List.take_append_drop]
  · unfold useL
    rw [List.getElem?_eq_none (by omega), List.eraseIdx_of_length_le (by omega)]
    exact List.Perm.refl _
theorem get_perm [DecidableEq K] {L : List (Ent K V)} {k : K} : (getL k L).Perm L := by
  unfold getL
  split
  · exact use_perm
  · exact List.Perm.refl _
theorem once_perm {L M : List (Ent K V)} (h : Once L) (p : M.Perm L) : Once M := (List.Perm.map (fun e : Ent K V => e.key) p).nodup_iff.2 (show (L.map fun e => e.key).Nodup from h)
/-- An entry's key tells its value. -/
theorem getV_of [DecidableEq K] {L : List (Ent K V)} (h : Once L) {e : Ent K V} (he : e ∈ L) : getV e.key L = some e.val := by
  have hp := posK_some he rfl
  obtain ⟨x, hx, hk⟩ := posK_at hp
  obtain ⟨j, hj⟩ := List.mem_iff_getElem?.1 he
  have := once_inj h hx hj hk
  unfold getV
  rw [if_pos hp]
  rw [this, hj]
  rfl
theorem getV_some [DecidableEq K] {L : List (Ent K V)} {k : K} {v : V} (h : getV k L = some v) : ∃ e ∈ L, e.key = k ∧ e.val = v := by
  unfold getV at h
  split at h
  · rename_i hp
    obtain ⟨x, hx, hk⟩ := posK_at hp
    rw [hx] at h
    exact ⟨x, List.mem_of_getElem? hx, hk, Option.some.inj h⟩
  · cases h
theorem getV_none [DecidableEq K] {L : List (Ent K V)} {k : K} (h : getV k L = none) : ¬ posK k L < L.length := by
  intro hp
  obtain ⟨x, hx, hk⟩ := posK_at hp
  unfold getV at h
  rw [if_pos hp, hx] at h
  cases h
theorem getV_head [DecidableEq K] (e : Ent K V) (M : List (Ent K V)) : getV e.key (e :: M) = some e.val := by
  unfold getV
  rw [posK_head, if_pos (by simp)]
  rfl
theorem getL_head [DecidableEq K] (e : Ent K V) (M : List (Ent K V)) : getL e.key (e :: M) = e :: M := by
  unfold getL
  rw [posK_head, if_pos (by simp)]
  rfl
/-- A Put where nothing has a pin. -/
theorem put_zero [DecidableEq K] {L : List (Ent K V)} {most : Nat} (h : Once L) (hz : ∀ e ∈ L, e.pins = 0) (hm : 1 ≤ most) (k : K) (v : V) :
    putE most k L = 0 ∧ ∃ M, putL most k v L = ⟨k, v, 0⟩ :: M ∧ ∀ x ∈ M, x ∈ L ∧ x.key ≠ k := by
  unfold putE putL
  by_cases hp : posK k L < L.length
  · obtain ⟨x, hx, hk⟩ := posK_at hp
    rw [if_pos hp, if_pos hp]
    refine ⟨rfl, L.eraseIdx (posK k L), ?_, fun y hy => ?_⟩
    · rw [hx]
      have h0 := hz x (List.mem_of_getElem? hx)
      subst hk
      rw [← h0]
      rfl
    · have := mem_erase h hx hy
      rw [hk] at this
      exact this
  · rw [if_neg hp, if_neg hp]
    by_cases hl : L.length < most
    · rw [if_pos hl, if_pos hl]
      exact ⟨rfl, L, rfl, fun x hx => ⟨hx, posK_none hp x hx⟩⟩
    · rw [if_neg hl, if_neg hl]
      have ho : oldL L < L.length := by
        cases L with
        | nil => simp at hl; omega
        | cons a L => exact oldL_yes List.mem_cons_self (hz a List.mem_cons_self)
      rw [if_pos ho, if_pos ho]
      exact ⟨rfl, _, rfl, fun x hx => ⟨(List.eraseIdx_sublist _ _).subset hx, posK_none hp x ((List.eraseIdx_sublist _ _).subset hx)⟩⟩
/-- A Put where there is room: what was there stays. -/
theorem put_room [DecidableEq K] {L : List (Ent K V)} {most : Nat} (h : Once L) (hl : L.length < most) (k : K) (v : V) :
    putE most k L = 0 ∧ ∃ n M, putL most k v L = ⟨k, v, n⟩ :: M ∧ (n = 0 ∨ ∃ x ∈ L, x.pins = n) ∧ (putL most k v L).length ≤ L.length + 1 ∧ (∀ x ∈ L, x.key ≠ k → x ∈ M) ∧ ∀ x ∈ M, x ∈ L ∧ x.key ≠ k := by
  unfold putE putL
  by_cases hp : posK k L < L.length
  · obtain ⟨x, hx, hk⟩ := posK_at hp
    rw [if_pos hp, if_pos hp]
    refine ⟨rfl, x.pins, L.eraseIdx (posK k L), ?_, .inr ⟨x, List.mem_of_getElem? hx, rfl⟩, ?_, fun y hy hn => ?_, fun y hy => ?_⟩
    · rw [hx]
      subst hk
      rfl
    · rw [hx]
      simp only [Option.toList_some, List.map_cons, List.map_nil, List.cons_append, List.nil_append, List.length_cons]
      rw [List.length_eraseIdx_of_lt hp]
      omega
    · rw [← once_filter h hx]
      exact List.mem_filter.2 ⟨hy, by rw [hk]; simpa using hn⟩
    · have := mem_erase h hx hy
      rw [hk] at this
      exact this
  · rw [if_neg hp, if_neg hp, if_pos hl, if_pos hl]
    exact ⟨rfl, 0, L, rfl, .inl rfl, Nat.le_refl _, fun x hx _ => hx, fun x hx => ⟨hx, posK_none hp x hx⟩⟩
/-- How many have a pin. -/
def pinned (L : List (Ent K V)) : Nat := L.countP fun e => decide (e.pins ≠ 0)
/-- A Put of a key that isn't kept, where not all have a pin: what has a pin stays. -/
theorem put_new [DecidableEq K] {L : List (Ent K V)} {most : Nat} {k : K} (hp : ¬ posK k L < L.length) (hl : pinned L < most) (v : V) :
    putE most k L = 0 ∧ (∀ x ∈ L, x.pins ≠ 0 → x ∈ putL most k v L) ∧ pinned (putL most k v L) ≤ pinned L := by
  unfold putE putL
  rw [if_neg hp, if_neg hp]
  have hc : ∀ M : List (Ent K V), pinned (⟨k, v, 0⟩ :: M) = pinned M := fun M => by
    unfold pinned
    rw [List.countP_cons_of_neg (by simp)]
  by_cases hl2 : L.length < most
  · rw [if_pos hl2, if_pos hl2]
    exact ⟨rfl, fun x hx _ => List.mem_cons_of_mem _ hx, by rw [hc]; exact Nat.le_refl _⟩
  · rw [if_neg hl2, if_neg hl2]
    have ho : oldL L < L.length := by
      by_cases ho : oldL L < L.length
      · exact ho
      · exfalso
        have : pinned L = L.length := List.countP_eq_length.2 fun x hx => decide_eq_true (oldL_no ho x hx)
        omega
    rw [if_pos ho, if_pos ho]
    obtain ⟨x, hx, h0, _⟩ := oldL_at ho
    refine ⟨rfl, fun y hy hn => List.mem_cons_of_mem _ ?_, by rw [hc]; exact (List.eraseIdx_sublist _ _).countP_le⟩
    obtain ⟨j, hj⟩ := List.mem_iff_getElem?.1 hy
    refine List.mem_eraseIdx_iff_getElem?.2 ⟨j, fun e => ?_, hj⟩
    subst e
    rw [hx] at hj
    cases hj
    exact hn h0
theorem pinned_le (L : List (Ent K V)) : pinned L ≤ L.length := List.countP_le_length
theorem pinned_perm {L M : List (Ent K V)} (p : M.Perm L) : pinned M = pinned L := p.countP_eq _
end
namespace KA
/-- A map beside a cache has changed. -/
theorem CaT.block {w0 : World} {p : Nat} {most : Int} {L : List E} {R : List (Nat × Obj)} {w : World} {b : Nat} {es : Array MapEntry} {clock : Nat} (h : CaT w0 p most L ((b, .map es clock) :: R) w) (h0 : w0.heap.size ≤ b) (hR : ∀ x ∈ R, x.1 ≠ b) (o' : Obj) :
    CaT w0 p most L ((b, o') :: R) (setBlock w b o') := by
  obtain ⟨h1, h2, ⟨v, h3, h4, h5, h6⟩, h7⟩ := h
  obtain ⟨hbb, hbp⟩ := h7 b _ List.mem_cons_self
  have hvb := h6 b _ List.mem_cons_self
  have hsz : (setBlock w b o').heap.size = w.heap.size := by simp [setBlock]
  have hoth : ∀ k, k ≠ b → (setBlock w b o').heap[k]? = w.heap[k]? := fun k hk => heap_setBlock_other hbb _ hk
  refine ⟨⟨h1.os, h1.tape, h1.output, by rw [hsz]; exact h1.size, fun k hk => (hoth k (by omega)).trans (h1.block k hk)⟩, h2, ⟨v, (hoth p (fun e => hbp e.symm)).trans h3, ⟨h4.1, ?_⟩, h5, fun c o hc => ?_⟩, fun c o hc => ?_⟩
  · rcases h4.2 with h | ⟨g, cap, cur, rfl, a1, a2, a3⟩
    · exact .inl h
    · exact .inr ⟨g, cap, cur, rfl, a1, (hoth g (fun e => hvb (by rw [← e]; rfl))).trans a2, a3⟩
  · rcases List.mem_cons.1 hc with e | hc
    · cases e
      exact hvb
    · exact h6 c o (List.mem_cons_of_mem _ hc)
  · rcases List.mem_cons.1 hc with e | hc
    · cases e
      exact ⟨heap_setBlock_same hbb _, hbp⟩
    · exact ⟨(hoth c (hR _ hc)).trans (h7 c o (List.mem_cons_of_mem _ hc)).1, (h7 c o (List.mem_cons_of_mem _ hc)).2⟩
/-- A new block beside a cache. -/
theorem CaT.add {w0 : World} {p : Nat} {most : Int} {L : List E} {R : List (Nat × Obj)} {w w' : World} {g : Nat} {o : Obj} (h : CaT w0 p most L R w) (b : Below w.heap.size w w') (hg : w.heap.size ≤ g) (ho : w'.heap[g]? = some o) : CaT w0 p most L ((g, o) :: R) w' := by
  obtain ⟨h1, h2, ⟨v, h3, h4, h5, h6⟩, h7⟩ := h.on b
  have hp := heap_in (h.row.choose_spec.1)
  refine ⟨h1, h2, ⟨v, h3, h4, h5, fun c o' hc => ?_⟩, fun c o' hc => ?_⟩
  · rcases List.mem_cons.1 hc with e | hc
    · cases e
      intro hv
      obtain ⟨u, h3', h4', _⟩ := h.row
      have : u = v := by
        have e := (b.block p (heap_in h3')).trans h3'
        rw [h3] at e
        injection e with e
        injection e with e
        simpa using e.symm
      subst this
      have := (h4'.lt _ hv).2
      omega
    · exact h6 c o' hc
  · rcases List.mem_cons.1 hc with e | hc
    · cases e
      exact ⟨ho, by omega⟩
    · exact h7 c o' hc
theorem CaT.mem {w0 : World} {p : Nat} {most : Int} {L : List E} {R : List (Nat × Obj)} {w : World} (h : CaT w0 p most L R w) {x : Nat × Obj} (hx : x ∈ R) : w.heap[x.1]? = some x.2 := (h.known x.1 x.2 hx).1
end KA
end Go.Proofs.Ytomgiemnkbjebaa
