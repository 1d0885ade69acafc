/- The law's does, of each kind; what a round of the law calls. -/
import Derived.Test.YtomgiemnkbjebaaCacD0
import Derived.Test.YtomgiemnkbjebaaCacD1
import Derived.Test.YtomgiemnkbjebaaCacD2
import Derived.Test.YtomgiemnkbjebaaCacD3
import Derived.Test.YtomgiemnkbjebaaCacD4
namespace Go.Proofs.Ytomgiemnkbjebaa
set_option maxRecDepth 100000
open Go.ChangeShapes Go.WideShapes Go.ChangeAt Go.RowKit Go.PlainAid

namespace KA
theorem does_all {w0 : World} {p q : Nat} {most : Nat} {L : List E} {w : World} (h : Both w0 p q (most : Int) L w) (x : ActV) (hq0 : w0.heap.size ≤ q) (hm1 : 1 ≤ most) (hm2 : most ≤ 1024) (hO : Once L) (hl : L.length ≤ most) (hpn : ∀ e ∈ L, e.pins ≤ 1048576) :
    Calls Try.prog 11 #[.pointer (some ⟨p, 0, none⟩), .pointer (some ⟨q, 0, none⟩), .agg #[.int .i64 x.kind, .int .i64 x.key, .string x.val]] w fun e w' => e = .returned (.bool true) ∧ Both w0 p q (most : Int) (stepL most x L) w' := by
  obtain ⟨kk, key, val⟩ := x
  by_cases h0 : kk = 0
  · subst h0
    exact does_0 h key val hq0 hm1 hm2 hO hl
  · by_cases h1 : kk = 1
    · subst h1
      exact does_1 h key val hq0 hm1 hm2 hO hl
    · by_cases h2 : kk = 2
      · subst h2
        exact does_2 h key val hq0 hm1 hm2 hO hl hpn
      · by_cases h3 : kk = 3
        · subst h3
          exact does_3 h key val hq0 hm1 hm2 hO hl hpn
        · exact does_4 h kk key val h0 h1 h2 h3 hq0 hm1 hm2 hO hl
theorem step_once {most : Nat} {x : ActV} {L : List E} (h : Once L) : Once (stepL most x L) := by
  unfold stepL
  split
  · exact once_perm h get_perm
  · split
    · exact once_put h _ _ _
    · split
      · unfold pinR
        split
        · exact once_pin h _ _
        · exact h
      · split
        · unfold pinR
          split
          · exact once_pin h _ _
          · exact h
        · exact List.Nodup.sublist (List.filter_sublist.map _) h
theorem step_len {most : Nat} {x : ActV} {L : List E} (h : L.length ≤ most) : (stepL most x L).length ≤ most := by
  unfold stepL
  split
  · rw [get_perm.length_eq]
    exact h
  · split
    · exact put_len h _ _
    · split
      · unfold pinR
        split
        · rw [pinL_len]
          exact h
        · exact h
      · split
        · unfold pinR
          split
          · rw [pinL_len]
            exact h
          · exact h
        · exact Nat.le_trans (noK_len _ _) h
theorem pinR_pins {k by_ : Int} {L : List E} {j : Nat} (hb : by_ ≤ 1) (h : ∀ e ∈ L, e.pins ≤ j) : ∀ e ∈ pinR k by_ L, e.pins ≤ j + 1 := by
  intro e he
  unfold pinR at he
  split at he
  · unfold pinL at he
    obtain ⟨i, hi⟩ := List.mem_iff_getElem?.1 he
    rw [List.getElem?_modify] at hi
    cases hx : L[i]? with
    | none =>
      rw [hx] at hi
      cases hi
    | some x =>
      rw [hx] at hi
      have hp := h x (List.mem_of_getElem? hx)
      by_cases c : posK k L = i
      · simp [c] at hi
        rw [← hi]
        show ((x.pins : Int) + by_).toNat ≤ j + 1
        omega
      · simp [c] at hi
        rw [← hi]
        omega
  · have := h e he
    omega
theorem step_pins {most : Nat} {x : ActV} {L : List E} {j : Nat} (h : ∀ e ∈ L, e.pins ≤ j) : ∀ e ∈ stepL most x L, e.pins ≤ j + 1 := by
  unfold stepL
  split
  · intro e he
    have := h e (get_perm.mem_iff.1 he)
    omega
  · split
    · intro e he
      unfold putL at he
      split at he
      · rcases List.mem_append.1 he with he | he
        · obtain ⟨y, hy, rfl⟩ := List.mem_map.1 he
          have := h y (List.mem_of_getElem? (by simpa using hy))
          show y.pins ≤ j + 1
          omega
        · have := h e ((List.eraseIdx_sublist _ _).subset he)
          omega
      · split at he
        · rcases List.mem_cons.1 he with rfl | he
          · exact Nat.zero_le _
          · have := h e he
            omega
        · split at he
          · rcases List.mem_cons.1 he with rfl | he
            · exact Nat.zero_le _
            · have := h e ((List.eraseIdx_sublist _ _).subset he)
              omega
          · have := h e he
            omega
    · split
      · exact pinR_pins (by decide) h
      · split
        · exact pinR_pins (by decide) h
        · intro e he
          have := h e (List.mem_filter.1 he).1
          omega
theorem Both.on {w0 : World} {p q : Nat} {most : Int} {L : List E} {w w' : World} (h : Both w0 p q most L w) (b : Below w.heap.size w w') : Both w0 p q most L w' := by
  obtain ⟨ao, nn, cap, hC, hI⟩ := h
  exact ⟨ao, nn, cap, hC.on b, ownsRow_on hI b⟩
theorem like_bare (L : List E) : Like (bare L) L := by
  refine ⟨bare_len L, fun i a b ha hb => ?_⟩
  unfold bare at ha
  rw [List.getElem?_map, hb] at ha
  cases ha
  exact ⟨rfl, rfl⟩
/-- What the law keeps from round to round. -/
def PlayInv (w0 : World) (p q most j : Nat) (w : World) : Prop := ∃ L, Both w0 p q (most : Int) L w ∧ Once L ∧ L.length ≤ most ∧ ∀ e ∈ L, e.pins ≤ j
theorem play_round {w0 : World} {p q most j : Nat} {w : World} (h : PlayInv w0 p q most j w) (x : ActV) (hq0 : w0.heap.size ≤ q) (hm1 : 1 ≤ most) (hm2 : most ≤ 1024) (hj : j ≤ 100) :
    Calls Try.prog 11 #[.pointer (some ⟨p, 0, none⟩), .pointer (some ⟨q, 0, none⟩), .agg #[.int .i64 x.kind, .int .i64 x.key, .string x.val]] w fun e w3 => ∃ ao nn cap, e = .returned (.bool true) ∧ w3.cell? ⟨q, 1, none⟩ = some (.slice ao nn cap) ∧
      Hid (Calls Try.prog 12 #[.pointer (some ⟨p, 0, none⟩)] w3 fun e w' => e = .returned (.int .i64 (nn : Int)) ∧ w3 = w') ∧
      Hid (Calls Try.prog 14 #[.pointer (some ⟨p, 0, none⟩), .int .i64 2000] w3 fun e w4 => ∃ v, e = .returned v ∧ w4.cell? ⟨q, 1, none⟩ = some (.slice ao nn cap) ∧
        Hid (Calls Try.prog 13 #[v, .slice ao nn cap] w4 fun e w5 => e = .returned (.bool true) ∧ Hid (PlayInv w0 p q most (j + 1) w5))) := by
  obtain ⟨L, hB, hO, hl, hp⟩ := h
  refine (does_all hB x hq0 hm1 hm2 hO hl fun e he => Nat.le_trans (hp e he) (by omega)).mono ?_
  rintro e w3 ⟨rfl, h3⟩
  have hO3 := step_once (most := most) (x := x) hO
  have hl3 := step_len (most := most) (x := x) hl
  have hp3 := step_pins (most := most) (x := x) hp
  generalize stepL most x L = M at *
  have h3' := h3
  obtain ⟨ao, nn, cap, hC, hI⟩ := h3
  have hr := Reads.of_row hI
  obtain rfl : nn = M.length := by
    obtain ⟨_, _, hv, _⟩ := hr
    cases hv
    rfl
  have hq : BoxC w3 q (most : Int) (.slice ao M.length cap) := hC.mem (x := (q, bC (most : Int) (.slice ao M.length cap))) (List.mem_singleton.2 rfl)
  refine ⟨ao, _, cap, rfl, hq.read.2.1, Lib.hid (len_any hC), Lib.hid ((kept_any hC 2000 (by omega)).mono ?_)⟩
  rintro e w4 ⟨v, rfl, hk, hb4⟩
  have ht : (bare M).take (2000 : Int).toNat = bare M := List.take_of_length_le (by rw [bare_len]; show _ ≤ 2000; omega)
  rw [ht] at hk
  refine ⟨v, rfl, (hq.on hb4 (heap_in hq)).read.2.1, Lib.hid ((same_list (Reads.of_row hk) (hr.on hb4) (like_bare M) (by rw [bare_len]; omega)).mono ?_)⟩
  rintro e w5 ⟨rfl, hb5⟩
  exact ⟨rfl, Lib.hid ⟨M, (h3'.on hb4).on hb5, hO3, hl3, hp3⟩⟩
end KA
end Go.Proofs.Ytomgiemnkbjebaa
