/- Contracts: New, Len, Get, Pin, Unpin, Drop. -/
import Derived.Test.YtomgiemnkbjebaaCacF
namespace Go.Proofs.Ytomgiemnkbjebaa
set_option maxRecDepth 100000
open Go.ChangeShapes Go.WideShapes Go.ChangeAt Go.RowKit Go.PlainAid

/-- What a Get tells. -/
def getV {K V : Type} [DecidableEq K] (k : K) (L : List (Ent K V)) : Option V := if posK k L < L.length then (L[posK k L]?).map (·.val) else none
/-- What a Get leaves. -/
def getL {K V : Type} [DecidableEq K] (k : K) (L : List (Ent K V)) : List (Ent K V) := if posK k L < L.length then useL (posK k L) L else L
namespace KA
theorem new_ok (most : Nat) (h1 : 1 ≤ most) (h2 : most ≤ 1024) (w : World) :
    Calls Try.prog 9 #[.int .i64 (most : Int)] w fun e w' => e = .returned (.tuple #[.pointer (some ⟨w.heap.size, 0, none⟩), .int .i64 0]) ∧ w.alloc (.cells #[.int .i64 (most : Int), .slice none 0 0] 65) = w' := by
  go_enter Try.func9, Try.ntmps9
  go_wp2
  go_returns
  exact ⟨rfl, rfl⟩
theorem new_no (most : Int) (h : most < 1 ∨ 1024 < most) (w : World) :
    Calls Try.prog 9 #[.int .i64 most] w fun e w' => e = .returned (.tuple #[.pointer none, .int .i64 1]) ∧ w = w' := by
  rcases h with h | h
  · go_enter Try.func9, Try.ntmps9
    go_wp2
    go_returns
    exact ⟨rfl, rfl⟩
  · have h3 : ¬ most < 1 := by omega
    go_enter Try.func9, Try.ntmps9
    go_wp2
    go_returns
    exact ⟨rfl, rfl⟩
theorem new_cat (w0 w : World) (most : Int) (R : List (Nat × Obj)) (hb : Below w0.heap.size w0 w) (hR : ∀ b o, (b, o) ∈ R → w.heap[b]? = some o) :
    CaT w0 w.heap.size most [] R (w.alloc (.cells #[.int .i64 most, .slice none 0 0] 65)) :=
  ⟨hb.on (by go_grown), hb.size, ⟨.slice none 0 0, heap_alloc_new _ _, ⟨rfl, .inl ⟨rfl, rfl⟩⟩, by simp [Value.ownBlock], fun _ _ _ => by simp [Value.ownBlock]⟩, fun b o h => ⟨(Below.heap_alloc _ _ _ (heap_in (hR b o h))).trans (hR b o h), by have := heap_in (hR b o h); omega⟩⟩
theorem len_any {w0 : World} {p : Nat} {most : Int} {L : List E} {R : List (Nat × Obj)} {w : World} (h : CaT w0 p most L R w) :
    Calls Try.prog 12 #[.pointer (some ⟨p, 0, none⟩)] w fun e w' => e = .returned (.int .i64 (L.length : Int)) ∧ w = w' := by
  obtain ⟨v, hp, hr, _⟩ := h.row
  obtain ⟨_, hu, _⟩ := box_cells hp
  obtain ⟨ao, n, cap, rfl, hn⟩ : ∃ ao n cap, v = .slice ao n cap ∧ n = L.length := by
    rcases hr.2 with ⟨hv, h0⟩ | ⟨g, cap, cur, hv, _⟩
    · exact ⟨_, _, _, hv, h0.symm⟩
    · exact ⟨_, _, _, hv, rfl⟩
  subst hn
  clear h hp hr
  go_enter Try.func12, Try.ntmps12
  go_wp2
  go_returns
  exact ⟨rfl, rfl⟩
/-- What a Get leaves, and tells. -/
def GetPost (w0 : World) (p : Nat) (most : Int) (L : List E) (R : List (Nat × Obj)) (k : Int) (e : Ending) (w' : World) : Prop :=
  e = .returned (.tuple #[.string ((getV k L).getD ⟨#[]⟩), .bool (getV k L).isSome]) ∧ CaT w0 p most (getL k L) R w'
set_option maxHeartbeats 1000000 in
theorem get_any {w0 : World} {p : Nat} {most : Int} {L : List E} {R : List (Nat × Obj)} {w : World} (h : CaT w0 p most L R w) (k : Int) (hl : L.length ≤ 4096) :
    Calls Try.prog 17 #[.pointer (some ⟨p, 0, none⟩), .int .i64 k] w (GetPost w0 p most L R k) := by
  have H := Lib.hid h
  have hF := Lib.hid (find_any h k hl)
  clear h
  go_enter Try.func17, Try.ntmps17
  go_wp2_with fail
  refine hF.out.mono ?_
  rintro e w1 (⟨i, x, hx, hk, hpos, rfl, hb⟩ | ⟨hno, rfl, hb⟩)
  · have hil := (List.getElem?_eq_some_iff.1 hx).1
    have hU := Lib.hid (use_any (H.out.on hb) i hil hl)
    have HM := Lib.hid (useL_some hx)
    have HR1 : Hid (getV k L = some x.val ∧ getL k L = useL i L) := by
      refine Lib.hid ?_
      unfold getV getL
      rw [hpos, if_pos hil, if_pos hil, hx]
      exact ⟨rfl, rfl⟩
    clear hF hx hk hpos H hb
    go_wp2_with fail
    refine hU.out.mono ?_
    rintro e w2 ⟨g, cap, rfl, hp2, h2⟩
    have h3 := h2
    rw [HM.out] at h3
    have hc2 : w2.cell? ⟨g, 1, none⟩ = some (.string x.val) := (row_cells (h3.rowAt hp2).1 (i := 0) rfl).2.1
    have H2 := Lib.hid h2
    clear h2 h3 hp2 hU
    go_wp2
    go_returns
    refine ⟨?_, by rw [HR1.out.2]; exact H2.out⟩
    rw [HR1.out.1]
    rfl
  · have H1 := Lib.hid (H.out.on hb)
    have HR1 : Hid (getV k L = none ∧ getL k L = L) := by
      refine Lib.hid ?_
      unfold getV getL
      rw [if_neg hno, if_neg hno]
      exact ⟨rfl, rfl⟩
    clear hF hno H hb
    go_wp2
    go_returns
    refine ⟨?_, by rw [HR1.out.2]; exact H1.out⟩
    rw [HR1.out.1]
    rfl
/-- What a Pin, or an Unpin, leaves, and tells. -/
def PinPost (w0 : World) (p : Nat) (most : Int) (L : List E) (R : List (Nat × Obj)) (b : Bool) (i : Nat) (d : Int) (e : Ending) (w' : World) : Prop :=
  e = .returned (.bool b) ∧ CaT w0 p most (if b = true then pinL i d L else L) R w'
theorem pinL_set {L : List E} {i : Nat} {x : E} (hx : L[i]? = some x) (d : Int) : pinL i d L = L.set i { x with pins := ((x.pins : Int) + d).toNat } := by
  unfold pinL
  apply List.ext_getElem?
  intro j
  rw [List.getElem?_modify, List.getElem?_set]
  have hi := (List.getElem?_eq_some_iff.1 hx).1
  by_cases e : i = j
  · subst e
    rw [hx, if_pos rfl, if_pos hi]
    simp
  · rw [if_neg e]
    simp [e]
set_option maxHeartbeats 1000000 in
theorem pin_any {w0 : World} {p : Nat} {most : Int} {L : List E} {R : List (Nat × Obj)} {w : World} (h : CaT w0 p most L R w) (k : Int) (hl : L.length ≤ 4096) (hpn : ∀ e ∈ L, e.pins ≤ 1048576) :
    Calls Try.prog 18 #[.pointer (some ⟨p, 0, none⟩), .int .i64 k] w (PinPost w0 p most L R (decide (posK k L < L.length)) (posK k L) 1) := by
  have H := Lib.hid h
  have hF := Lib.hid (find_any h k hl)
  clear h
  go_enter Try.func18, Try.ntmps18
  go_wp2_with fail
  refine hF.out.mono ?_
  rintro e w1 (⟨i, x, hx, hk, hpos, rfl, hb⟩ | ⟨hno, rfl, hb⟩)
  · have hil := (List.getElem?_eq_some_iff.1 hx).1
    have h1 := H.out.on hb
    obtain ⟨v, hp, hr, _⟩ := h1.row
    obtain ⟨g, cap, cur, rfl, _⟩ := hr.block (by omega)
    have hu := (box_cells hp).2.1
    obtain ⟨_, _, hc⟩ := row_cells hr hx
    have hf := row_thawed hr (i * 3 + 2)
    have hxp := hpn x (List.mem_of_getElem? hx)
    have HN : Hid (CaT w0 p most (pinL i 1 L) R (w1.setCell ⟨g, i * 3 + 2, none⟩ (.int .i64 ((x.pins : Int) + 1)))) := by
      refine Lib.hid ?_
      rw [pinL_set hx]
      exact h1.poke hp hx 2 (by omega) _ rfl
    have HPOS := Lib.hid hpos
    have HIL := Lib.hid hil
    clear hF hx hk hpos H hb h1 hr hp hpn
    go_wp2
    go_returns
    unfold PinPost
    rw [HPOS.out]
    refine ⟨?_, ?_⟩
    · rw [decide_eq_true HIL.out]
      rfl
    · rw [decide_eq_true HIL.out]
      exact HN.out
  · have H1 := Lib.hid (H.out.on hb)
    have HNO := Lib.hid hno
    clear hF hno H hb hpn
    go_wp2
    go_returns
    unfold PinPost
    rw [decide_eq_false HNO.out]
    exact ⟨rfl, H1.out⟩
end KA
end Go.Proofs.Ytomgiemnkbjebaa
