/- New, Len, Get. (Made by gen/mk_kb.py.) -/
import Derived.Test.YtomgiemnkbjebaaCbF
namespace Go.Proofs.Ytomgiemnkbjebaa
set_option maxRecDepth 100000
open Go.ChangeShapes Go.WideShapes Go.ChangeAt Go.RowKit Go.PlainAid

namespace KB
theorem new_ok (most : Nat) (h1 : 1 ≤ most) (h2 : most ≤ 1024) (w : World) :
    Calls Try.prog 19 #[.int .i64 (most : Int)] w fun e w' => e = .returned (.tuple #[.pointer (some ⟨w.heap.size, 0, none⟩), .int .i64 0]) ∧ w.alloc (.cells #[.int .i64 (most : Int), .slice none 0 0] 89) = w' := by
  go_enter Try.func19, Try.ntmps19
  go_wp2
  go_returns
  exact ⟨rfl, rfl⟩
theorem new_no (most : Int) (h : most < 1 ∨ 1024 < most) (w : World) :
    Calls Try.prog 19 #[.int .i64 most] w fun e w' => e = .returned (.tuple #[.pointer none, .int .i64 1]) ∧ w = w' := by
  rcases h with h | h
  · go_enter Try.func19, Try.ntmps19
    go_wp2
    go_returns
    exact ⟨rfl, rfl⟩
  · have h3 : ¬ most < 1 := by omega
    go_enter Try.func19, Try.ntmps19
    go_wp2
    go_returns
    exact ⟨rfl, rfl⟩
theorem new_cat (w0 w : World) (most : Int) (R : List (Nat × Obj)) (hb : Below w0.heap.size w0 w) (hR : ∀ b o, (b, o) ∈ R → w.heap[b]? = some o) :
    CaT w0 w.heap.size most [] R (w.alloc (.cells #[.int .i64 most, .slice none 0 0] 89)) :=
  ⟨hb.on (by go_grown), hb.size, ⟨.slice none 0 0, heap_alloc_new _ _, ⟨rfl, .inl ⟨rfl, rfl⟩⟩, by simp [Value.ownBlock], fun _ _ _ => by simp [Value.ownBlock]⟩, fun b o h => ⟨(Below.heap_alloc _ _ _ (heap_in (hR b o h))).trans (hR b o h), by have := heap_in (hR b o h); omega⟩⟩
theorem len_any {w0 : World} {p : Nat} {most : Int} {L : List E} {R : List (Nat × Obj)} {w : World} (h : CaT w0 p most L R w) :
    Calls Try.prog 21 #[.pointer (some ⟨p, 0, none⟩)] w fun e w' => e = .returned (.int .i64 (L.length : Int)) ∧ w = w' := by
  obtain ⟨v, hp, hr, _⟩ := h.row
  obtain ⟨_, hu, _⟩ := box_cells hp
  obtain ⟨ao, n, cap, rfl, hn⟩ : ∃ ao n cap, v = .slice ao n cap ∧ n = L.length := by
    rcases hr.2 with ⟨hv, h0⟩ | ⟨g, cap, cur, hv, _⟩
    · exact ⟨_, _, _, hv, h0.symm⟩
    · exact ⟨_, _, _, hv, rfl⟩
  subst hn
  clear h hp hr
  go_enter Try.func21, Try.ntmps21
  go_wp2
  go_returns
  exact ⟨rfl, rfl⟩
/-- What a Get leaves, and tells. -/
def GetPost (w0 : World) (p : Nat) (most : Int) (L : List E) (R : List (Nat × Obj)) (k : ByteArray) (e : Ending) (w' : World) : Prop :=
  e = .returned (.tuple #[.int .i64 ((getV k L).getD 0), .bool (getV k L).isSome]) ∧ CaT w0 p most (getL k L) R w'
set_option maxHeartbeats 1000000 in
theorem get_any {w0 : World} {p : Nat} {most : Int} {L : List E} {R : List (Nat × Obj)} {w : World} (h : CaT w0 p most L R w) (k : ByteArray) (hl : L.length ≤ 4096) :
    Calls Try.prog 22 #[.pointer (some ⟨p, 0, none⟩), .string k] w (GetPost w0 p most L R k) := by
  have H := Lib.hid h
  have hF := Lib.hid (find_any h k hl)
  clear h
  go_enter Try.func22, Try.ntmps22
  go_wp2_with fail
  refine hF.out.mono ?_
  rintro e w1 (⟨i, x, hx, hk, hpos, rfl, hb⟩ | ⟨hno, rfl, hb⟩)
  · have hil := (List.getElem?_eq_some_iff.1 hx).1
    have hU := Lib.hid (use_any (H.out.on hb) i hil hl)
    have HM := Lib.hid (useL_some hx)
    have HR1 : Hid (getV k L = some x.val ∧ getL k L = useL i L) := by
      refine Lib.hid ?_
      unfold getV getL
      rw [hpos, if_pos hil, if_pos hil, hx]
      exact ⟨rfl, rfl⟩
    clear hF hx hk hpos H hb
    go_wp2_with fail
    refine hU.out.mono ?_
    rintro e w2 ⟨g, cap, rfl, hp2, h2⟩
    have h3 := h2
    rw [HM.out] at h3
    have hc2 : w2.cell? ⟨g, 1, none⟩ = some (.int .i64 x.val) := (row_cells (h3.rowAt hp2).1 (i := 0) rfl).2.1
    have H2 := Lib.hid h2
    clear h2 h3 hp2 hU
    go_wp2
    go_returns
    refine ⟨?_, by rw [HR1.out.2]; exact H2.out⟩
    rw [HR1.out.1]
    rfl
  · have H1 := Lib.hid (H.out.on hb)
    have HR1 : Hid (getV k L = none ∧ getL k L = L) := by
      refine Lib.hid ?_
      unfold getV getL
      rw [if_neg hno, if_neg hno]
      exact ⟨rfl, rfl⟩
    clear hF hno H hb
    go_wp2
    go_returns
    refine ⟨?_, by rw [HR1.out.2]; exact H1.out⟩
    rw [HR1.out.1]
    rfl

end KB
end Go.Proofs.Ytomgiemnkbjebaa
