/- Two caches beside each other: of numbers to texts, of texts to numbers. (Made by gen/mk_r.py.) -/
import Derived.Test.YtomgiemnkbjebaaCacL
import Derived.Test.YtomgiemnkbjebaaCbG
namespace Go.Proofs.Ytomgiemnkbjebaa
set_option maxRecDepth 100000
open Go.ChangeShapes Go.WideShapes Go.ChangeAt Go.RowKit Go.PlainAid Go.MapKept Go.ChangeMaps

namespace KA
/-- A cache of this list, as blocks. -/
def Frame (w0 : World) (q : Nat) (most : Int) (M : List E) (RA : List (Nat × Obj)) : Prop :=
  ∃ v : Value, (q, Obj.cells #[.int .i64 most, v] 65 (0, 0)) ∈ RA ∧ (∀ b o, (b, o) ∈ RA → b = q ∨ v.ownBlock = some b) ∧ v.ownBlock ≠ some q ∧ (∀ b, v.ownBlock = some b → ∃ o, (b, o) ∈ RA) ∧ w0.heap.size ≤ q ∧
    ∀ w' : World, (∀ b o, (b, o) ∈ RA → w'.heap[b]? = some o) → RowE cE 83 w0.heap.size w' v M
theorem frame_of {w0 : World} {q : Nat} {most : Int} {M : List E} {X : List (Nat × Obj)} {w : World} (h : CaT w0 q most M X w) :
    ∃ RA, Frame w0 q most M RA ∧ (∀ b o, (b, o) ∈ RA → w.heap[b]? = some o) ∧ (∀ b o o', (b, o) ∈ X → (b, o') ∉ RA) := by
  obtain ⟨h1, h2, ⟨v, h3, h4, h5, h6⟩, h7⟩ := h
  rcases h4.2 with ⟨rfl, h0⟩ | ⟨g, cap, cur, rfl, a1, a2, a3⟩
  · refine ⟨[(q, .cells #[.int .i64 most, .slice none 0 0] 65 (0, 0))], ⟨.slice none 0 0, List.mem_singleton.2 rfl, fun b o hb => ?_, by simp [Value.ownBlock], fun b hb => by simp [Value.ownBlock] at hb, h2, fun w' _ => ⟨h4.1, .inl ⟨rfl, h0⟩⟩⟩, fun b o hb => ?_, fun b o o' hb hc => ?_⟩
    · rw [List.mem_singleton] at hb
      cases hb
      exact .inl rfl
    · rw [List.mem_singleton] at hb
      cases hb
      exact h3
    · rw [List.mem_singleton] at hc
      cases hc
      exact (h7 _ _ hb).2 rfl
  · have hgq : g ≠ q := fun e => h5 (by rw [← e]; rfl)
    refine ⟨[(q, .cells #[.int .i64 most, .slice (some ⟨g, 0, none⟩) M.length cap] 65 (0, 0)), (g, .cells cur 83 (0, 0))], ⟨_, List.mem_cons_self, fun b o hb => ?_, h5, fun b hb => ?_, h2, fun w' hw => ⟨h4.1, .inr ⟨g, cap, cur, rfl, a1, hw g _ (List.mem_cons_of_mem _ (List.mem_singleton.2 rfl)), a3⟩⟩⟩, fun b o hb => ?_, fun b o o' hb hc => ?_⟩
    · rcases List.mem_cons.1 hb with hb | hb
      · cases hb
        exact .inl rfl
      · rw [List.mem_singleton] at hb
        cases hb
        exact .inr rfl
    · have : g = b := by simpa [Value.ownBlock] using hb
      exact ⟨_, by rw [← this]; exact List.mem_cons_of_mem _ (List.mem_singleton.2 rfl)⟩
    · rcases List.mem_cons.1 hb with hb | hb
      · cases hb
        exact h3
      · rw [List.mem_singleton] at hb
        cases hb
        exact a2
    · rcases List.mem_cons.1 hc with hc | hc
      · cases hc
        exact (h7 _ _ hb).2 rfl
      · rw [List.mem_singleton] at hc
        cases hc
        exact h6 _ _ hb rfl
theorem of_frame {w0 : World} {q : Nat} {most : Int} {M : List E} {RA X : List (Nat × Obj)} {w : World} (h : Frame w0 q most M RA) (hb : Below w0.heap.size w0 w) (hw : ∀ b o, (b, o) ∈ RA → w.heap[b]? = some o)
    (hX : ∀ b o, (b, o) ∈ X → w.heap[b]? = some o) (hA : ∀ b o o', (b, o) ∈ X → (b, o') ∉ RA) : CaT w0 q most M X w := by
  obtain ⟨v, h1, h2, h3, h4, h5, h6⟩ := h
  refine ⟨hb, h5, ⟨v, hw _ _ h1, h6 w hw, h3, fun b o hbo hc => ?_⟩, fun b o hbo => ⟨hX b o hbo, fun e => ?_⟩⟩
  · obtain ⟨o', ho'⟩ := h4 b hc
    exact hA b o o' hbo ho'
  · subst e
    exact hA _ o _ hbo h1
end KA
namespace KB
/-- A Put whose list is known. -/
theorem put_is {w0 : World} {p : Nat} {most : Nat} {L M : List E} {R : List (Nat × Obj)} {k : ByteArray} {v : Int} (hm : 1 ≤ most) (hm2 : most ≤ 1024) (hl : L.length ≤ most) (g : ByteArray) (b : Bool) (e0 : Int)
    (h1 : (putK most k L).getD ⟨#[]⟩ = g) (h2 : (putK most k L).isSome = b) (h3 : putE most k L = e0) (h4 : putL most k v L = M) (w : World) (h : CaT w0 p most L R w) :
    Calls Try.prog 20 #[.pointer (some ⟨p, 0, none⟩), .string k, .int .i64 v] w fun e w' => e = .returned (.tuple #[.string g, .bool b, .int .i64 e0]) ∧ CaT w0 p most M R w' := by
  subst h1 h2 h3 h4
  exact put_any h k v hm hm2 hl
theorem get_is {w0 : World} {p : Nat} {most : Int} {L M : List E} {R : List (Nat × Obj)} {k : ByteArray} (hl : L.length ≤ 4096) (g : Int) (b : Bool)
    (h1 : (getV k L).getD 0 = g) (h2 : (getV k L).isSome = b) (h4 : getL k L = M) (w : World) (h : CaT w0 p most L R w) :
    Calls Try.prog 22 #[.pointer (some ⟨p, 0, none⟩), .string k] w fun e w' => e = .returned (.tuple #[.int .i64 g, .bool b]) ∧ CaT w0 p most M R w' := by
  subst h1 h2 h4
  exact get_any h k hl
/-- A map beside a cache has changed. -/
theorem CaT.block {w0 : World} {p : Nat} {most : Int} {L : List E} {R : List (Nat × Obj)} {w : World} {b : Nat} {es : Array MapEntry} {clock : Nat} (h : CaT w0 p most L ((b, .map es clock) :: R) w) (h0 : w0.heap.size ≤ b) (hR : ∀ x ∈ R, x.1 ≠ b) (o' : Obj) :
    CaT w0 p most L ((b, o') :: R) (setBlock w b o') := by
  obtain ⟨h1, h2, ⟨v, h3, h4, h5, h6⟩, h7⟩ := h
  obtain ⟨hbb, hbp⟩ := h7 b _ List.mem_cons_self
  have hvb := h6 b _ List.mem_cons_self
  have hsz : (setBlock w b o').heap.size = w.heap.size := by simp [setBlock]
  have hoth : ∀ k, k ≠ b → (setBlock w b o').heap[k]? = w.heap[k]? := fun k hk => heap_setBlock_other hbb _ hk
  refine ⟨⟨h1.os, h1.tape, h1.output, by rw [hsz]; exact h1.size, fun k hk => (hoth k (by omega)).trans (h1.block k hk)⟩, h2, ⟨v, (hoth p (fun e => hbp e.symm)).trans h3, ⟨h4.1, ?_⟩, h5, fun c o hc => ?_⟩, fun c o hc => ?_⟩
  · rcases h4.2 with h | ⟨g, cap, cur, rfl, a1, a2, a3⟩
    · exact .inl h
    · exact .inr ⟨g, cap, cur, rfl, a1, (hoth g (fun e => hvb (by rw [← e]; rfl))).trans a2, a3⟩
  · rcases List.mem_cons.1 hc with e | hc
    · cases e
      exact hvb
    · exact h6 c o (List.mem_cons_of_mem _ hc)
  · rcases List.mem_cons.1 hc with e | hc
    · cases e
      exact ⟨heap_setBlock_same hbb _, hbp⟩
    · exact ⟨(hoth c (hR _ hc)).trans (h7 c o (List.mem_cons_of_mem _ hc)).1, (h7 c o (List.mem_cons_of_mem _ hc)).2⟩
/-- A new block beside a cache. -/
theorem CaT.add {w0 : World} {p : Nat} {most : Int} {L : List E} {R : List (Nat × Obj)} {w w' : World} {g : Nat} {o : Obj} (h : CaT w0 p most L R w) (b : Below w.heap.size w w') (hg : w.heap.size ≤ g) (ho : w'.heap[g]? = some o) : CaT w0 p most L ((g, o) :: R) w' := by
  obtain ⟨h1, h2, ⟨v, h3, h4, h5, h6⟩, h7⟩ := h.on b
  have hp := heap_in (h.row.choose_spec.1)
  refine ⟨h1, h2, ⟨v, h3, h4, h5, fun c o' hc => ?_⟩, fun c o' hc => ?_⟩
  · rcases List.mem_cons.1 hc with e | hc
    · cases e
      intro hv
      obtain ⟨u, h3', h4', _⟩ := h.row
      have : u = v := by
        have e := (b.block p (heap_in h3')).trans h3'
        rw [h3] at e
        injection e with e
        injection e with e
        simpa using e.symm
      subst this
      have := (h4'.lt _ hv).2
      omega
    · exact h6 c o' hc
  · rcases List.mem_cons.1 hc with e | hc
    · cases e
      exact ⟨ho, by omega⟩
    · exact h7 c o' hc
theorem CaT.mem {w0 : World} {p : Nat} {most : Int} {L : List E} {R : List (Nat × Obj)} {w : World} (h : CaT w0 p most L R w) {x : Nat × Obj} (hx : x ∈ R) : w.heap[x.1]? = some x.2 := (h.known x.1 x.2 hx).1
/-- A cache of this list, as blocks. -/
def Frame (w0 : World) (q : Nat) (most : Int) (M : List E) (RA : List (Nat × Obj)) : Prop :=
  ∃ v : Value, (q, Obj.cells #[.int .i64 most, v] 89 (0, 0)) ∈ RA ∧ (∀ b o, (b, o) ∈ RA → b = q ∨ v.ownBlock = some b) ∧ v.ownBlock ≠ some q ∧ (∀ b, v.ownBlock = some b → ∃ o, (b, o) ∈ RA) ∧ w0.heap.size ≤ q ∧
    ∀ w' : World, (∀ b o, (b, o) ∈ RA → w'.heap[b]? = some o) → RowE cE 91 w0.heap.size w' v M
theorem frame_of {w0 : World} {q : Nat} {most : Int} {M : List E} {X : List (Nat × Obj)} {w : World} (h : CaT w0 q most M X w) :
    ∃ RA, Frame w0 q most M RA ∧ (∀ b o, (b, o) ∈ RA → w.heap[b]? = some o) ∧ (∀ b o o', (b, o) ∈ X → (b, o') ∉ RA) := by
  obtain ⟨h1, h2, ⟨v, h3, h4, h5, h6⟩, h7⟩ := h
  rcases h4.2 with ⟨rfl, h0⟩ | ⟨g, cap, cur, rfl, a1, a2, a3⟩
  · refine ⟨[(q, .cells #[.int .i64 most, .slice none 0 0] 89 (0, 0))], ⟨.slice none 0 0, List.mem_singleton.2 rfl, fun b o hb => ?_, by simp [Value.ownBlock], fun b hb => by simp [Value.ownBlock] at hb, h2, fun w' _ => ⟨h4.1, .inl ⟨rfl, h0⟩⟩⟩, fun b o hb => ?_, fun b o o' hb hc => ?_⟩
    · rw [List.mem_singleton] at hb
      cases hb
      exact .inl rfl
    · rw [List.mem_singleton] at hb
      cases hb
      exact h3
    · rw [List.mem_singleton] at hc
      cases hc
      exact (h7 _ _ hb).2 rfl
  · have hgq : g ≠ q := fun e => h5 (by rw [← e]; rfl)
    refine ⟨[(q, .cells #[.int .i64 most, .slice (some ⟨g, 0, none⟩) M.length cap] 89 (0, 0)), (g, .cells cur 91 (0, 0))], ⟨_, List.mem_cons_self, fun b o hb => ?_, h5, fun b hb => ?_, h2, fun w' hw => ⟨h4.1, .inr ⟨g, cap, cur, rfl, a1, hw g _ (List.mem_cons_of_mem _ (List.mem_singleton.2 rfl)), a3⟩⟩⟩, fun b o hb => ?_, fun b o o' hb hc => ?_⟩
    · rcases List.mem_cons.1 hb with hb | hb
      · cases hb
        exact .inl rfl
      · rw [List.mem_singleton] at hb
        cases hb
        exact .inr rfl
    · have : g = b := by simpa [Value.ownBlock] using hb
      exact ⟨_, by rw [← this]; exact List.mem_cons_of_mem _ (List.mem_singleton.2 rfl)⟩
    · rcases List.mem_cons.1 hb with hb | hb
      · cases hb
        exact h3
      · rw [List.mem_singleton] at hb
        cases hb
        exact a2
    · rcases List.mem_cons.1 hc with hc | hc
      · cases hc
        exact (h7 _ _ hb).2 rfl
      · rw [List.mem_singleton] at hc
        cases hc
        exact h6 _ _ hb rfl
theorem of_frame {w0 : World} {q : Nat} {most : Int} {M : List E} {RA X : List (Nat × Obj)} {w : World} (h : Frame w0 q most M RA) (hb : Below w0.heap.size w0 w) (hw : ∀ b o, (b, o) ∈ RA → w.heap[b]? = some o)
    (hX : ∀ b o, (b, o) ∈ X → w.heap[b]? = some o) (hA : ∀ b o o', (b, o) ∈ X → (b, o') ∉ RA) : CaT w0 q most M X w := by
  obtain ⟨v, h1, h2, h3, h4, h5, h6⟩ := h
  refine ⟨hb, h5, ⟨v, hw _ _ h1, h6 w hw, h3, fun b o hbo hc => ?_⟩, fun b o hbo => ⟨hX b o hbo, fun e => ?_⟩⟩
  · obtain ⟨o', ho'⟩ := h4 b hc
    exact hA b o o' hbo ho'
  · subst e
    exact hA _ o _ hbo h1
end KB
/-- Both caches, the one of texts beside the blocks of the other one and X. -/
def DuoB (w0 : World) (p q : Nat) (most : Int) (L : List KB.E) (M : List KA.E) (X : List (Nat × Obj)) (w : World) : Prop :=
  ∃ RA, KA.Frame w0 q most M RA ∧ KB.CaT w0 p most L (X ++ RA) w ∧ ∀ b o o', (b, o) ∈ X → (b, o') ∉ RA
/-- Both caches, the one of numbers beside the blocks of the other one and X. -/
def DuoA (w0 : World) (p q : Nat) (most : Int) (L : List KB.E) (M : List KA.E) (X : List (Nat × Obj)) (w : World) : Prop :=
  ∃ RB, KB.Frame w0 p most L RB ∧ KA.CaT w0 q most M (X ++ RB) w ∧ ∀ b o o', (b, o) ∈ X → (b, o') ∉ RB
theorem DuoB.flip {w0 : World} {p q : Nat} {most : Int} {L : List KB.E} {M : List KA.E} {X : List (Nat × Obj)} {w : World} (h : DuoB w0 p q most L M X w) : DuoA w0 p q most L M X w := by
  obtain ⟨RA, hF, hC, hX⟩ := h
  obtain ⟨RB, hG, hw, hA⟩ := KB.frame_of hC
  refine ⟨RB, hG, KA.of_frame hF hC.below (fun b o hb => (hC.known b o (List.mem_append_right _ hb)).1) (fun b o hb => ?_) (fun b o o' hb hc => ?_), fun b o o' hb => hA b o o' (List.mem_append_left _ hb)⟩
  · rcases List.mem_append.1 hb with hb | hb
    · exact (hC.known b o (List.mem_append_left _ hb)).1
    · exact hw b o hb
  · rcases List.mem_append.1 hb with hb | hb
    · exact hX b o o' hb hc
    · exact hA b o' o (List.mem_append_right _ hc) hb
theorem DuoA.flip {w0 : World} {p q : Nat} {most : Int} {L : List KB.E} {M : List KA.E} {X : List (Nat × Obj)} {w : World} (h : DuoA w0 p q most L M X w) : DuoB w0 p q most L M X w := by
  obtain ⟨RA, hF, hC, hX⟩ := h
  obtain ⟨RB, hG, hw, hA⟩ := KA.frame_of hC
  refine ⟨RB, hG, KB.of_frame hF hC.below (fun b o hb => (hC.known b o (List.mem_append_right _ hb)).1) (fun b o hb => ?_) (fun b o o' hb hc => ?_), fun b o o' hb => hA b o o' (List.mem_append_left _ hb)⟩
  · rcases List.mem_append.1 hb with hb | hb
    · exact (hC.known b o (List.mem_append_left _ hb)).1
    · exact hw b o hb
  · rcases List.mem_append.1 hb with hb | hb
    · exact hX b o o' hb hc
    · exact hA b o' o (List.mem_append_right _ hc) hb
theorem DuoB.block {w0 : World} {p q : Nat} {most : Int} {L : List KB.E} {M : List KA.E} {w : World} {b : Nat} {es : Array MapEntry} {clock : Nat} (h : DuoB w0 p q most L M [(b, .map es clock)] w) (h0 : w0.heap.size ≤ b) (o' : Obj) :
    DuoB w0 p q most L M [(b, o')] (setBlock w b o') := by
  obtain ⟨RA, hF, hC, hX⟩ := h
  refine ⟨RA, hF, KB.CaT.block (R := RA) hC h0 (fun x hx e => ?_) o', fun c o o2 hc => ?_⟩
  · obtain ⟨x1, x2⟩ := x
    subst e
    exact hX _ _ _ (List.mem_singleton.2 rfl) hx
  · rw [List.mem_singleton] at hc
    cases hc
    exact hX _ _ _ (List.mem_singleton.2 rfl)
theorem DuoB.mem {w0 : World} {p q : Nat} {most : Int} {L : List KB.E} {M : List KA.E} {X : List (Nat × Obj)} {w : World} (h : DuoB w0 p q most L M X w) {x : Nat × Obj} (hx : x ∈ X) : w.heap[x.1]? = some x.2 := by
  obtain ⟨RA, hF, hC, hX⟩ := h
  exact (hC.known x.1 x.2 (List.mem_append_left _ hx)).1
theorem DuoB.on {w0 : World} {p q : Nat} {most : Int} {L : List KB.E} {M : List KA.E} {X : List (Nat × Obj)} {w w' : World} (h : DuoB w0 p q most L M X w) (b : Below w.heap.size w w') : DuoB w0 p q most L M X w' := by
  obtain ⟨RA, hF, hC, hX⟩ := h
  exact ⟨RA, hF, hC.on b, hX⟩
theorem DuoB.putB {w0 : World} {p q : Nat} {most : Nat} {L L2 : List KB.E} {M : List KA.E} {X : List (Nat × Obj)} {w : World} (h : DuoB w0 p q most L M X w) {k : ByteArray} {v : Int} (hm : 1 ≤ most) (hm2 : most ≤ 1024) (hl : L.length ≤ most) (g : ByteArray) (b : Bool) (e0 : Int)
    (h1 : (putK most k L).getD ⟨#[]⟩ = g) (h2 : (putK most k L).isSome = b) (h3 : putE most k L = e0) (h4 : putL most k v L = L2) :
    Calls Try.prog 20 #[.pointer (some ⟨p, 0, none⟩), .string k, .int .i64 v] w fun e w' => e = .returned (.tuple #[.string g, .bool b, .int .i64 e0]) ∧ DuoB w0 p q most L2 M X w' := by
  obtain ⟨RA, hF, hC, hX⟩ := h
  exact (KB.put_is hm hm2 hl g b e0 h1 h2 h3 h4 w hC).mono fun e w' h => ⟨h.1, RA, hF, h.2, hX⟩
theorem DuoB.putA {w0 : World} {p q : Nat} {most : Nat} {L : List KB.E} {M M2 : List KA.E} {X : List (Nat × Obj)} {w : World} (h : DuoB w0 p q most L M X w) {k : Int} {v : ByteArray} (hm : 1 ≤ most) (hm2 : most ≤ 1024) (hl : M.length ≤ most) (g : Int) (b : Bool) (e0 : Int)
    (h1 : (putK most k M).getD 0 = g) (h2 : (putK most k M).isSome = b) (h3 : putE most k M = e0) (h4 : putL most k v M = M2) :
    Calls Try.prog 16 #[.pointer (some ⟨q, 0, none⟩), .int .i64 k, .string v] w fun e w' => e = .returned (.tuple #[.int .i64 g, .bool b, .int .i64 e0]) ∧ DuoB w0 p q most L M2 X w' := by
  obtain ⟨RA, hF, hC, hX⟩ := h.flip
  exact (KA.put_is hm hm2 hl g b e0 h1 h2 h3 h4 w hC).mono fun e w' h => ⟨h.1, DuoA.flip ⟨RA, hF, h.2, hX⟩⟩
theorem DuoB.getB {w0 : World} {p q : Nat} {most : Int} {L L2 : List KB.E} {M : List KA.E} {X : List (Nat × Obj)} {w : World} (h : DuoB w0 p q most L M X w) {k : ByteArray} (hl : L.length ≤ 4096) (g : Int) (b : Bool)
    (h1 : (getV k L).getD 0 = g) (h2 : (getV k L).isSome = b) (h4 : getL k L = L2) :
    Calls Try.prog 22 #[.pointer (some ⟨p, 0, none⟩), .string k] w fun e w' => e = .returned (.tuple #[.int .i64 g, .bool b]) ∧ DuoB w0 p q most L2 M X w' := by
  obtain ⟨RA, hF, hC, hX⟩ := h
  exact (KB.get_is hl g b h1 h2 h4 w hC).mono fun e w' h => ⟨h.1, RA, hF, h.2, hX⟩
theorem DuoB.lenB {w0 : World} {p q : Nat} {most : Int} {L : List KB.E} {M : List KA.E} {X : List (Nat × Obj)} {w : World} (h : DuoB w0 p q most L M X w) (n : Nat) (hn : L.length = n) :
    Calls Try.prog 21 #[.pointer (some ⟨p, 0, none⟩)] w fun e w' => e = .returned (.int .i64 (n : Int)) ∧ w' = w := by
  obtain ⟨RA, hF, hC, hX⟩ := h
  subst hn
  exact (KB.len_any hC).mono fun e w' h => ⟨h.1, h.2.symm⟩
theorem DuoB.lenA {w0 : World} {p q : Nat} {most : Int} {L : List KB.E} {M : List KA.E} {X : List (Nat × Obj)} {w : World} (h : DuoB w0 p q most L M X w) (n : Nat) (hn : M.length = n) :
    Calls Try.prog 12 #[.pointer (some ⟨q, 0, none⟩)] w fun e w' => e = .returned (.int .i64 (n : Int)) ∧ w' = w := by
  obtain ⟨RA, hF, hC, hX⟩ := h.flip
  subst hn
  exact (KA.len_any hC).mono fun e w' h => ⟨h.1, h.2.symm⟩
theorem DuoB.below {w0 : World} {p q : Nat} {most : Int} {L : List KB.E} {M : List KA.E} {X : List (Nat × Obj)} {w : World} (h : DuoB w0 p q most L M X w) : Below w0.heap.size w0 w := by
  obtain ⟨RA, hF, hC, hX⟩ := h
  exact hC.below
end Go.Proofs.Ytomgiemnkbjebaa
