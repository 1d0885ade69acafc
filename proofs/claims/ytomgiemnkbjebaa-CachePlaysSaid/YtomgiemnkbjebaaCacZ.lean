/- The law's does: plain facts; New of the reference. -/
import Derived.Test.YtomgiemnkbjebaaCacX
import Derived.Test.YtomgiemnkbjebaaCacY
import Derived.Test.YtomgiemnkbjebaaCActs
namespace Go.Proofs.Ytomgiemnkbjebaa
set_option maxRecDepth 100000
open Go.ChangeShapes Go.WideShapes Go.ChangeAt Go.RowKit Go.PlainAid

namespace KA
attribute [local go_sem ↓ high] store_i app_i build_i store_c
theorem rnew_no (most : Int) (w : World) (hm : most < 1 ∨ 1024 < most) : Calls Try.prog 10 #[.int .i64 most] w fun e w' => e = .returned (.tuple #[.agg #[.int .i64 0, .slice none 0 0], .int .i64 1]) ∧ Below w.heap.size w w' := by
  have hq : BoxC (w.alloc (.cells #[.int .i64 0, .slice none 0 0] 29)) w.heap.size 0 (.slice none 0 0) := heap_alloc_new w _
  have hb : Below w.heap.size w (w.alloc (.cells #[.int .i64 0, .slice none 0 0] 29)) := by go_grown
  obtain ⟨w2, hst, hbx, _, hbel, _⟩ := hq.store 0 (.slice none 0 0) rfl
  obtain ⟨r0, r1, _⟩ := hbx.read
  have HB := Lib.hid (hbel _ _ hb (Nat.le_refl _))
  clear hq hb hbx hbel
  rcases hm with hm | hm
  · go_enter Try.func10, Try.ntmps10
    go_wp2_with fail
    refine bodyPost_ret (v := .tuple #[.agg #[.int .i64 0, .slice none 0 0], .int .i64 1]) (by simp [results, Try.results10, go_sem, r0, r1]) rfl ?_
    exact ⟨rfl, HB.out⟩
  · have hm2 : ¬ most < 1 := by omega
    go_enter Try.func10, Try.ntmps10
    go_wp2_with fail
    refine bodyPost_ret (v := .tuple #[.agg #[.int .i64 0, .slice none 0 0], .int .i64 1]) (by simp [results, Try.results10, go_sem, r0, r1]) rfl ?_
    exact ⟨rfl, HB.out⟩
theorem rnew_yes (most : Int) (w : World) (hm : 1 ≤ most ∧ most ≤ 1024) : Calls Try.prog 10 #[.int .i64 most] w fun e w' => e = .returned (.tuple #[.agg #[.int .i64 most, .slice none 0 0], .int .i64 0]) ∧ Below w.heap.size w w' := by
  have hq : BoxC (w.alloc (.cells #[.int .i64 0, .slice none 0 0] 29)) w.heap.size 0 (.slice none 0 0) := heap_alloc_new w _
  have hb : Below w.heap.size w (w.alloc (.cells #[.int .i64 0, .slice none 0 0] 29)) := by go_grown
  obtain ⟨w2, hst, hbx, _, hbel, _⟩ := hq.store most (.slice none 0 0) rfl
  obtain ⟨r0, r1, _⟩ := hbx.read
  have HB := Lib.hid (hbel _ _ hb (Nat.le_refl _))
  have hm1 : ¬ most < 1 := by omega
  have hm2 : ¬ 1024 < most := by omega
  clear hq hb hbx hbel
  go_enter Try.func10, Try.ntmps10
  go_wp2_with fail
  refine bodyPost_ret (v := .tuple #[.agg #[.int .i64 most, .slice none 0 0], .int .i64 0]) (by simp [results, Try.results10, go_sem, r0, r1]) rfl ?_
  exact ⟨rfl, HB.out⟩
/-- A box of the reference's cache, as an object. -/
def bC (most : Int) (u : Value) : Obj := .cells #[.int .i64 most, u] 29 (0, 0)
/-- A block beside a cache has changed. -/
theorem CaT.reset {w0 : World} {p : Nat} {most : Int} {L : List E} {R : List (Nat × Obj)} {w w' : World} {b : Nat} {o o' : Obj} (h : CaT w0 p most L ((b, o) :: R) w) (hR : ∀ x ∈ R, x.1 ≠ b)
    (hoth : ∀ k, k ≠ b → w'.heap[k]? = w.heap[k]?) (ho : w'.heap[b]? = some o') (hbel : Below w0.heap.size w0 w') : CaT w0 p most L ((b, o') :: R) w' := by
  obtain ⟨_, h2, ⟨v, h3, h4, h5, h6⟩, h7⟩ := h
  obtain ⟨_, hbp⟩ := h7 b _ List.mem_cons_self
  have hvb := h6 b _ List.mem_cons_self
  refine ⟨hbel, h2, ⟨v, (hoth p (fun e => hbp e.symm)).trans h3, ⟨h4.1, ?_⟩, h5, fun c o hc => ?_⟩, fun c o hc => ?_⟩
  · rcases h4.2 with h | ⟨g, cap, cur, rfl, a1, a2, a3⟩
    · exact .inl h
    · exact .inr ⟨g, cap, cur, rfl, a1, (hoth g (fun e => hvb (by rw [← e]; rfl))).trans a2, a3⟩
  · rcases List.mem_cons.1 hc with e | hc
    · cases e
      exact hvb
    · exact h6 c o (List.mem_cons_of_mem _ hc)
  · rcases List.mem_cons.1 hc with e | hc
    · cases e
      exact ⟨ho, hbp⟩
    · exact ⟨(hoth c (hR _ hc)).trans (h7 c o (List.mem_cons_of_mem _ hc)).1, (h7 c o (List.mem_cons_of_mem _ hc)).2⟩
/-- Blocks that hold the reference's items. -/
def Fr (w0 : World) (u : Value) (M : List E) (RB : List (Nat × Obj)) : Prop := (∀ w' : World, (∀ b o, (b, o) ∈ RB → w'.heap[b]? = some o) → Items w0.heap.size w' u M) ∧ ∀ b o, (b, o) ∈ RB → ∃ cur, o = .cells cur 51 (0, 0)
theorem CaT.frame {w0 : World} {p : Nat} {most : Int} {L M : List E} {R : List (Nat × Obj)} {w : World} {u : Value} (h : CaT w0 p most L R w) (hu : Items w0.heap.size w u M) : ∃ RB, Fr w0 u M RB ∧ CaT w0 p most L (RB ++ R) w := by
  rcases hu.2 with ⟨rfl, h0⟩ | ⟨g, cap, cur, rfl, a1, a2, a3⟩
  · exact ⟨[], ⟨fun w' _ => ⟨hu.1, .inl ⟨rfl, h0⟩⟩, fun b o hb => by cases hb⟩, h⟩
  · obtain ⟨h1, h2, ⟨v, h3, h4, h5, h6⟩, h7⟩ := h
    refine ⟨[(g, .cells cur 51 (0, 0))], ⟨fun w' hw => ⟨hu.1, .inr ⟨g, cap, cur, rfl, a1, hw _ _ (List.mem_singleton.2 rfl), a3⟩⟩, fun b o hb => ?_⟩, ⟨h1, h2, ⟨v, h3, h4, h5, fun c o hc => ?_⟩, fun c o hc => ?_⟩⟩
    · rw [List.mem_singleton] at hb
      cases hb
      exact ⟨_, rfl⟩
    · rcases List.mem_cons.1 hc with e | hc
      · cases e
        intro hv
        rcases h4.2 with ⟨rfl, _⟩ | ⟨g2, cap2, cur2, rfl, _, b2, _⟩
        · cases hv
        · have e2 : g2 = g := Option.some.inj (by simpa [Value.ownBlock] using hv)
          subst e2
          rw [a2] at b2
          injection b2 with b2
          injection b2 with _ b2
          exact absurd b2 (by decide)
      · exact h6 c o hc
    · rcases List.mem_cons.1 hc with e | hc
      · cases e
        refine ⟨a2, fun e2 => ?_⟩
        subst e2
        rw [a2] at h3
        injection h3 with h3
        injection h3 with _ h3
        exact absurd h3 (by decide)
      · exact h7 c o hc
theorem Fr.on {w0 : World} {p : Nat} {most : Int} {L M : List E} {R RB : List (Nat × Obj)} {w : World} {u : Value} (hf : Fr w0 u M RB) (h : CaT w0 p most L (RB ++ R) w) : Items w0.heap.size w u M := hf.1 w fun b o hb => (h.known b o (List.mem_append_left _ hb)).1
/-- What a call of the law leaves of the list. -/
def stepL (most : Nat) (x : ActV) (L : List E) : List E :=
  if x.kind = 0 then getL x.key L else if x.kind = 1 then putL most x.key x.val L else if x.kind = 2 then pinR x.key 1 L else if x.kind = 3 then pinR x.key (-1) L else noK x.key L
/-- Where the answer of the reference lies, in a box, and the cache is as it was. -/
def SA (w0 : World) (p : Nat) (most : Int) (L M : List E) (u' : Value) (nb : Nat) (R : List (Nat × Obj)) (w : World) : Prop := ∃ RB, Fr w0 u' M RB ∧ CaT w0 p most L (RB ++ ((nb, bC most u') :: R)) w
theorem sa_of {w0 : World} {p : Nat} {most : Int} {L M : List E} {R : List (Nat × Obj)} {W w5 : World} {ao : Option Addr} {nn cap : Nat} (h : CaT w0 p most L R W) (hb : Below W.heap.size W w5) (hI : Items w0.heap.size w5 (.slice ao nn cap) M) :
    ∃ W6, (storeS 29 (.pointer (some ⟨w5.heap.size, 0, none⟩)) (.agg #[.int .i64 most, .slice ao nn cap])).run Try.prog (w5.alloc (.cells #[.int .i64 0, .slice none 0 0] 29)) = .ok () W6 ∧ SA w0 p most L M (.slice ao nn cap) w5.heap.size R W6 := by
  have hb5 : Below w5.heap.size w5 (w5.alloc (.cells #[.int .i64 0, .slice none 0 0] 29)) := by go_grown
  have hq : BoxC (w5.alloc (.cells #[.int .i64 0, .slice none 0 0] 29)) w5.heap.size 0 (.slice none 0 0) := heap_alloc_new w5 _
  obtain ⟨W6, hst, hbx, _, hbel, _⟩ := hq.store most (.slice ao nn cap) rfl
  have hb6 := hbel _ _ hb5 (Nat.le_refl _)
  have hI6 : Items w0.heap.size W6 (.slice ao nn cap) M := ownsRow_on hI hb6
  obtain ⟨RB, hF, hC⟩ := ((h.on hb).add hb6 (Nat.le_refl _) hbx).frame hI6
  exact ⟨W6, hst, RB, hF, hC⟩
end KA
end Go.Proofs.Ytomgiemnkbjebaa
