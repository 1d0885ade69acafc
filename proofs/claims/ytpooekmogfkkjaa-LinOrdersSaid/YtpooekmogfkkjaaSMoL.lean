/- The reference's Do: what it has in memory. -/
import Derived.Test.YtpooekmogfkkjaaSMoJ
import Derived.Test.YtpooekmogfkkjaaSMoG
import Derived.StillTailTactics
namespace Go.Proofs.Ytpooekmogfkkjaa
set_option maxRecDepth 100000
open Go.ChangeShapes Go.WideShapes Go.ChangeAt Go.RowKit Go.PlainAid Go.Deep

attribute [local go_sem ↓ high] store_d load_op
/-- What the reference's Do has in memory. -/
structure StR (w W : World) (o : OpV) : Prop where
  hb : Below w.heap.size w W
  hp : OpAt W w.heap.size o
  hz : DoneZ W (w.heap.size + 1)
  hs : w.heap.size + 2 ≤ W.heap.size
theorem StR.start (w : World) (o : OpV) : StR w ((w.alloc (.cells #[Value.int .i64 o.id, Value.int .i64 o.proc, Value.int .i64 o.obj, Value.int .i64 o.kind, Value.int .i64 o.meth, Value.int .i64 o.arg, Value.int .i64 o.sec, Value.bool o.done, Value.int .i64 o.res, Value.int .i64 o.inv, Value.int .i64 o.ret] 77)).alloc (.cells #[.slice none 0 0, .int .i64 0, .bool false] 121)) o :=
  ⟨by go_grown, (OpAt.box w o).on (by go_grown), ⟨_, by have := heap_alloc_new (w.alloc (.cells #[Value.int .i64 o.id, Value.int .i64 o.proc, Value.int .i64 o.obj, Value.int .i64 o.kind, Value.int .i64 o.meth, Value.int .i64 o.arg, Value.int .i64 o.sec, Value.bool o.done, Value.int .i64 o.res, Value.int .i64 o.inv, Value.int .i64 o.ret] 77)) (.cells #[.slice none 0 0, .int .i64 0, .bool false] 121); rw [World.size_alloc] at this; exact this, rfl⟩, by rw [World.size_alloc, World.size_alloc]; exact Nat.le_refl _⟩
theorem StR.on {w W W' : World} {o : OpV} (h : StR w W o) (hb : Below W.heap.size W W') : StR w W' o := ⟨h.hb.on hb, h.hp.on hb, h.hz.on hb, Nat.le_trans h.hs hb.size⟩
theorem StR.below2 {w W W' : World} {o : OpV} (h : StR w W o) (hb : Below (w.heap.size + 2) W W') : StR w W' o := by
  refine ⟨h.hb.trans (hb.mono (by omega)), (hb.block _ (by omega)).trans h.hp, ?_, Nat.le_trans h.hs hb.size⟩
  obtain ⟨c, hc, hs⟩ := h.hz
  exact ⟨c, (hb.block _ (by omega)).trans hc, hs⟩
/-- What a last store leaves. -/
theorem rdone_end {w W W3 : World} {o : OpV} {A : Ans} {L : List Int} {n : Int} {b : Bool} (hA : A = (L, n, b)) (hS : StR w W o) {v' : Value} (hd : DoneS W W3 (w.heap.size + 1) v' n b)
    {v : Value} (ho : (IntsOf w v' L ∧ CapOk v' ∧ SameB v v') ∨ OwnI (w.heap.size + 2) W v' L) : RDone A w v (.returned (.agg #[v', .int .i64 n, .bool b])) W3 := by
  have hb : Below w.heap.size w W3 := hS.hb.trans (hd.below.mono (Nat.le_succ _))
  rcases ho with h | h
  · exact RDone.eq hA (h.1.on hb) h.2.1 (.inl h.2.2) hb
  · exact RDone.eq hA (hd.own (by omega) h).reads h.capOk (.inr ((hd.own (by omega) h).base (by omega))) hb
theorem IntsOf.tail {w : World} {v : Value} {x : Int} {L : List Int} (h : IntsOf w v (x :: L)) (hcp : CapOk v) : ∃ g o cap, v = .slice (some ⟨g, o, none⟩) (L.length + 1) cap ∧ L.length + 1 ≤ cap ∧ w.cell? ⟨g, o, none⟩ = some (.int .i64 x) ∧ IntsOf w (.slice (some ⟨g, o + 1, none⟩) L.length (cap - 1)) L ∧ (cap = 1 → IntsOf w (.slice (some ⟨g, o, none⟩) L.length 0) L ∧ L.length = 0) := by
  rcases h with ⟨h0, _⟩ | ⟨b, o, cap, rfl, hlt, h0, hm, hr⟩
  · cases h0
  · have hc := (hr 0 x rfl).2
    rw [Nat.add_zero] at hc
    have hr' : ∀ (i : Nat) (y : Int), L[i]? = some y → (-9223372036854775808 ≤ y ∧ y ≤ 9223372036854775807) ∧ w.cell? ⟨b, o + 1 + i, none⟩ = some (.int .i64 y) := fun i y hy => by
      have := hr (i + 1) y (by simpa using hy)
      rwa [show o + (i + 1) = o + 1 + i by omega] at this
    have hl : (x :: L).length = L.length + 1 := rfl
    have hle := hcp.le
    rw [hl] at hle hm
    by_cases c : L.length = 0
    · have e := List.length_eq_zero_iff.1 c
      subst e
      exact ⟨b, o, cap, rfl, hle, hc, .inl ⟨rfl, _, _, rfl⟩, fun _ => ⟨.inl ⟨rfl, _, _, rfl⟩, rfl⟩⟩
    · exact ⟨b, o, cap, rfl, hle, hc, .inr ⟨b, o + 1, cap - 1, rfl, hlt, by omega, by omega, hr'⟩, fun h1 => absurd h1 (by omega)⟩
theorem IntsOf.front {w : World} {v : Value} {x : Int} {L : List Int} (h : IntsOf w v (L ++ [x])) (hcp : CapOk v) : ∃ g o cap, v = .slice (some ⟨g, o, none⟩) (L.length + 1) cap ∧ L.length + 1 ≤ cap ∧ w.cell? ⟨g, o + L.length, none⟩ = some (.int .i64 x) ∧ IntsOf w (.slice (some ⟨g, o, none⟩) L.length cap) L := by
  rcases h with ⟨h0, _⟩ | ⟨b, o, cap, rfl, hlt, h0, hm, hr⟩
  · simp at h0
  · have hl : (L ++ [x]).length = L.length + 1 := by simp
    have hle := hcp.le
    rw [hl] at hm h0 hle
    refine ⟨b, o, cap, by rw [hl], hle, (hr L.length x (by simp)).2, ?_⟩
    by_cases c : L.length = 0
    · exact .inl ⟨List.length_eq_zero_iff.1 c, _, _, by rw [c]⟩
    · exact .inr ⟨b, o, cap, rfl, hlt, by omega, by omega, fun i y hy => hr i y (by rw [List.getElem?_append_left (List.getElem?_eq_some_iff.1 hy).1]; exact hy)⟩
end Go.Proofs.Ytpooekmogfkkjaa
