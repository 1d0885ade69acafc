/- Lists of segments in memory. Package cut: put. -/
import Derived.Test.YtppjmmdiglnkfaaQbf
import Derived.Deep.AppendLies
import Derived.Lib.QuietBelow
import Derived.Shelf.RegionOpenPlain
import Derived.Deep.RegionLaw
namespace Go.Proofs.Ytppjmmdiglnkfaa
set_option maxRecDepth 100000
open Go.ChangeShapes Go.WideShapes Go.ChangeAt Go.RowKit Go.PlainAid Go.Deep
namespace Cu
/-- A segment, as data. -/
structure SegV where
  obj : Int
  kind : Int
  ops : List OpV
def segC (s : SegV) (u : Value) : List Value := [.int .i64 s.obj, .int .i64 s.kind, u]
def flatS (ps : List (SegV × Value)) : List Value := ps.flatMap fun q => segC q.1 q.2
theorem flatS_len : ∀ ps : List (SegV × Value), (flatS ps).length = ps.length * 3
  | [] => rfl
  | q :: r => by
    have := flatS_len r
    unfold flatS at this ⊢
    rw [List.flatMap_cons, List.length_append, this, List.length_cons]
    simp only [segC, List.length_cons, List.length_nil]
    omega
theorem flatS_app (a b : List (SegV × Value)) : flatS (a ++ b) = flatS a ++ flatS b := by unfold flatS; rw [List.flatMap_append]
theorem flatS_at : ∀ (ps : List (SegV × Value)) (i : Nat) (q : SegV × Value), ps[i]? = some q → ∀ (j : Nat) (u : Value), (segC q.1 q.2)[j]? = some u → (flatS ps)[i * 3 + j]? = some u
  | [], i, q, h, _, _, _ => by simp at h
  | x :: r, 0, q, h, j, u, hj => by
    have : x = q := by simpa using h
    subst this
    unfold flatS
    rw [List.flatMap_cons, Nat.zero_mul, Nat.zero_add, List.getElem?_append_left (List.getElem?_eq_some_iff.1 hj).1]
    exact hj
  | x :: r, i + 1, q, h, j, u, hj => by
    have := flatS_at r i q (by simpa using h) j u hj
    unfold flatS at this ⊢
    rw [List.flatMap_cons, List.getElem?_append_right (by simp [segC]; omega), show (i + 1) * 3 + j - (segC x.1 x.2).length = i * 3 + j by simp [segC]; omega]
    exact this
/-- Read from a row of operations. -/
def OpsRd (W : World) (u : Value) (l : List OpV) : Prop := OpsOf W u l ∧ ∀ b, u.ownBlock = some b → ∃ cur, W.heap[b]? = some (.cells cur 43 (0, 0))
theorem OpsRd.one {W : World} {u : Value} {l : List OpV} (h : OpsRd W u l) : u.oneCell' = true := by
  obtain ⟨ao, cap, rfl⟩ := h.1.len
  rfl
theorem OpsRd.keep {W W' : World} {u : Value} {l : List OpV} (h : OpsRd W u l) (hs : W.heap.size ≤ W'.heap.size) (hk : ∀ b, u.ownBlock = some b → W'.heap[b]? = W.heap[b]?) : OpsRd W' u l := by
  obtain ⟨⟨h1, hw⟩, h2⟩ := h
  refine ⟨⟨?_, hw⟩, fun b hb => by rw [hk b hb]; exact h2 b hb⟩
  rcases h1 with c | ⟨b, p, cap, rfl, hlt, h0, hr⟩
  · exact .inl c
  · exact .inr ⟨b, p, cap, rfl, Nat.lt_of_lt_of_le hlt hs, h0, fun i o hi j x hj => (World.cell?_of_block (a := ⟨b, p + i * 11 + j, none⟩) (hk b rfl)).trans (hr i o hi j x hj)⟩
theorem OpsRd.on {W W' : World} {u : Value} {l : List OpV} (h : OpsRd W u l) (hb : Below W.heap.size W W') : OpsRd W' u l :=
  h.keep hb.size fun b hu => by
    obtain ⟨cur, hc⟩ := h.2 b hu
    exact hb.block b (heap_inO hc)
theorem OpsRd.grown {W W' : World} {u : Value} {l : List OpV} {row : Option Nat} (h : OpsRd W u l) (hg : W.grownBy W' row) (hn : u.ownBlock = none ∨ u.ownBlock ≠ row) : OpsRd W' u l :=
  h.keep hg.size fun b hu => by
    obtain ⟨cur, hc⟩ := h.2 b hu
    refine hg.block b (heap_inO hc) fun e => ?_
    rcases hn with h | h
    · rw [h] at hu; cases hu
    · rw [hu] at h; exact h e
theorem OpsOwn.rd {n₀ : Nat} {W : World} {u : Value} {l : List OpV} (h : OpsOwn n₀ W u l) (hw : ∀ o ∈ l, o.Wf) : OpsRd W u l := by
  refine ⟨h.reads hw, fun b hb => ?_⟩
  rcases h.2 with ⟨rfl, _⟩ | ⟨g, cap, cur, rfl, hn, hg, _⟩
  · cases hb
  · have : g = b := by simpa [Value.ownBlock] using hb
    exact ⟨cur, this ▸ hg⟩
/-- A list of segments of the call's own, and known blocks beside. -/
structure SegM (w0 W : World) (v : Value) (ps : List (SegV × Value)) (R : List (Nat × Obj)) : Prop where
  below : Below w0.heap.size w0 W
  row : W.ownsRow w0.heap.size 24 3 v ps.length (flatS ps)
  rd : ∀ q ∈ ps, OpsRd W q.2 q.1.ops
  keep : ∀ x ∈ R, W.heap[x.1]? = some x.2 ∧ v.ownBlock ≠ some x.1
/-- The last segment's operations are a row of the call's own, apart from all else. -/
structure LastM (w0 W : World) (init : List (SegV × Value)) (q : SegV × Value) (R : List (Nat × Obj)) : Prop where
  own : OpsOwn w0.heap.size W q.2 q.1.ops
  apart : ∀ p ∈ init, p.2.ownBlock = none ∨ p.2.ownBlock ≠ q.2.ownBlock
  keep : ∀ x ∈ R, q.2.ownBlock ≠ some x.1
  olds : ∀ p ∈ init, OpsOwn w0.heap.size W p.2 p.1.ops
  pw : init.Pairwise fun p r => p.2.ownBlock = none ∨ p.2.ownBlock ≠ r.2.ownBlock
theorem SegM.lt {w0 W : World} {v : Value} {ps : List (SegV × Value)} {R : List (Nat × Obj)} (h : SegM w0 W v ps R) {x : Nat × Obj} (hx : x ∈ R) : x.1 < W.heap.size := heap_inO (h.keep x hx).1
theorem SegM.mem {w0 W : World} {v : Value} {ps : List (SegV × Value)} {R : List (Nat × Obj)} (h : SegM w0 W v ps R) {x : Nat × Obj} (hx : x ∈ R) : W.heap[x.1]? = some x.2 := (h.keep x hx).1
theorem SegM.sub {w0 W : World} {v : Value} {ps : List (SegV × Value)} {R R' : List (Nat × Obj)} (h : SegM w0 W v ps R) (hs : ∀ x ∈ R', x ∈ R) : SegM w0 W v ps R' := ⟨h.below, h.row, h.rd, fun x hx => h.keep x (hs x hx)⟩
theorem LastM.sub {w0 W : World} {init : List (SegV × Value)} {q : SegV × Value} {R R' : List (Nat × Obj)} (h : LastM w0 W init q R) (hs : ∀ x ∈ R', x ∈ R) : LastM w0 W init q R' := ⟨h.own, h.apart, fun x hx => h.keep x (hs x hx), h.olds, h.pw⟩
theorem SegM.on {w0 W W' : World} {v : Value} {ps : List (SegV × Value)} {R : List (Nat × Obj)} (h : SegM w0 W v ps R) (hb : Below W.heap.size W W') : SegM w0 W' v ps R :=
  ⟨h.below.on hb, h.row.kept (row := none) ⟨hb.os, hb.tape, hb.output, hb.size, fun k hk _ => hb.block k hk⟩ (by cases h : v.ownBlock <;> simp), fun q hq => (h.rd q hq).on hb, fun x hx => ⟨(hb.block x.1 (h.lt hx)).trans (h.keep x hx).1, (h.keep x hx).2⟩⟩
theorem LastM.on {w0 W W' : World} {init : List (SegV × Value)} {q : SegV × Value} {R : List (Nat × Obj)} (h : LastM w0 W init q R) (hb : Below W.heap.size W W') : LastM w0 W' init q R := ⟨h.own.on hb, h.apart, h.keep, fun p hp => (h.olds p hp).on hb, h.pw⟩
theorem own_lt {n₀ : Nat} {W : World} {v : Value} {l : List OpV} (h : OpsOwn n₀ W v l) {b : Nat} (hb : v.ownBlock = some b) : n₀ ≤ b ∧ b < W.heap.size := World.ownsRow.lt h b hb
/-- A block more that is known. -/
theorem SegM.push {w0 W : World} {v : Value} {ps : List (SegV × Value)} {R : List (Nat × Obj)} (h : SegM w0 W v ps R) (o : Obj) : SegM w0 (W.alloc o) v ps ((W.heap.size, o) :: R) := by
  have hb : Below W.heap.size W (W.alloc o) := by go_grown
  have h1 := h.on hb
  refine ⟨h1.below, h1.row, h1.rd, fun x hx => ?_⟩
  rcases List.mem_cons.1 hx with rfl | hx
  · exact ⟨heap_alloc_new W o, fun e => by have := (h.row.lt _ e).2; simp only at this; omega⟩
  · exact h1.keep x hx
theorem LastM.push {w0 W : World} {init : List (SegV × Value)} {q : SegV × Value} {R : List (Nat × Obj)} (h : LastM w0 W init q R) (o : Obj) : LastM w0 (W.alloc o) init q ((W.heap.size, o) :: R) := by
  have hb : Below W.heap.size W (W.alloc o) := by go_grown
  refine ⟨h.own.on hb, h.apart, fun x hx => ?_, fun p hp => (h.olds p hp).on hb, h.pw⟩
  rcases List.mem_cons.1 hx with rfl | hx
  · exact fun e => by have := (own_lt h.own e).2; simp only at this; omega
  · exact h.keep x hx
/-- A known block of operations is written anew. -/
theorem SegM.setR {w0 W : World} {v : Value} {ps : List (SegV × Value)} {R : List (Nat × Obj)} {b : Nat} {c : Array Value} (h : SegM w0 W v ps ((b, .cells c 43 (0, 0)) :: R)) (hq : ∀ q ∈ ps, q.2.ownBlock ≠ some b) (hR : ∀ x ∈ R, x.1 ≠ b) (hlo : w0.heap.size ≤ b) (hc : c.size = 11) (o : OpV) :
    ∃ W', (storeS 43 (.pointer (some ⟨b, 0, none⟩)) (Value.agg #[Value.int .i64 o.id, Value.int .i64 o.proc, Value.int .i64 o.obj, Value.int .i64 o.kind, Value.int .i64 o.meth, Value.int .i64 o.arg, Value.int .i64 o.sec, Value.bool o.done, Value.int .i64 o.res, Value.int .i64 o.inv, Value.int .i64 o.ret])).run Try.prog W = .ok () W' ∧ SegM w0 W' v ps ((b, .cells #[Value.int .i64 o.id, Value.int .i64 o.proc, Value.int .i64 o.obj, Value.int .i64 o.kind, Value.int .i64 o.meth, Value.int .i64 o.arg, Value.int .i64 o.sec, Value.bool o.done, Value.int .i64 o.res, Value.int .i64 o.inv, Value.int .i64 o.ret] 43 (0, 0)) :: R) ∧ W.grownBy W' (some b) ∧ W'.heap.size = W.heap.size := by
  have hm := h.mem (x := (b, .cells c 43 (0, 0))) List.mem_cons_self
  have hvb := (h.keep (b, .cells c 43 (0, 0)) List.mem_cons_self).2
  have hg : W.grownBy (W.setRow b #[Value.int .i64 o.id, Value.int .i64 o.proc, Value.int .i64 o.obj, Value.int .i64 o.kind, Value.int .i64 o.meth, Value.int .i64 o.arg, Value.int .i64 o.sec, Value.bool o.done, Value.int .i64 o.res, Value.int .i64 o.inv, Value.int .i64 o.ret]) (some b) := ⟨rfl, rfl, rfl, by simp, fun k _ hk => setRow_other _ _ _ _ (fun e => hk (by rw [e]))⟩
  refine ⟨W.setRow b #[Value.int .i64 o.id, Value.int .i64 o.proc, Value.int .i64 o.obj, Value.int .i64 o.kind, Value.int .i64 o.meth, Value.int .i64 o.arg, Value.int .i64 o.sec, Value.bool o.done, Value.int .i64 o.res, Value.int .i64 o.inv, Value.int .i64 o.ret], store_op hm hc o, ⟨h.below.grown hg h.below.size (fun k e => by cases e; exact hlo), h.row.kept hg (by right; exact hvb), fun q hq' => (h.rd q hq').grown hg (.inr (hq q hq')), fun x hx => ?_⟩, hg, by simp⟩
  rcases List.mem_cons.1 hx with rfl | hx
  · exact ⟨setRow_heap _ _ _ _ _ _ hm, hvb⟩
  · exact ⟨(setRow_other _ _ _ _ (hR x hx)).trans (h.keep x (List.mem_cons_of_mem _ hx)).1, (h.keep x (List.mem_cons_of_mem _ hx)).2⟩
theorem LastM.grown {w0 W W' : World} {init : List (SegV × Value)} {q : SegV × Value} {R : List (Nat × Obj)} {b : Nat} (h : LastM w0 W init q R) (hg : W.grownBy W' (some b)) (hb : q.2.ownBlock ≠ some b) (hp : ∀ p ∈ init, p.2.ownBlock ≠ some b) : LastM w0 W' init q R := ⟨World.ownsRow.kept h.own hg (.inr hb), h.apart, h.keep, fun p hi => World.ownsRow.kept (h.olds p hi) hg (.inr (hp p hi)), h.pw⟩
/-- An append to a list of segments, as one action. -/
def appSS (vs : Array Value) : Sem Value := Builtin.append_ #[30, 30] 30 vs
theorem app_seg (vs : Array Value) : Builtin.append_ #[30, 30] 30 vs = appSS vs := rfl
theorem info_seg : (Try.prog.info? 24).map (fun i => (i.zero, i.size, i.bytes)) = some (some (.agg #[.int .i64 0, .int .i64 0, .slice none 0 0]), 3, 40) := by kernel_rfl
theorem SegM.start {w0 : World} : SegM w0 w0 (.slice none 0 0) [] [] := ⟨Below.refl _ _, World.ownsRow_nil _ _ _ _, (fun q hq => by cases hq), fun x hx => by cases hx⟩
theorem seg_ne {w0 W : World} {v : Value} {ps : List (SegV × Value)} {R : List (Nat × Obj)} (h : SegM w0 W v ps R) {u : Value} {l : List OpV} (hu : OpsRd W u l) : u.ownBlock = none ∨ u.ownBlock ≠ v.ownBlock := by
  cases hb : u.ownBlock with
  | none => exact .inl rfl
  | some b =>
    right
    obtain ⟨cur, hc⟩ := hu.2 b hb
    rcases h.row.2 with ⟨rfl, _⟩ | ⟨g, cap, cur', rfl, hn, hg, _⟩
    · intro e; cases e
    · intro e
      have : b = g := by simpa [Value.ownBlock] using e
      subst this
      rw [hc] at hg
      exact absurd (show 43 = 24 from by injection hg with hg; injection hg) (by decide)
set_option maxHeartbeats 1000000 in
/-- A segment more. -/
theorem SegM.app {w0 W : World} {v : Value} {ps : List (SegV × Value)} {R : List (Nat × Obj)} (h : SegM w0 W v ps R) (s : SegV) {u : Value} (hu : OpsRd W u s.ops) (hlen : ps.length ≤ 65536) :
    ∃ g cap W', (appSS #[v, .slice (some ⟨W.heap.size, 0, none⟩) 1 1]).run Try.prog (W.alloc (.cells #[.int .i64 s.obj, .int .i64 s.kind, u] 24)) = .ok (.slice (some ⟨g, 0, none⟩) (ps.length + 1) cap) W' ∧
      SegM w0 W' (.slice (some ⟨g, 0, none⟩) (ps.length + 1) cap) (ps ++ [(s, u)]) R ∧ W.heap.size ≤ W'.heap.size ∧ (∀ k, k < W.heap.size → v.ownBlock ≠ some k → W'.heap[k]? = W.heap[k]?) := by
  obtain ⟨i0, hi, hz0, hz1, hz2⟩ := info_parts info_seg
  have hq := heap_alloc_new W (.cells #[.int .i64 s.obj, .int .i64 s.kind, u] 24)
  have hba : Below W.heap.size W (W.alloc (.cells #[.int .i64 s.obj, .int .i64 s.kind, u] 24)) := by go_grown
  have hn := h.below.size
  obtain ⟨g, cap, w2, hrn, h2, h3, h4, _⟩ := run_append_lies (P := Try.prog) (w := W.alloc (.cells #[.int .i64 s.obj, .int .i64 s.kind, u] 24)) 30 30 w0.heap.size 24 i0 _ 3 40 Try.underlying30 hi hz0 hz1 hz2 (by simp [Value.cells]) (by decide) v ps.length (flatS ps) (World.ownsRow.alloc h.row _) ⟨W.heap.size, 0, none⟩ 1 1 (flatS [(s, u)]) rfl
    (World.news_of_block hq) (fun x hx => by
      simp only [flatS, List.flatMap_cons, List.flatMap_nil, List.append_nil, segC, List.mem_cons, List.not_mem_nil, or_false] at hx
      rcases hx with rfl | rfl | rfl
      · rfl
      · rfl
      · exact hu.one) (by decide) (by unfold maxLen; omega) (by omega) (by rw [World.size_alloc]; omega) _ rfl
  have hoth : ∀ k, k < W.heap.size → v.ownBlock ≠ some k → w2.heap[k]? = W.heap[k]? := fun k hk hne => (h3.block k (Nat.lt_of_lt_of_le hk hba.size) (fun e => hne e.symm)).trans (hba.block k hk)
  have hsz : W.heap.size ≤ w2.heap.size := Nat.le_trans hba.size h3.size
  have hg2 : W.grownBy w2 v.ownBlock := ⟨h3.os.trans hba.os, h3.tape.trans hba.tape, h3.output.trans hba.output, hsz, fun k hk hne => hoth k hk (fun e => hne e.symm)⟩
  refine ⟨g, cap, w2, hrn, ⟨h.below.grown hg2 h.below.size (fun k e => (h.row.lt k e).1), by rw [List.length_append, flatS_app]; exact h2, fun q hq => ?_, fun x hx => ⟨(hoth x.1 (h.lt hx) (h.keep x hx).2).trans (h.keep x hx).1, fun e => ?_⟩⟩, hsz, hoth⟩
  · rcases List.mem_append.1 hq with hq | hq
    · exact (h.rd q hq).grown hg2 (seg_ne h (h.rd q hq))
    · rw [List.mem_singleton] at hq
      subst hq
      exact hu.grown hg2 (seg_ne h hu)
  · have e : g = x.1 := by simpa [Value.ownBlock] using e
    rcases h4 with h5 | h5
    · exact (h.keep x hx).2 (by rw [h5, e])
    · have := h.lt hx
      rw [World.size_alloc] at h5
      omega
theorem LastM.new {w0 W : World} {init : List (SegV × Value)} {s : SegV} {R : List (Nat × Obj)} (hs : s.ops = []) (ho : ∀ p ∈ init, OpsOwn w0.heap.size W p.2 p.1.ops) (hp : init.Pairwise fun p r => p.2.ownBlock = none ∨ p.2.ownBlock ≠ r.2.ownBlock) : LastM w0 W init (s, .slice none 0 0) R :=
  ⟨by rw [hs]; exact World.ownsRow_nil _ _ _ _, fun p _ => by cases p.2.ownBlock <;> simp [Value.ownBlock], (fun x _ e => by cases e), ho, hp⟩
/-- All segments' operations are rows of the call's own, and apart. -/
structure AprS (n₀ : Nat) (W : World) (ps : List (SegV × Value)) : Prop where
  own : ∀ q ∈ ps, OpsOwn n₀ W q.2 q.1.ops
  pw : ps.Pairwise fun p r => p.2.ownBlock = none ∨ p.2.ownBlock ≠ r.2.ownBlock
theorem LastM.all {w0 W : World} {init : List (SegV × Value)} {q : SegV × Value} {R : List (Nat × Obj)} (h : LastM w0 W init q R) : AprS w0.heap.size W (init ++ [q]) := by
  refine ⟨fun p hp => ?_, ?_⟩
  · rcases List.mem_append.1 hp with hp | hp
    · exact h.olds p hp
    · rw [List.mem_singleton.1 hp]; exact h.own
  · rw [List.pairwise_append]
    exact ⟨h.pw, by simp, fun a ha b hb => by rw [List.mem_singleton.1 hb]; exact h.apart a ha⟩
theorem AprS.app {n₀ : Nat} {w0 W W' : World} {v : Value} {ps : List (SegV × Value)} {R : List (Nat × Obj)} (h : AprS n₀ W ps) (hm : SegM w0 W v ps R) (hb : W.os = W'.os ∧ W.tape = W'.tape ∧ W.output = W'.output) (hs : W.heap.size ≤ W'.heap.size) (ho : ∀ k, k < W.heap.size → v.ownBlock ≠ some k → W'.heap[k]? = W.heap[k]?) : AprS n₀ W' ps :=
  ⟨fun q hq => World.ownsRow.kept (h.own q hq) (show W.grownBy W' v.ownBlock from ⟨hb.1.symm, hb.2.1.symm, hb.2.2.symm, hs, fun k hk hne => ho k hk fun e => hne e.symm⟩) (seg_ne hm (hm.rd q hq)), h.pw⟩
theorem rd_nil (W : World) : OpsRd W (.slice none 0 0) [] := ⟨⟨.inl ⟨rfl, _, _, rfl⟩, by simp⟩, fun b hb => by cases hb⟩
end Cu
end Go.Proofs.Ytppjmmdiglnkfaa
namespace Go.Proofs.Ytppjmmdiglnkfaa
set_option maxRecDepth 100000
open Go.ChangeShapes Go.WideShapes Go.ChangeAt Go.RowKit Go.PlainAid Go.Deep Go.Shelf
namespace Cu
attribute [local go_sem ↓ high] load_op store_o app_opO
def SegV.add (s : SegV) (o : OpV) : SegV := ⟨s.obj, s.kind, s.ops ++ [o]⟩
theorem SegM.at {w0 W : World} {v : Value} {ps : List (SegV × Value)} {R : List (Nat × Obj)} (h : SegM w0 W v ps R) (h0 : 0 < ps.length) : ∃ g cap, v = .slice (some ⟨g, 0, none⟩) ps.length cap ∧ g < W.heap.size ∧ ∀ (i : Nat) (q : SegV × Value), ps[i]? = some q → ∀ (j : Nat) (x : Value), (segC q.1 q.2)[j]? = some x → W.cell? ⟨g, i * 3 + j, none⟩ = some x ∧ W.frozen? ⟨g, i * 3 + j, none⟩ = false := by
  obtain ⟨_, hh⟩ := h.row
  rcases hh with ⟨rfl, h1⟩ | ⟨g, cap, cur, rfl, hn, hg, hl, hc, hsz, ht⟩
  · omega
  · refine ⟨g, cap, rfl, heap_inO hg, fun i q hq j x hx => ⟨?_, frozen_of_row _ _ _ _ _ hg⟩⟩
    have := flatS_at ps i q hq j x hx
    rw [cell_of_row _ _ _ _ _ _ hg, ← Array.getElem?_toList]
    rw [← ht, List.getElem?_take] at this
    split at this
    · exact this
    · cases this
theorem flatS_set (init : List (SegV × Value)) (s s' : SegV) (u u' : Value) (h1 : s.obj = s'.obj) (h2 : s.kind = s'.kind) : (flatS (init ++ [(s, u)])).set (init.length * 3 + 2) u' = flatS (init ++ [(s', u')]) := by
  rw [flatS_app, flatS_app, List.set_append_right _ _ (by rw [flatS_len]; omega), flatS_len, show init.length * 3 + 2 - init.length * 3 = 2 by omega]
  simp [flatS, segC, h1, h2]
theorem ops_lies {n₀ : Nat} {W : World} {u : Value} {l : List OpV} {o : OpV} {vb : Nat} (h : OpsOwn n₀ W u l) (hv : OpAt W vb o) (hn : n₀ ≤ W.heap.size) (hl : l.length ≤ 65536) :
    ∃ g cap W', (appOO #[u, .slice (some ⟨vb, 0, none⟩) 1 1]).run Try.prog W = .ok (.slice (some ⟨g, 0, none⟩) (l.length + 1) cap) W' ∧ OpsOwn n₀ W' (.slice (some ⟨g, 0, none⟩) (l.length + 1) cap) (l ++ [o]) ∧ W.grownBy W' u.ownBlock ∧ (u.ownBlock = some g ∨ g = W.heap.size) := by
  obtain ⟨i0, hi, hz0, hz1, hz2⟩ := info_parts info_op
  obtain ⟨g, cap, w2, hrn, h2, h3, h4, _⟩ := run_append_lies (P := Try.prog) (w := W) 22 22 n₀ 43 i0 _ 11 88 Try.underlying22 hi hz0 hz1 hz2 (by simp [Value.cells]) (by decide) u l.length (flatO l) h ⟨vb, 0, none⟩ 1 1 (flatO [o]) rfl
    (World.news_of_block (cs := #[Value.int .i64 o.id, Value.int .i64 o.proc, Value.int .i64 o.obj, Value.int .i64 o.kind, Value.int .i64 o.meth, Value.int .i64 o.arg, Value.int .i64 o.sec, Value.bool o.done, Value.int .i64 o.res, Value.int .i64 o.inv, Value.int .i64 o.ret]) hv) (flatO_one [o]) (by decide) (by unfold maxLen; omega) (by omega) hn _ rfl
  refine ⟨g, cap, w2, hrn, ?_, h3, h4⟩
  unfold OpsOwn
  rw [List.length_append, show flatO (l ++ [o]) = flatO l ++ flatO [o] by unfold flatO; rw [List.flatMap_append]]
  exact h2
set_option maxHeartbeats 1000000 in
/-- An operation more behind the last segment's. -/
theorem SegM.put {w0 W : World} {v : Value} {init : List (SegV × Value)} {s : SegV} {u : Value} {R : List (Nat × Obj)} (h : SegM w0 W v (init ++ [(s, u)]) R) (hl : LastM w0 W init (s, u) R) {vb : Nat} {o : OpV} (hv : OpAt W vb o) (ho : o.Wf) (hlen : s.ops.length ≤ 65536) :
    ∃ g cap g' cap' W1, v = .slice (some ⟨g, 0, none⟩) (init.length + 1) cap ∧ (appOO #[u, .slice (some ⟨vb, 0, none⟩) 1 1]).run Try.prog W = .ok (.slice (some ⟨g', 0, none⟩) (s.ops.length + 1) cap') W1 ∧
      (∃ x, W1.cell? ⟨g, init.length * 3 + 2, none⟩ = some x) ∧ W1.frozen? ⟨g, init.length * 3 + 2, none⟩ = false ∧
      SegM w0 (W1.setCell ⟨g, init.length * 3 + 2, none⟩ (.slice (some ⟨g', 0, none⟩) (s.ops.length + 1) cap')) v (init ++ [(s.add o, .slice (some ⟨g', 0, none⟩) (s.ops.length + 1) cap')]) R ∧
      LastM w0 (W1.setCell ⟨g, init.length * 3 + 2, none⟩ (.slice (some ⟨g', 0, none⟩) (s.ops.length + 1) cap')) init (s.add o, .slice (some ⟨g', 0, none⟩) (s.ops.length + 1) cap') R := by
  obtain ⟨g', cap', W1, hrun, hown, hgr, hlies⟩ := ops_lies hl.own hv h.below.size hlen
  have hune := seg_ne h (h.rd (s, u) (by simp))
  have hrow1 : W1.ownsRow w0.heap.size 24 3 v (init ++ [(s, u)]).length (flatS (init ++ [(s, u)])) := h.row.kept hgr (by
    rcases hune with e | e
    · rw [show (s, u).2 = u from rfl] at e; rw [e]; cases v.ownBlock <;> simp
    · exact .inr (Ne.symm e))
  have hlast : (s.add o).ops = s.ops ++ [o] := rfl
  have hwf : ∀ x ∈ s.ops ++ [o], x.Wf := fun x hx => by
    rcases List.mem_append.1 hx with hx | hx
    · exact (h.rd (s, u) (by simp)).1.2 x hx
    · rw [List.mem_singleton.1 hx]; exact ho
  have hsz1 := hgr.size
  have hb1 : Below w0.heap.size w0 W1 := h.below.grown hgr h.below.size (fun k e => (own_lt hl.own e).1)
  have hblk : ∀ p ∈ init, ∀ b, p.2.ownBlock = some b → b ≠ g' := fun p hp b hb e => by
    subst e
    rcases hlies with e | e
    · rcases hl.apart p hp with c | c
      · rw [hb] at c; cases c
      · exact c (by rw [hb, e])
    · obtain ⟨cur, hc⟩ := (h.rd p (by simp [hp])).2 b hb
      have := heap_inO hc
      omega
  have hinit : ∀ p ∈ init, OpsRd W1 p.2 p.1.ops := fun p hp => (h.rd p (by simp [hp])).grown hgr (hl.apart p hp)
  have hkeep : ∀ x ∈ R, W1.heap[x.1]? = some x.2 ∧ x.1 ≠ g' := fun x hx => ⟨(hgr.block x.1 (h.lt hx) (fun e => hl.keep x hx e.symm)).trans (h.mem hx), fun e => by
    rcases hlies with c | c
    · exact hl.keep x hx (by rw [e]; exact c)
    · have := h.lt hx; omega⟩
  obtain ⟨hfl, hh⟩ := hrow1
  rcases hh with ⟨rfl, h1⟩ | ⟨g, cap, cur, rfl, hn, hg, hle, hc, hsz, ht⟩
  · simp at h1
  · have hlen1 : (init ++ [(s, u)]).length = init.length + 1 := by simp
    rw [hlen1] at hle ht hfl
    rcases hown.2 with ⟨e, _⟩ | ⟨g2, c2, cur2, e, hn2, hg2, r2⟩
    · cases e
    · obtain rfl : g' = g2 := (Addr.mk.inj (Option.some.inj (Value.slice.inj e).1)).1
      have hgg : g' ≠ g := fun e => by
        subst e
        rw [hg] at hg2
        exact absurd (show 24 = 43 from by injection hg2 with hg2; injection hg2) (by decide)
      have hck : init.length * 3 + 2 < cur.size := by rw [hsz]; omega
      have hG : W1.grownBy (W1.setCell ⟨g, init.length * 3 + 2, none⟩ (.slice (some ⟨g', 0, none⟩) (s.ops.length + 1) cap')) (some g) := ⟨rfl, rfl, rfl, by simp, fun k _ hk => heap_setCell_other _ _ _ _ (fun e => hk (by rw [e]))⟩
      have hOwn : OpsOwn w0.heap.size (W1.setCell ⟨g, init.length * 3 + 2, none⟩ (.slice (some ⟨g', 0, none⟩) (s.ops.length + 1) cap')) (.slice (some ⟨g', 0, none⟩) (s.ops.length + 1) cap') (s.ops ++ [o]) := World.ownsRow.kept hown hG (.inr (by simpa [Value.ownBlock] using hgg))
      refine ⟨g, cap, g', cap', W1, by rw [hlen1], hrun, ⟨_, by rw [cell_of_row _ _ _ _ _ _ hg, Array.getElem?_eq_getElem hck]⟩, frozen_of_row _ _ _ _ _ hg, ⟨hb1.grown hG hb1.size (fun k e => by cases e; exact hn), ?_, fun q hq => ?_, fun x hx => ⟨(hG.block x.1 (Nat.lt_of_lt_of_le (h.lt hx) hsz1) (fun e => ?_)).trans (hkeep x hx).1, (h.keep x hx).2⟩⟩, ⟨hOwn, fun p hp => ?_, fun x hx e => ?_, fun p hp => ?_, hl.pw⟩⟩
      · refine ⟨by rw [flatS_len], .inr ⟨g, cap, cur.setIfInBounds (init.length * 3 + 2) (.slice (some ⟨g', 0, none⟩) (s.ops.length + 1) cap'), by simp, hn, heap_setCell_same _ _ _ _ _ _ hg, by simpa using hle, hc, by simp [hsz], ?_⟩⟩
        rw [← flatS_set init s (s.add o) u _ rfl rfl, ← ht, Array.toList_setIfInBounds]
        simp only [List.length_append, List.length_cons, List.length_nil]
        first | done | rw [List.take_set]
      · rcases List.mem_append.1 hq with hq | hq
        · refine (hinit q hq).grown hG ?_
          cases hb : q.2.ownBlock with
          | none => exact .inl rfl
          | some b =>
            right
            intro e
            cases e
            obtain ⟨cur', hc'⟩ := (hinit q hq).2 _ hb
            rw [hg] at hc'
            exact absurd (show 24 = 43 from by injection hc' with hc'; injection hc') (by decide)
        · rw [List.mem_singleton] at hq
          subst hq
          exact OpsOwn.rd hOwn hwf
      · have := (h.keep x hx).2
        simp [Value.ownBlock] at this
        cases e
        exact this rfl
      · cases hb : p.2.ownBlock with
        | none => exact .inl rfl
        | some b => exact .inr (by simpa [Value.ownBlock] using hblk p hp b hb)
      · have e : g' = x.1 := by simpa [Value.ownBlock] using e
        exact (hkeep x hx).2 e.symm
      · have h1 := World.ownsRow.kept (hl.olds p hp) hgr (hl.apart p hp)
        refine World.ownsRow.kept h1 hG ?_
        cases hb : p.2.ownBlock with
        | none => exact .inl rfl
        | some b =>
          right
          intro e
          cases e
          obtain ⟨cur', hc'⟩ := (hinit p hp).2 _ hb
          rw [hg] at hc'
          exact absurd (show 24 = 43 from by injection hc' with hc'; injection hc') (by decide)
set_option maxHeartbeats 4000000 in
theorem put_any {w0 W : World} {v : Value} {init : List (SegV × Value)} {s : SegV} {u : Value} {R : List (Nat × Obj)} (h : SegM w0 W v (init ++ [(s, u)]) R) (hl : LastM w0 W init (s, u) R) (o : OpV) (ho : o.Wf) (hin : init.length ≤ 65536) (hlen : s.ops.length ≤ 65536) :
    Calls Try.prog 58 #[v, Value.agg #[Value.int .i64 o.id, Value.int .i64 o.proc, Value.int .i64 o.obj, Value.int .i64 o.kind, Value.int .i64 o.meth, Value.int .i64 o.arg, Value.int .i64 o.sec, Value.bool o.done, Value.int .i64 o.res, Value.int .i64 o.inv, Value.int .i64 o.ret]] W fun e W' => e = .returned (.tuple #[]) ∧ ∃ u', SegM w0 W' v (init ++ [(s.add o, u')]) R ∧ LastM w0 W' init (s.add o, u') R := by
  have mixed := mixed
  have h1 := h.push (.cells #[Value.int .i64 o.id, Value.int .i64 o.proc, Value.int .i64 o.obj, Value.int .i64 o.kind, Value.int .i64 o.meth, Value.int .i64 o.arg, Value.int .i64 o.sec, Value.bool o.done, Value.int .i64 o.res, Value.int .i64 o.inv, Value.int .i64 o.ret] 43 (0, 0))
  have l1 := hl.push (.cells #[Value.int .i64 o.id, Value.int .i64 o.proc, Value.int .i64 o.obj, Value.int .i64 o.kind, Value.int .i64 o.meth, Value.int .i64 o.arg, Value.int .i64 o.sec, Value.bool o.done, Value.int .i64 o.res, Value.int .i64 o.inv, Value.int .i64 o.ret] 43 (0, 0))
  obtain ⟨W0, hW0⟩ : ∃ w, W.alloc (.cells #[Value.int .i64 o.id, Value.int .i64 o.proc, Value.int .i64 o.obj, Value.int .i64 o.kind, Value.int .i64 o.meth, Value.int .i64 o.arg, Value.int .i64 o.sec, Value.bool o.done, Value.int .i64 o.res, Value.int .i64 o.inv, Value.int .i64 o.ret] 43) = w := ⟨_, rfl⟩
  rw [hW0] at h1 l1
  have h2 := (h1.push (.cells #[Value.int .i64 o.id, Value.int .i64 o.proc, Value.int .i64 o.obj, Value.int .i64 o.kind, Value.int .i64 o.meth, Value.int .i64 o.arg, Value.int .i64 o.sec, Value.bool o.done, Value.int .i64 o.res, Value.int .i64 o.inv, Value.int .i64 o.ret] 43 (0, 0))).on (below_drew _)
  have l2 := (l1.push (.cells #[Value.int .i64 o.id, Value.int .i64 o.proc, Value.int .i64 o.obj, Value.int .i64 o.kind, Value.int .i64 o.meth, Value.int .i64 o.arg, Value.int .i64 o.sec, Value.bool o.done, Value.int .i64 o.res, Value.int .i64 o.inv, Value.int .i64 o.ret] 43 (0, 0))).on (below_drew _)
  have h1 := h1.on (below_drew _)
  obtain ⟨g, cap, g', cap', W1, rfl, hrun, ⟨x, hx⟩, hfx, h3, l3⟩ := h2.put l2 (vb := W0.heap.size) (o := o) (h2.mem List.mem_cons_self) ho hlen
  have hq : (init ++ [(s, u)])[init.length]? = some (s, u) := by simp
  obtain ⟨ga, _, e1, _, c1⟩ := h1.at (by simp)
  obtain rfl : g = ga := (Addr.mk.inj (Option.some.inj (Value.slice.inj e1).1)).1
  obtain ⟨gb, _, e2, _, c2⟩ := h2.at (by simp)
  obtain rfl : g = gb := (Addr.mk.inj (Option.some.inj (Value.slice.inj e2).1)).1
  clear e1 e2
  have k1 := (c1 _ _ hq 2 u rfl).1
  have k2 := (c2 _ _ hq 2 u rfl).1
  have m1 := OpAt.load (o := o) (h1.mem List.mem_cons_self)
  have m2 := OpAt.load (o := o) (h2.mem (List.mem_cons_of_mem _ List.mem_cons_self))
  simp only at m1 m2
  have HE := Lib.hid (And.intro (h3.sub (R' := R) fun x hx => by simp [hx]) (l3.sub (R' := R) fun x hx => by simp [hx]))
  have q1 : IntKind.i64.wrap ((init.length : Int) + 1 - 1) = (init.length : Int) := by rw [IntWalk.i64_in _ (by omega)]; omega
  have q2 : (init.length : Int) < (init.length : Int) + 1 := by omega
  clear h1 l1 h2 l2 c1 c2 hq h3 l3 h hl
  go_enter Try.func58, Try.ntmps58
  go_wp2_with fail
  go_big_region_o
  all_goals go_wp2_with fail
  go_returns
  exact ⟨rfl, _, HE.out.1, HE.out.2⟩
end Cu
end Go.Proofs.Ytppjmmdiglnkfaa
