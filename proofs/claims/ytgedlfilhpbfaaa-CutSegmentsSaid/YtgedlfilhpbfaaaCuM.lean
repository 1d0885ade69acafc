/- Lists of segments in memory. -/
import Derived.Test.YtgedlfilhpbfaaaCuI
import Derived.Deep.AppendLies
namespace Go.Proofs.Ytgedlfilhpbfaaa
set_option maxRecDepth 100000
open Go.ChangeShapes Go.WideShapes Go.ChangeAt Go.RowKit Go.PlainAid Go.Deep
namespace Cu
/-- A segment, as data. -/
structure SegV where
  obj : Int
  kind : Int
  ops : List OpV
def segC (s : SegV) (u : Value) : List Value := [.int .i64 s.obj, .int .i64 s.kind, u]
def flatS (ps : List (SegV × Value)) : List Value := ps.flatMap fun q => segC q.1 q.2
theorem flatS_len : ∀ ps : List (SegV × Value), (flatS ps).length = ps.length * 3
  | [] => rfl
  | q :: r => by
    have := flatS_len r
    unfold flatS at this ⊢
    rw [List.flatMap_cons, List.length_append, this, List.length_cons]
    simp only [segC, List.length_cons, List.length_nil]
    omega
theorem flatS_app (a b : List (SegV × Value)) : flatS (a ++ b) = flatS a ++ flatS b := by unfold flatS; rw [List.flatMap_append]
theorem flatS_at : ∀ (ps : List (SegV × Value)) (i : Nat) (q : SegV × Value), ps[i]? = some q → ∀ (j : Nat) (u : Value), (segC q.1 q.2)[j]? = some u → (flatS ps)[i * 3 + j]? = some u
  | [], i, q, h, _, _, _ => by simp at h
  | x :: r, 0, q, h, j, u, hj => by
    have : x = q := by simpa using h
    subst this
    unfold flatS
    rw [List.flatMap_cons, Nat.zero_mul, Nat.zero_add, List.getElem?_append_left (List.getElem?_eq_some_iff.1 hj).1]
    exact hj
  | x :: r, i + 1, q, h, j, u, hj => by
    have := flatS_at r i q (by simpa using h) j u hj
    unfold flatS at this ⊢
    rw [List.flatMap_cons, List.getElem?_append_right (by simp [segC]; omega), show (i + 1) * 3 + j - (segC x.1 x.2).length = i * 3 + j by simp [segC]; omega]
    exact this
/-- Read from a row of operations. -/
def OpsRd (W : World) (u : Value) (l : List OpV) : Prop := OpsOf W u l ∧ ∀ b, u.ownBlock = some b → ∃ cur, W.heap[b]? = some (.cells cur 35 (0, 0))
theorem OpsRd.one {W : World} {u : Value} {l : List OpV} (h : OpsRd W u l) : u.oneCell' = true := by
  obtain ⟨ao, cap, rfl⟩ := h.1.len
  rfl
theorem OpsRd.keep {W W' : World} {u : Value} {l : List OpV} (h : OpsRd W u l) (hs : W.heap.size ≤ W'.heap.size) (hk : ∀ b, u.ownBlock = some b → W'.heap[b]? = W.heap[b]?) : OpsRd W' u l := by
  obtain ⟨⟨h1, hw⟩, h2⟩ := h
  refine ⟨⟨?_, hw⟩, fun b hb => by rw [hk b hb]; exact h2 b hb⟩
  rcases h1 with c | ⟨b, p, cap, rfl, hlt, h0, hr⟩
  · exact .inl c
  · exact .inr ⟨b, p, cap, rfl, Nat.lt_of_lt_of_le hlt hs, h0, fun i o hi j x hj => (World.cell?_of_block (a := ⟨b, p + i * 11 + j, none⟩) (hk b rfl)).trans (hr i o hi j x hj)⟩
theorem OpsRd.on {W W' : World} {u : Value} {l : List OpV} (h : OpsRd W u l) (hb : Below W.heap.size W W') : OpsRd W' u l :=
  h.keep hb.size fun b hu => by
    obtain ⟨cur, hc⟩ := h.2 b hu
    exact hb.block b (heap_inO hc)
theorem OpsRd.grown {W W' : World} {u : Value} {l : List OpV} {row : Option Nat} (h : OpsRd W u l) (hg : W.grownBy W' row) (hn : u.ownBlock = none ∨ u.ownBlock ≠ row) : OpsRd W' u l :=
  h.keep hg.size fun b hu => by
    obtain ⟨cur, hc⟩ := h.2 b hu
    refine hg.block b (heap_inO hc) fun e => ?_
    rcases hn with h | h
    · rw [h] at hu; cases hu
    · rw [hu] at h; exact h e
theorem OpsOwn.rd {n₀ : Nat} {W : World} {u : Value} {l : List OpV} (h : OpsOwn n₀ W u l) (hw : ∀ o ∈ l, o.Wf) : OpsRd W u l := by
  refine ⟨h.reads hw, fun b hb => ?_⟩
  rcases h.2 with ⟨rfl, _⟩ | ⟨g, cap, cur, rfl, hn, hg, _⟩
  · cases hb
  · have : g = b := by simpa [Value.ownBlock] using hb
    exact ⟨cur, this ▸ hg⟩
/-- A list of segments of the call's own, and known blocks beside. -/
structure SegM (w0 W : World) (v : Value) (ps : List (SegV × Value)) (R : List (Nat × Obj)) : Prop where
  below : Below w0.heap.size w0 W
  row : W.ownsRow w0.heap.size 29 3 v ps.length (flatS ps)
  rd : ∀ q ∈ ps, OpsRd W q.2 q.1.ops
  keep : ∀ x ∈ R, W.heap[x.1]? = some x.2 ∧ v.ownBlock ≠ some x.1
/-- The last segment's operations are a row of the call's own, apart from all else. -/
structure LastM (w0 W : World) (init : List (SegV × Value)) (q : SegV × Value) (R : List (Nat × Obj)) : Prop where
  own : OpsOwn w0.heap.size W q.2 q.1.ops
  apart : ∀ p ∈ init, p.2.ownBlock = none ∨ p.2.ownBlock ≠ q.2.ownBlock
  keep : ∀ x ∈ R, q.2.ownBlock ≠ some x.1
theorem SegM.lt {w0 W : World} {v : Value} {ps : List (SegV × Value)} {R : List (Nat × Obj)} (h : SegM w0 W v ps R) {x : Nat × Obj} (hx : x ∈ R) : x.1 < W.heap.size := heap_inO (h.keep x hx).1
theorem SegM.mem {w0 W : World} {v : Value} {ps : List (SegV × Value)} {R : List (Nat × Obj)} (h : SegM w0 W v ps R) {x : Nat × Obj} (hx : x ∈ R) : W.heap[x.1]? = some x.2 := (h.keep x hx).1
theorem SegM.sub {w0 W : World} {v : Value} {ps : List (SegV × Value)} {R R' : List (Nat × Obj)} (h : SegM w0 W v ps R) (hs : ∀ x ∈ R', x ∈ R) : SegM w0 W v ps R' := ⟨h.below, h.row, h.rd, fun x hx => h.keep x (hs x hx)⟩
theorem LastM.sub {w0 W : World} {init : List (SegV × Value)} {q : SegV × Value} {R R' : List (Nat × Obj)} (h : LastM w0 W init q R) (hs : ∀ x ∈ R', x ∈ R) : LastM w0 W init q R' := ⟨h.own, h.apart, fun x hx => h.keep x (hs x hx)⟩
theorem SegM.on {w0 W W' : World} {v : Value} {ps : List (SegV × Value)} {R : List (Nat × Obj)} (h : SegM w0 W v ps R) (hb : Below W.heap.size W W') : SegM w0 W' v ps R :=
  ⟨h.below.on hb, h.row.kept (row := none) ⟨hb.os, hb.tape, hb.output, hb.size, fun k hk _ => hb.block k hk⟩ (by cases h : v.ownBlock <;> simp), fun q hq => (h.rd q hq).on hb, fun x hx => ⟨(hb.block x.1 (h.lt hx)).trans (h.keep x hx).1, (h.keep x hx).2⟩⟩
theorem LastM.on {w0 W W' : World} {init : List (SegV × Value)} {q : SegV × Value} {R : List (Nat × Obj)} (h : LastM w0 W init q R) (hb : Below W.heap.size W W') : LastM w0 W' init q R := ⟨h.own.on hb, h.apart, h.keep⟩
theorem own_lt {n₀ : Nat} {W : World} {v : Value} {l : List OpV} (h : OpsOwn n₀ W v l) {b : Nat} (hb : v.ownBlock = some b) : n₀ ≤ b ∧ b < W.heap.size := World.ownsRow.lt h b hb
/-- A block more that is known. -/
theorem SegM.push {w0 W : World} {v : Value} {ps : List (SegV × Value)} {R : List (Nat × Obj)} (h : SegM w0 W v ps R) (o : Obj) : SegM w0 (W.alloc o) v ps ((W.heap.size, o) :: R) := by
  have hb : Below W.heap.size W (W.alloc o) := by go_grown
  have h1 := h.on hb
  refine ⟨h1.below, h1.row, h1.rd, fun x hx => ?_⟩
  rcases List.mem_cons.1 hx with rfl | hx
  · exact ⟨heap_alloc_new W o, fun e => by have := (h.row.lt _ e).2; simp only at this; omega⟩
  · exact h1.keep x hx
theorem LastM.push {w0 W : World} {init : List (SegV × Value)} {q : SegV × Value} {R : List (Nat × Obj)} (h : LastM w0 W init q R) (o : Obj) : LastM w0 (W.alloc o) init q ((W.heap.size, o) :: R) := by
  have hb : Below W.heap.size W (W.alloc o) := by go_grown
  refine ⟨h.own.on hb, h.apart, fun x hx => ?_⟩
  rcases List.mem_cons.1 hx with rfl | hx
  · exact fun e => by have := (own_lt h.own e).2; simp only at this; omega
  · exact h.keep x hx
/-- A known block of operations is written anew. -/
theorem SegM.setR {w0 W : World} {v : Value} {ps : List (SegV × Value)} {R : List (Nat × Obj)} {b : Nat} {c : Array Value} (h : SegM w0 W v ps ((b, .cells c 35 (0, 0)) :: R)) (hq : ∀ q ∈ ps, q.2.ownBlock ≠ some b) (hR : ∀ x ∈ R, x.1 ≠ b) (hlo : w0.heap.size ≤ b) (hc : c.size = 11) (o : OpV) :
    ∃ W', (storeS 35 (.pointer (some ⟨b, 0, none⟩)) (Value.agg #[Value.int .i64 o.id, Value.int .i64 o.proc, Value.int .i64 o.obj, Value.int .i64 o.kind, Value.int .i64 o.meth, Value.int .i64 o.arg, Value.int .i64 o.sec, Value.bool o.done, Value.int .i64 o.res, Value.int .i64 o.inv, Value.int .i64 o.ret])).run Try.prog W = .ok () W' ∧ SegM w0 W' v ps ((b, .cells #[Value.int .i64 o.id, Value.int .i64 o.proc, Value.int .i64 o.obj, Value.int .i64 o.kind, Value.int .i64 o.meth, Value.int .i64 o.arg, Value.int .i64 o.sec, Value.bool o.done, Value.int .i64 o.res, Value.int .i64 o.inv, Value.int .i64 o.ret] 35 (0, 0)) :: R) ∧ W.grownBy W' (some b) ∧ W'.heap.size = W.heap.size := by
  have hm := h.mem (x := (b, .cells c 35 (0, 0))) List.mem_cons_self
  have hvb := (h.keep (b, .cells c 35 (0, 0)) List.mem_cons_self).2
  have hg : W.grownBy (W.setRow b #[Value.int .i64 o.id, Value.int .i64 o.proc, Value.int .i64 o.obj, Value.int .i64 o.kind, Value.int .i64 o.meth, Value.int .i64 o.arg, Value.int .i64 o.sec, Value.bool o.done, Value.int .i64 o.res, Value.int .i64 o.inv, Value.int .i64 o.ret]) (some b) := ⟨rfl, rfl, rfl, by simp, fun k _ hk => setRow_other _ _ _ _ (fun e => hk (by rw [e]))⟩
  refine ⟨W.setRow b #[Value.int .i64 o.id, Value.int .i64 o.proc, Value.int .i64 o.obj, Value.int .i64 o.kind, Value.int .i64 o.meth, Value.int .i64 o.arg, Value.int .i64 o.sec, Value.bool o.done, Value.int .i64 o.res, Value.int .i64 o.inv, Value.int .i64 o.ret], store_op hm hc o, ⟨h.below.grown hg h.below.size (fun k e => by cases e; exact hlo), h.row.kept hg (by right; exact hvb), fun q hq' => (h.rd q hq').grown hg (.inr (hq q hq')), fun x hx => ?_⟩, hg, by simp⟩
  rcases List.mem_cons.1 hx with rfl | hx
  · exact ⟨setRow_heap _ _ _ _ _ _ hm, hvb⟩
  · exact ⟨(setRow_other _ _ _ _ (hR x hx)).trans (h.keep x (List.mem_cons_of_mem _ hx)).1, (h.keep x (List.mem_cons_of_mem _ hx)).2⟩
theorem LastM.grown {w0 W W' : World} {init : List (SegV × Value)} {q : SegV × Value} {R : List (Nat × Obj)} {b : Nat} (h : LastM w0 W init q R) (hg : W.grownBy W' (some b)) (hb : q.2.ownBlock ≠ some b) : LastM w0 W' init q R := ⟨World.ownsRow.kept h.own hg (.inr hb), h.apart, h.keep⟩
/-- An append to a list of segments, as one action. -/
def appSS (vs : Array Value) : Sem Value := Builtin.append_ #[26, 26] 26 vs
theorem app_seg (vs : Array Value) : Builtin.append_ #[26, 26] 26 vs = appSS vs := rfl
theorem info_seg : (Try.prog.info? 29).map (fun i => (i.zero, i.size, i.bytes)) = some (some (.agg #[.int .i64 0, .int .i64 0, .slice none 0 0]), 3, 40) := by kernel_rfl
theorem SegM.start {w0 : World} : SegM w0 w0 (.slice none 0 0) [] [] := ⟨Below.refl _ _, World.ownsRow_nil _ _ _ _, (fun q hq => by cases hq), fun x hx => by cases hx⟩
theorem seg_ne {w0 W : World} {v : Value} {ps : List (SegV × Value)} {R : List (Nat × Obj)} (h : SegM w0 W v ps R) {u : Value} {l : List OpV} (hu : OpsRd W u l) : u.ownBlock = none ∨ u.ownBlock ≠ v.ownBlock := by
  cases hb : u.ownBlock with
  | none => exact .inl rfl
  | some b =>
    right
    obtain ⟨cur, hc⟩ := hu.2 b hb
    rcases h.row.2 with ⟨rfl, _⟩ | ⟨g, cap, cur', rfl, hn, hg, _⟩
    · intro e; cases e
    · intro e
      have : b = g := by simpa [Value.ownBlock] using e
      subst this
      rw [hc] at hg
      exact absurd (show 35 = 29 from by injection hg with hg; injection hg) (by decide)
set_option maxHeartbeats 1000000 in
/-- A segment more. -/
theorem SegM.app {w0 W : World} {v : Value} {ps : List (SegV × Value)} {R : List (Nat × Obj)} (h : SegM w0 W v ps R) (s : SegV) {u : Value} (hu : OpsRd W u s.ops) (hlen : ps.length ≤ 65536) :
    ∃ g cap W', (appSS #[v, .slice (some ⟨W.heap.size, 0, none⟩) 1 1]).run Try.prog (W.alloc (.cells #[.int .i64 s.obj, .int .i64 s.kind, u] 29)) = .ok (.slice (some ⟨g, 0, none⟩) (ps.length + 1) cap) W' ∧
      SegM w0 W' (.slice (some ⟨g, 0, none⟩) (ps.length + 1) cap) (ps ++ [(s, u)]) R ∧ W.heap.size ≤ W'.heap.size ∧ (∀ k, k < W.heap.size → v.ownBlock ≠ some k → W'.heap[k]? = W.heap[k]?) := by
  obtain ⟨i0, hi, hz0, hz1, hz2⟩ := info_parts info_seg
  have hq := heap_alloc_new W (.cells #[.int .i64 s.obj, .int .i64 s.kind, u] 29)
  have hba : Below W.heap.size W (W.alloc (.cells #[.int .i64 s.obj, .int .i64 s.kind, u] 29)) := by go_grown
  have hn := h.below.size
  obtain ⟨g, cap, w2, hrn, h2, h3, h4, _⟩ := run_append_lies (P := Try.prog) (w := W.alloc (.cells #[.int .i64 s.obj, .int .i64 s.kind, u] 29)) 26 26 w0.heap.size 29 i0 _ 3 40 Try.underlying26 hi hz0 hz1 hz2 (by simp [Value.cells]) (by decide) v ps.length (flatS ps) (World.ownsRow.alloc h.row _) ⟨W.heap.size, 0, none⟩ 1 1 (flatS [(s, u)]) rfl
    (World.news_of_block hq) (fun x hx => by
      simp only [flatS, List.flatMap_cons, List.flatMap_nil, List.append_nil, segC, List.mem_cons, List.not_mem_nil, or_false] at hx
      rcases hx with rfl | rfl | rfl
      · rfl
      · rfl
      · exact hu.one) (by decide) (by unfold maxLen; omega) (by omega) (by rw [World.size_alloc]; omega) _ rfl
  have hoth : ∀ k, k < W.heap.size → v.ownBlock ≠ some k → w2.heap[k]? = W.heap[k]? := fun k hk hne => (h3.block k (Nat.lt_of_lt_of_le hk hba.size) (fun e => hne e.symm)).trans (hba.block k hk)
  have hsz : W.heap.size ≤ w2.heap.size := Nat.le_trans hba.size h3.size
  have hg2 : W.grownBy w2 v.ownBlock := ⟨h3.os.trans hba.os, h3.tape.trans hba.tape, h3.output.trans hba.output, hsz, fun k hk hne => hoth k hk (fun e => hne e.symm)⟩
  refine ⟨g, cap, w2, hrn, ⟨h.below.grown hg2 h.below.size (fun k e => (h.row.lt k e).1), by rw [List.length_append, flatS_app]; exact h2, fun q hq => ?_, fun x hx => ⟨(hoth x.1 (h.lt hx) (h.keep x hx).2).trans (h.keep x hx).1, fun e => ?_⟩⟩, hsz, hoth⟩
  · rcases List.mem_append.1 hq with hq | hq
    · exact (h.rd q hq).grown hg2 (seg_ne h (h.rd q hq))
    · rw [List.mem_singleton] at hq
      subst hq
      exact hu.grown hg2 (seg_ne h hu)
  · have e : g = x.1 := by simpa [Value.ownBlock] using e
    rcases h4 with h5 | h5
    · exact (h.keep x hx).2 (by rw [h5, e])
    · have := h.lt hx
      rw [World.size_alloc] at h5
      omega
theorem LastM.new {w0 W : World} {init : List (SegV × Value)} {s : SegV} {R : List (Nat × Obj)} (hs : s.ops = []) : LastM w0 W init (s, .slice none 0 0) R :=
  ⟨by rw [hs]; exact World.ownsRow_nil _ _ _ _, fun p _ => by cases p.2.ownBlock <;> simp [Value.ownBlock], fun x _ e => by cases e⟩
theorem rd_nil (W : World) : OpsRd W (.slice none 0 0) [] := ⟨⟨.inl ⟨rfl, _, _, rfl⟩, by simp⟩, fun b hb => by cases hb⟩
end Cu
end Go.Proofs.Ytgedlfilhpbfaaa
