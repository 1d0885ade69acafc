/- Plain: spots, steps, and what a search finds. Package lin: the types of its maps. Package lin: a search in memory; number. -/
import Derived.Test.YtppjmmdiglnkfaaQaq
import Derived.Test.YtppjmmdiglnkfaaQar
import Derived.Test.YtppjmmdiglnkfaaQap
import Derived.StringKeys
namespace Go.Proofs.Ytppjmmdiglnkfaa
set_option maxRecDepth 100000
open Go.ChangeShapes Go.WideShapes Go.ChangeAt Go.RowKit Go.PlainAid
namespace Ln
/-- Some operations of a segment, a bit for each, and a state. -/
abbrev Spt := Nat × List Int
noncomputable def stO (o : OpV) (s : List Int) : Option (List Int) := if (stepC o s).2 = true then some (stepC o s).1 else none
open Classical in
/-- May an operation be the next one, as far as times go? -/
noncomputable def mayB (l : List OpV) (m i : Nat) : Bool := decide (i < l.length ∧ m.testBit i = false ∧ ∀ k, befP l i k = true → m.testBit k = true)
/-- The step by one operation. -/
noncomputable def nx1 (l : List OpV) (p : Spt) (i : Nat) : Option Spt := if mayB l p.1 i = true then (match l[i]? with | some o => (stO o p.2).map fun t => (p.1 ||| 2 ^ i, t) | none => none) else none
/-- All steps by the first k operations. -/
noncomputable def nxK (l : List OpV) (p : Spt) (k : Nat) : List Spt := (List.range k).filterMap (nx1 l p)
noncomputable def nx (l : List OpV) (p : Spt) : List Spt := nxK l p l.length
theorem nxK_succ (l : List OpV) (p : Spt) (k : Nat) : nxK l p (k + 1) = nxK l p k ++ (nx1 l p k).toList := by
  unfold nxK
  rw [List.range_succ, List.filterMap_append]
  cases h : nx1 l p k <;> simp [h]
theorem nxK_len (l : List OpV) (p : Spt) (k : Nat) : (nxK l p k).length ≤ k := by
  unfold nxK
  refine Nat.le_trans (List.length_filterMap_le _ _) ?_
  rw [List.length_range]
  exact Nat.le_refl _
theorem nx1_some {l : List OpV} {p q : Spt} {i : Nat} (h : nx1 l p i = some q) : mayB l p.1 i = true ∧ ∃ o t, l[i]? = some o ∧ stO o p.2 = some t ∧ q = (p.1 ||| 2 ^ i, t) := by
  unfold nx1 at h
  split at h
  · rename_i hm
    refine ⟨hm, ?_⟩
    cases ho : l[i]? with
    | none => rw [ho] at h; cases h
    | some o =>
      rw [ho] at h
      obtain ⟨t, ht, hq⟩ := Option.map_eq_some_iff.1 h
      exact ⟨o, t, rfl, ht, hq.symm⟩
  · cases h
open Classical in
theorem may_iff {l : List OpV} {m i : Nat} : mayB l m i = true ↔ i < l.length ∧ m.testBit i = false ∧ ∀ k, befP l i k = true → m.testBit k = true := by
  unfold mayB
  exact decide_eq_true_iff
theorem may_lt {l : List OpV} {m i : Nat} (h : mayB l m i = true) : i < l.length := (may_iff.1 h).1
theorem nx1_pos {l : List OpV} {p q : Spt} {i : Nat} (h : nx1 l p i = some q) : q.1.testBit i = true := by
  obtain ⟨_, o, t, _, _, rfl⟩ := nx1_some h
  rw [Nat.testBit_or, Nat.testBit_two_pow_self, Bool.or_true]
theorem nx1_mk {l : List OpV} {p q : Spt} {i : Nat} (hl : l.length ≤ 16) (hm : p.1 < 65536) (h : nx1 l p i = some q) : q.1 < 65536 := by
  obtain ⟨hy, o, t, _, _, rfl⟩ := nx1_some h
  exact ((⟨hm, fun k => rfl⟩ : Mk p.1 fun k => p.1.testBit k).set (show i < 16 by have := may_lt hy; omega)).lt
theorem nxK_mem {l : List OpV} {p q : Spt} {k : Nat} : q ∈ nxK l p k ↔ ∃ i, i < k ∧ nx1 l p i = some q := by
  unfold nxK
  rw [List.mem_filterMap]
  constructor
  · rintro ⟨i, hi, h⟩
    exact ⟨i, List.mem_range.1 hi, h⟩
  · rintro ⟨i, hi, h⟩
    exact ⟨i, List.mem_range.2 hi, h⟩
/-- Those that aren't there yet, one by one. -/
def add1 (out : List Spt) (p : Spt) : List Spt := if p ∈ out then out else out ++ [p]
def adds (out l : List Spt) : List Spt := l.foldl add1 out
theorem adds_snoc (out l : List Spt) (p : Spt) : adds out (l ++ [p]) = add1 (adds out l) p := by unfold adds; rw [List.foldl_append]; rfl
theorem add1_pre (out : List Spt) (p : Spt) : ∃ r, add1 out p = out ++ r ∧ r.length ≤ 1 := by
  unfold add1
  split
  · exact ⟨[], by simp, by simp⟩
  · exact ⟨[p], rfl, by simp⟩
theorem adds_pre : ∀ (l out : List Spt), ∃ r, adds out l = out ++ r ∧ r.length ≤ l.length
  | [], out => ⟨[], by simp [adds], by simp⟩
  | p :: l, out => by
    obtain ⟨r, hr, h1⟩ := add1_pre out p
    obtain ⟨r2, hr2, h2⟩ := adds_pre l (add1 out p)
    refine ⟨r ++ r2, ?_, by rw [List.length_append, List.length_cons]; omega⟩
    show adds (add1 out p) l = _
    rw [hr2, hr, List.append_assoc]
theorem adds_len (l out : List Spt) : out.length ≤ (adds out l).length ∧ (adds out l).length ≤ out.length + l.length := by
  obtain ⟨r, hr, h⟩ := adds_pre l out
  rw [hr, List.length_append]
  omega
theorem adds_get {l out : List Spt} {i : Nat} {p : Spt} (h : out[i]? = some p) : (adds out l)[i]? = some p := by
  obtain ⟨r, hr, _⟩ := adds_pre l out
  rw [hr, List.getElem?_append_left (List.getElem?_eq_some_iff.1 h).1]
  exact h
theorem add1_mem {out : List Spt} {p q : Spt} : q ∈ add1 out p ↔ q ∈ out ∨ q = p := by
  unfold add1
  split
  · rename_i h
    exact ⟨.inl, fun k => k.elim id fun e => by rw [e]; exact h⟩
  · rw [List.mem_append, List.mem_singleton]
theorem adds_mem : ∀ {l out : List Spt} {q : Spt}, q ∈ adds out l ↔ q ∈ out ∨ q ∈ l
  | [], out, q => by simp [adds]
  | p :: l, out, q => by
    show q ∈ adds (add1 out p) l ↔ _
    rw [adds_mem, add1_mem, List.mem_cons, or_assoc]
theorem add1_nodup {out : List Spt} {p : Spt} (h : out.Nodup) : (add1 out p).Nodup := by
  unfold add1
  split
  · exact h
  · rename_i hn
    rw [List.nodup_append]
    refine ⟨h, by simp, fun a ha b hb => ?_⟩
    rw [List.mem_singleton.1 hb]
    exact fun e => hn (e ▸ ha)
theorem adds_nodup : ∀ {l out : List Spt}, out.Nodup → (adds out l).Nodup
  | [], _, h => h
  | _ :: l, _, h => adds_nodup (l := l) (add1_nodup h)
/-- The search: spot by spot, as long as there are no more than lim. -/
noncomputable def bfs (l : List OpV) (lim : Int) : Nat → Nat → List Spt → List Spt
  | 0, _, out => out
  | f + 1, i, out => match out[i]? with
    | some p => if (out.length : Int) ≤ lim then bfs l lim f (i + 1) (adds out (nx l p)) else out
    | none => out
theorem bfs_go {l : List OpV} {lim : Int} {f i : Nat} {out : List Spt} {p : Spt} (h : out[i]? = some p) (hl : (out.length : Int) ≤ lim) : bfs l lim (f + 1) i out = bfs l lim f (i + 1) (adds out (nx l p)) := by rw [bfs, h]; simp [hl]
theorem bfs_end {l : List OpV} {lim : Int} {f i : Nat} {out : List Spt} (h : out.length ≤ i) : bfs l lim f i out = out := by
  cases f with
  | zero => rfl
  | succ f => rw [bfs, List.getElem?_eq_none h]
theorem bfs_over {l : List OpV} {lim : Int} {f i : Nat} {out : List Spt} (h : lim < (out.length : Int)) : bfs l lim f i out = out := by
  cases f with
  | zero => rfl
  | succ f =>
    rw [bfs]
    split
    · rw [if_neg (by omega)]
    · rfl
theorem bfs_len (l : List OpV) (lim : Int) : ∀ (f i : Nat) (out : List Spt), out.length ≤ (bfs l lim f i out).length
  | 0, _, _ => Nat.le_refl _
  | f + 1, i, out => by
    rw [bfs]
    split
    · split
      · exact Nat.le_trans (adds_len _ _).1 (bfs_len l lim f (i + 1) _)
      · exact Nat.le_refl _
    · exact Nat.le_refl _
/-- A limit that is not passed does not matter. -/
theorem bfs_same (l : List OpV) {lim lim' : Int} : ∀ (f i : Nat) (out : List Spt), ((bfs l lim f i out).length : Int) ≤ lim → ((bfs l lim f i out).length : Int) ≤ lim' → bfs l lim' f i out = bfs l lim f i out
  | 0, _, _, _, _ => rfl
  | f + 1, i, out, h, h' => by
    cases hp : out[i]? with
    | none => rw [bfs_end (List.getElem?_eq_none_iff.1 hp), bfs_end (List.getElem?_eq_none_iff.1 hp)]
    | some p =>
      have h0 := bfs_len l lim (f + 1) i out
      have hl : (out.length : Int) ≤ lim := by omega
      have hl' : (out.length : Int) ≤ lim' := by omega
      rw [bfs_go hp hl] at h h' ⊢
      rw [bfs_go hp hl']
      exact bfs_same l f (i + 1) _ h h'
/-- A limit that is passed by the whole is passed. -/
theorem bfs_less (l : List OpV) {lim lim' : Int} (f i : Nat) (out : List Spt) (h : ((bfs l lim f i out).length : Int) ≤ lim) (h' : lim' < ((bfs l lim f i out).length : Int)) : lim' < ((bfs l lim' f i out).length : Int) := by
  refine Classical.byContradiction fun c => ?_
  have c : ((bfs l lim' f i out).length : Int) ≤ lim' := by omega
  have := bfs_same l (lim := lim') (lim' := lim) f i out c (by omega)
  rw [this] at h'
  omega
theorem bfs_nodup (l : List OpV) (lim : Int) : ∀ (f i : Nat) (out : List Spt), out.Nodup → (bfs l lim f i out).Nodup
  | 0, _, _, h => h
  | f + 1, i, out, h => by
    rw [bfs]
    split
    · split
      · exact bfs_nodup l lim f (i + 1) _ (adds_nodup h)
      · exact h
    · exact h
/-- All rounds that a search can have. -/
def most : Nat := 40000
end Ln
end Go.Proofs.Ytppjmmdiglnkfaa
namespace Go.Proofs.Ytppjmmdiglnkfaa
set_option maxRecDepth 100000
open Go.ChangeShapes Go.WideShapes Go.ChangeAt Go.RowKit Go.PlainAid Go.ChangeMaps Go.MapKept
namespace Ln
theorem laidOut : laidOutB Try.prog = true := by kernel_rfl
/-- map[string]int -/
def tNum : Lm.Ty ByteArray Int := ⟨9, 3, 116, .int .i64 0, fun t => .string t, fun n => .int .i64 n, fun n => .lit (.int .i64 n), fun t => t.size ≤ maxLen⟩
theorem tNum_good : Lm.Good tNum where
  keyed := Maps.string_keyed Try.underlying9
  mtOf := Try.underlying116
  z := fun w => (by kernel_rfl : (zeroValue 3).run Try.prog w = .ok (.int .i64 0) w)
  key := fun a ha => ⟨_, WideMaps.keyOf_string_mk Try.underlying9 ha⟩
  kinj := fun a b h => Value.string.inj h
  einj := fun a b h => (Value.int.inj h).2
  cinj := fun a b h => by cases h; rfl
def kMv (p : Nat × Nat) : Value := .agg #[.int .i64 (p.1 : Int), .int .i64 (p.2 : Int)]
/-- map[move]int -/
def tMv : Lm.Ty (Nat × Nat) Int := ⟨159, 3, 117, .int .i64 0, kMv, fun n => .int .i64 n, fun n => .lit (.int .i64 n), fun p => p.1 < 1000000000 ∧ p.2 < 1000000000⟩
theorem wf_i64 {n : Nat} (h : n < 1000000000) : (Lit.int .i64 (n : Int)).wf = true := WalkArith.wf_i64 ⟨by omega, by omega⟩
theorem types_size : ∃ d, Try.prog.types.size = d + 1 := ⟨Try.prog.types.size - 1, by have : 0 < Try.prog.types.size := of_decide_eq_true (by kernel_rfl); omega⟩
theorem key_mv (p : Nat × Nat) (h : p.1 < 1000000000 ∧ p.2 < 1000000000) : ∃ l, keyOf Try.prog 159 (kMv p) = some l := by
  obtain ⟨d, hd⟩ := types_size
  have h1 : Try.prog.keyType 159 = true := by kernel_rfl
  have h2 : Try.prog.cellsOf 159 = 2 := by kernel_rfl
  have h3 : Try.prog.cellsOf 3 = 1 := by kernel_rfl
  have h4 : (kMv p).formed Try.prog 159 = true := by simp [kMv, Value.formed, Try.underlying159, h2]
  unfold keyOf
  rw [Try.underlying159]
  simp only [h1, h4, Bool.and_self, if_true]
  have h5 : Try.prog.keyLits (Try.prog.types.size + 1) 159 (kMv p).cells.toList = some [.int .i64 (p.1 : Int), .int .i64 (p.2 : Int)] := by
    rw [hd]
    simp [Program.keyLits, Try.underlying159, Try.underlying3, kMv, Value.cells, h2, h3, wf_i64 h.1, wf_i64 h.2]
  rw [h5]
  exact ⟨_, rfl⟩
theorem tMv_good : Lm.Good tMv where
  keyed := Maps.Keyed.of_law (deep_law_laid laidOut (m := 2) (by omega) (of_decide_eq_true (by kernel_rfl)) (by kernel_rfl) (by kernel_rfl))
  mtOf := Try.underlying117
  z := fun w => (by kernel_rfl : (zeroValue 3).run Try.prog w = .ok (.int .i64 0) w)
  key := key_mv
  kinj := fun a b h => by
    have := Array.mk.inj (Value.agg.inj h)
    simp at this
    exact Prod.ext (by omega) (by omega)
  einj := fun a b h => (Value.int.inj h).2
  cinj := fun a b h => by cases h; rfl
def kSp (p : Nat × Nat) : Value := .agg #[.int .u32 (p.1 : Int), .int .i64 (p.2 : Int)]
/-- map[spot]struct{} -/
def tSp : Lm.Ty (Nat × Nat) Unit := ⟨126, 102, 131, .agg #[], kSp, fun _ => .agg #[], fun _ => .nil, fun p => p.1 < 65536 ∧ p.2 < 1000000000⟩
theorem wf_u32 {n : Nat} (h : n < 65536) : (Lit.int .u32 (n : Int)).wf = true := by simp [Lit.wf, IntKind.min, IntKind.max, IntKind.signed, IntKind.bits]; omega
theorem key_sp (p : Nat × Nat) (h : p.1 < 65536 ∧ p.2 < 1000000000) : ∃ l, keyOf Try.prog 126 (kSp p) = some l := by
  obtain ⟨d, hd⟩ := types_size
  have h1 : Try.prog.keyType 126 = true := by kernel_rfl
  have h2 : Try.prog.cellsOf 126 = 2 := by kernel_rfl
  have h3 : Try.prog.cellsOf 3 = 1 := by kernel_rfl
  have h3b : Try.prog.cellsOf 68 = 1 := by kernel_rfl
  have h4 : (kSp p).formed Try.prog 126 = true := by simp [kSp, Value.formed, Try.underlying126, h2]
  unfold keyOf
  rw [Try.underlying126]
  simp only [h1, h4, Bool.and_self, if_true]
  have h5 : Try.prog.keyLits (Try.prog.types.size + 1) 126 (kSp p).cells.toList = some [.int .u32 (p.1 : Int), .int .i64 (p.2 : Int)] := by
    rw [hd]
    simp [Program.keyLits, Try.underlying126, Try.underlying3, Try.underlying68, kSp, Value.cells, h2, h3, h3b, wf_u32 h.1, wf_i64 h.2]
  rw [h5]
  exact ⟨_, rfl⟩
theorem tSp_good : Lm.Good tSp where
  keyed := Maps.Keyed.of_law (deep_law_laid laidOut (m := 2) (by omega) (of_decide_eq_true (by kernel_rfl)) (by kernel_rfl) (by kernel_rfl))
  mtOf := Try.underlying131
  z := fun w => (by kernel_rfl : (zeroValue 102).run Try.prog w = .ok (.agg #[]) w)
  key := key_sp
  kinj := fun a b h => by
    have := Array.mk.inj (Value.agg.inj h)
    simp at this
    exact Prod.ext (by omega) (by omega)
  einj := fun a b _ => rfl
  cinj := fun a b _ => rfl
/-- map[string]bool -/
def tMet : Lm.Ty ByteArray Bool := ⟨9, 4, 93, .bool false, fun t => .string t, fun n => .bool n, fun n => .lit (.bool n), fun t => t.size ≤ maxLen⟩
theorem tMet_good : Lm.Good tMet where
  keyed := Maps.string_keyed Try.underlying9
  mtOf := Try.underlying93
  z := fun w => (by kernel_rfl : (zeroValue 4).run Try.prog w = .ok (.bool false) w)
  key := fun a ha => ⟨_, WideMaps.keyOf_string_mk Try.underlying9 ha⟩
  kinj := fun a b h => Value.string.inj h
  einj := fun a b h => Value.bool.inj h
  cinj := fun a b h => by cases h; rfl
end Ln
end Go.Proofs.Ytppjmmdiglnkfaa
namespace Go.Proofs.Ytppjmmdiglnkfaa
set_option maxRecDepth 100000
open Go.ChangeShapes Go.WideShapes Go.ChangeAt Go.RowKit Go.PlainAid Go.Deep
namespace Ln
/-- What stays while a search goes on. -/
structure Fix (w0 : World) (v : Value) (l : List OpV) (dn : Nat) (ah : List Nat) : Prop where
  ops : OpsOf w0 v l
  few : l.length ≤ 16
  len : ah.length = l.length
  ahk : ∀ i a, ah[i]? = some a → Mk a (befP l i)
  dnk : Mk dn (doneP l)
def NumOk (L : List (List Int)) (G : ByteArray → Option Int) : Prop := ∀ t (j : Int), G t = some j ↔ ∃ (n : Nat) (s : List Int), L[n]? = some s ∧ textS s = t ∧ j = (n : Int)
def MvOk (l : List OpV) (L : List (List Int)) (G : Nat × Nat → Option Int) : Prop := ∀ n i r, G (n, i) = some r → ∃ s o, L[n]? = some s ∧ l[i]? = some o ∧ ((r = -1 ∧ stO o s = none) ∨ ∃ (k : Nat) (t : List Int), r = (k : Int) ∧ L[k]? = some t ∧ stO o s = some t)
/-- A search in memory: the states that it met, in order. -/
structure SrAt (w0 : World) (n₁ : Nat) (v : Value) (l : List OpV) (dn : Nat) (ah : List Nat) (w : World) (E c : Nat) (L : List (List Int)) : Prop where
  bel : Below w0.heap.size w0 w
  bs : ∃ vs, w.heap[w0.heap.size + 1 + 1 + 1]? = some (srO v (.slice (some ⟨w0.heap.size, 0, none⟩) ah.length ah.length) dn vs (w0.heap.size + 1) (w0.heap.size + 1 + 1)) ∧ StsOwn n₁ w vs L
  ba : w.heap[w0.heap.size]? = some (ahO ah)
  nums : ∃ G, Lm.At tNum w (w0.heap.size + 1) c G ∧ NumOk L G
  mvs : ∃ G, Lm.At tMv w (w0.heap.size + 1 + 1) c G ∧ MvOk l L G
  nd : L.Nodup
  ok : ∀ s ∈ L, Okz s ∧ s.length ≤ E + L.length
  cnt : L.length ≤ c
  base : w0.heap.size ≤ n₁ ∧ n₁ ≤ w.heap.size
theorem SrAt.on {w0 : World} {n₁ : Nat} {v : Value} {l : List OpV} {dn : Nat} {ah : List Nat} {w w' : World} {E c : Nat} {L : List (List Int)} (h : SrAt w0 n₁ v l dn ah w E c L) (hb : Below w.heap.size w w') : SrAt w0 n₁ v l dn ah w' E c L := by
  obtain ⟨vs, h1, h2⟩ := h.bs
  obtain ⟨G, h3, h4⟩ := h.nums
  obtain ⟨G', h5, h6⟩ := h.mvs
  exact ⟨h.bel.on hb, ⟨vs, (hb.block _ (heap_inO h1)).trans h1, h2.on hb⟩, (hb.block _ (heap_inO h.ba)).trans h.ba, ⟨G, h3.on hb, h4⟩, ⟨G', h5.on hb, h6⟩, h.nd, h.ok, h.cnt, h.base.1, Nat.le_trans h.base.2 hb.size⟩
/-- What a search's call may change. -/
def Fr (w0 : World) (n₁ : Nat) (w w' : World) : Prop := Keeps (fun b => b = w0.heap.size + 1 + 1 + 1 ∨ b = w0.heap.size + 1 ∨ b = w0.heap.size + 1 + 1 ∨ (n₁ ≤ b ∧ ∃ cur, w.heap[b]? = some (.cells cur 27 (0, 0)))) w w'
theorem Fr.of {w0 : World} {n₁ : Nat} {w w' : World} (h : Below w.heap.size w w') : Fr w0 n₁ w w' := Keeps.of_below h
theorem Fr.refl (w0 : World) (n₁ : Nat) (w : World) : Fr w0 n₁ w w := Keeps.refl _ _
theorem Fr.trans {w0 : World} {n₁ : Nat} {a b c : World} (h : Fr w0 n₁ a b) (k : Fr w0 n₁ b c) : Fr w0 n₁ a c := by
  refine Keeps.trans h k fun i hi => ?_
  rcases hi with hi | hi | hi | ⟨h0, cur, hc⟩
  · exact .inl (.inl hi)
  · exact .inl (.inr (.inl hi))
  · exact .inl (.inr (.inr (.inl hi)))
  · by_cases c : i < a.heap.size
    · refine .inl (Classical.byContradiction fun hn => hn (.inr (.inr (.inr ⟨h0, cur, ?_⟩))))
      rw [← h.block i c hn]
      exact hc
    · exact .inr (by omega)
theorem Fr.below {w0 : World} {n₁ : Nat} {w w' : World} (h : Fr w0 n₁ w w') (h0 : w0.heap.size ≤ n₁) (hw : w0.heap.size ≤ w.heap.size) : Below w0.heap.size w w' :=
  Keeps.below h (fun i hi => by rcases hi with hi | hi | hi | ⟨h0, _⟩ <;> omega) hw
theorem SrAt.cells {w0 : World} {n₁ : Nat} {v : Value} {l : List OpV} {dn : Nat} {ah : List Nat} {w w' : World} {E c : Nat} {L : List (List Int)} (h : SrAt w0 n₁ v l dn ah w E c L) (k : Fr w0 n₁ w w') {b : Nat} {cur : Array Value} {T : TypeId} (hb : w.heap[b]? = some (.cells cur T (0, 0))) (h1 : T ≠ 27) (h2 : T ≠ 119) : w'.heap[b]? = some (.cells cur T (0, 0)) := by
  refine (Keeps.block k b (heap_inO hb) fun hi => ?_).trans hb
  obtain ⟨vs, e1, _⟩ := h.bs
  obtain ⟨_, ⟨_, _, e2, _⟩, _⟩ := h.nums
  obtain ⟨_, ⟨_, _, e3, _⟩, _⟩ := h.mvs
  rcases hi with rfl | rfl | rfl | ⟨_, cur', hc⟩
  · rw [hb] at e1; unfold srO at e1; exact h2 (Obj.cells.inj (Option.some.inj e1)).2.1
  · rw [hb] at e2; cases e2
  · rw [hb] at e3; cases e3
  · rw [hb] at hc; exact h1 (Obj.cells.inj (Option.some.inj hc)).2.1
theorem SrAt.map {w0 : World} {n₁ : Nat} {v : Value} {l : List OpV} {dn : Nat} {ah : List Nat} {w w' : World} {E c : Nat} {L : List (List Int)} (h : SrAt w0 n₁ v l dn ah w E c L) (k : Fr w0 n₁ w w') {b : Nat} {es : Array MapEntry} {ck : Nat} (hb : w.heap[b]? = some (.map es ck)) (h1 : b ≠ w0.heap.size + 1) (h2 : b ≠ w0.heap.size + 1 + 1) : w'.heap[b]? = some (.map es ck) := by
  refine (Keeps.block k b (heap_inO hb) fun hi => ?_).trans hb
  obtain ⟨vs, e1, _⟩ := h.bs
  rcases hi with rfl | rfl | rfl | ⟨_, cur', hc⟩
  · rw [hb] at e1; cases e1
  · exact h1 rfl
  · exact h2 rfl
  · rw [hb] at hc; cases hc
theorem row_keep {n₀ : Nat} {T : TypeId} {k n : Nat} {v : Value} {cs : List Value} {w w' : World} {own : Nat → Prop} (h : w.ownsRow n₀ T k v n cs) (hk : Keeps own w w') (hno : ∀ g cur, own g → w.heap[g]? = some (.cells cur T (0, 0)) → False) : w'.ownsRow n₀ T k v n cs := by
  refine ⟨h.1, ?_⟩
  rcases h.2 with h | ⟨g, cap, cur, hv, hn, hg, hr⟩
  · exact .inl h
  · exact .inr ⟨g, cap, cur, hv, hn, (hk.block g (heap_inO hg) (fun c => hno g cur c hg)).trans hg, hr⟩
theorem sts_keep {n₀ : Nat} {v : Value} {L : List (List Int)} {w w' : World} {own : Nat → Prop} (h : StsOwn n₀ w v L) (hk : Keeps own w w') (h1 : ∀ g cur, own g → w.heap[g]? = some (.cells cur 27 (0, 0)) → False) (h2 : ∀ g cur, own g → w.heap[g]? = some (.cells cur 3 (0, 0)) → False) : StsOwn n₀ w' v L := by
  obtain ⟨vs, a, b⟩ := h
  exact ⟨vs, row_keep a hk h1, fun i u s hu hs => ownI_keep (b i u s hu hs) hk h2⟩
theorem NumOk.add {L : List (List Int)} {G : ByteArray → Option Int} {s : List Int} (h : NumOk L G) (hok : ∀ t ∈ L, Okz t) (hs : Okz s) (hn : s ∉ L) : NumOk (L ++ [s]) (Lm.put G (textS s) (L.length : Int)) := by
  intro t j
  by_cases c : t = textS s
  · subst c
    rw [Lm.put_same]
    constructor
    · intro e
      exact ⟨L.length, s, by simp, rfl, (Option.some.inj e).symm⟩
    · rintro ⟨n, s', h1, h2, rfl⟩
      by_cases d : n < L.length
      · rw [List.getElem?_append_left d] at h1
        have := text_inj (hok s' (List.mem_of_getElem? h1)) hs h2
        exact absurd (this ▸ List.mem_of_getElem? h1) hn
      · have := (List.getElem?_eq_some_iff.1 h1).1
        rw [List.length_append, List.length_singleton] at this
        rw [show n = L.length by omega]
  · rw [Lm.put_other _ _ _ c, h t j]
    constructor
    · rintro ⟨n, s', h1, h2, h3⟩
      exact ⟨n, s', by rw [List.getElem?_append_left (List.getElem?_eq_some_iff.1 h1).1]; exact h1, h2, h3⟩
    · rintro ⟨n, s', h1, h2, h3⟩
      by_cases d : n < L.length
      · rw [List.getElem?_append_left d] at h1
        exact ⟨n, s', h1, h2, h3⟩
      · have := (List.getElem?_eq_some_iff.1 h1).1
        rw [List.length_append, List.length_singleton] at this
        rw [show n = L.length by omega, List.getElem?_concat_length] at h1
        rw [← Option.some.inj h1] at h2
        exact absurd h2.symm c
theorem MvOk.ext {l : List OpV} {L L' : List (List Int)} {G : Nat × Nat → Option Int} (h : MvOk l L G) (he : ∀ (n : Nat) (s : List Int), L[n]? = some s → L'[n]? = some s) : MvOk l L' G := fun n i r hr => by
  obtain ⟨s, o, h1, h2, h3⟩ := h n i r hr
  refine ⟨s, o, he n s h1, h2, h3.imp id ?_⟩
  rintro ⟨k, t, e1, e2, e3⟩
  exact ⟨k, t, e1, he k t e2, e3⟩
theorem get_app {L : List (List Int)} {t : List (List Int)} (n : Nat) (s : List Int) (h : L[n]? = some s) : (L ++ t)[n]? = some s := by
  rw [List.getElem?_append_left (List.getElem?_eq_some_iff.1 h).1]; exact h
/-- A state more. -/
theorem SrAt.add {w0 : World} {n₁ : Nat} {v : Value} {l : List OpV} {dn : Nat} {ah : List Nat} {w : World} {E c : Nat} {L : List (List Int)} (h : SrAt w0 n₁ v l dn ah w E c L) {u : Value} {s : List Int} (hu : OwnI 0 w u s) (hs : Okz s) (hl : s.length ≤ E + L.length + 1) (hE : E ≤ 1000000000) (hn : s ∉ L) (hc : c < 10000000) :
    ∃ vs w2 v3 w3, w.cell? ⟨w0.heap.size + 1 + 1 + 1, 3, none⟩ = some vs ∧ (∃ ao cap, vs = .slice ao L.length cap) ∧ (Instr.mapUpdate 116 (.map (some (w0.heap.size + 1))) (.string (textS s)) (.int .i64 (L.length : Int))).run Try.prog w = .ok () w2 ∧
      w2.cell? ⟨w0.heap.size + 1 + 1 + 1, 3, none⟩ = some vs ∧ (appSt #[vs, .slice (some ⟨w2.heap.size, 0, none⟩) 1 1]).run Try.prog (w2.alloc (.cells #[u] 27)) = .ok v3 w3 ∧ (∃ ao cap, v3 = .slice ao (L.length + 1) cap) ∧ w3.cell? ⟨w0.heap.size + 1 + 1 + 1, 3, none⟩ = some vs ∧ w3.frozen? ⟨w0.heap.size + 1 + 1 + 1, 3, none⟩ = false ∧
      SrAt w0 n₁ v l dn ah (w3.setCell ⟨w0.heap.size + 1 + 1 + 1, 3, none⟩ v3) E (c + 1) (L ++ [s]) ∧ Fr w0 n₁ w (w3.setCell ⟨w0.heap.size + 1 + 1 + 1, 3, none⟩ v3) := by
  obtain ⟨vs, hb, ho⟩ := h.bs
  obtain ⟨G, hG, hGo⟩ := h.nums
  obtain ⟨G', hM, hMo⟩ := h.mvs
  have hcnt := h.cnt
  have hts := textS_size hs
  obtain ⟨w2, hr2, hG2, hk2⟩ := hG.put tNum_good (by omega) (textS s) (show (textS s).size ≤ maxLen by unfold maxLen; omega) (L.length : Int)
  have hmap : ∃ es ck, w.heap[w0.heap.size + 1]? = some (.map es ck) := by obtain ⟨es, ck, e, _⟩ := hG; exact ⟨es, ck, e⟩
  have no2 : ∀ T g cur, g = w0.heap.size + 1 → w.heap[g]? = some (.cells cur T (0, 0)) → False := fun T g cur e hg => by
    obtain ⟨es, ck, e'⟩ := hmap
    rw [e, e'] at hg; cases hg
  have ho2 := sts_keep ho hk2 (no2 _) (no2 _)
  have hu2 := ownI_keep hu hk2 (no2 _)
  have hsz : n₁ ≤ w.heap.size := h.base.2
  have hsz0 := h.base.1
  obtain ⟨v3, w3, hr3, ho3, hk3⟩ := sts_push ho2 hu2 (Nat.le_trans hsz hk2.size) (by omega)
  have hrow : ∀ g, vs.ownBlock = some g → ∃ cur, w2.heap[g]? = some (.cells cur 27 (0, 0)) := fun g e => by
    obtain ⟨xs, a, _⟩ := ho2
    rcases a.2 with ⟨rfl, _⟩ | ⟨g', cap, cur, rfl, _, hg', _⟩
    · simp [Value.ownBlock] at e
    · obtain rfl : g' = g := by simpa [Value.ownBlock] using e
      exact ⟨cur, hg'⟩
  have hb2 := (hk2.block _ (heap_inO hb) (by omega)).trans hb
  have hnb : vs.ownBlock ≠ some (w0.heap.size + 1 + 1 + 1) := fun e => by
    obtain ⟨cur, hg⟩ := hrow _ e
    rw [hb2] at hg; unfold srO at hg
    exact absurd (Obj.cells.inj (Option.some.inj hg)).2.1 (by decide)
  have hb3 := (hk3.block _ (heap_inO hb2) hnb).trans hb2
  have hk4 : Keeps (fun k => k = w0.heap.size + 1 + 1 + 1) w3 (w3.setCell ⟨w0.heap.size + 1 + 1 + 1, 3, none⟩ v3) := (Keeps.refl (fun k => k = w0.heap.size + 1 + 1 + 1) w3).setCell (.inl (by rfl)) _
  have no4 : ∀ T, T ≠ 119 → ∀ g cur, g = w0.heap.size + 1 + 1 + 1 → w3.heap[g]? = some (.cells cur T (0, 0)) → False := fun T hT g cur e hg => by
    rw [e, hb3] at hg; unfold srO at hg
    exact hT (Obj.cells.inj (Option.some.inj hg)).2.1.symm
  have hb4 : (w3.setCell ⟨w0.heap.size + 1 + 1 + 1, 3, none⟩ v3).heap[w0.heap.size + 1 + 1 + 1]? = some (srO v (.slice (some ⟨w0.heap.size, 0, none⟩) ah.length ah.length) dn v3 (w0.heap.size + 1) (w0.heap.size + 1 + 1)) := heap_setCell_same _ _ _ _ _ _ hb3
  have hrow0 : ∀ g, vs.ownBlock = some g → n₁ ≤ g ∧ ∃ cur, w.heap[g]? = some (.cells cur 27 (0, 0)) := fun g e => by
    obtain ⟨xs, a, _⟩ := ho
    rcases a.2 with ⟨rfl, _⟩ | ⟨g', cap, cur, rfl, hg0, hg', _⟩
    · simp [Value.ownBlock] at e
    · obtain rfl : g' = g := by simpa [Value.ownBlock] using e
      exact ⟨hg0, cur, hg'⟩
  have other : ∀ b, b < w.heap.size → vs.ownBlock ≠ some b → b ≠ w0.heap.size + 1 → b ≠ w0.heap.size + 1 + 1 + 1 → (w3.setCell ⟨w0.heap.size + 1 + 1 + 1, 3, none⟩ v3).heap[b]? = w.heap[b]? := fun b hbo ht n1 n3 => by
    have e2 := hk2.block b hbo n1
    have e3 := (hk3.block b (Nat.lt_of_lt_of_le hbo hk2.size) ht).trans e2
    exact (hk4.block b (Nat.lt_of_lt_of_le hbo (Nat.le_trans hk2.size hk3.size)) n3).trans e3
  have hfr : Fr w0 n₁ w (w3.setCell ⟨w0.heap.size + 1 + 1 + 1, 3, none⟩ v3) :=
    ⟨hk4.os.trans (hk3.os.trans hk2.os), hk4.tape.trans (hk3.tape.trans hk2.tape), hk4.output.trans (hk3.output.trans hk2.output), Nat.le_trans hk2.size (Nat.le_trans hk3.size hk4.size), fun k hk hno =>
      other k hk (fun e => hno (.inr (.inr (.inr (hrow0 k e))))) (fun e => hno (.inr (.inl e))) (fun e => hno (.inl e))⟩
  have hc0 : w.cell? ⟨w0.heap.size + 1 + 1 + 1, 3, none⟩ = some vs := by unfold srO at hb; rw [cell_of_row _ _ _ _ _ _ hb]; rfl
  have hc2 : w2.cell? ⟨w0.heap.size + 1 + 1 + 1, 3, none⟩ = some vs := by unfold srO at hb2; rw [cell_of_row _ _ _ _ _ _ hb2]; rfl
  have hc3 : w3.cell? ⟨w0.heap.size + 1 + 1 + 1, 3, none⟩ = some vs := by unfold srO at hb3; rw [cell_of_row _ _ _ _ _ _ hb3]; rfl
  have hl1 : (L ++ [s]).length = L.length + 1 := by simp
  refine ⟨vs, w2, v3, w3, hc0, ho.reads.len, hr2, hc2, hr3, by rw [← hl1]; exact ho3.reads.len, hc3, cells_thaw hb3 3, ?_, hfr⟩
  have hmb : vs.ownBlock ≠ some (w0.heap.size + 1) := fun e => by
    obtain ⟨_, cur, hg⟩ := hrow0 _ e
    obtain ⟨es, ck, e'⟩ := hmap
    rw [e'] at hg; cases hg
  have hbl : w0.heap.size + 1 + 1 + 1 < w.heap.size := heap_inO hb
  refine ⟨h.bel.trans (hfr.below h.base.1 h.bel.size), ⟨v3, hb4, sts_keep ho3 hk4 (no4 _ (by decide)) (no4 _ (by decide))⟩, ?_, ⟨_, (hG2.of ?_), hGo.add (fun t ht => (h.ok t ht).1) hs hn⟩, ⟨G', (hM.of ?_).more (Nat.le_succ c), hMo.ext get_app⟩, ?_, ?_, ?_, h.base.1, Nat.le_trans hsz hfr.size⟩
  · refine (other _ (by omega) (fun e => ?_) (by omega) (by omega)).trans h.ba
    obtain ⟨_, cur, hg⟩ := hrow0 _ e
    rw [h.ba] at hg; unfold ahO at hg
    exact absurd (Obj.cells.inj (Option.some.inj hg)).2.1 (by decide)
  · have e3 := hk3.block (w0.heap.size + 1) (Nat.lt_of_lt_of_le (by omega) hk2.size) hmb
    exact (hk4.block _ (Nat.lt_of_lt_of_le (by omega) (Nat.le_trans hk2.size hk3.size)) (by omega)).trans e3
  · refine other _ (by omega) (fun e => ?_) (by omega) (by omega)
    obtain ⟨_, cur, hg⟩ := hrow0 _ e
    obtain ⟨es, ck, e', _⟩ := hM
    rw [e'] at hg; cases hg
  · rw [List.nodup_append]
    exact ⟨h.nd, by simp, fun a ha b hb e => by rw [List.mem_singleton.1 hb] at e; exact hn (e ▸ ha)⟩
  · intro t ht
    rw [hl1]
    rcases List.mem_append.1 ht with ht | ht
    · obtain ⟨a, b⟩ := h.ok t ht
      exact ⟨a, by omega⟩
    · rw [List.mem_singleton.1 ht]
      exact ⟨hs, by omega⟩
  · rw [hl1]; omega
end Ln
end Go.Proofs.Ytppjmmdiglnkfaa
