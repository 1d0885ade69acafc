/- Package lin: spread. Package lin: spread. -/
import Derived.Test.YtpooekmogfkkjaaSLnG
namespace Go.Proofs.Ytpooekmogfkkjaa
set_option maxRecDepth 100000
open Go.ChangeShapes Go.WideShapes Go.ChangeAt Go.RowKit Go.PlainAid Go.Deep
namespace Ln
def rtPl : RT := ⟨91, 54, .agg #[.int .u32 0, .int .i64 0, .int .u32 0], 3, 24⟩
theorem rtPl_good : rtPl.Good := ⟨Try.underlying54, by kernel_rfl, rfl, by decide, by decide⟩
def appPl (vs : Array Value) : Sem Value := Builtin.append_ #[54, 54] 54 vs
theorem app_pl (vs : Array Value) : Builtin.append_ #[54, 54] 54 vs = appPl vs := rfl
/-- The cells of places: a spot by its numbers, and what may be next. -/
def flatP (ps : List ((Nat × Nat) × Nat)) : List Value := ps.flatMap fun p => [.int .u32 (p.1.1 : Int), .int .i64 (p.1.2 : Int), .int .u32 (p.2 : Int)]
theorem flatP_snoc (ps : List ((Nat × Nat) × Nat)) (p : (Nat × Nat) × Nat) : flatP (ps ++ [p]) = flatP ps ++ [.int .u32 (p.1.1 : Int), .int .i64 (p.1.2 : Int), .int .u32 (p.2 : Int)] := by unfold flatP; rw [List.flatMap_append]; rfl
theorem flatP_get : ∀ (ns : List ((Nat × Nat) × Nat)) (i : Nat) (p : (Nat × Nat) × Nat), ns[i]? = some p → (flatP ns)[i * 3]? = some (.int .u32 (p.1.1 : Int)) ∧ (flatP ns)[i * 3 + 1]? = some (.int .i64 (p.1.2 : Int)) ∧ (flatP ns)[i * 3 + 2]? = some (.int .u32 (p.2 : Int))
  | q :: r, 0, p, h => by
    obtain rfl : q = p := by simpa using h
    exact ⟨rfl, rfl, rfl⟩
  | q :: r, i + 1, p, h => by
    have := flatP_get r i p (by simpa using h)
    have e : flatP (q :: r) = [.int .u32 (q.1.1 : Int), .int .i64 (q.1.2 : Int), .int .u32 (q.2 : Int)] ++ flatP r := rfl
    rw [e, List.getElem?_append_right (by simp; omega), List.getElem?_append_right (by simp; omega), List.getElem?_append_right (by simp; omega)]
    simp only [List.length_cons, List.length_nil]
    rw [show (i + 1) * 3 - (0 + 1 + 1 + 1) = i * 3 by omega, show (i + 1) * 3 + 1 - (0 + 1 + 1 + 1) = i * 3 + 1 by omega, show (i + 1) * 3 + 2 - (0 + 1 + 1 + 1) = i * 3 + 2 by omega]
    exact this
/-- What spread has in memory: its places, as the spots out. -/
structure PlI (w0 : World) (n₁ : Nat) (v : Value) (l : List OpV) (dn : Nat) (ah : List Nat) (w wr : World) (E c : Nat) (L : List (List Int)) (u : Value) (ps : List ((Nat × Nat) × Nat)) (out : List Spt) : Prop where
  sr : SrAt w0 n₁ v l dn ah wr E c L
  row : wr.ownsRow w.heap.size 91 3 u ps.length (flatP ps)
  is : ps.map (fun p => dec L p.1) = out
  lt : ∀ q ∈ ps, q.1.1 < 65536 ∧ q.1.2 < L.length ∧ Mk q.2 (mayB l q.1.1)
  fr : Fr w0 n₁ w wr
theorem PlI.on {w0 : World} {n₁ : Nat} {v : Value} {l : List OpV} {dn : Nat} {ah : List Nat} {w wr w' : World} {E c : Nat} {L : List (List Int)} {u : Value} {ps : List ((Nat × Nat) × Nat)} {out : List Spt} (h : PlI w0 n₁ v l dn ah w wr E c L u ps out) (hb : Below wr.heap.size wr w') : PlI w0 n₁ v l dn ah w w' E c L u ps out :=
  ⟨h.sr.on hb, ownsRow_onI h.row hb, h.is, h.lt, h.fr.trans (Fr.of hb)⟩
theorem PlI.next {w0 : World} {n₁ : Nat} {v : Value} {l : List OpV} {dn : Nat} {ah : List Nat} {w wr w' : World} {E c c' : Nat} {L L' : List (List Int)} {u : Value} {ps : List ((Nat × Nat) × Nat)} {out : List Spt} (h : PlI w0 n₁ v l dn ah w wr E c L u ps out) (hs : SrAt w0 n₁ v l dn ah w' E c' L') (he : Ext L L') (hf : Fr w0 n₁ wr w') : PlI w0 n₁ v l dn ah w w' E c' L' u ps out :=
  ⟨hs, h.sr.row hf h.row (by decide) (by decide), by rw [← h.is]; exact List.map_congr_left fun p hp => dec_ext he (h.lt p hp).2.1, fun q hq => ⟨(h.lt q hq).1, he.len (h.lt q hq).2.1, (h.lt q hq).2.2⟩, h.fr.trans hf⟩
/-- A place more. -/
theorem PlI.push {w0 : World} {n₁ : Nat} {v : Value} {l : List OpV} {dn : Nat} {ah : List Nat} {w wr : World} {E c : Nat} {L : List (List Int)} {u : Value} {ps : List ((Nat × Nat) × Nat)} {out : List Spt} (h : PlI w0 n₁ v l dn ah w wr E c L u ps out) (hw : w0.heap.size ≤ w.heap.size) {m k o : Nat} {t : List Int} (hm : m < 65536) (hk : L[k]? = some t) (ho : Mk o (mayB l m)) (hl : ps.length < 10000000) :
    ∃ u' w', (appPl #[u, .slice (some ⟨wr.heap.size, 0, none⟩) 1 1]).run Try.prog (wr.alloc (.cells #[.int .u32 (m : Int), .int .i64 (k : Int), .int .u32 (o : Int)] 91)) = .ok u' w' ∧ (∃ ao cap, u' = .slice ao (ps.length + 1) cap) ∧ PlI w0 n₁ v l dn ah w w' E c L u' (ps ++ [((m, k), o)]) (out ++ [(m, t)]) ∧ Keeps (fun b => u.ownBlock = some b) wr w' := by
  obtain ⟨u', w', hr, hrow, hkp⟩ := row_push rtPl_good (v := u) (n := ps.length) (a := flatP ps) h.row [.int .u32 (m : Int), .int .i64 (k : Int), .int .u32 (o : Int)] rfl (fun y hy => by simp at hy; rcases hy with rfl | rfl | rfl <;> rfl) h.fr.size (by omega)
  have hown : ∀ b, u.ownBlock = some b → w.heap.size ≤ b ∧ ∃ cur, wr.heap[b]? = some (.cells cur 91 (0, 0)) := fun b hb => row_block h.row hb
  obtain ⟨ao, cap, hu', _⟩ := own_len hrow
  have hl1 : (ps ++ [((m, k), o)]).length = ps.length + 1 := by simp
  refine ⟨u', w', hr, ⟨ao, cap, hu'⟩, ⟨h.sr.keep hkp (fun b hb => ?_), by rw [hl1, flatP_snoc]; exact hrow, ?_, ?_, Keeps.trans h.fr hkp fun i hi => .inr (hown i hi).1⟩, hkp⟩
  · obtain ⟨h1, cur, hg⟩ := hown b hb
    exact ⟨Nat.le_trans hw h1, cur, _, hg, by decide, by decide, by decide, by decide⟩
  · rw [List.map_append, h.is]
    congr 1
    show [dec L (m, k)] = _
    unfold dec
    rw [hk]
    rfl
  · intro q hq
    rcases List.mem_append.1 hq with hq | hq
    · exact h.lt q hq
    · rw [List.mem_singleton.1 hq]
      exact ⟨hm, (List.getElem?_eq_some_iff.1 hk).1, ho⟩
/-- What may be next, by what is before. -/
theorem open_may {l : List OpV} {ah : List Nat} (hl : ah.length = l.length) (h : ∀ i a, ah[i]? = some a → Mk a (befP l i)) (m k : Nat) : openP ah m k = mayB l m k := by
  unfold openP
  cases e : ah[k]? with
  | none =>
    have : ¬ k < l.length := by have := List.getElem?_eq_none_iff.1 e; omega
    cases c : mayB l m k with
    | false => rfl
    | true => exact absurd (may_lt c) this
  | some a =>
    have hk : k < l.length := by have := (List.getElem?_eq_some_iff.1 e).1; omega
    have ha := h k a e
    have hz := notN_zero (a := a) (b := m) (by have := ha.lt; omega)
    cases c : mayB l m k with
    | false =>
      cases d : (!m.testBit k && decide (notN a m = 0)) with
      | false => exact d
      | true =>
        simp at d
        have := may_iff.2 (show k < l.length ∧ m.testBit k = false ∧ ∀ j, befP l k j = true → m.testBit j = true from ⟨hk, d.1, fun j hj => (hz.1 d.2) j ((ha.bit j).trans hj)⟩)
        rw [c] at this
        cases this
    | true =>
      obtain ⟨_, h1, h2⟩ := may_iff.1 c
      simp [h1, hz.2 fun j hj => h2 j ((ha.bit j).symm.trans hj)]
/-- at, of a search. -/
theorem at_sr {w0 : World} {n₁ : Nat} {v : Value} {l : List OpV} {dn : Nat} {ah : List Nat} {w : World} {E c : Nat} {L : List (List Int)} (hF : Fix w0 v l dn ah) (h : SrAt w0 n₁ v l dn ah w E c L) (m : Nat) (hm : m < 65536) (st : Int) :
    Calls Try.prog 43 #[.pointer (some ⟨w0.heap.size + 1 + 1 + 1, 0, none⟩), .agg #[.int .u32 (m : Int), .int .i64 st]] w fun e w' => ∃ o : Nat, e = .returned (.agg #[.int .u32 (m : Int), .int .i64 st, .int .u32 (o : Int)]) ∧ Mk o (mayB l m) ∧ Below w.heap.size w w' := by
  obtain ⟨vs, hb, _⟩ := h.bs
  refine (at_any hb h.ba (by rw [hF.len]; exact hF.few) (fun a ha => ?_) m hm st).mono ?_
  · obtain ⟨i, hi⟩ := List.getElem?_of_mem ha
    exact (hF.ahk i a hi).lt
  · rintro _ w' ⟨o, rfl, ho, hbw⟩
    exact ⟨o, rfl, ho.of fun k => open_may hF.len hF.ahk m k, hbw⟩
/-- A row of states beside what a call changes. -/
theorem ents_keep {n₀ : Nat} {v : Value} {L : List (List Int)} {w w' : World} {own : Nat → Prop} (h : StsOwn n₀ w v L) (hk : Keeps own w w') (h1 : ∀ g cur, v.ownBlock = some g → w.heap[g]? = some (.cells cur 36 (0, 0)) → ¬ own g) (h2 : ∀ g cur, own g → w.heap[g]? = some (.cells cur 3 (0, 0)) → False) : StsOwn n₀ w' v L := by
  obtain ⟨vs, a, b⟩ := h
  refine ⟨vs, ⟨a.1, ?_⟩, fun i u s hu hs => ownI_keep (b i u s hu hs) hk h2⟩
  rcases a.2 with h | ⟨g, cap, cur, rfl, hn, hg, hr⟩
  · exact .inl h
  · exact .inr ⟨g, cap, cur, rfl, hn, (hk.block g (heap_inO hg) (h1 g cur rfl hg)).trans hg, hr⟩
theorem SrAt.ents {w0 : World} {n₁ : Nat} {v : Value} {l : List OpV} {dn : Nat} {ah : List Nat} {w w' : World} {E c : Nat} {L : List (List Int)} (h : SrAt w0 n₁ v l dn ah w E c L) (k : Fr w0 n₁ w w') {n₂ : Nat} {u : Value} {m : List (List Int)} (he : StsOwn n₂ w u m) (hlt : ∀ g, u.ownBlock = some g → g < n₁) : StsOwn n₂ w' u m := by
  obtain ⟨vs, hb, _⟩ := h.bs
  obtain ⟨_, ⟨_, _, e2, _⟩, _⟩ := h.nums
  obtain ⟨_, ⟨_, _, e3, _⟩, _⟩ := h.mvs
  unfold srO at hb
  refine ents_keep he k (fun g cur hg hc => ?_) (fun g cur ho hc => ?_)
  · have := hlt g hg
    rintro (rfl | rfl | rfl | ⟨h0, _⟩)
    · rw [hb] at hc; exact absurd (Obj.cells.inj (Option.some.inj hc)).2.1 (by decide)
    · rw [e2] at hc; cases hc
    · rw [e3] at hc; cases hc
    · omega
  · rcases ho with rfl | rfl | rfl | ⟨_, cur', hc'⟩
    · rw [hb] at hc; exact absurd (Obj.cells.inj (Option.some.inj hc)).2.1 (by decide)
    · rw [e2] at hc; cases hc
    · rw [e3] at hc; cases hc
    · rw [hc'] at hc; exact absurd (Obj.cells.inj (Option.some.inj hc)).2.1 (by decide)
/-- Which spots are known, entries aside. -/
def KnOk (G : Nat × Nat → Option Unit) (ps : List ((Nat × Nat) × Nat)) : Prop := ∀ p : Nat × Nat, p.1 ≠ 0 → ((G p).isSome = true ↔ ∃ o, (p, o) ∈ ps)
theorem nodup_inj {α : Type} {L : List α} (hn : L.Nodup) {i j : Nat} (hi : i < L.length) (hj : j < L.length) (h : L[i] = L[j]) : i = j := by
  rcases Nat.lt_trichotomy i j with c | c | c
  · exact absurd h (List.pairwise_iff_getElem.1 hn i j hi hj c)
  · exact c
  · exact absurd h.symm (List.pairwise_iff_getElem.1 hn j i hj hi c)
theorem dec_inj {L : List (List Int)} (hn : L.Nodup) {p q : Nat × Nat} (hp : p.2 < L.length) (hq : q.2 < L.length) (h : dec L p = dec L q) : p = q := by
  unfold dec at h
  rw [List.getElem?_eq_getElem hp, List.getElem?_eq_getElem hq] at h
  obtain ⟨h1, h2⟩ := Prod.mk.inj h
  exact Prod.ext h1 (nodup_inj hn hp hq h2)
theorem kn_mem {L : List (List Int)} {ps : List ((Nat × Nat) × Nat)} {out : List Spt} (hn : L.Nodup) (hi : ps.map (fun p => dec L p.1) = out) (hl : ∀ q ∈ ps, q.1.2 < L.length) {p : Nat × Nat} (hp : p.2 < L.length) : dec L p ∈ out ↔ ∃ o, (p, o) ∈ ps := by
  rw [← hi, List.mem_map]
  constructor
  · rintro ⟨q, hq, e⟩
    obtain rfl := dec_inj hn (hl q hq) hp e
    exact ⟨q.2, hq⟩
  · rintro ⟨o, ho⟩
    exact ⟨_, ho, rfl⟩
theorem KnOk.put {G : Nat × Nat → Option Unit} {ps : List ((Nat × Nat) × Nat)} (h : KnOk G ps) (p : Nat × Nat) (o : Nat) : KnOk (Lm.put G p ()) (ps ++ [(p, o)]) := fun q hq => by
  by_cases c : q = p
  · subst c
    rw [Lm.put_same]
    exact ⟨fun _ => ⟨o, by simp⟩, fun _ => rfl⟩
  · rw [Lm.put_other _ _ _ c, h q hq]
    constructor
    · rintro ⟨x, hx⟩
      exact ⟨x, List.mem_append_left _ hx⟩
    · rintro ⟨x, hx⟩
      rcases List.mem_append.1 hx with hx | hx
      · exact ⟨x, hx⟩
      · exact absurd (Prod.mk.inj (List.mem_singleton.1 hx)).1 c
end Ln
end Go.Proofs.Ytpooekmogfkkjaa
namespace Go.Proofs.Ytpooekmogfkkjaa
set_option maxRecDepth 100000
open Go.ChangeShapes Go.WideShapes Go.ChangeAt Go.RowKit Go.PlainAid Go.Deep
namespace Ln
attribute [local go_sem ↓ high] app_pl
theorem make_map3 (w : World) : (Instr.makeMap 94 none).run Try.prog w = .ok (.map (some w.heap.size)) (w.alloc (.map #[] 0)) := by
  simp [Instr.makeMap, Result.andThen]
/-- The spots of entries. -/
def starts (first : List (List Int)) : List Spt := first.map fun s => (0, s)
/-- What the second loop has in memory. -/
structure SpI (w0 : World) (n₁ : Nat) (v : Value) (l : List OpV) (dn : Nat) (ah : List Nat) (w wr : World) (E c bk : Nat) (L : List (List Int)) (u : Value) (ps : List ((Nat × Nat) × Nat)) (out : List Spt) : Prop where
  pl : PlI w0 n₁ v l dn ah w wr E c L u ps out
  kn : ∃ G, Lm.At tSp wr bk ps.length G ∧ KnOk G ps
  bkw : w.heap.size ≤ bk
theorem SpI.on {w0 : World} {n₁ : Nat} {v : Value} {l : List OpV} {dn : Nat} {ah : List Nat} {w wr w' : World} {E c bk : Nat} {L : List (List Int)} {u : Value} {ps : List ((Nat × Nat) × Nat)} {out : List Spt} (h : SpI w0 n₁ v l dn ah w wr E c bk L u ps out) (hb : Below wr.heap.size wr w') : SpI w0 n₁ v l dn ah w w' E c bk L u ps out := by
  obtain ⟨G, h1, h2⟩ := h.kn
  exact ⟨h.pl.on hb, ⟨G, h1.on hb, h2⟩, h.bkw⟩
theorem SpI.more {w0 : World} {n₁ : Nat} {v : Value} {l : List OpV} {dn : Nat} {ah : List Nat} {w wr : World} {E c c' bk : Nat} {L : List (List Int)} {u : Value} {ps : List ((Nat × Nat) × Nat)} {out : List Spt} (h : SpI w0 n₁ v l dn ah w wr E c bk L u ps out) (hc : c ≤ c') : SpI w0 n₁ v l dn ah w wr E c' bk L u ps out :=
  ⟨⟨h.pl.sr.more hc, h.pl.row, h.pl.is, h.pl.lt, h.pl.fr⟩, h.kn, h.bkw⟩
theorem SpI.next {w0 : World} {n₁ : Nat} {v : Value} {l : List OpV} {dn : Nat} {ah : List Nat} {w wr w' : World} {E c c' bk : Nat} {L L' : List (List Int)} {u : Value} {ps : List ((Nat × Nat) × Nat)} {out : List Spt} (h : SpI w0 n₁ v l dn ah w wr E c bk L u ps out) (hs : SrAt w0 n₁ v l dn ah w' E c' L') (he : Ext L L') (hf : Fr w0 n₁ wr w') (hb : w0.heap.size + 1 + 1 < bk) : SpI w0 n₁ v l dn ah w w' E c' bk L' u ps out := by
  obtain ⟨G, ⟨es, ck, h1, h1'⟩, h2⟩ := h.kn
  exact ⟨h.pl.next hs he hf, ⟨G, ⟨es, ck, h.pl.sr.map hf h1 (by omega) (by omega), h1'⟩, h2⟩, h.bkw⟩
/-- Is a spot known? -/
theorem SpI.look {w0 : World} {n₁ : Nat} {v : Value} {l : List OpV} {dn : Nat} {ah : List Nat} {w wr : World} {E c bk : Nat} {L : List (List Int)} {u : Value} {ps : List ((Nat × Nat) × Nat)} {out : List Spt} (h : SpI w0 n₁ v l dn ah w wr E c bk L u ps out) {m k : Nat} (hm : m < 65536) (h0 : m ≠ 0) (hk : k < L.length) (hL : L.length ≤ 10000000) :
    ∃ b, (Instr.lookup 94 (.map (some bk)) (.agg #[.int .u32 (m : Int), .int .i64 (k : Int)]) true).run Try.prog wr = .ok (.tuple #[.agg #[], .bool b]) wr ∧ (b = true ↔ dec L (m, k) ∈ out) := by
  obtain ⟨G, hG, hK⟩ := h.kn
  have lk := hG.look tSp_good (m, k) (show m < 65536 ∧ k < 1000000000 from ⟨hm, by omega⟩) true
  have hkn := (hK (m, k) h0).trans (kn_mem h.pl.sr.nd h.pl.is (fun q hq => (h.pl.lt q hq).2.1) (p := (m, k)) hk).symm
  refine ⟨(G (m, k)).isSome, ?_, hkn⟩
  cases e : G (m, k) with
  | none => rw [e] at lk; exact lk
  | some x => rw [e] at lk; exact lk
/-- A new spot, known from now on, and its place. -/
theorem SpI.put {w0 : World} {n₁ : Nat} {v : Value} {l : List OpV} {dn : Nat} {ah : List Nat} {w wr : World} {E c bk : Nat} {L : List (List Int)} {u : Value} {ps : List ((Nat × Nat) × Nat)} {out : List Spt} (h : SpI w0 n₁ v l dn ah w wr E c bk L u ps out) {m k : Nat} (hm : m < 65536) (hk : k < L.length) (hL : L.length ≤ 10000000) (hp : ps.length ≤ 10000000) (hb : w0.heap.size + 1 + 1 < bk) :
    ∃ w', (Instr.mapUpdate 94 (.map (some bk)) (.agg #[.int .u32 (m : Int), .int .i64 (k : Int)]) (.agg #[])).run Try.prog wr = .ok () w' ∧ PlI w0 n₁ v l dn ah w w' E c L u ps out ∧ Keeps (fun b => b = bk) wr w' ∧ (∃ G, Lm.At tSp w' bk (ps.length + 1) (Lm.put G (m, k) ()) ∧ KnOk G ps) := by
  obtain ⟨G, hG, hK⟩ := h.kn
  obtain ⟨w', hr, hG', hk'⟩ := hG.put tSp_good (by omega) (m, k) (show m < 65536 ∧ k < 1000000000 from ⟨hm, by omega⟩) ()
  have hmap : ∃ es ck, wr.heap[bk]? = some (.map es ck) := by obtain ⟨es, ck, e, _⟩ := hG; exact ⟨es, ck, e⟩
  have hno : ∀ b cur T, b = bk → wr.heap[b]? = some (.cells cur T (0, 0)) → False := fun b cur T e hg => by
    obtain ⟨es, ck, e'⟩ := hmap
    rw [e, e'] at hg; cases hg
  have hbw := h.bkw
  refine ⟨w', hr, ⟨h.pl.sr.keep' hk' (fun b e => by omega) (fun b cur T e hg => (hno b cur T e hg).elim) (fun b es ck e _ => by omega), row_keep h.pl.row hk' (fun g cur e hg => hno g cur _ e hg), h.pl.is, h.pl.lt, Keeps.trans h.pl.fr hk' fun i hi => .inr (by omega)⟩, hk', ⟨G, hG', hK⟩⟩
/-- A place more, of a spot that is known. -/
theorem SpI.push {w0 : World} {n₁ : Nat} {v : Value} {l : List OpV} {dn : Nat} {ah : List Nat} {w wr : World} {E c bk : Nat} {L : List (List Int)} {u : Value} {ps : List ((Nat × Nat) × Nat)} {out : List Spt} (h : PlI w0 n₁ v l dn ah w wr E c L u ps out) {m k : Nat} {G : Nat × Nat → Option Unit} (hG : Lm.At tSp wr bk (ps.length + 1) (Lm.put G (m, k) ())) (hK : KnOk G ps) (hbk : w.heap.size ≤ bk) (hw : w0.heap.size ≤ w.heap.size) {o : Nat} {t : List Int} (hm : m < 65536) (hk : L[k]? = some t) (ho : Mk o (mayB l m)) (hl : ps.length < 10000000) :
    ∃ u' w', (appPl #[u, .slice (some ⟨wr.heap.size, 0, none⟩) 1 1]).run Try.prog (wr.alloc (.cells #[.int .u32 (m : Int), .int .i64 (k : Int), .int .u32 (o : Int)] 91)) = .ok u' w' ∧ (∃ ao cap, u' = .slice ao (ps.length + 1) cap) ∧ SpI w0 n₁ v l dn ah w w' E c bk L u' (ps ++ [((m, k), o)]) (out ++ [(m, t)]) ∧ Keeps (fun b => u.ownBlock = some b) wr w' := by
  obtain ⟨u', w', hr, hu, hp, hkp⟩ := h.push hw hm hk ho hl
  obtain ⟨es, ck, e, hi⟩ := hG
  refine ⟨u', w', hr, hu, ⟨hp, ⟨_, ⟨es, ck, (hkp.block bk (Array.getElem?_eq_some_iff.1 e).1 (fun c => ?_)).trans e, ?_⟩, hK.put (m, k) o⟩, hbk⟩, hkp⟩
  · obtain ⟨_, cur, hg⟩ := row_block h.row c
    rw [e] at hg; cases hg
  · have : (ps ++ [((m, k), o)]).length = ps.length + 1 := by simp
    rw [this]
    exact hi
end Ln
end Go.Proofs.Ytpooekmogfkkjaa
