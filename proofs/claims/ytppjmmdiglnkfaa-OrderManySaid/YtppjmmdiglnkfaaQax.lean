/- Package order: its search in memory. Package order: spent, and the order that grows. -/
import Derived.Test.YtppjmmdiglnkfaaQaw
import Derived.Test.YtppjmmdiglnkfaaQas
import Derived.Test.YtppjmmdiglnkfaaQal
namespace Go.Proofs.Ytppjmmdiglnkfaa
set_option maxRecDepth 100000
open Go.ChangeShapes Go.WideShapes Go.ChangeAt Go.RowKit Go.PlainAid Go.Deep Go.ChangeMaps Go.MapKept
namespace Od
open Ln
/-! ### The type of its map -/
abbrev Key := Nat × Nat × ByteArray
def kSo (p : Key) : Value := .agg #[.int .i64 (p.1 : Int), .int .u32 (p.2.1 : Int), .string p.2.2]
def tSo : Lm.Ty Key Unit := ⟨75, 102, 63, .agg #[], kSo, fun _ => .agg #[], fun _ => .nil, fun p => p.1 < 1000000000 ∧ p.2.1 < 65536 ∧ p.2.2.size ≤ maxLen⟩
theorem key_so (p : Key) (h : p.1 < 1000000000 ∧ p.2.1 < 65536 ∧ p.2.2.size ≤ maxLen) : ∃ l, keyOf Try.prog 75 (kSo p) = some l := by
  obtain ⟨d, hd⟩ := types_size
  have h1 : Try.prog.keyType 75 = true := by kernel_rfl
  have h2 : Try.prog.cellsOf 75 = 3 := by kernel_rfl
  have h3 : Try.prog.cellsOf 3 = 1 := by kernel_rfl
  have h3b : Try.prog.cellsOf 68 = 1 := by kernel_rfl
  have h3c : Try.prog.cellsOf 9 = 1 := by kernel_rfl
  have h4 : (kSo p).formed Try.prog 75 = true := by simp [kSo, Value.formed, Try.underlying75, h2]
  unfold keyOf
  rw [Try.underlying75]
  simp only [h1, h4, Bool.and_self, if_true]
  have h5 : Try.prog.keyLits (Try.prog.types.size + 1) 75 (kSo p).cells.toList = some [.int .i64 (p.1 : Int), .int .u32 (p.2.1 : Int), .string p.2.2.data.toList] := by
    rw [hd]
    simp [Program.keyLits, Try.underlying75, Try.underlying3, Try.underlying68, Try.underlying9, kSo, Value.cells, h2, h3, h3b, h3c, wf_i64 h.1, wf_u32 h.2.1, h.2.2]
  rw [h5]
  exact ⟨_, rfl⟩
theorem tSo_good : Lm.Good tSo where
  keyed := Maps.Keyed.of_law (deep_law_laid laidOut (m := 2) (by omega) (of_decide_eq_true (by kernel_rfl)) (by kernel_rfl) (by kernel_rfl))
  mtOf := Try.underlying63
  z := fun w => (by kernel_rfl : (zeroValue 102).run Try.prog w = .ok (.agg #[]) w)
  key := key_so
  kinj := fun a b h => by
    have := Array.mk.inj (Value.agg.inj h)
    simp at this
    exact Prod.ext (by omega) (Prod.ext (by omega) this.2.2)
  einj := fun a b _ => rfl
  cinj := fun a b _ => rfl
/-! ### Pieces -/
/-- A piece in memory. -/
structure Pc (w : World) (l : List OpV) (vo va vd : Value) : Prop where
  ops : OpsOwn 0 w vo l
  wf : ∀ o ∈ l, o.Wf
  few : l.length ≤ 16
  ah : ∃ b ah, va = .slice (some ⟨b, 0, none⟩) ah.length ah.length ∧ w.heap[b]? = some (ahO ah) ∧ ah.length = l.length ∧ ∀ i a, ah[i]? = some a → Mk a (befP l i)
  dn : ∃ dn : Nat, vd = .int .u32 (dn : Int) ∧ Mk dn (doneP l)
theorem Pc.on {w w' : World} {l : List OpV} {vo va vd : Value} (h : Pc w l vo va vd) (hb : Below w.heap.size w w') : Pc w' l vo va vd := by
  obtain ⟨b, ah, h1, h2, h3⟩ := h.ah
  exact ⟨h.ops.on hb, h.wf, h.few, ⟨b, ah, h1, (hb.block _ (heap_inO h2)).trans h2, h3⟩, h.dn⟩
theorem Pc.keep {w w' : World} {l : List OpV} {vo va vd : Value} (h : Pc w l vo va vd) {own : Nat → Prop} (hk : Keeps own w w') (hno : ∀ T g cur, own g → (T = 43 ∨ T = 68 ∨ T = 70) → w.heap[g]? = some (.cells cur T (0, 0)) → False) : Pc w' l vo va vd := by
  obtain ⟨b, ah, h1, h2, h3⟩ := h.ah
  refine ⟨row_keep h.ops hk fun g cur e hg => hno _ g cur e (.inl rfl) hg, h.wf, h.few, ⟨b, ah, h1, (hk.block _ (heap_inO h2) fun e => ?_).trans h2, h3⟩, h.dn⟩
  unfold ahO at h2
  exact hno _ b _ e (.inr (.inl rfl)) h2
/-- All pieces. -/
def PcsOf (w : World) (v : Value) (P : List (List OpV)) : Prop := ∃ cs, w.ownsRow 0 70 3 v P.length cs ∧ ∀ k l, P[k]? = some l → ∃ vo va vd, cs[k * 3]? = some vo ∧ cs[k * 3 + 1]? = some va ∧ cs[k * 3 + 2]? = some vd ∧ Pc w l vo va vd
theorem PcsOf.on {w w' : World} {v : Value} {P : List (List OpV)} (h : PcsOf w v P) (hb : Below w.heap.size w w') : PcsOf w' v P := by
  obtain ⟨cs, h1, h2⟩ := h
  refine ⟨cs, ownsRow_onI h1 hb, fun k l hk => ?_⟩
  obtain ⟨vo, va, vd, a, b, c, d⟩ := h2 k l hk
  exact ⟨vo, va, vd, a, b, c, d.on hb⟩
theorem PcsOf.keep {w w' : World} {v : Value} {P : List (List OpV)} (h : PcsOf w v P) {own : Nat → Prop} (hk : Keeps own w w') (hno : ∀ T g cur, own g → (T = 43 ∨ T = 68 ∨ T = 70) → w.heap[g]? = some (.cells cur T (0, 0)) → False) : PcsOf w' v P := by
  obtain ⟨cs, h1, h2⟩ := h
  refine ⟨cs, row_keep h1 hk fun g cur e hg => hno _ g cur e (.inr (.inr rfl)) hg, fun k l hkl => ?_⟩
  obtain ⟨vo, va, vd, a, b, c, d⟩ := h2 k l hkl
  exact ⟨vo, va, vd, a, b, c, d.keep hk hno⟩
theorem PcsOf.len {w : World} {v : Value} {P : List (List OpV)} (h : PcsOf w v P) : ∃ ao cap, v = .slice ao P.length cap := by
  obtain ⟨cs, h1, _⟩ := h
  obtain ⟨ao, cap, e, _⟩ := own_len h1
  exact ⟨ao, cap, e⟩
/-- What is read of a piece. -/
structure PcR (w : World) (v : Value) (P : List (List OpV)) (k : Nat) (l : List OpV) (b cap : Nat) (ao : Option Addr) (co ba : Nat) (ah : List Nat) (dn : Nat) : Prop where
  row : v = .slice (some ⟨b, 0, none⟩) P.length cap
  lt : b < w.heap.size
  c0 : w.cell? ⟨b, k * 3, none⟩ = some (.slice ao l.length co)
  c1 : w.cell? ⟨b, k * 3 + 1, none⟩ = some (.slice (some ⟨ba, 0, none⟩) ah.length ah.length)
  c2 : w.cell? ⟨b, k * 3 + 2, none⟩ = some (.int .u32 (dn : Int))
  ops : OpsOf w (.slice ao l.length co) l
  own : OpsOwn 0 w (.slice ao l.length co) l
  few : l.length ≤ 16
  ahb : w.heap[ba]? = some (ahO ah)
  len : ah.length = l.length
  ahk : ∀ i a, ah[i]? = some a → Mk a (befP l i)
  dnk : Mk dn (doneP l)
theorem PcsOf.at {w : World} {v : Value} {P : List (List OpV)} (h : PcsOf w v P) {k : Nat} {l : List OpV} (hk : P[k]? = some l) : ∃ b cap ao co ba ah dn, PcR w v P k l b cap ao co ba ah dn := by
  obtain ⟨cs, h1, h2⟩ := h
  obtain ⟨vo, va, vd, e0, e1, e2, hp⟩ := h2 k l hk
  have hlt := (List.getElem?_eq_some_iff.1 hk).1
  obtain ⟨b, p, cap, hv, hb, hr⟩ := (own_rd h1).at (by omega)
  obtain ⟨rfl, _⟩ : p = 0 ∧ True := by
    rw [hv] at h1
    exact ⟨(own_cell h1).1, trivial⟩
  obtain ⟨ba, ah, rfl, ha, hal, hak⟩ := hp.ah
  obtain ⟨dn, rfl, hd⟩ := hp.dn
  have ho := hp.ops.reads hp.wf
  obtain ⟨ao, co, rfl⟩ := ho.len
  have r0 := hr _ _ e0
  have r1 := hr _ _ e1
  have r2 := hr _ _ e2
  rw [Nat.zero_add] at r0 r1 r2
  exact ⟨b, cap, ao, co, ba, ah, dn, hv, hb, r0, r1, r2, ho, hp.ops, hp.few, ha, hal, hak, hd⟩
/-! ### The search -/
def keyO (x : Spo) : Key := (x.1, x.2.1, textS x.2.2)
def soC (x : Spo) : Array Value := #[.int .i64 (x.1 : Int), .int .u32 (x.2.1 : Int), .string (textS x.2.2)]
def soO (v : Value) (bM met : Nat) (lim : Int) (vb : Value) : Obj := .cells #[v, .map (some bM), .int .i64 (met : Int), .int .i64 lim, vb] 66 (0, 0)
/-- What a spot is that may be met. -/
structure SpOk (P : List (List OpV)) (x : Spo) (n : Nat) : Prop where
  le : x.1 ≤ P.length
  msk : x.2.1 < 65536
  ok : Okz x.2.2
  len : x.2.2.length + n ≤ 1000000
/-- A search in memory. -/
structure SoAt (n₁ bS bM : Nat) (lim : Int) (v : Value) (P : List (List OpV)) (w : World) (s : Stt) : Prop where
  pcs : PcsOf w v P
  bs : ∃ vb, w.heap[bS]? = some (soO v bM s.seen.length lim vb) ∧ OwnI n₁ w vb s.back
  dd : ∃ G, Lm.At tSo w bM s.dead.length G ∧ ∀ k, (G k).isSome = true ↔ ∃ d ∈ s.dead, keyO d = k
  ok : ∀ d ∈ s.dead, Okz d.2.2
  few : s.dead.length ≤ s.seen.length
  base : n₁ ≤ bS ∧ n₁ ≤ bM ∧ n₁ ≤ w.heap.size
theorem SoAt.on {n₁ bS bM : Nat} {lim : Int} {v : Value} {P : List (List OpV)} {w w' : World} {s : Stt} (h : SoAt n₁ bS bM lim v P w s) (hb : Below w.heap.size w w') : SoAt n₁ bS bM lim v P w' s := by
  obtain ⟨vb, h1, h2⟩ := h.bs
  obtain ⟨G, h3, h4⟩ := h.dd
  exact ⟨h.pcs.on hb, ⟨vb, (hb.block _ (heap_inO h1)).trans h1, h2.on hb⟩, ⟨G, h3.on hb, h4⟩, h.ok, h.few, h.base.1, h.base.2.1, Nat.le_trans h.base.2.2 hb.size⟩
/-- What a call of the search may change. -/
def FrO (n₁ bS bM : Nat) (w w' : World) : Prop := Keeps (fun b => b = bS ∨ b = bM ∨ (n₁ ≤ b ∧ ∃ cur, w.heap[b]? = some (.cells cur 3 (0, 0)))) w w'
theorem FrO.of {n₁ bS bM : Nat} {w w' : World} (h : Below w.heap.size w w') : FrO n₁ bS bM w w' := Keeps.of_below h
theorem FrO.refl (n₁ bS bM : Nat) (w : World) : FrO n₁ bS bM w w := Keeps.refl _ _
theorem FrO.trans {n₁ bS bM : Nat} {a b c : World} (h : FrO n₁ bS bM a b) (k : FrO n₁ bS bM b c) : FrO n₁ bS bM a c := by
  refine Keeps.trans h k fun i hi => ?_
  rcases hi with hi | hi | ⟨h0, cur, hc⟩
  · exact .inl (.inl hi)
  · exact .inl (.inr (.inl hi))
  · by_cases c : i < a.heap.size
    · refine .inl (Classical.byContradiction fun hn => hn (.inr (.inr ⟨h0, cur, ?_⟩)))
      rw [← h.block i c hn]
      exact hc
    · exact .inr (by omega)
theorem FrO.below {n₁ bS bM : Nat} {w w' : World} (h : FrO n₁ bS bM w w') {n : Nat} (h0 : n ≤ n₁) (h1 : n ≤ bS) (h2 : n ≤ bM) (hw : n ≤ w.heap.size) : Below n w w' :=
  Keeps.below h (fun i hi => by rcases hi with hi | hi | ⟨h0, _⟩ <;> omega) hw
theorem SoAt.cells {n₁ bS bM : Nat} {lim : Int} {v : Value} {P : List (List OpV)} {w w' : World} {s : Stt} (h : SoAt n₁ bS bM lim v P w s) (k : FrO n₁ bS bM w w') {b : Nat} {cur : Array Value} {T : TypeId} (hb : w.heap[b]? = some (.cells cur T (0, 0))) (h1 : T ≠ 3) (h2 : T ≠ 66) : w'.heap[b]? = some (.cells cur T (0, 0)) := by
  refine (Keeps.block k b (heap_inO hb) fun hi => ?_).trans hb
  obtain ⟨vs, e1, _⟩ := h.bs
  obtain ⟨_, ⟨_, _, e2, _⟩, _⟩ := h.dd
  rcases hi with rfl | rfl | ⟨_, cur', hc⟩
  · rw [hb] at e1; unfold soO at e1; exact h2 (Obj.cells.inj (Option.some.inj e1)).2.1
  · rw [hb] at e2; cases e2
  · rw [hb] at hc; exact h1 (Obj.cells.inj (Option.some.inj hc)).2.1
theorem SoAt.opsK {n₁ bS bM : Nat} {lim : Int} {v : Value} {P : List (List OpV)} {w w' : World} {s : Stt} (h : SoAt n₁ bS bM lim v P w s) (k : FrO n₁ bS bM w w') {u : Value} {l : List OpV} (ho : OpsOwn 0 w u l) : OpsOwn 0 w' u l :=
  row_keep ho k fun g cur e hg => by
    obtain ⟨vs, e1, _⟩ := h.bs
    obtain ⟨_, ⟨_, _, e2, _⟩, _⟩ := h.dd
    rcases e with rfl | rfl | ⟨_, cur', hc⟩
    · rw [hg] at e1; unfold soO at e1; exact absurd (Obj.cells.inj (Option.some.inj e1)).2.1 (by decide)
    · rw [hg] at e2; cases e2
    · rw [hg] at hc; exact absurd (Obj.cells.inj (Option.some.inj hc)).2.1 (by decide)
/-- What is read of a search. -/
theorem SoAt.rd {n₁ bS bM : Nat} {lim : Int} {v : Value} {P : List (List OpV)} {w : World} {s : Stt} (h : SoAt n₁ bS bM lim v P w s) : ∃ vb, w.cell? ⟨bS, 0, none⟩ = some v ∧ w.cell? ⟨bS, 1, none⟩ = some (.map (some bM)) ∧ w.cell? ⟨bS, 2, none⟩ = some (.int .i64 (s.seen.length : Int)) ∧ w.cell? ⟨bS, 3, none⟩ = some (.int .i64 lim) ∧ w.cell? ⟨bS, 4, none⟩ = some vb ∧ OwnI n₁ w vb s.back ∧ bS < w.heap.size := by
  obtain ⟨vb, hb, ho⟩ := h.bs
  have hlt := heap_inO hb
  unfold soO at hb
  exact ⟨vb, by rw [cell_of_row _ _ _ _ _ _ hb]; rfl, by rw [cell_of_row _ _ _ _ _ _ hb]; rfl, by rw [cell_of_row _ _ _ _ _ _ hb]; rfl, by rw [cell_of_row _ _ _ _ _ _ hb]; rfl, by rw [cell_of_row _ _ _ _ _ _ hb]; rfl, ho, hlt⟩
/-- Is a spot known to lead nowhere? -/
theorem SoAt.look {n₁ bS bM : Nat} {lim : Int} {v : Value} {P : List (List OpV)} {w : World} {s : Stt} (h : SoAt n₁ bS bM lim v P w s) {x : Spo} {n : Nat} (hx : SpOk P x n) (hP : P.length ≤ 100000) :
    ∃ b, (Instr.lookup 63 (.map (some bM)) (.agg (soC x)) true).run Try.prog w = .ok (.tuple #[.agg #[], .bool b]) w ∧ (b = true ↔ x ∈ s.dead) := by
  obtain ⟨G, hG, hK⟩ := h.dd
  have hts := textS_size hx.ok
  have hle := hx.le
  have hln := hx.len
  have lk := hG.look tSo_good (keyO x) (show x.1 < 1000000000 ∧ x.2.1 < 65536 ∧ (textS x.2.2).size ≤ maxLen from ⟨by omega, hx.msk, by unfold maxLen; omega⟩) true
  have hm : (G (keyO x)).isSome = true ↔ x ∈ s.dead := by
    rw [hK]
    constructor
    · rintro ⟨d, hd, e⟩
      unfold keyO at e
      have e1 := Prod.mk.inj e
      have e2 := Prod.mk.inj e1.2
      have : d = x := Prod.ext e1.1 (Prod.ext e2.1 (text_inj (h.ok d hd) hx.ok e2.2))
      rw [← this]; exact hd
    · intro hd
      exact ⟨x, hd, rfl⟩
  refine ⟨(G (keyO x)).isSome, ?_, hm⟩
  cases e : G (keyO x) with
  | none => rw [e] at lk; exact lk
  | some y => rw [e] at lk; exact lk
theorem not_map {w : World} {bM g : Nat} {cur : Array Value} {T : TypeId} (hm : ∃ es ck, w.heap[bM]? = some (.map es ck)) (e : g = bM) (hg : w.heap[g]? = some (.cells cur T (0, 0))) : False := by
  obtain ⟨es, ck, e'⟩ := hm
  rw [e, e'] at hg
  cases hg
/-- One more is met. -/
theorem SoAt.met {n₁ bS bM : Nat} {lim : Int} {v : Value} {P : List (List OpV)} {w : World} {s : Stt} (h : SoAt n₁ bS bM lim v P w s) (x : Spo) : SoAt n₁ bS bM lim v P (w.setCell ⟨bS, 2, none⟩ (.int .i64 ((s.seen.length : Int) + 1))) (s.meet x) ∧ FrO n₁ bS bM w (w.setCell ⟨bS, 2, none⟩ (.int .i64 ((s.seen.length : Int) + 1))) := by
  obtain ⟨vb, hb, ho⟩ := h.bs
  obtain ⟨G, hG, hK⟩ := h.dd
  have hk : Keeps (fun k => k = bS) w (w.setCell ⟨bS, 2, none⟩ (.int .i64 ((s.seen.length : Int) + 1))) := (Keeps.refl (fun k => k = bS) w).setCell (.inl (by rfl)) _
  have hno : ∀ T, T ≠ 66 → ∀ g cur, g = bS → w.heap[g]? = some (.cells cur T (0, 0)) → False := fun T hT g cur e hg => by
    rw [e, hb] at hg; unfold soO at hg
    exact hT (Obj.cells.inj (Option.some.inj hg)).2.1.symm
  have hne : bM ≠ bS := fun e => by
    obtain ⟨es, ck, e2, _⟩ := hG
    rw [e, hb] at e2; unfold soO at e2; cases e2
  refine ⟨⟨h.pcs.keep hk fun T g cur e hT hg => hno T (by rcases hT with rfl | rfl | rfl <;> decide) g cur e hg, ⟨vb, ?_, ownI_keep ho hk fun g cur e hg => hno _ (by decide) g cur e hg⟩, ⟨G, hG.of (hk.block _ hG.lt hne), hK⟩, h.ok, Nat.le_succ_of_le h.few, h.base.1, h.base.2.1, Nat.le_trans h.base.2.2 hk.size⟩, hk.mono fun i hi => .inl (.inl hi)⟩
  have := heap_setCell_same w bS 2 _ _ (.int .i64 ((s.seen.length : Int) + 1)) hb
  exact this
/-- A spot that leads nowhere. -/
theorem SoAt.bury {n₁ bS bM : Nat} {lim : Int} {v : Value} {P : List (List OpV)} {w : World} {s : Stt} (h : SoAt n₁ bS bM lim v P w s) {x : Spo} {n : Nat} (hx : SpOk P x n) (hP : P.length ≤ 100000) (hs : s.dead.length < s.seen.length) (hc : s.seen.length ≤ 10000000) :
    ∃ w', (Instr.mapUpdate 63 (.map (some bM)) (.agg (soC x)) (.agg #[])).run Try.prog w = .ok () w' ∧ SoAt n₁ bS bM lim v P w' (s.bury x) ∧ FrO n₁ bS bM w w' := by
  obtain ⟨vb, hb, ho⟩ := h.bs
  obtain ⟨G, hG, hK⟩ := h.dd
  have hts := textS_size hx.ok
  have hle := hx.le
  have hln := hx.len
  obtain ⟨w2, hr, hG2, hk⟩ := hG.put tSo_good (by omega) (keyO x) (show x.1 < 1000000000 ∧ x.2.1 < 65536 ∧ (textS x.2.2).size ≤ maxLen from ⟨by omega, hx.msk, by unfold maxLen; omega⟩) ()
  have hmap : ∃ es ck, w.heap[bM]? = some (.map es ck) := by obtain ⟨es, ck, e, _⟩ := hG; exact ⟨es, ck, e⟩
  have hne : bS ≠ bM := fun e => by
    obtain ⟨es, ck, e2⟩ := hmap
    rw [← e, hb] at e2; unfold soO at e2; cases e2
  refine ⟨w2, hr, ⟨h.pcs.keep hk fun T g cur e hT hg => not_map hmap e hg, ⟨vb, (hk.block _ (heap_inO hb) hne).trans hb, ownI_keep ho hk fun g cur e hg => not_map hmap e hg⟩, ⟨_, hG2, fun k => ?_⟩, fun d hd => ?_, hs, h.base.1, h.base.2.1, Nat.le_trans h.base.2.2 hk.size⟩, hk.mono fun i hi => .inl (.inr (.inl hi))⟩
  · by_cases e : k = keyO x
    · subst e
      rw [Lm.put_same]
      exact ⟨fun _ => ⟨x, List.mem_cons_self, rfl⟩, fun _ => rfl⟩
    · rw [Lm.put_other _ _ _ e, hK]
      constructor
      · rintro ⟨d, hd, e2⟩
        exact ⟨d, List.mem_cons_of_mem _ hd, e2⟩
      · rintro ⟨d, hd, e2⟩
        rcases List.mem_cons.1 hd with rfl | hd
        · exact absurd e2.symm e
        · exact ⟨d, hd, e2⟩
  · rcases List.mem_cons.1 hd with rfl | hd
    · exact hx.ok
    · exact h.ok d hd
end Od
end Go.Proofs.Ytppjmmdiglnkfaa
namespace Go.Proofs.Ytppjmmdiglnkfaa
set_option maxRecDepth 100000
open Go.ChangeShapes Go.WideShapes Go.ChangeAt Go.RowKit Go.PlainAid Go.Deep
namespace Od
open Ln
/-- One more of the order. -/
theorem SoAt.push {n₁ bS bM : Nat} {lim : Int} {v : Value} {P : List (List OpV)} {w : World} {s : Stt} (h : SoAt n₁ bS bM lim v P w s) (x : Int) (hx : -9223372036854775808 ≤ x ∧ x ≤ 9223372036854775807) (hl : s.back.length ≤ 10000000) :
    ∃ vb v3 w3, w.cell? ⟨bS, 4, none⟩ = some vb ∧ (∃ ao cap, vb = .slice ao s.back.length cap) ∧ (appII #[vb, .slice (some ⟨w.heap.size, 0, none⟩) 1 1]).run Try.prog (w.alloc (.cells #[.int .i64 x] 3)) = .ok v3 w3 ∧ (∃ ao cap, v3 = .slice ao (s.back.length + 1) cap) ∧ w3.cell? ⟨bS, 4, none⟩ = some vb ∧ w3.frozen? ⟨bS, 4, none⟩ = false ∧
      SoAt n₁ bS bM lim v P (w3.setCell ⟨bS, 4, none⟩ v3) {s with back := s.back ++ [x]} ∧ FrO n₁ bS bM w (w3.setCell ⟨bS, 4, none⟩ v3) := by
  obtain ⟨vb, hb, ho⟩ := h.bs
  obtain ⟨G, hG, hK⟩ := h.dd
  obtain ⟨v3, w3, hr, ho3, hm⟩ := own_push ho h.base.2.2 (by omega) x hx
  have hno : ∀ T g cur, OwnB vb g → T ≠ 3 → w.heap[g]? = some (.cells cur T (0, 0)) → False := fun T g cur hg hT e => by
    obtain ⟨_, cur', e'⟩ := ho.block hg
    rw [e] at e'
    exact hT (Obj.cells.inj (Option.some.inj e')).2.1
  have hmap : ∀ g, OwnB vb g → g ≠ bM := fun g hg e => by
    obtain ⟨_, cur', e'⟩ := ho.block hg
    obtain ⟨es, ck, e2, _⟩ := hG
    rw [e, e2] at e'; cases e'
  have hb3 : w3.heap[bS]? = some (soO v bM s.seen.length lim vb) := (hm.block _ (heap_inO hb) fun e => by
    unfold soO at hb
    exact hno _ _ _ e (by decide) hb).trans hb
  have hp3 := h.pcs.keep hm fun T g cur e hT hg => hno T g cur e (by rcases hT with rfl | rfl | rfl <;> decide) hg
  have hG3 : Lm.At tSo w3 bM s.dead.length G := hG.of (hm.block _ hG.lt fun e => hmap _ e rfl)
  have hk : Keeps (fun k => k = bS) w3 (w3.setCell ⟨bS, 4, none⟩ v3) := (Keeps.refl (fun k => k = bS) w3).setCell (.inl (by rfl)) _
  have hno3 : ∀ T, T ≠ 66 → ∀ g cur, g = bS → w3.heap[g]? = some (.cells cur T (0, 0)) → False := fun T hT g cur e hg => by
    rw [e, hb3] at hg; unfold soO at hg
    exact hT (Obj.cells.inj (Option.some.inj hg)).2.1.symm
  have hne : bM ≠ bS := fun e => by
    obtain ⟨es, ck, e2, _⟩ := hG3
    rw [e, hb3] at e2; unfold soO at e2; cases e2
  have hsz : w.heap.size ≤ w3.heap.size := hm.size
  have hfr : FrO n₁ bS bM w (w3.setCell ⟨bS, 4, none⟩ v3) := by
    have h1 : FrO n₁ bS bM w w3 := hm.mono fun i hi => .inl (.inr (.inr (ho.block hi)))
    exact h1.trans (hk.mono fun i hi => .inl (.inl hi))
  have c0 : w.cell? ⟨bS, 4, none⟩ = some vb := by unfold soO at hb; rw [cell_of_row _ _ _ _ _ _ hb]; rfl
  have c3 : w3.cell? ⟨bS, 4, none⟩ = some vb := by unfold soO at hb3; rw [cell_of_row _ _ _ _ _ _ hb3]; rfl
  have hl3 := ho3.len
  rw [List.length_append, List.length_singleton] at hl3
  refine ⟨vb, v3, w3, c0, ho.len, hr, hl3, c3, cells_thaw hb3 4, ⟨hp3.keep hk fun T g cur e hT hg => hno3 T (by rcases hT with rfl | rfl | rfl <;> decide) g cur e hg, ⟨v3, ?_, ownI_keep ho3 hk fun g cur e hg => hno3 _ (by decide) g cur e hg⟩, ⟨G, hG3.of (hk.block _ hG3.lt hne), hK⟩, h.ok, h.few, h.base.1, h.base.2.1, Nat.le_trans h.base.2.2 hfr.size⟩, hfr⟩
  have := heap_setCell_same w3 bS 4 _ _ v3 hb3
  exact this
set_option maxHeartbeats 1000000 in
theorem spent_any {n₁ bS bM : Nat} {lim : Int} {v : Value} {P : List (List OpV)} {w : World} {s : Stt} (h : SoAt n₁ bS bM lim v P w s) : Calls Try.prog 36 #[.pointer (some ⟨bS, 0, none⟩)] w fun e w' => e = .returned (.bool (decide (lim < (s.seen.length : Int)))) ∧ Below w.heap.size w w' := by
  obtain ⟨vb, _, _, c2, c3, _, _, _⟩ := h.rd
  have d2 : w.drew.cell? ⟨bS, 2, none⟩ = some (.int .i64 (s.seen.length : Int)) := c2
  have d3 : w.drew.cell? ⟨bS, 3, none⟩ = some (.int .i64 lim) := c3
  clear h
  go_enter Try.func36, Try.ntmps36
  go_wp2_with fail
  go_region
  go_wp2_with fail
  go_returns
  exact ⟨rfl, (Below.refl _ _).drew⟩
end Od
end Go.Proofs.Ytppjmmdiglnkfaa
