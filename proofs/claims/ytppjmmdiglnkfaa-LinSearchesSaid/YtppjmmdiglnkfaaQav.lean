/- Package lin: spread. Package lin: spread. -/
import Derived.Test.YtppjmmdiglnkfaaQau
import Derived.Deep.CutBlock
namespace Go.Proofs.Ytppjmmdiglnkfaa
set_option maxRecDepth 100000
open Go.ChangeShapes Go.WideShapes Go.ChangeAt Go.RowKit Go.PlainAid Go.Deep
namespace Ln
attribute [local go_sem ↓ high] app_pl
theorem make_map3 (w : World) : (Instr.makeMap 131 none).run Try.prog w = .ok (.map (some w.heap.size)) (w.alloc (.map #[] 0)) := by
  simp [Instr.makeMap, Result.andThen]
/-- The spots of entries. -/
def starts (first : List (List Int)) : List Spt := first.map fun s => (0, s)
/-- What the second loop has in memory. -/
structure SpI (w0 : World) (n₁ : Nat) (v : Value) (l : List OpV) (dn : Nat) (ah : List Nat) (w wr : World) (E c bk : Nat) (L : List (List Int)) (u : Value) (ps : List ((Nat × Nat) × Nat)) (out : List Spt) : Prop where
  pl : PlI w0 n₁ v l dn ah w wr E c L u ps out
  kn : ∃ G, Lm.At tSp wr bk ps.length G ∧ KnOk G ps
  bkw : w.heap.size ≤ bk
theorem SpI.on {w0 : World} {n₁ : Nat} {v : Value} {l : List OpV} {dn : Nat} {ah : List Nat} {w wr w' : World} {E c bk : Nat} {L : List (List Int)} {u : Value} {ps : List ((Nat × Nat) × Nat)} {out : List Spt} (h : SpI w0 n₁ v l dn ah w wr E c bk L u ps out) (hb : Below wr.heap.size wr w') : SpI w0 n₁ v l dn ah w w' E c bk L u ps out := by
  obtain ⟨G, h1, h2⟩ := h.kn
  exact ⟨h.pl.on hb, ⟨G, h1.on hb, h2⟩, h.bkw⟩
theorem SpI.more {w0 : World} {n₁ : Nat} {v : Value} {l : List OpV} {dn : Nat} {ah : List Nat} {w wr : World} {E c c' bk : Nat} {L : List (List Int)} {u : Value} {ps : List ((Nat × Nat) × Nat)} {out : List Spt} (h : SpI w0 n₁ v l dn ah w wr E c bk L u ps out) (hc : c ≤ c') : SpI w0 n₁ v l dn ah w wr E c' bk L u ps out :=
  ⟨⟨h.pl.sr.more hc, h.pl.row, h.pl.is, h.pl.lt, h.pl.fr⟩, h.kn, h.bkw⟩
theorem SpI.next {w0 : World} {n₁ : Nat} {v : Value} {l : List OpV} {dn : Nat} {ah : List Nat} {w wr w' : World} {E c c' bk : Nat} {L L' : List (List Int)} {u : Value} {ps : List ((Nat × Nat) × Nat)} {out : List Spt} (h : SpI w0 n₁ v l dn ah w wr E c bk L u ps out) (hs : SrAt w0 n₁ v l dn ah w' E c' L') (he : Ext L L') (hf : Fr w0 n₁ wr w') (hb : w0.heap.size + 1 + 1 < bk) : SpI w0 n₁ v l dn ah w w' E c' bk L' u ps out := by
  obtain ⟨G, ⟨es, ck, h1, h1'⟩, h2⟩ := h.kn
  exact ⟨h.pl.next hs he hf, ⟨G, ⟨es, ck, h.pl.sr.map hf h1 (by omega) (by omega), h1'⟩, h2⟩, h.bkw⟩
/-- Is a spot known? -/
theorem SpI.look {w0 : World} {n₁ : Nat} {v : Value} {l : List OpV} {dn : Nat} {ah : List Nat} {w wr : World} {E c bk : Nat} {L : List (List Int)} {u : Value} {ps : List ((Nat × Nat) × Nat)} {out : List Spt} (h : SpI w0 n₁ v l dn ah w wr E c bk L u ps out) {m k : Nat} (hm : m < 65536) (h0 : m ≠ 0) (hk : k < L.length) (hL : L.length ≤ 10000000) :
    ∃ b, (Instr.lookup 131 (.map (some bk)) (.agg #[.int .u32 (m : Int), .int .i64 (k : Int)]) true).run Try.prog wr = .ok (.tuple #[.agg #[], .bool b]) wr ∧ (b = true ↔ dec L (m, k) ∈ out) := by
  obtain ⟨G, hG, hK⟩ := h.kn
  have lk := hG.look tSp_good (m, k) (show m < 65536 ∧ k < 1000000000 from ⟨hm, by omega⟩) true
  have hkn := (hK (m, k) h0).trans (kn_mem h.pl.sr.nd h.pl.is (fun q hq => (h.pl.lt q hq).2.1) (p := (m, k)) hk).symm
  refine ⟨(G (m, k)).isSome, ?_, hkn⟩
  cases e : G (m, k) with
  | none => rw [e] at lk; exact lk
  | some x => rw [e] at lk; exact lk
/-- A new spot, known from now on, and its place. -/
theorem SpI.put {w0 : World} {n₁ : Nat} {v : Value} {l : List OpV} {dn : Nat} {ah : List Nat} {w wr : World} {E c bk : Nat} {L : List (List Int)} {u : Value} {ps : List ((Nat × Nat) × Nat)} {out : List Spt} (h : SpI w0 n₁ v l dn ah w wr E c bk L u ps out) {m k : Nat} (hm : m < 65536) (hk : k < L.length) (hL : L.length ≤ 10000000) (hp : ps.length ≤ 10000000) (hb : w0.heap.size + 1 + 1 < bk) :
    ∃ w', (Instr.mapUpdate 131 (.map (some bk)) (.agg #[.int .u32 (m : Int), .int .i64 (k : Int)]) (.agg #[])).run Try.prog wr = .ok () w' ∧ PlI w0 n₁ v l dn ah w w' E c L u ps out ∧ Keeps (fun b => b = bk) wr w' ∧ (∃ G, Lm.At tSp w' bk (ps.length + 1) (Lm.put G (m, k) ()) ∧ KnOk G ps) := by
  obtain ⟨G, hG, hK⟩ := h.kn
  obtain ⟨w', hr, hG', hk'⟩ := hG.put tSp_good (by omega) (m, k) (show m < 65536 ∧ k < 1000000000 from ⟨hm, by omega⟩) ()
  have hmap : ∃ es ck, wr.heap[bk]? = some (.map es ck) := by obtain ⟨es, ck, e, _⟩ := hG; exact ⟨es, ck, e⟩
  have hno : ∀ b cur T, b = bk → wr.heap[b]? = some (.cells cur T (0, 0)) → False := fun b cur T e hg => by
    obtain ⟨es, ck, e'⟩ := hmap
    rw [e, e'] at hg; cases hg
  have hbw := h.bkw
  refine ⟨w', hr, ⟨h.pl.sr.keep' hk' (fun b e => by omega) (fun b cur T e hg => (hno b cur T e hg).elim) (fun b es ck e _ => by omega), row_keep h.pl.row hk' (fun g cur e hg => hno g cur _ e hg), h.pl.is, h.pl.lt, Keeps.trans h.pl.fr hk' fun i hi => .inr (by omega)⟩, hk', ⟨G, hG', hK⟩⟩
/-- A place more, of a spot that is known. -/
theorem SpI.push {w0 : World} {n₁ : Nat} {v : Value} {l : List OpV} {dn : Nat} {ah : List Nat} {w wr : World} {E c bk : Nat} {L : List (List Int)} {u : Value} {ps : List ((Nat × Nat) × Nat)} {out : List Spt} (h : PlI w0 n₁ v l dn ah w wr E c L u ps out) {m k : Nat} {G : Nat × Nat → Option Unit} (hG : Lm.At tSp wr bk (ps.length + 1) (Lm.put G (m, k) ())) (hK : KnOk G ps) (hbk : w.heap.size ≤ bk) (hw : w0.heap.size ≤ w.heap.size) {o : Nat} {t : List Int} (hm : m < 65536) (hk : L[k]? = some t) (ho : Mk o (mayB l m)) (hl : ps.length < 10000000) :
    ∃ u' w', (appPl #[u, .slice (some ⟨wr.heap.size, 0, none⟩) 1 1]).run Try.prog (wr.alloc (.cells #[.int .u32 (m : Int), .int .i64 (k : Int), .int .u32 (o : Int)] 128)) = .ok u' w' ∧ (∃ ao cap, u' = .slice ao (ps.length + 1) cap) ∧ SpI w0 n₁ v l dn ah w w' E c bk L u' (ps ++ [((m, k), o)]) (out ++ [(m, t)]) ∧ Keeps (fun b => u.ownBlock = some b) wr w' := by
  obtain ⟨u', w', hr, hu, hp, hkp⟩ := h.push hw hm hk ho hl
  obtain ⟨es, ck, e, hi⟩ := hG
  refine ⟨u', w', hr, hu, ⟨hp, ⟨_, ⟨es, ck, (hkp.block bk (Array.getElem?_eq_some_iff.1 e).1 (fun c => ?_)).trans e, ?_⟩, hK.put (m, k) o⟩, hbk⟩, hkp⟩
  · obtain ⟨_, cur, hg⟩ := row_block h.row c
    rw [e] at hg; cases hg
  · have : (ps ++ [((m, k), o)]).length = ps.length + 1 := by simp
    rw [this]
    exact hi
end Ln
end Go.Proofs.Ytppjmmdiglnkfaa
namespace Go.Proofs.Ytppjmmdiglnkfaa
set_option maxRecDepth 100000
open Go.ChangeShapes Go.WideShapes Go.ChangeAt Go.RowKit Go.PlainAid Go.Deep
namespace Ln
attribute [local go_sem ↓ high] app_pl
theorem at_zero {w0 : World} {n₁ : Nat} {v : Value} {l : List OpV} {dn : Nat} {ah : List Nat} {w : World} {E c : Nat} {L : List (List Int)} (hF : Fix w0 v l dn ah) (h : SrAt w0 n₁ v l dn ah w E c L) (st : Int) :
    Calls Try.prog 71 #[.pointer (some ⟨w0.heap.size + 1 + 1 + 1, 0, none⟩), .agg #[.int .u32 0, .int .i64 st]] w fun e w' => ∃ o : Nat, e = .returned (.agg #[.int .u32 0, .int .i64 st, .int .u32 (o : Int)]) ∧ Mk o (mayB l 0) ∧ Below w.heap.size w w' := at_sr hF h 0 (by decide) st
theorem own_at {w : World} {n₀ : Nat} {T : TypeId} {v : Value} {k n : Nat} {cs : List Value} (h : w.ownsRow n₀ T k v n cs) (hn : 0 < n) : ∃ g cap, v = .slice (some ⟨g, 0, none⟩) n cap ∧ g < w.heap.size ∧ ∀ (j : Nat) (u : Value), cs[j]? = some u → w.cell? ⟨g, j, none⟩ = some u := by
  obtain ⟨b, p, cap, rfl, hlt, hc⟩ := (own_rd h).at hn
  obtain ⟨rfl, _, _⟩ := own_cell h
  exact ⟨b, cap, rfl, hlt, fun j u hj => by have := hc j u hj; rwa [Nat.zero_add] at this⟩
theorem nx_pos {l : List OpV} {p q : Spt} (h : q ∈ nx l p) : q.1 ≠ 0 := by
  obtain ⟨i, _, hi⟩ := nxK_mem.1 h
  have := nx1_pos hi
  intro e
  rw [e, Nat.zero_testBit] at this
  cases this
theorem adds_snoc' {L : List (List Int)} {out l : List Spt} {q : Nat × Nat} {p : Spt} (h : dec L q = p) : adds out (l ++ [q].map (dec L)) = add1 (adds out l) p := by
  show adds out (l ++ [dec L q]) = _
  rw [h, adds_snoc]
set_option maxHeartbeats 8000000 in
theorem spread_any {w0 : World} {v : Value} {l : List OpV} {dn : Nat} {ah : List Nat} {w : World} {E c n₂ : Nat} {vE : Value} {first : List (List Int)} (hF : Fix w0 v l dn ah) (h : SrAt w0 w.heap.size v l dn ah w E c []) (hV : StsOwn n₂ w vE first) (hnd : first.Nodup) (hok : ∀ s ∈ first, Okz s ∧ s.length ≤ E) (hfl : first.length ≤ 100000) (hc : c ≤ 100) (hE : E ≤ 500000000) (lim : Int) (hlim : -9223372036854775808 ≤ lim ∧ lim ≤ 32768) :
    Calls Try.prog 42 #[.pointer (some ⟨w0.heap.size + 1 + 1 + 1, 0, none⟩), vE, .int .i64 lim] w fun e w' => ∃ u, e = .returned (.tuple #[u, .bool (decide (((bfs l lim most 0 (starts first)).length : Int) ≤ lim))]) ∧ ∃ c' L' u' ps, PlI w0 w.heap.size v l dn ah w w' E c' L' u' ps (bfs l lim most 0 (starts first)) ∧ c' ≤ 8000000 ∧ (((bfs l lim most 0 (starts first)).length : Int) ≤ lim → u = u') := by
  have hvb : ∀ g, vE.ownBlock = some g → g < w.heap.size := fun g hg => by obtain ⟨vs, a, _⟩ := hV; exact (a.lt g hg).2
  obtain ⟨aE, cE, rfl⟩ := hV.reads.len
  have HVB := Lib.hid hvb
  have HF := Lib.hid hF
  have HOK := Lib.hid hok
  have HND := Lib.hid hnd
  have hw0 : w0.heap.size ≤ w.heap.size := h.bel.size
  have hbl : w0.heap.size + 1 + 1 + 1 < w.heap.size := by obtain ⟨_, e, _⟩ := h.bs; exact heap_inO e
  have HI0 := Lib.hid (show PlI w0 w.heap.size v l dn ah w w E (c + 0) [] (.slice none 0 0) [] ((starts first).take 0) ∧ StsOwn n₂ w (.slice aE first.length cE) first from ⟨⟨h, World.ownsRow_nil _ _ _ _, rfl, (fun q hq => by cases hq), Fr.refl _ _ _⟩, hV⟩)
  clear h hV hF hok hnd hvb
  go_enter Try.func42, Try.ntmps42
  go_wp2_with fail
  go_loopw [8, 19] (fun s8 s19 wr => ∃ (i : Nat) (aA : Option Addr) (cA : Nat) (L : List (List Int)) (ps : List ((Nat × Nat) × Nat)), s19 = .int .i64 i ∧ s8 = .slice aA ps.length cA ∧ ps.length = i ∧ i ≤ first.length ∧ Hid (PlI w0 w.heap.size v l dn ah w wr E (c + i) L (.slice aA ps.length cA) ps ((starts first).take i) ∧ StsOwn n₂ wr (.slice aE first.length cE) first)) (fun _ s19 _ => first.length - (intOf s19).toNat)
  case atStart => exact ⟨0, none, 0, [], [], rfl, rfl, rfl, Nat.zero_le _, HI0⟩
  case round =>
    clear HI0
    obtain ⟨i, aA, cA, L, ps, rfl, rfl, hpi, hi, HI⟩ := hrel
    rename World => wq
    by_cases hil : i < first.length
    · have q1 : (i : Int) < (first.length : Int) := by omega
      have q2 : IntKind.i64.wrap ((i : Int) + 1) = (i : Int) + 1 := IntWalk.i64_in _ (by omega)
      obtain ⟨s, hs⟩ : ∃ s, first[i]? = some s := ⟨_, List.getElem?_eq_getElem hil⟩
      obtain ⟨hp, hv⟩ := HI.out
      have HPI := Lib.hid hpi
      clear hpi
      obtain ⟨b, p, cap, u, hveq, hlt, hcell, hu⟩ := hv.at hs
      obtain rfl : aE = some ⟨b, p, none⟩ := by cases hveq; rfl
      obtain ⟨au, cu, rfl⟩ := hu.len
      obtain ⟨hso, hsl⟩ := HOK.out s (List.mem_of_getElem? hs)
      have HS := Lib.hid hs
      have HP := Lib.hid hp
      have HV := Lib.hid hv
      have HU := Lib.hid hu
      have HSO := Lib.hid hso
      clear hveq hlt hs hp hv hu hso HI
      go_wp2_with fail
      refine (number_any HP.out.sr HU.out HSO.out (by omega) hE (by omega)).mono ?_
      rintro _ w1 ⟨k, rfl, L1, h1, he1, hk1, hf1⟩
      have HP1 := Lib.hid (HP.out.next h1 he1 hf1)
      have HV1 := Lib.hid (HP.out.sr.ents hf1 HV.out HVB.out)
      have HK1 := Lib.hid hk1
      clear h1 he1 hk1 hf1 hcell
      go_wp2_with fail
      refine (at_zero HF.out HP1.out.sr _).mono ?_
      rintro _ w2 ⟨o, rfl, ho, hb2⟩
      obtain ⟨u3, w3, hr3, ⟨a3, c3, rfl⟩, hp3, hk3⟩ := (HP1.out.on hb2).push hw0 (show (0 : Nat) < 65536 by decide) HK1.out ho (by have := HPI.out; omega)
      have hr4 : (appPl #[.slice aA ps.length cA, .slice (some ⟨w2.heap.size, 0, none⟩) 1 1]).run Try.prog (w2.alloc (.cells #[.int .u32 0, .int .i64 (k : Int), .int .u32 (o : Int)] 128)) = .ok (.slice a3 (ps.length + 1) c3) w3 := hr3
      have hl1 : (ps ++ [((0, k), o)]).length = ps.length + 1 := by simp
      have htk : (starts first).take i ++ [(0, s)] = (starts first).take (i + 1) := by
        refine (take_succ ?_).symm
        unfold starts
        rw [List.getElem?_map, HS.out]
        rfl
      rw [htk] at hp3
      have hv3 : StsOwn n₂ w3 (.slice (some ⟨b, p, none⟩) first.length cE) first := ents_keep (HV1.out.on hb2) hk3 (fun g cur hg hc hob => by
        obtain ⟨hg2, cur2, hg3⟩ := row_block (HP1.out.on hb2).row hob
        have := HVB.out g hg
        omega) (fun g cur hob hc => by
        obtain ⟨_, cur2, hg3⟩ := row_block (HP1.out.on hb2).row hob
        rw [hg3] at hc
        exact absurd (Obj.cells.inj (Option.some.inj hc)).2.1 (by decide))
      rw [← hl1] at hp3
      have HE := Lib.hid (show PlI w0 w.heap.size v l dn ah w w3 E (c + (i + 1)) L1 (.slice a3 (ps ++ [((0, k), o)]).length c3) (ps ++ [((0, k), o)]) ((starts first).take (i + 1)) ∧ StsOwn n₂ w3 (.slice (some ⟨b, p, none⟩) first.length cE) first from ⟨hp3, hv3⟩)
      clear hb2 hp3 hk3 hr3 hv3 htk
      go_wp2_with fail
      go_roundw
      case measure => simp [intOf] <;> omega
      case rel => exact ⟨i + 1, a3, c3, L1, ps ++ [((0, k), o)], by simp, by simp, by have := HPI.out; simp; omega, by omega, HE⟩
    · obtain rfl : i = first.length := by omega
      have q1 : ¬ ((first.length : Int) < (first.length : Int)) := by omega
      obtain ⟨hp, _⟩ := HI.out
      have hst : (starts first).take first.length = starts first := List.take_of_length_le (by unfold starts; rw [List.length_map]; exact Nat.le_refl _)
      rw [hst] at hp
      have mk3 := fun W => make_map3 W
      have hbw : Below wq.heap.size wq (wq.alloc (.map #[] 0)) := by go_grown
      have hnew := heap_alloc_new wq (.map #[] 0)
      have hz : ∀ q ∈ ps, q.1.1 = 0 := fun q hq => by
        have : dec L q.1 ∈ starts first := by rw [← hp.is]; exact List.mem_map.2 ⟨q, hq, rfl⟩
        unfold starts at this
        obtain ⟨s, _, e⟩ := List.mem_map.1 this
        exact (congrArg Prod.fst e).symm
      have hszq : w.heap.size ≤ wq.heap.size := hp.fr.size
      have HS0 := Lib.hid (show SpI w0 w.heap.size v l dn ah w (wq.alloc (.map #[] 0)) E (c + first.length + 32 * 0) wq.heap.size L (.slice aA ps.length cA) ps (starts first) ∧ bfs l lim (40000 - 0) 0 (starts first) = bfs l lim most 0 (starts first) from
        ⟨⟨hp.on hbw, ⟨fun _ => none, ⟨#[], 0, hnew, Lm.empty tSp 0 _⟩, fun p hp0 => ⟨fun e => (by cases e), fun ⟨o, ho⟩ => absurd (hz _ ho) hp0⟩⟩, hszq⟩, rfl⟩)
      have hpl : ps.length ≤ 100016 := by omega
      generalize hbk : wq.heap.size = bk at HS0 hszq
      have hbkl : w0.heap.size + 1 + 1 < bk := by omega
      have hbk2 := Lib.hid hbk
      clear hp hst hbw hnew hz HI hpi hbk q1
      have q1 : ¬ ((first.length : Int) < (first.length : Int)) := by omega
      go_wp2_with fail
      rw [hbk2.out]
      go_loopw [8, 12] (fun s8 s12 wr => ∃ (i : Nat) (aA : Option Addr) (cA : Nat) (L : List (List Int)) (ps : List ((Nat × Nat) × Nat)) (out : List Spt), s12 = .int .i64 i ∧ s8 = .slice aA ps.length cA ∧ i ≤ ps.length ∧ i ≤ 32769 ∧ ps.length ≤ 100016 ∧ Hid (SpI w0 w.heap.size v l dn ah w wr E (c + first.length + 32 * i) bk L (.slice aA ps.length cA) ps out ∧ bfs l lim (40000 - i) i out = bfs l lim most 0 (starts first))) (fun _ s12 _ => 40000 - (intOf s12).toNat)
      case atStart => exact ⟨0, aA, cA, L, ps, starts first, rfl, rfl, Nat.zero_le _, by omega, hpl, HS0⟩
      case round =>
        clear HS0 mk3 hpl
        obtain ⟨i, aA, cA, L, ps, out, rfl, rfl, hi, hi2, hpl, HI⟩ := hrel
        rename World => wz
        have hol : out.length = ps.length := by rw [← HI.out.1.pl.is, List.length_map]
        by_cases hlt : i < ps.length
        case neg =>
          have hip : i = ps.length := by omega
          have hfin : bfs l lim most 0 (starts first) = out := by rw [← HI.out.2]; exact bfs_end (by omega)
          have HP := Lib.hid HI.out.1.pl
          have r1 : ¬ ((i : Int) < (ps.length : Int)) := by omega
          have HFIN := Lib.hid hfin
          by_cases hle : (ps.length : Int) ≤ lim
          · have r3 : ¬ (lim < (ps.length : Int)) := by omega
            have hdec : decide ((out.length : Int) ≤ lim) = true := decide_eq_true (by omega)
            clear hfin HI hol hip
            go_wp2_with fail
            go_returns
            rw [HFIN.out]
            exact ⟨_, by rw [hdec]; rfl, _, _, _, ⟨_, HP.out⟩, by omega, fun _ => rfl⟩
          · have r3 : lim < (ps.length : Int) := by omega
            have hdec : decide ((out.length : Int) ≤ lim) = false := decide_eq_false (by omega)
            have hno : ¬ ((out.length : Int) ≤ lim) := by omega
            clear hfin HI hol hip
            go_wp2_with fail
            go_returns
            rw [HFIN.out]
            exact ⟨_, by rw [hdec]; rfl, _, _, _, ⟨_, HP.out⟩, by omega, fun h => by omega⟩
        case pos =>
          have r1 : (i : Int) < (ps.length : Int) := by omega
          by_cases hle : (ps.length : Int) ≤ lim
          case neg =>
            have hfin : bfs l lim most 0 (starts first) = out := by rw [← HI.out.2]; exact bfs_over (by omega)
            have HP := Lib.hid HI.out.1.pl
            have HFIN := Lib.hid hfin
            have r3 : lim < (ps.length : Int) := by omega
            have hdec : decide ((out.length : Int) ≤ lim) = false := decide_eq_false (by omega)
            have hno : ¬ ((out.length : Int) ≤ lim) := by omega
            clear hfin HI hol
            go_wp2_with fail
            go_returns
            rw [HFIN.out]
            exact ⟨_, by rw [hdec]; rfl, _, _, _, ⟨_, HP.out⟩, by omega, fun h => by omega⟩
          case pos =>
            have r2 : IntKind.i64.wrap ((i : Int) + 1) = (i : Int) + 1 := IntWalk.i64_in _ (by omega)
            have r4 : (0 : Int) ≤ i := by omega
            have r5 : (i : Int) ≤ ps.length := by omega
            obtain ⟨⟨⟨m, n⟩, o⟩, hq⟩ : ∃ q, ps[i]? = some q := ⟨_, List.getElem?_eq_getElem hlt⟩
            obtain ⟨hm, hn, ho⟩ := HI.out.1.pl.lt _ (List.mem_of_getElem? hq)
            simp only at hm hn ho
            obtain ⟨s, hs⟩ : ∃ s, L[n]? = some s := ⟨_, List.getElem?_eq_getElem hn⟩
            have hout : out[i]? = some (m, s) := by
              rw [← HI.out.1.pl.is, List.getElem?_map, hq]
              show some (dec L (m, n)) = _
              unfold dec
              rw [hs]; rfl
            obtain ⟨g, cp, hveq, hg, hcells⟩ := own_at HI.out.1.pl.row (by omega)
            obtain rfl : aA = some ⟨g, 0, none⟩ := by cases hveq; rfl
            obtain ⟨e0, e1, e2⟩ := flatP_get ps i _ hq
            have g0 := hcells _ _ e0
            have g1 := hcells _ _ e1
            have g2 := hcells _ _ e2
            simp only at g0 g1 g2
            have HBF := Lib.hid (show bfs l lim (40000 - (i + 1)) (i + 1) (adds out (nx l (m, s))) = bfs l lim most 0 (starts first) by
              rw [← HI.out.2, show 40000 - i = 40000 - (i + 1) + 1 by omega, bfs_go hout (by omega)])
            have HSP := Lib.hid HI.out.1
            have HST := Lib.hid (steps_any HF.out HI.out.1.pl.sr hm hs ho hE (by omega))
            clear hveq hg hcells e0 e1 e2 hq hn hs hout ho HI
            go_wp2_with fail
            refine HST.out.mono ?_
            rintro _ w4 ⟨u2, rfl, L2, ns, hst⟩
            obtain ⟨a2, c2, rfl, _⟩ := own_len hst.row
            have hfew := HF.out.few
            have hnl : ns.length ≤ 16 := by have := congrArg List.length hst.is; rw [List.length_map] at this; rw [this]; exact Nat.le_trans (nxK_len _ _ _) hfew
            have HJ0 := Lib.hid (show SpI w0 w.heap.size v l dn ah w w4 E (c + first.length + 32 * (i + 1)) bk L2 (.slice (some ⟨g, 0, none⟩) ps.length cA) ps out ∧ out = adds out ((ns.take 0).map (dec L2)) ∧ w4.ownsRow wz.heap.size 126 2 (.slice a2 ns.length c2) ns.length (flatS ns) from
              ⟨(HSP.out.next hst.sr hst.ext hst.fr hbkl).more (by omega), rfl, hst.row⟩)
            have HNX := Lib.hid (show ns.map (dec L2) = nx l (m, s) from hst.is)
            have HLT := Lib.hid hst.lt
            have hL2 : L2.length ≤ 10000000 := by have := hst.sr.cnt; omega
            clear hst HST g0 g1 g2
            go_wp2_with fail
            go_loopw [8, 53] (fun s8 s53 wr => ∃ (j : Nat) (aB : Option Addr) (cB : Nat) (ps2 : List ((Nat × Nat) × Nat)) (out2 : List Spt), s53 = .int .i64 j ∧ s8 = .slice aB ps2.length cB ∧ j ≤ ns.length ∧ i < ps2.length ∧ ps2.length ≤ ps.length + j ∧ Hid (SpI w0 w.heap.size v l dn ah w wr E (c + first.length + 32 * (i + 1)) bk L2 (.slice aB ps2.length cB) ps2 out2 ∧ out2 = adds out ((ns.take j).map (dec L2)) ∧ wr.ownsRow wz.heap.size 126 2 (.slice a2 ns.length c2) ns.length (flatS ns))) (fun _ s53 _ => ns.length - (intOf s53).toNat)
            case atStart => exact ⟨0, some ⟨g, 0, none⟩, cA, ps, out, rfl, rfl, Nat.zero_le _, hlt, by omega, HJ0⟩
            case round =>
              clear HJ0
              obtain ⟨j, aB, cB, ps2, out2, rfl, rfl, hj, hip, hpl2, HJ⟩ := hrel
              rename World => wy
              by_cases hjl : j < ns.length
              case neg =>
                obtain rfl : j = ns.length := by omega
                have t1 : ¬ ((ns.length : Int) < (ns.length : Int)) := by omega
                obtain ⟨h1, h2, _⟩ := HJ.out
                rw [List.take_length, HNX.out] at h2
                have HE := Lib.hid (show SpI w0 w.heap.size v l dn ah w wy E (c + first.length + 32 * (i + 1)) bk L2 (.slice aB ps2.length cB) ps2 out2 ∧ bfs l lim (40000 - (i + 1)) (i + 1) out2 = bfs l lim most 0 (starts first) from ⟨h1, by rw [h2]; exact HBF.out⟩)
                clear h1 h2 HJ
                go_wp2_with fail
                go_roundw
                case measure => simp [intOf] <;> omega
                case rel => exact ⟨i + 1, aB, cB, L2, ps2, out2, by simp, by simp, by omega, by omega, by omega, HE⟩
              case pos =>
                have t1 : (j : Int) < (ns.length : Int) := by omega
                have t2 : IntKind.i64.wrap ((j : Int) + 1) = (j : Int) + 1 := IntWalk.i64_in _ (by omega)
                obtain ⟨hsp, hout2, hrow⟩ := HJ.out
                obtain ⟨⟨m2, k2⟩, hq⟩ : ∃ q, ns[j]? = some q := ⟨_, List.getElem?_eq_getElem hjl⟩
                obtain ⟨hm2, hk2⟩ := HLT.out _ (List.mem_of_getElem? hq)
                simp only at hm2 hk2
                obtain ⟨t, ht⟩ : ∃ t, L2[k2]? = some t := ⟨_, List.getElem?_eq_getElem hk2⟩
                have hdc : dec L2 (m2, k2) = (m2, t) := by unfold dec; rw [ht]; rfl
                have hm0 : m2 ≠ 0 := by
                  refine nx_pos (l := l) (p := (m, s)) (q := (m2, t)) ?_
                  rw [← HNX.out, ← hdc]
                  exact List.mem_map.2 ⟨_, List.mem_of_getElem? hq, rfl⟩
                obtain ⟨g5, cp5, hveq5, hg5, hcells5⟩ := own_at hrow (by omega)
                obtain rfl : a2 = some ⟨g5, 0, none⟩ := by cases hveq5; rfl
                obtain ⟨e3, e4⟩ := flatS_get ns j _ hq
                have g3 := hcells5 _ _ e3
                have g4 := hcells5 _ _ e4
                simp only at g3 g4
                have hadd : adds out ((ns.take (j + 1)).map (dec L2)) = add1 out2 (m2, t) := by rw [take_succ hq, List.map_append, adds_snoc' hdc, ← hout2]
                have hbw1 : Below wy.heap.size wy (wy.alloc (.cells #[.int .u32 (m2 : Int), .int .i64 (k2 : Int)] 126)) := by go_grown
                have hbx1 := heap_alloc_new wy (.cells #[.int .u32 (m2 : Int), .int .i64 (k2 : Int)] 126)
                obtain ⟨W2, hW2⟩ : ∃ W, wy.alloc (.cells #[.int .u32 (m2 : Int), .int .i64 (k2 : Int)] 126) = W := ⟨_, rfl⟩
                rw [hW2] at hbw1 hbx1
                have k0 : W2.cell? ⟨wy.heap.size, 0, none⟩ = some (.int .u32 (m2 : Int)) := by rw [cell_of_row _ _ _ _ _ _ hbx1]; rfl
                have k1 : W2.cell? ⟨wy.heap.size, 1, none⟩ = some (.int .i64 (k2 : Int)) := by rw [cell_of_row _ _ _ _ _ _ hbx1]; rfl
                have hbw2 : Below W2.heap.size W2 (W2.alloc (.cells #[] 102)) := by go_grown
                obtain ⟨W3, hW3⟩ : ∃ W, W2.alloc (.cells #[] 102) = W := ⟨_, rfl⟩
                rw [hW3] at hbw2
                obtain ⟨bb, lk, hbb⟩ := (hsp.on hbw1).look hm2 hm0 hk2 hL2
                rw [hdc] at hbb
                have hbx3 := (hbw2.block _ (heap_inO hbx1)).trans hbx1
                have k2' : W3.cell? ⟨wy.heap.size, 0, none⟩ = some (.int .u32 (m2 : Int)) := by rw [cell_of_row _ _ _ _ _ _ hbx3]; rfl
                have k3' : W3.cell? ⟨wy.heap.size, 1, none⟩ = some (.int .i64 (k2 : Int)) := by rw [cell_of_row _ _ _ _ _ _ hbx3]; rfl
                have HSP3 := Lib.hid ((hsp.on hbw1).on hbw2)
                have HROW3 := Lib.hid (ownsRow_onI (ownsRow_onI hrow hbw1) hbw2)
                have HBX3 := Lib.hid hbx3
                have HADD := Lib.hid hadd
                have HT := Lib.hid (And.intro ht (And.intro hm0 hdc))
                clear hveq5 hg5 hcells5 e3 e4 hq hdc hadd hbw1 hbx1 hbw2 hbx3 hsp hrow hout2 ht hm0 HJ
                cases bb with
                | true =>
                  have HE := Lib.hid (show SpI w0 w.heap.size v l dn ah w W3 E (c + first.length + 32 * (i + 1)) bk L2 (.slice aB ps2.length cB) ps2 out2 ∧ out2 = adds out ((ns.take (j + 1)).map (dec L2)) ∧ W3.ownsRow wz.heap.size 126 2 (.slice (some ⟨g5, 0, none⟩) ns.length c2) ns.length (flatS ns) from
                    ⟨HSP3.out, by rw [HADD.out]; unfold add1; rw [if_pos (hbb.1 rfl)], HROW3.out⟩)
                  clear hbb
                  go_wp2_with fail
                  go_roundw
                  case measure => simp [intOf] <;> omega
                  case rel => exact ⟨j + 1, aB, cB, ps2, out2, by simp, by simp, by omega, by omega, by omega, HE⟩
                | false =>
                  have HNO := Lib.hid (show (m2, t) ∉ out2 from fun c => by have := hbb.2 c; cases this)
                  clear hbb
                  obtain ⟨W4, mu, hpl4, hk4, G, hG4, hK4⟩ := HSP3.out.put hm2 hk2 hL2 (by omega) hbkl
                  have HPL4 := Lib.hid hpl4
                  have HK4 := Lib.hid hk4
                  have HG4 := Lib.hid (And.intro hG4 hK4)
                  have hbkm : ∀ b cur T, b = bk → W3.heap[b]? = some (.cells cur T (0, 0)) → False := fun b cur T e hg => by
                    obtain ⟨_, ⟨es, ck, e', _⟩, _⟩ := HSP3.out.kn
                    rw [e, e'] at hg; cases hg
                  have HROW4 := Lib.hid (row_keep HROW3.out hk4 (fun g cur e hg => hbkm g cur _ e hg))
                  have hbx4 : W4.heap[wy.heap.size]? = some (.cells #[.int .u32 (m2 : Int), .int .i64 (k2 : Int)] 126 (0, 0)) := (hk4.block _ (heap_inO HBX3.out) (fun e => hbkm _ _ _ e HBX3.out)).trans HBX3.out
                  have k4' : W4.cell? ⟨wy.heap.size, 0, none⟩ = some (.int .u32 (m2 : Int)) := by rw [cell_of_row _ _ _ _ _ _ hbx4]; rfl
                  have k5' : W4.cell? ⟨wy.heap.size, 1, none⟩ = some (.int .i64 (k2 : Int)) := by rw [cell_of_row _ _ _ _ _ _ hbx4]; rfl
                  clear hpl4 hk4 hG4 hK4 hbkm hbx4
                  go_wp2_with fail
                  refine (at_sr HF.out HPL4.out.sr m2 hm2 _).mono ?_
                  rintro _ w5 ⟨o2, rfl, ho2, hb5⟩
                  obtain ⟨u6, w6, hr6, ⟨a6, c6, rfl⟩, hsp6, hk6⟩ := SpI.push (HPL4.out.on hb5) (HG4.out.1.on hb5) HG4.out.2 HSP3.out.bkw hw0 hm2 HT.out.1 ho2 (by omega)
                  have hl1 : (ps2 ++ [((m2, k2), o2)]).length = ps2.length + 1 := by simp
                  have hrow6 := row_keep (ownsRow_onI HROW4.out hb5) hk6 (fun g cur e hg => by
                    obtain ⟨_, cur2, hg3⟩ := row_block (HPL4.out.on hb5).row e
                    rw [hg3] at hg
                    exact absurd (Obj.cells.inj (Option.some.inj hg)).2.1 (by decide))
                  rw [← hl1] at hsp6
                  have HE := Lib.hid (show SpI w0 w.heap.size v l dn ah w w6 E (c + first.length + 32 * (i + 1)) bk L2 (.slice a6 (ps2 ++ [((m2, k2), o2)]).length c6) (ps2 ++ [((m2, k2), o2)]) (out2 ++ [(m2, t)]) ∧ out2 ++ [(m2, t)] = adds out ((ns.take (j + 1)).map (dec L2)) ∧ w6.ownsRow wz.heap.size 126 2 (.slice (some ⟨g5, 0, none⟩) ns.length c2) ns.length (flatS ns) from
                    ⟨hsp6, by rw [HADD.out]; unfold add1; rw [if_neg HNO.out], hrow6⟩)
                  clear hb5 hsp6 hk6 hrow6
                  go_wp2_with fail
                  go_roundw
                  case measure => simp [intOf] <;> omega
                  case rel => exact ⟨j + 1, a6, c6, _, _, by simp, by simp, by omega, by simp; omega, by simp; omega, HE⟩
end Ln
end Go.Proofs.Ytppjmmdiglnkfaa
