/- The document's spots: their keys. The document's spots, in memory. Plain: the document's spots, step by step. -/
import Derived.Test.YtppjmmdiglnkfaaQbg
import Derived.Test.YtppjmmdiglnkfaaQbi
import Derived.Test.YtppjmmdiglnkfaaQas
import Derived.Test.YtppjmmdiglnkfaaQbh
import Derived.Test.YtppjmmdiglnkfaaQbc
namespace Go.Proofs.Ytppjmmdiglnkfaa
set_option maxRecDepth 100000
open Go.ChangeShapes Go.WideShapes Go.ChangeAt Go.RowKit Go.PlainAid Go.Deep
namespace Ln
/-- Bools as a number. -/
def maskOf : List Bool → Nat
  | [] => 0
  | b :: d => (if b = true then 1 else 0) + 2 * maskOf d
theorem mask_bt : ∀ d : List Bool, Bt d (maskOf d)
  | [], k => by simp [maskOf]
  | b :: d, k => by
    have ih := mask_bt d
    rcases k with _ | k
    · cases b <;> simp [maskOf, Nat.testBit_zero] <;> omega
    · rw [List.getElem?_cons_succ, ← ih k, maskOf, Nat.testBit_succ]
      cases b <;> simp <;> congr 1 <;> omega
theorem bt_eq {d : List Bool} {m : Nat} (h : Bt d m) : m = maskOf d := Nat.eq_of_testBit_eq fun k => (h k).trans (mask_bt d k).symm
theorem mask_set {d : List Bool} {i : Nat} (hi : i < d.length) : maskOf (d.set i true) = maskOf d ||| 2 ^ i := (bt_eq ((mask_bt d).set hi)).symm
theorem mask_zero (n : Nat) : maskOf (List.replicate n false) = 0 := (bt_eq (Bt.zero n)).symm
theorem mask_inj {d d' : List Bool} (hl : d.length = d'.length) (h : maskOf d = maskOf d') : d = d' := by
  refine List.ext_getElem hl fun i h1 h2 => ?_
  have a := mask_bt d i
  have b := mask_bt d' i
  rw [h, b, List.getElem?_eq_getElem h1, List.getElem?_eq_getElem h2] at a
  exact a.symm
/-- A spot of the document, as one of bits. -/
def cvS (p : List Bool × List Int) : Spt := (maskOf p.1, p.2)
def bitT (b : Bool) : UInt8 := if b = true then 49 else 48
def preT (d : List Bool) : ByteArray := ⟨(d.map bitT).toArray⟩
def keyT (p : List Bool × List Int) : ByteArray := preT p.1 ++ textS p.2
theorem bitT_inj {a b : Bool} (h : bitT a = bitT b) : a = b := by
  cases a <;> cases b <;> first | rfl | (simp [bitT] at h)
theorem key_inj {p q : List Bool × List Int} (hl : p.1.length = q.1.length) (hp : Okz p.2) (hq : Okz q.2) (h : keyT p = keyT q) : p = q := by
  have h1 := congrArg (fun t : ByteArray => t.data.toList) h
  simp only [keyT, preT, ByteArray.data_append, Array.toList_append] at h1
  obtain ⟨h2, h3⟩ := List.append_inj h1 (by simp [hl])
  have h4 : textS p.2 = textS q.2 := by
    cases ha : textS p.2; cases hb : textS q.2
    rw [ha, hb] at h3
    congr 1
    exact Array.toList_inj.1 h3
  refine Prod.ext ?_ (text_inj hp hq h4)
  exact List.map_inj_right (f := bitT) (fun _ _ e => bitT_inj e) |>.1 h2
theorem pre_snoc (d : List Bool) (b : Bool) : preT (d ++ [b]) = preT d ++ ⟨#[bitT b]⟩ := by
  unfold preT
  rw [List.map_append]
  simp [ByteArray.ext_iff]
theorem pre_size (d : List Bool) : (preT d).size = d.length := by
  show (d.map bitT).toArray.size = _
  simp
set_option maxHeartbeats 4000000 in
theorem key_any {vd vs : Value} {d : List Bool} {s : List Int} {w : World} (hD : Rd w vd 1 d.length (d.map Value.bool)) (hS : IntsOf w vs s) (hd : d.length ≤ 100) (hs : s.length ≤ 1000000) :
    Calls Try.prog 51 #[.agg #[vd, vs]] w fun e w' => e = .returned (.string (keyT (d, s))) ∧ Below w.heap.size w w' := by
  obtain ⟨ad, cd, rfl⟩ := hD.len
  obtain ⟨as0, cs, rfl, _⟩ := hS.parts
  have hbw : Below w.heap.size w (w.alloc (.cells #[.slice ad d.length cd, .slice as0 s.length cs] 61)) := by go_grown
  have hbx := heap_alloc_new w (.cells #[.slice ad d.length cd, .slice as0 s.length cs] 61)
  obtain ⟨W1, hW1⟩ : ∃ W, w.alloc (.cells #[.slice ad d.length cd, .slice as0 s.length cs] 61) = W := ⟨_, rfl⟩
  rw [hW1] at hbw hbx
  have c0 : W1.cell? ⟨w.heap.size, 0, none⟩ = some (.slice ad d.length cd) := by rw [cell_of_row _ _ _ _ _ _ hbx]; rfl
  have c1 : W1.cell? ⟨w.heap.size, 1, none⟩ = some (.slice as0 s.length cs) := by rw [cell_of_row _ _ _ _ _ _ hbx]; rfl
  have HD := Lib.hid (hD.on hbw)
  have HS := Lib.hid (hS.on hbw)
  have HB := Lib.hid hbw
  have HW := Lib.hid hW1
  clear hD hS hbw hbx hW1
  go_enter Try.func51, Try.ntmps51
  go_wp2_with fail
  rw [HW.out]
  go_loopw [3, 4] (fun s3 s4 wr => ∃ i : Nat, s4 = .int .i64 i ∧ s3 = .string (preT (d.take i)) ∧ i ≤ d.length ∧ wr = W1) (fun _ s4 _ => d.length - (intOf s4).toNat)
  case atStart => exact ⟨0, rfl, by simp [preT], Nat.zero_le _, rfl⟩
  case round =>
    obtain ⟨i, rfl, rfl, hi, rfl⟩ := hrel
    by_cases hil : i < d.length
    · have q1 : (i : Int) < (d.length : Int) := by omega
      have q2 : IntKind.i64.wrap ((i : Int) + 1) = (i : Int) + 1 := IntWalk.i64_in _ (by omega)
      have q3 : (0 : Int) ≤ i := by omega
      obtain ⟨b, hb⟩ : ∃ b, d[i]? = some b := ⟨_, List.getElem?_eq_getElem hil⟩
      obtain ⟨g, p, cap, hv, _, hc⟩ := bool_at HD.out hb
      obtain ⟨rfl, _, rfl⟩ := Value.slice.inj hv
      have ht : d.take (i + 1) = d.take i ++ [b] := by rw [List.take_add_one, hb]; rfl
      have hsz : (preT (d.take i)).size ≤ 100 := by rw [pre_size, List.length_take]; omega
      have HT := Lib.hid (show preT (d.take (i + 1)) = preT (d.take i) ++ ⟨#[bitT b]⟩ by rw [ht, pre_snoc])
      clear hv ht hb
      cases b with
      | true =>
        go_wp2_with fail
        refine ⟨⟨i + 1, by simp, by rw [HT.out]; rfl, by omega, trivial⟩, ?_⟩
        simp [intOf] <;> omega
      | false =>
        go_wp2_with fail
        refine ⟨⟨i + 1, by simp, by rw [HT.out]; rfl, by omega, trivial⟩, ?_⟩
        simp [intOf] <;> omega
    · obtain rfl : i = d.length := by omega
      have q1 : ¬ ((d.length : Int) < (d.length : Int)) := by omega
      have HT := Lib.hid (rtext_any _ s _ HS.out (by omega))
      have hsz1 := pre_size d
      have hsz2 : (textS s).size ≤ 10 * s.length + 10 := textS_size ⟨HS.out.inI, by omega⟩
      have hcat : ¬ (maxLen < (preT d).size + (textS s).size) := by unfold maxLen; omega
      rw [List.take_length]
      go_wp2_with fail
      refine HT.out.mono ?_
      rintro _ w2 ⟨rfl, hb2⟩
      have HE := Lib.hid (HB.out.on hb2)
      clear hb2
      go_wp2_with fail
      go_returns
      exact ⟨rfl, HE.out⟩
end Ln
end Go.Proofs.Ytppjmmdiglnkfaa
namespace Go.Proofs.Ytppjmmdiglnkfaa
set_option maxRecDepth 100000
open Go.ChangeShapes Go.WideShapes Go.ChangeAt Go.RowKit Go.PlainAid Go.Deep
namespace Ln
abbrev RSp := List Bool × List Int
def rtRs : RT := ⟨61, 55, .agg #[.slice none 0 0, .slice none 0 0], 2, 48⟩
theorem rtRs_good : rtRs.Good := ⟨Try.underlying55, by kernel_rfl, rfl, by decide, by decide⟩
def appRs (vs : Array Value) : Sem Value := Builtin.append_ #[55, 55] 55 vs
theorem app_rs (vs : Array Value) : Builtin.append_ #[55, 55] 55 vs = appRs vs := rfl
theorem make_mapK (w : World) : (Instr.makeMap 93 none).run Try.prog w = .ok (.map (some w.heap.size)) (w.alloc (.map #[] 0)) := by
  simp [Instr.makeMap, Result.andThen]
/-- What spots are, where n operations begin with states of at most E numbers. -/
structure SpF (R : List Int → Prop) (n E : Nat) (p : RSp) : Prop where
  len : p.1.length = n
  sz : p.2.length + left p.1 ≤ E + n
  okz : Okz p.2
  ris : R p.2
/-- One spot's slices. -/
structure SpC (m n₀ : Nat) (w : World) (p : RSp) (vd vs : Value) : Prop where
  dn : w.ownsRow n₀ 4 1 vd p.1.length (p.1.map Value.bool)
  st : Lie m w vs p.2
theorem SpC.on {m n₀ : Nat} {w w' : World} {p : RSp} {vd vs : Value} (h : SpC m n₀ w p vd vs) (hb : Below w.heap.size w w') : SpC m n₀ w' p vd vs := ⟨ownsRow_onI h.dn hb, h.st.on hb⟩
/-- The spots so far, and those that are known. -/
structure SpR (m : Nat) (R : List Int → Prop) (n E : Nat) (w0 : World) (bM : Nat) (wr : World) (v : Value) (rs ks : List RSp) : Prop where
  bel : Below w0.heap.size w0 wr
  row : ∃ cs, wr.ownsRow w0.heap.size 61 2 v rs.length cs ∧ ∀ i p, rs[i]? = some p → ∃ vd vs, cs[i * 2]? = some vd ∧ cs[i * 2 + 1]? = some vs ∧ SpC m w0.heap.size wr p vd vs
  mp : ∃ G, Lm.At tMet wr bM ks.length G ∧ (∀ k, (G k).isSome = true ↔ ∃ p ∈ ks, keyT p = k) ∧ ∀ k b, G k = some b → b = true
  fit : ∀ p ∈ rs, SpF R n E p
  kfit : ∀ p ∈ ks, SpF R n E p
  base : w0.heap.size ≤ bM
  low : m ≤ w0.heap.size
theorem SpR.on {m : Nat} {R : List Int → Prop} {n E : Nat} {w0 : World} {bM : Nat} {wr w' : World} {v : Value} {rs ks : List RSp} (h : SpR m R n E w0 bM wr v rs ks) (hb : Below wr.heap.size wr w') : SpR m R n E w0 bM w' v rs ks := by
  obtain ⟨cs, h1, h2⟩ := h.row
  obtain ⟨G, h3, h4⟩ := h.mp
  refine ⟨h.bel.on hb, ⟨cs, ownsRow_onI h1 hb, fun i p hp => ?_⟩, ⟨G, h3.on hb, h4⟩, h.fit, h.kfit, h.base, h.low⟩
  obtain ⟨vd, vs, a, b, c⟩ := h2 i p hp
  exact ⟨vd, vs, a, b, c.on hb⟩
theorem SpR.len {m : Nat} {R : List Int → Prop} {n E : Nat} {w0 : World} {bM : Nat} {wr : World} {v : Value} {rs ks : List RSp} (h : SpR m R n E w0 bM wr v rs ks) : ∃ ao cap, v = .slice ao rs.length cap := by
  obtain ⟨cs, h1, _⟩ := h.row
  obtain ⟨ao, cap, e, _⟩ := own_len h1
  exact ⟨ao, cap, e⟩
/-- What is read of a spot. -/
theorem SpR.at {m : Nat} {R : List Int → Prop} {n E : Nat} {w0 : World} {bM : Nat} {wr : World} {v : Value} {rs ks : List RSp} (h : SpR m R n E w0 bM wr v rs ks) {i : Nat} {p : RSp} (hp : rs[i]? = some p) : ∃ b cap vd vs, v = .slice (some ⟨b, 0, none⟩) rs.length cap ∧ b < wr.heap.size ∧ wr.cell? ⟨b, i * 2, none⟩ = some vd ∧ wr.cell? ⟨b, i * 2 + 1, none⟩ = some vs ∧ SpC m w0.heap.size wr p vd vs := by
  obtain ⟨cs, h1, h2⟩ := h.row
  obtain ⟨vd, vs, e0, e1, hc⟩ := h2 i p hp
  have hlt := (List.getElem?_eq_some_iff.1 hp).1
  obtain ⟨b, q, cap, hv, hb, hr⟩ := (own_rd h1).at (by omega)
  obtain ⟨rfl, _⟩ : q = 0 ∧ True := by
    rw [hv] at h1
    exact ⟨(own_cell h1).1, trivial⟩
  have r0 := hr _ _ e0
  have r1 := hr _ _ e1
  rw [Nat.zero_add] at r0 r1
  exact ⟨b, cap, vd, vs, hv, hb, r0, r1, hc⟩
theorem map_no {w : World} {bM g : Nat} {cur : Array Value} {T : TypeId} (hm : ∃ es ck, w.heap[bM]? = some (.map es ck)) (e : g = bM) (hg : w.heap[g]? = some (.cells cur T (0, 0))) : False := by
  obtain ⟨es, ck, e'⟩ := hm
  rw [e, e'] at hg
  cases hg
theorem SpC.keep {m n₀ : Nat} {w w' : World} {p : RSp} {vd vs : Value} {own : Nat → Prop} (h : SpC m n₀ w p vd vs) (hk : Keeps own w w') (h0 : ∀ g, own g → m ≤ g) (h1 : ∀ g cur, own g → w.heap[g]? = some (.cells cur 4 (0, 0)) → False) (h2 : ∀ g cur, own g → w.heap[g]? = some (.cells cur 3 (0, 0)) → False) : SpC m n₀ w' p vd vs :=
  ⟨row_keep h.dn hk h1, h.st.keep hk h0 h2⟩
theorem keyT_size {p : RSp} {n E : Nat} {R : List Int → Prop} (h : SpF R n E p) (hn : n ≤ 100) (hE : E ≤ 100000) : (keyT p).size ≤ maxLen := by
  have h1 := pre_size p.1
  have h2 := textS_size h.okz
  have h3 := h.len
  have h4 := h.sz
  have : (keyT p).size = (preT p.1).size + (textS p.2).size := by unfold keyT; rw [ByteArray.size_append]
  unfold maxLen
  omega
/-- Is a spot known? -/
theorem SpR.look {m : Nat} {R : List Int → Prop} {n E : Nat} {w0 : World} {bM : Nat} {wr : World} {v : Value} {rs ks : List RSp} (h : SpR m R n E w0 bM wr v rs ks) {p : RSp} (hp : SpF R n E p) (hn : n ≤ 100) (hE : E ≤ 100000) :
    ∃ b, (Instr.lookup 93 (.map (some bM)) (.string (keyT p)) false).run Try.prog wr = .ok (.bool b) wr ∧ (b = true ↔ p ∈ ks) := by
  obtain ⟨G, hG, hK, hT⟩ := h.mp
  have lk := hG.look tMet_good (keyT p) (keyT_size hp hn hE) false
  have hm : (G (keyT p)).isSome = true ↔ p ∈ ks := by
    rw [hK]
    constructor
    · rintro ⟨q, hq, e⟩
      have hqf := h.kfit q hq
      have := key_inj (hqf.len.trans hp.len.symm) hqf.okz hp.okz e
      rw [← this]; exact hq
    · intro hd
      exact ⟨p, hd, rfl⟩
  refine ⟨(G (keyT p)).isSome, ?_, hm⟩
  cases e : G (keyT p) with
  | none => rw [e] at lk; exact lk
  | some y =>
    rw [e] at lk
    have := hT _ _ e
    subst this
    exact lk
/-- A spot is known from now on. -/
theorem SpR.know {m : Nat} {R : List Int → Prop} {n E : Nat} {w0 : World} {bM : Nat} {wr : World} {v : Value} {rs ks : List RSp} (h : SpR m R n E w0 bM wr v rs ks) {p : RSp} (hp : SpF R n E p) (hn : n ≤ 100) (hE : E ≤ 100000) (hk : ks.length ≤ 1000000) :
    ∃ w', (Instr.mapUpdate 93 (.map (some bM)) (.string (keyT p)) (.bool true)).run Try.prog wr = .ok () w' ∧ SpR m R n E w0 bM w' v rs (ks ++ [p]) ∧ Keeps (fun k => k = bM) wr w' ∧ ∀ (T : TypeId) (g : Nat) (cur : Array Value), wr.heap[g]? = some (Obj.cells cur T (0, 0)) → w'.heap[g]? = some (Obj.cells cur T (0, 0)) := by
  obtain ⟨cs, h1, h2⟩ := h.row
  obtain ⟨G, hG, hK, hT⟩ := h.mp
  obtain ⟨w', hr, hG', hk'⟩ := hG.put tMet_good (by omega) (keyT p) (keyT_size hp hn hE) true
  have hmap : ∃ es ck, wr.heap[bM]? = some (.map es ck) := by obtain ⟨es, ck, e, _⟩ := hG; exact ⟨es, ck, e⟩
  refine ⟨w', hr, ⟨h.bel.trans (hk'.below (fun g e => by rw [e]; exact h.base) h.bel.size), ⟨cs, row_keep h1 hk' fun g cur e hg => map_no hmap e hg, fun i q hq => ?_⟩, ⟨_, by rw [List.length_append]; exact hG', fun k => ?_, fun k b hkb => ?_⟩, h.fit, fun q hq => ?_, h.base, h.low⟩, hk', fun T g cur hg => (hk'.block _ (heap_inO hg) fun e => map_no hmap e hg).trans hg⟩
  · obtain ⟨vd, vs, a, b, c⟩ := h2 i q hq
    exact ⟨vd, vs, a, b, c.keep hk' (fun g e => by rw [e]; exact Nat.le_trans h.low h.base) (fun g cur e hg => map_no hmap e hg) (fun g cur e hg => map_no hmap e hg)⟩
  · by_cases e : k = keyT p
    · subst e
      rw [Lm.put_same]
      exact ⟨fun _ => ⟨p, by simp, rfl⟩, fun _ => rfl⟩
    · rw [Lm.put_other _ _ _ e, hK]
      constructor
      · rintro ⟨q, hq, e2⟩
        exact ⟨q, List.mem_append_left _ hq, e2⟩
      · rintro ⟨q, hq, e2⟩
        rcases List.mem_append.1 hq with hq | hq
        · exact ⟨q, hq, e2⟩
        · rw [List.mem_singleton.1 hq] at e2
          exact absurd e2.symm e
  · by_cases e : k = keyT p
    · subst e
      rw [Lm.put_same] at hkb
      exact (Option.some.inj hkb).symm
    · rw [Lm.put_other _ _ _ e] at hkb
      exact hT k b hkb
  · rcases List.mem_append.1 hq with hq | hq
    · exact h.kfit q hq
    · rw [List.mem_singleton.1 hq]; exact hp
theorem SpR.vty {m : Nat} {R : List Int → Prop} {n E : Nat} {w0 : World} {bM : Nat} {wr : World} {v : Value} {rs ks : List RSp} (h : SpR m R n E w0 bM wr v rs ks) {g : Nat} (hg : v.ownBlock = some g) : w0.heap.size ≤ g ∧ ∃ cur, wr.heap[g]? = some (.cells cur 61 (0, 0)) := by
  obtain ⟨cs, h1, _⟩ := h.row
  exact row_block h1 hg
theorem Out.at {n n₀ : Nat} {w : World} {v : Value} {l : List (List Int)} (h : Out n n₀ w v l) {i : Nat} {s : List Int} (hi : l[i]? = some s) : ∃ b p cap u, v = .slice (some ⟨b, p, none⟩) l.length cap ∧ b < w.heap.size ∧ w.cell? ⟨b, p + i, none⟩ = some u ∧ Lie n w u s := by
  obtain ⟨vs, h1, h2⟩ := h
  have hlt : i < l.length := (List.getElem?_eq_some_iff.1 hi).1
  obtain ⟨b, p, cap, hv, hb, hr⟩ := (own_rd h1).at (by omega)
  have hu : vs[i]? = some (vs[i]'(by rw [h1.1]; omega)) := List.getElem?_eq_getElem _
  exact ⟨b, p, cap, _, hv, hb, hr i _ hu, h2 i _ s hu hi⟩
theorem Out.know {n n₀ bM : Nat} {w w' : World} {v : Value} {l : List (List Int)} (h : Out n n₀ w v l) (hk : Keeps (fun k => k = bM) w w') (hm : ∃ es ck, w.heap[bM]? = some (.map es ck)) (hb : n ≤ bM) : Out n n₀ w' v l :=
  h.keep hk (fun g e => by rw [e]; exact hb) (fun g cur e hg => map_no hm e hg) (fun g cur e hg => map_no hm e hg)
/-- A spot more. -/
theorem SpR.push {m : Nat} {R : List Int → Prop} {n E : Nat} {w0 : World} {bM : Nat} {wr : World} {v : Value} {rs ks : List RSp} (h : SpR m R n E w0 bM wr v rs ks) {p : RSp} (hp : SpF R n E p) {vd vs : Value} (hc : SpC m w0.heap.size wr p vd vs) (hl : rs.length ≤ 1000000) :
    ∃ v' w', (appRs #[v, .slice (some ⟨wr.heap.size, 0, none⟩) 1 1]).run Try.prog (wr.alloc (.cells #[vd, vs] 61)) = .ok v' w' ∧ (∃ ao cap, v' = .slice ao (rs.length + 1) cap) ∧ SpR m R n E w0 bM w' v' (rs ++ [p]) ks ∧ Keeps (fun k => v.ownBlock = some k) wr w' := by
  obtain ⟨cs, h1, h2⟩ := h.row
  obtain ⟨G, hG, hK⟩ := h.mp
  have o1 : vd.oneCell' = true := by obtain ⟨ao, cap, e, _⟩ := own_len hc.dn; rw [e]; rfl
  have o2 : vs.oneCell' = true := ints_one hc.st.1.ints
  obtain ⟨v', w', hr, ho, hk⟩ := row_push rtRs_good (v := v) (n := rs.length) (a := cs) h1 [vd, vs] rfl (fun x hx => by
    simp only [List.mem_cons, List.not_mem_nil, or_false] at hx
    rcases hx with rfl | rfl
    · exact o1
    · exact o2) h.bel.size (by omega)
  have nv : ∀ T g cur, v.ownBlock = some g → T ≠ 61 → wr.heap[g]? = some (.cells cur T (0, 0)) → False := fun T g cur e hT hg => by
    obtain ⟨_, cur', hg'⟩ := row_block h1 e
    rw [hg] at hg'
    exact hT (Obj.cells.inj (Option.some.inj hg')).2.1
  have n0 : ∀ g, v.ownBlock = some g → w0.heap.size ≤ g := fun g e => (row_block h1 e).1
  have kc : ∀ {q : RSp} {vd vs : Value}, SpC m w0.heap.size wr q vd vs → SpC m w0.heap.size w' q vd vs := fun {q vd vs} c => c.keep hk (fun g e => Nat.le_trans h.low (n0 g e)) (fun g cur e hg => nv _ g cur e (by decide) hg) (fun g cur e hg => nv _ g cur e (by decide) hg)
  obtain ⟨a1, p1, e1, _⟩ := own_len ho
  refine ⟨v', w', hr, ⟨a1, p1, e1⟩, ⟨h.bel.trans (hk.below n0 h.bel.size), ⟨cs ++ [vd, vs], by rw [List.length_append]; exact ho, fun i q hq => ?_⟩, ⟨G, hG.of (hk.block bM hG.lt fun e => ?_), hK⟩, fun q hq => ?_, h.kfit, h.base, h.low⟩, hk⟩
  · have hcl : cs.length = rs.length * 2 := h1.1
    by_cases c : i < rs.length
    · rw [List.getElem?_append_left c] at hq
      obtain ⟨xd, xs, a, b, c'⟩ := h2 i q hq
      exact ⟨xd, xs, by rw [List.getElem?_append_left (List.getElem?_eq_some_iff.1 a).1]; exact a, by rw [List.getElem?_append_left (List.getElem?_eq_some_iff.1 b).1]; exact b, kc c'⟩
    · have hi : i = rs.length := by
        have := (List.getElem?_eq_some_iff.1 hq).1
        rw [List.length_append, List.length_singleton] at this
        omega
      subst hi
      rw [List.getElem?_concat_length] at hq
      obtain rfl := Option.some.inj hq
      refine ⟨vd, vs, ?_, ?_, kc hc⟩
      · rw [List.getElem?_append_right (by omega), hcl, Nat.sub_self]; rfl
      · rw [List.getElem?_append_right (by omega), hcl, show rs.length * 2 + 1 - rs.length * 2 = 1 by omega]; rfl
  · obtain ⟨_, cur', hg'⟩ := row_block h1 e
    obtain ⟨es, ck, e2, _⟩ := hG
    rw [e2] at hg'; cases hg'
  · rcases List.mem_append.1 hq with hq | hq
    · exact h.fit q hq
    · rw [List.mem_singleton.1 hq]; exact hp
end Ln
end Go.Proofs.Ytppjmmdiglnkfaa
namespace Go.Proofs.Ytppjmmdiglnkfaa
set_option maxRecDepth 100000
open Go.ChangeShapes Go.WideShapes Go.ChangeAt Go.RowKit Go.PlainAid Go.Deep
namespace Ln
theorem cv_inj {p q : RSp} (hl : p.1.length = q.1.length) (h : cvS p = cvS q) : p = q := by
  unfold cvS at h
  exact Prod.ext (mask_inj hl (Prod.mk.inj h).1) (Prod.mk.inj h).2
theorem cv_mem {rs : List RSp} {p : RSp} (hl : ∀ q ∈ rs, q.1.length = p.1.length) : cvS p ∈ rs.map cvS ↔ p ∈ rs := by
  rw [List.mem_map]
  constructor
  · rintro ⟨q, hq, e⟩
    rw [← cv_inj (hl q hq) e]; exact hq
  · intro h
    exact ⟨p, h, rfl⟩
theorem nx1_noM {l : List OpV} {p : RSp} {k : Nat} {o : OpV} (hi : l[k]? = some o) (h : mayR l p.1 k o = false) : nx1 l (cvS p) k = none := by
  unfold nx1
  rw [if_neg]
  intro c
  have := (may_mask (mask_bt p.1) hi).2 c
  rw [h] at this; cases this
theorem nx1_noS {l : List OpV} {p : RSp} {k : Nat} {o : OpV} (hi : l[k]? = some o) (h : (stepC o p.2).2 = false) : nx1 l (cvS p) k = none := by
  unfold nx1
  split
  · rw [hi]
    show (stO o p.2).map _ = none
    unfold stO
    rw [if_neg (by rw [h]; decide)]; rfl
  · rfl
theorem nx1_yesS {l : List OpV} {p : RSp} {k : Nat} {o : OpV} (hi : l[k]? = some o) (hm : mayR l p.1 k o = true) (h : (stepC o p.2).2 = true) (hk : k < p.1.length) : nx1 l (cvS p) k = some (cvS (p.1.set k true, (stepC o p.2).1)) := by
  unfold nx1
  rw [if_pos (show mayB l (cvS p).1 k = true from (may_mask (mask_bt p.1) hi).1 hm), hi]
  show (stO o p.2).map _ = _
  unfold stO
  rw [if_pos h]
  show some (maskOf p.1 ||| 2 ^ k, _) = _
  rw [← mask_set hk]; rfl
/-- What one round has told so far. -/
structure InL (l : List OpV) (rs : List RSp) (p : RSp) (k : Nat) (r : List RSp) : Prop where
  eq : (rs ++ r).map cvS = adds (rs.map cvS) (nxK l (cvS p) k)
  few : r.length ≤ k
theorem InL.zero (l : List OpV) (rs : List RSp) (p : RSp) : InL l rs p 0 [] := ⟨by rw [List.append_nil]; rfl, Nat.le_refl _⟩
theorem InL.no {l : List OpV} {rs r : List RSp} {p : RSp} {k : Nat} (h : InL l rs p k r) (hn : nx1 l (cvS p) k = none) : InL l rs p (k + 1) r := by
  refine ⟨?_, Nat.le_succ_of_le h.few⟩
  rw [nxK_succ, hn, h.eq]
  simp
theorem InL.old {l : List OpV} {rs r : List RSp} {p q : RSp} {k : Nat} (h : InL l rs p k r) (hn : nx1 l (cvS p) k = some (cvS q)) (hq : q ∈ rs ++ r) : InL l rs p (k + 1) r := by
  refine ⟨?_, Nat.le_succ_of_le h.few⟩
  rw [nxK_succ, hn, Option.toList_some, adds_snoc, ← h.eq]
  unfold add1
  rw [if_pos (List.mem_map.2 ⟨q, hq, rfl⟩)]
theorem InL.new {l : List OpV} {rs r : List RSp} {p q : RSp} {k : Nat} (h : InL l rs p k r) (hn : nx1 l (cvS p) k = some (cvS q)) (hl : ∀ x ∈ rs ++ r, x.1.length = q.1.length) (hq : q ∉ rs ++ r) : InL l rs p (k + 1) (r ++ [q]) := by
  refine ⟨?_, by rw [List.length_append, List.length_singleton]; exact Nat.succ_le_succ h.few⟩
  rw [nxK_succ, hn, Option.toList_some, adds_snoc, ← h.eq]
  unfold add1
  rw [if_neg (fun c => hq ((cv_mem hl).1 c)), ← List.append_assoc, List.map_append]
  rfl
/-- Where the search stands, i of its spots gone through. -/
structure Spg (l : List OpV) (first : List (List Int)) (lim : Int) (i : Nat) (rs : List RSp) : Prop where
  le : i ≤ rs.length
  few : (rs.length : Int) ≤ lim + 8
  or : (∃ f, most ≤ f + i ∧ bfs l lim f i (rs.map cvS) = bfs l lim most 0 (starts first)) ∨ (lim < (rs.length : Int) ∧ lim < ((bfs l lim most 0 (starts first)).length : Int))
/-- What Spots answers: the search's spots, as far as the limit lets them be told. -/
def SpsR (l : List OpV) (first : List (List Int)) (lim : Int) (rs : List RSp) : Prop :=
  (((bfs l lim most 0 (starts first)).length : Int) ≤ lim ∧ rs.map cvS = bfs l lim most 0 (starts first)) ∨ (lim < ((bfs l lim most 0 (starts first)).length : Int) ∧ lim < (rs.length : Int))
theorem Spg.over {l : List OpV} {first : List (List Int)} {lim : Int} {i : Nat} {rs : List RSp} (h : Spg l first lim i rs) (hl : lim < (rs.length : Int)) : SpsR l first lim rs := by
  rcases h.or with ⟨f, _, e⟩ | ⟨_, h2⟩
  · rw [bfs_over (by rw [List.length_map]; exact hl)] at e
    exact .inr ⟨by rw [← e, List.length_map]; exact hl, hl⟩
  · exact .inr ⟨h2, hl⟩
theorem Spg.all {l : List OpV} {first : List (List Int)} {lim : Int} {i : Nat} {rs : List RSp} (h : Spg l first lim i rs) (hi : rs.length ≤ i) : SpsR l first lim rs := by
  rcases h.or with ⟨f, _, e⟩ | ⟨h1, h2⟩
  · rw [bfs_end (by rw [List.length_map]; exact hi)] at e
    by_cases c : lim < (rs.length : Int)
    · exact .inr ⟨by rw [← e, List.length_map]; exact c, c⟩
    · exact .inl ⟨by rw [← e, List.length_map]; omega, e⟩
  · exact .inr ⟨h2, h1⟩
theorem Spg.next {l : List OpV} {first : List (List Int)} {lim : Int} {i : Nat} {rs r : List RSp} {p : RSp} (h : Spg l first lim i rs) (hp : rs[i]? = some p) (hl : (rs.length : Int) ≤ lim) (hm : lim ≤ 32768) (h7 : l.length ≤ 7) (hr : InL l rs p l.length r) : Spg l first lim (i + 1) (rs ++ r) := by
  have hlt := (List.getElem?_eq_some_iff.1 hp).1
  have hfe := hr.few
  refine ⟨by rw [List.length_append]; omega, by rw [List.length_append]; omega, ?_⟩
  rcases h.or with ⟨f, hf, e⟩ | ⟨h1, _⟩
  · obtain ⟨f, rfl⟩ : ∃ g, f = g + 1 := ⟨f - 1, by unfold most at hf; omega⟩
    rw [bfs_go (p := cvS p) (by rw [List.getElem?_map, hp]; rfl) (by rw [List.length_map]; exact hl)] at e
    refine .inl ⟨f, by omega, ?_⟩
    rw [hr.eq]; exact e
  · omega
def beg (n : Nat) (s : List Int) : RSp := (List.replicate n false, s)
theorem left_rep : ∀ n, left (List.replicate n false) = n
  | 0 => rfl
  | n + 1 => by
    have := left_rep n
    unfold left at *
    rw [List.replicate_succ, List.countP_cons, this]
    rfl
theorem starts_beg (n : Nat) (first : List (List Int)) : (first.map (beg n)).map cvS = starts first := by
  unfold starts
  rw [List.map_map]
  refine List.map_congr_left fun s _ => ?_
  show (maskOf (List.replicate n false), s) = _
  rw [mask_zero]
theorem starts_len (first : List (List Int)) : (starts first).length = first.length := by rw [← starts_beg 0, List.length_map, List.length_map]
theorem Spg.start {l : List OpV} {first : List (List Int)} {lim : Int} {i : Nat} (n : Nat) (hi : i ≤ first.length) (hl : i = 0 ∨ (i : Int) ≤ lim + 1) (hlim : -1 ≤ lim) (h : ¬ (i < first.length ∧ (i : Int) ≤ lim)) : Spg l first lim 0 ((first.take i).map (beg n)) := by
  have hle : ((first.take i).map (beg n)).length = i := by rw [List.length_map, List.length_take]; omega
  refine ⟨Nat.zero_le _, by rw [hle]; omega, ?_⟩
  by_cases c : i < first.length
  · have hb := bfs_len l lim most 0 (starts first)
    rw [starts_len] at hb
    exact .inr ⟨by rw [hle]; omega, by omega⟩
  · refine .inl ⟨most, Nat.le_refl _, ?_⟩
    rw [List.take_of_length_le (by omega), starts_beg]
/-- What steps keep. -/
structure RK (R : List Int → Prop) (l : List OpV) : Prop where
  ris : ∀ o ∈ l, ∀ s, R s → o.kind = 5 → risesB s = true
  step : ∀ o ∈ l, ∀ s, R s → (stepC o s).2 = true → R (stepC o s).1
theorem SpF.next {R : List Int → Prop} {l : List OpV} {E k : Nat} {p : RSp} {o : OpV} (h : SpF R l.length E p) (hR : RK R l) (hi : l[k]? = some o) (hm : mayR l p.1 k o = true) (hs : (stepC o p.2).2 = true) (ho : Okz (stepC o p.2).1) : SpF R l.length E (p.1.set k true, (stepC o p.2).1) := by
  have hlt := (List.getElem?_eq_some_iff.1 hi).1
  have hk : p.1[k]? = some false := by
    unfold mayR at hm
    have hl := h.len
    rw [Bool.and_eq_true] at hm
    rw [List.getElem?_eq_getElem (by omega)] at hm ⊢
    have := hm.1
    simp at this
    rw [this]
  have h1 := left_set p.1 k hk
  have h2 := stepC_len o p.2
  have h3 := h.sz
  refine ⟨by show (p.1.set k true).length = _; rw [List.length_set]; exact h.len, ?_, ho, hR.step o (List.mem_of_getElem? hi) _ h.ris hs⟩
  show (stepC o p.2).1.length + left (p.1.set k true) ≤ _
  omega
end Ln
end Go.Proofs.Ytppjmmdiglnkfaa
