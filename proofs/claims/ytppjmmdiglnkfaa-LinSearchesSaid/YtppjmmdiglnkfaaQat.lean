/- Package lin: number. Package lin: behind. -/
import Derived.Test.YtppjmmdiglnkfaaQas
import Derived.Test.YtppjmmdiglnkfaaQar
namespace Go.Proofs.Ytppjmmdiglnkfaa
set_option maxRecDepth 100000
open Go.ChangeShapes Go.WideShapes Go.ChangeAt Go.RowKit Go.PlainAid Go.Deep
namespace Ln
attribute [local go_sem ↓ high] app_tx app_st
def Ext (L L' : List (List Int)) : Prop := ∀ (n : Nat) (s : List Int), L[n]? = some s → L'[n]? = some s
theorem Ext.refl (L : List (List Int)) : Ext L L := fun _ _ h => h
theorem Ext.trans {a b c : List (List Int)} (h : Ext a b) (k : Ext b c) : Ext a c := fun n s e => k n s (h n s e)
theorem SrAt.more {w0 : World} {n₁ : Nat} {v : Value} {l : List OpV} {dn : Nat} {ah : List Nat} {w : World} {E c : Nat} {L : List (List Int)} (h : SrAt w0 n₁ v l dn ah w E c L) {c' : Nat} (hc : c ≤ c') : SrAt w0 n₁ v l dn ah w E c' L := by
  obtain ⟨G, h3, h4⟩ := h.nums
  obtain ⟨G', h5, h6⟩ := h.mvs
  exact ⟨h.bel, h.bs, h.ba, ⟨G, h3.more hc, h4⟩, ⟨G', h5.more hc, h6⟩, h.nd, h.ok, Nat.le_trans h.cnt hc, h.base⟩
/-- The number of a state. -/
theorem SrAt.known {w0 : World} {n₁ : Nat} {v : Value} {l : List OpV} {dn : Nat} {ah : List Nat} {w : World} {E c : Nat} {L : List (List Int)} (h : SrAt w0 n₁ v l dn ah w E c L) {s : List Int} (hs : Okz s) (hl : s.length ≤ 1000000000) :
    w.cell? ⟨w0.heap.size + 1 + 1 + 1, 4, none⟩ = some (.map (some (w0.heap.size + 1))) ∧
    ((∃ k : Nat, L[k]? = some s ∧ (Instr.lookup 116 (.map (some (w0.heap.size + 1))) (.string (textS s)) true).run Try.prog w = .ok (.tuple #[.int .i64 (k : Int), .bool true]) w) ∨
     (s ∉ L ∧ (Instr.lookup 116 (.map (some (w0.heap.size + 1))) (.string (textS s)) true).run Try.prog w = .ok (.tuple #[.int .i64 0, .bool false]) w)) := by
  obtain ⟨vs, hb, _⟩ := h.bs
  obtain ⟨G, hG, hGo⟩ := h.nums
  have hts := textS_size hs
  have lk := hG.look tNum_good (textS s) (show (textS s).size ≤ maxLen by unfold maxLen; omega) true
  refine ⟨by unfold srO at hb; rw [cell_of_row _ _ _ _ _ _ hb]; rfl, ?_⟩
  by_cases c : s ∈ L
  · obtain ⟨k, hk⟩ := List.getElem?_of_mem c
    have e := (hGo (textS s) (k : Int)).2 ⟨k, s, hk, rfl, rfl⟩
    rw [e] at lk
    exact .inl ⟨k, hk, lk⟩
  · have e : G (textS s) = none := by
      cases e : G (textS s) with
      | none => rfl
      | some j =>
        obtain ⟨n, t, h1, h2, _⟩ := (hGo _ _).1 e
        have hm := List.mem_of_getElem? h1
        exact absurd (text_inj (h.ok t hm).1 hs h2 ▸ hm) c
    rw [e] at lk
    exact .inr ⟨c, lk⟩
set_option maxHeartbeats 4000000 in
theorem number_any {w0 : World} {n₁ : Nat} {v : Value} {l : List OpV} {dn : Nat} {ah : List Nat} {w : World} {E c : Nat} {L : List (List Int)} (h : SrAt w0 n₁ v l dn ah w E c L) {u : Value} {s : List Int} (hu : OwnI 0 w u s) (hs : Okz s) (hl : s.length ≤ E + L.length + 1) (hE : E ≤ 500000000) (hc : c < 10000000) :
    Calls Try.prog 72 #[.pointer (some ⟨w0.heap.size + 1 + 1 + 1, 0, none⟩), u] w fun e w' => ∃ k : Nat, e = .returned (.int .i64 (k : Int)) ∧ ∃ L', SrAt w0 n₁ v l dn ah w' E (c + 1) L' ∧ Ext L L' ∧ L'[k]? = some s ∧ Fr w0 n₁ w w' := by
  obtain ⟨au, cu, rfl⟩ := hu.len
  have hcn := h.cnt
  have H := Lib.hid h
  have HU := Lib.hid hu
  have HS := Lib.hid hs
  clear h hu hs
  go_enter Try.func72, Try.ntmps72
  go_wp2_with fail
  refine (mtext_any HU.out.reads (by omega)).mono ?_
  rintro _ w1 ⟨rfl, hb1⟩
  have h1 := H.out.on hb1
  have hu1 := HU.out.on hb1
  have HF := Lib.hid (Fr.of (w0 := w0) (n₁ := n₁) hb1)
  obtain ⟨c4, hk⟩ := h1.known HS.out (by omega)
  clear hb1
  rcases hk with ⟨k, hk, lk⟩ | ⟨hn, lk⟩
  · have HK := Lib.hid hk
    have H1 := Lib.hid (h1.more (Nat.le_succ c))
    clear hk h1 hu1
    go_wp2_with fail
    go_returns
    exact ⟨k, rfl, L, H1.out, Ext.refl L, HK.out, HF.out⟩
  · obtain ⟨vs, w2, v3, w3, d0, ⟨a0, cp0, rfl⟩, m2, d2, r3, ⟨a3, cp3, rfl⟩, d3, f3, h4, hf⟩ := h1.add hu1 HS.out hl (by omega) hn hc
    have H4 := Lib.hid h4
    have HF4 := Lib.hid (HF.out.trans hf)
    have e4 : ∃ vs, w2.cell? ⟨w0.heap.size + 1 + 1 + 1, 4, none⟩ = vs := ⟨_, rfl⟩
    clear h4 hf h1 hu1 hn
    go_wp2_with fail
    go_returns
    exact ⟨L.length, rfl, _, H4.out, get_app, by simp, HF4.out⟩
end Ln
end Go.Proofs.Ytppjmmdiglnkfaa
namespace Go.Proofs.Ytppjmmdiglnkfaa
set_option maxRecDepth 100000
open Go.ChangeShapes Go.WideShapes Go.ChangeAt Go.RowKit Go.PlainAid Go.Deep
namespace Ln
attribute [local go_sem ↓ high] load_op
/-- What a move's number says. -/
def MvR (L : List (List Int)) (o : OpV) (s : List Int) (r : Int) : Prop := (r = -1 ∧ stO o s = none) ∨ ∃ (k : Nat) (t : List Int), r = (k : Int) ∧ L[k]? = some t ∧ stO o s = some t
theorem SrAt.moved {w0 : World} {n₁ : Nat} {v : Value} {l : List OpV} {dn : Nat} {ah : List Nat} {w : World} {E c : Nat} {L : List (List Int)} (h : SrAt w0 n₁ v l dn ah w E c L) {n i : Nat} {s : List Int} {o : OpV} (hn : L[n]? = some s) (hi : l[i]? = some o) (hl : l.length ≤ 16) (hc : c < 10000000) :
    w.cell? ⟨w0.heap.size + 1 + 1 + 1, 5, none⟩ = some (.map (some (w0.heap.size + 1 + 1))) ∧
    ((∃ r, MvR L o s r ∧ (Instr.lookup 117 (.map (some (w0.heap.size + 1 + 1))) (.agg #[.int .i64 (n : Int), .int .i64 (i : Int)]) true).run Try.prog w = .ok (.tuple #[.int .i64 r, .bool true]) w) ∨
     (Instr.lookup 117 (.map (some (w0.heap.size + 1 + 1))) (.agg #[.int .i64 (n : Int), .int .i64 (i : Int)]) true).run Try.prog w = .ok (.tuple #[.int .i64 0, .bool false]) w) := by
  obtain ⟨vs, hb, _⟩ := h.bs
  obtain ⟨G, hG, hGo⟩ := h.mvs
  have hcn := h.cnt
  have hnl := (List.getElem?_eq_some_iff.1 hn).1
  have hil := (List.getElem?_eq_some_iff.1 hi).1
  have lk := hG.look tMv_good (n, i) (show n < 1000000000 ∧ i < 1000000000 from ⟨by omega, by omega⟩) true
  refine ⟨by unfold srO at hb; rw [cell_of_row _ _ _ _ _ _ hb]; rfl, ?_⟩
  cases e : G (n, i) with
  | none => rw [e] at lk; exact .inr lk
  | some r =>
    rw [e] at lk
    obtain ⟨s', o', h1, h2, h3⟩ := hGo n i r e
    rw [hn] at h1
    rw [hi] at h2
    obtain rfl := Option.some.inj h1
    obtain rfl := Option.some.inj h2
    exact .inl ⟨r, h3, lk⟩
theorem SrAt.move {w0 : World} {n₁ : Nat} {v : Value} {l : List OpV} {dn : Nat} {ah : List Nat} {w : World} {E c : Nat} {L : List (List Int)} (h : SrAt w0 n₁ v l dn ah w E c L) {n i : Nat} {s : List Int} {o : OpV} (hn : L[n]? = some s) (hi : l[i]? = some o) (hl : l.length ≤ 16) (hc : c < 10000000) {r : Int} (hr : MvR L o s r) :
    w.cell? ⟨w0.heap.size + 1 + 1 + 1, 5, none⟩ = some (.map (some (w0.heap.size + 1 + 1))) ∧
    ∃ w', (Instr.mapUpdate 117 (.map (some (w0.heap.size + 1 + 1))) (.agg #[.int .i64 (n : Int), .int .i64 (i : Int)]) (.int .i64 r)).run Try.prog w = .ok () w' ∧ SrAt w0 n₁ v l dn ah w' E (c + 1) L ∧ Fr w0 n₁ w w' := by
  obtain ⟨vs, hb, ho⟩ := h.bs
  obtain ⟨G, hG, hGo⟩ := h.nums
  obtain ⟨G', hM, hMo⟩ := h.mvs
  have hcn := h.cnt
  have hnl := (List.getElem?_eq_some_iff.1 hn).1
  have hil := (List.getElem?_eq_some_iff.1 hi).1
  obtain ⟨w2, hr2, hM2, hk2⟩ := hM.put tMv_good (by omega) (n, i) (show n < 1000000000 ∧ i < 1000000000 from ⟨by omega, by omega⟩) r
  have hmap : ∃ es ck, w.heap[w0.heap.size + 1 + 1]? = some (.map es ck) := by obtain ⟨es, ck, e, _⟩ := hM; exact ⟨es, ck, e⟩
  have no2 : ∀ T g cur, g = w0.heap.size + 1 + 1 → w.heap[g]? = some (.cells cur T (0, 0)) → False := fun T g cur e hg => by
    obtain ⟨es, ck, e'⟩ := hmap
    rw [e, e'] at hg; cases hg
  have hbl : w0.heap.size + 1 + 1 + 1 < w.heap.size := heap_inO hb
  have hfr : Fr w0 n₁ w w2 := hk2.mono fun i hi => .inl (.inr (.inr (.inl hi)))
  refine ⟨by unfold srO at hb; rw [cell_of_row _ _ _ _ _ _ hb]; rfl, w2, hr2, ⟨h.bel.trans (hfr.below h.base.1 h.bel.size), ⟨vs, (hk2.block _ hbl (by omega)).trans hb, sts_keep ho hk2 (no2 _) (no2 _)⟩, (hk2.block _ (by omega) (by omega)).trans h.ba, ⟨G, (hG.of (hk2.block _ (by omega) (by omega))).more (Nat.le_succ c), hGo⟩, ⟨_, hM2, ?_⟩, h.nd, h.ok, by omega, h.base.1, Nat.le_trans h.base.2 hfr.size⟩, hfr⟩
  intro n' i' r' e
  by_cases d : (n', i') = (n, i)
  · rw [d, Lm.put_same] at e
    obtain rfl := Option.some.inj e
    obtain ⟨rfl, rfl⟩ := Prod.mk.inj d
    exact ⟨s, o, hn, hi, hr⟩
  · rw [Lm.put_other _ _ _ d] at e
    exact hMo n' i' r' e
theorem MvR.ext {L L' : List (List Int)} {o : OpV} {s : List Int} {r : Int} (h : MvR L o s r) (he : Ext L L') : MvR L' o s r := h.imp id fun ⟨k, t, a, b, d⟩ => ⟨k, t, a, he k t b, d⟩
/-- The cells of a search that are read. -/
theorem SrAt.reads {w0 : World} {n₁ : Nat} {v : Value} {l : List OpV} {dn : Nat} {ah : List Nat} {w : World} {E c : Nat} {L : List (List Int)} (h : SrAt w0 n₁ v l dn ah w E c L) : ∃ vs, w.cell? ⟨w0.heap.size + 1 + 1 + 1, 0, none⟩ = some v ∧ w.cell? ⟨w0.heap.size + 1 + 1 + 1, 2, none⟩ = some (.int .u32 (dn : Int)) ∧ w.cell? ⟨w0.heap.size + 1 + 1 + 1, 3, none⟩ = some vs ∧ StsOwn n₁ w vs L := by
  obtain ⟨vs, hb, ho⟩ := h.bs
  unfold srO at hb
  exact ⟨vs, by rw [cell_of_row _ _ _ _ _ _ hb]; rfl, by rw [cell_of_row _ _ _ _ _ _ hb]; rfl, by rw [cell_of_row _ _ _ _ _ _ hb]; rfl, ho⟩
theorem StsOwn.at {n₀ : Nat} {w : World} {v : Value} {l : List (List Int)} (h : StsOwn n₀ w v l) {i : Nat} {s : List Int} (hi : l[i]? = some s) : ∃ b p cap u, v = .slice (some ⟨b, p, none⟩) l.length cap ∧ b < w.heap.size ∧ w.cell? ⟨b, p + i, none⟩ = some u ∧ OwnI 0 w u s := by
  obtain ⟨vs, h1, h2⟩ := h
  have hlt : i < l.length := (List.getElem?_eq_some_iff.1 hi).1
  obtain ⟨b, p, cap, hv, hb, hr⟩ := (own_rd h1).at (by omega)
  have hu : vs[i]? = some (vs[i]'(by rw [h1.1]; omega)) := List.getElem?_eq_getElem _
  exact ⟨b, p, cap, _, hv, hb, hr i _ hu, h2 i _ s hu hi⟩
set_option maxHeartbeats 4000000 in
theorem behind_any {w0 : World} {n₁ : Nat} {v : Value} {l : List OpV} {dn : Nat} {ah : List Nat} {w : World} {E c : Nat} {L : List (List Int)} (hF : Fix w0 v l dn ah) (h : SrAt w0 n₁ v l dn ah w E c L) {n i : Nat} {s : List Int} {o : OpV} (hn : L[n]? = some s) (hi : l[i]? = some o) (hE : E ≤ 500000000) (hc : c < 9000000) :
    Calls Try.prog 92 #[.pointer (some ⟨w0.heap.size + 1 + 1 + 1, 0, none⟩), .agg #[.int .i64 (n : Int), .int .i64 (i : Int)]] w fun e w' => ∃ r : Int, e = .returned (.int .i64 r) ∧ ∃ L', SrAt w0 n₁ v l dn ah w' E (c + 2) L' ∧ Ext L L' ∧ MvR L' o s r ∧ Fr w0 n₁ w w' := by
  have hcn := h.cnt
  have hbw : Below w.heap.size w (w.alloc (.cells #[.int .i64 (n : Int), .int .i64 (i : Int)] 159)) := by go_grown
  have hbx := heap_alloc_new w (.cells #[.int .i64 (n : Int), .int .i64 (i : Int)] 159)
  obtain ⟨W1, hW1⟩ : ∃ W, w.alloc (.cells #[.int .i64 (n : Int), .int .i64 (i : Int)] 159) = W := ⟨_, rfl⟩
  rw [hW1] at hbw hbx
  have hd : Below W1.heap.size W1 W1.drew := (Below.refl _ _).drew
  have hD := (h.on hbw).on hd
  obtain ⟨m5, hmv⟩ := hD.moved hn hi hF.few (by omega)
  have hbx2 : W1.drew.heap[w.heap.size]? = some (.cells #[.int .i64 (n : Int), .int .i64 (i : Int)] 159 (0, 0)) := hbx
  have b0 : W1.drew.cell? ⟨w.heap.size, 0, none⟩ = some (.int .i64 (n : Int)) := by rw [cell_of_row _ _ _ _ _ _ hbx2]; rfl
  have b1 : W1.drew.cell? ⟨w.heap.size, 1, none⟩ = some (.int .i64 (i : Int)) := by rw [cell_of_row _ _ _ _ _ _ hbx2]; rfl
  have HD := Lib.hid hD
  have HF := Lib.hid hF
  have HN := Lib.hid (And.intro hn hi)
  have HBX := Lib.hid hbx2
  have HFR := Lib.hid (Fr.of (w0 := w0) (n₁ := n₁) (hbw.on hd))
  clear hbw hD hF hn hi hd h hbx hbx2
  rcases hmv with ⟨r, hr, lk⟩ | lk
  · have HR := Lib.hid hr
    clear hr
    go_enter Try.func92, Try.ntmps92
    go_wp2_with fail
    go_region
    go_wp2_with fail
    go_returns
    exact ⟨r, rfl, L, HD.out.more (by omega), Ext.refl L, HR.out, HFR.out⟩
  · go_enter Try.func92, Try.ntmps92
    go_wp2_with fail
    go_region
    clear lk m5
    obtain ⟨D, hDD⟩ : ∃ D, W1.drew = D := ⟨_, rfl⟩
    rw [hDD] at HD HBX HFR b0 b1 ⊢
    clear hDD
    have hd2 : Below D.heap.size D D.drew := (Below.refl _ _).drew
    have hD2 := HD.out.on hd2
    obtain ⟨vs, c0, _, c3, hst⟩ := hD2.reads
    obtain ⟨bq, pq, cq, u, rfl, hbq, hcu, hu⟩ := hst.at HN.out.1
    obtain ⟨au, cu, rfl⟩ := hu.len
    obtain ⟨bo, po, co, rfl, hbo, hwf, hco⟩ := OpsOf.at HF.out.ops HN.out.2
    have hbl : w0.heap.size + 1 + 1 + 1 < D.heap.size := by obtain ⟨_, e, _⟩ := HD.out.bs; exact heap_inO e
    have hlx : w.heap.size < D.heap.size := heap_inO HBX.out
    have e0 : D.drew.cell? ⟨w.heap.size, 0, none⟩ = some (.int .i64 (n : Int)) := b0
    have e1 : D.drew.cell? ⟨w.heap.size, 1, none⟩ = some (.int .i64 (i : Int)) := b1
    have q1 : (n : Int) < (L.length : Int) := by have := (List.getElem?_eq_some_iff.1 HN.out.1).1; omega
    have q2 : (i : Int) < (l.length : Int) := by have := (List.getElem?_eq_some_iff.1 HN.out.2).1; omega
    have q3 : (0 : Int) ≤ n := by omega
    have q4 : (0 : Int) ≤ i := by omega
    have hsl : s.length ≤ E + L.length := (HD.out.ok s (List.mem_of_getElem? HN.out.1)).2
    have HU := Lib.hid hu
    have HWF := Lib.hid hwf
    have HD2 := Lib.hid hD2
    have HF2 := Lib.hid (HFR.out.trans (Fr.of (w0 := w0) (n₁ := n₁) hd2))
    have HSS := Lib.hid (show ∀ W, Below D.drew.heap.size D.drew W → W.cell? ⟨w0.heap.size + 1 + 1 + 1, 0, none⟩ = some (.slice (some ⟨bo, po, none⟩) l.length co) ∧ W.cell? ⟨w0.heap.size + 1 + 1 + 1, 3, none⟩ = some (.slice (some ⟨bq, pq, none⟩) L.length cq) ∧ W.cell? ⟨bq, pq + n, none⟩ = some (.slice au s.length cu) ∧ W.cell? ⟨w.heap.size, 0, none⟩ = some (.int .i64 (n : Int)) ∧ W.cell? ⟨w.heap.size, 1, none⟩ = some (.int .i64 (i : Int)) ∧ (loadS 43 (.pointer (some ⟨bo, po + i * 11, none⟩))).run Try.prog W = .ok (Value.agg #[Value.int .i64 o.id, Value.int .i64 o.proc, Value.int .i64 o.obj, Value.int .i64 o.kind, Value.int .i64 o.meth, Value.int .i64 o.arg, Value.int .i64 o.sec, Value.bool o.done, Value.int .i64 o.res, Value.int .i64 o.inv, Value.int .i64 o.ret]) W from fun W hb =>
      ⟨(hb.cell (p := ⟨w0.heap.size + 1 + 1 + 1, 0, none⟩) hbl).trans c0, (hb.cell (p := ⟨w0.heap.size + 1 + 1 + 1, 3, none⟩) hbl).trans c3, (hb.cell (p := ⟨bq, pq + n, none⟩) hbq).trans hcu, (hb.cell (p := ⟨w.heap.size, 0, none⟩) hlx).trans e0, (hb.cell (p := ⟨w.heap.size, 1, none⟩) hlx).trans e1,
        load_cellsO (w := W) (p := po + i * 11) (o := o) (b := bo) (fun j u hj => ((hb.cell (p := ⟨bo, po + i * 11 + j, none⟩) (Nat.lt_of_lt_of_le hbo (Nat.le_trans hD2.bel.size (Nat.le_refl _)))).trans (hD2.bel.cell (p := ⟨bo, po + i * 11 + j, none⟩) hbo)).trans (hco j u hj))⟩)
    clear hd2 hD2 hst hu hbo hco hwf hbq b0 b1 HD c0 c3 hcu e0 e1
    obtain ⟨k0, k3, k4, k5, k6, k7⟩ := HSS.out D.drew (Below.refl _ _)
    go_wp2_with fail
    cases hst : (stepC o s).2 with
    | false =>
      have HNO := Lib.hid (show stO o s = none by unfold stO; rw [hst]; rfl)
      go_region_held3 (fun w' => w'.cell? ⟨w0.heap.size + 1 + 1 + 1, 0, none⟩ = some (.slice (some ⟨bo, po, none⟩) l.length co) ∧ w'.cell? ⟨w0.heap.size + 1 + 1 + 1, 3, none⟩ = some (.slice (some ⟨bq, pq, none⟩) L.length cq) ∧ w'.cell? ⟨bq, pq + n, none⟩ = some (.slice au s.length cu) ∧ w'.cell? ⟨w.heap.size, 0, none⟩ = some (.int .i64 (n : Int)) ∧ w'.cell? ⟨w.heap.size, 1, none⟩ = some (.int .i64 (i : Int)) ∧ (loadS 43 (.pointer (some ⟨bo, po + i * 11, none⟩))).run Try.prog w' = .ok (Value.agg #[Value.int .i64 o.id, Value.int .i64 o.proc, Value.int .i64 o.obj, Value.int .i64 o.kind, Value.int .i64 o.meth, Value.int .i64 o.arg, Value.int .i64 o.sec, Value.bool o.done, Value.int .i64 o.res, Value.int .i64 o.inv, Value.int .i64 o.ret]) w') (go_keep) (first
        | (go_at_call 100; (with_reducible refine (mstep_any o HWF.out HU.out.reads (by omega)).mono ?_); rintro _ w3 ⟨v3, rfl, ho3, hb3⟩; rw [hst]; obtain ⟨k0, k3, k4, k5, k6, k7⟩ := HSS.out w3 hb3; have HO3 := Lib.hid ho3; have HB3 := Lib.hid hb3; clear ho3 hb3)
        | fail)
      have h3 := (HD2.out.on HB3.out).on (Below.refl w3.heap.size w3).drew
      obtain ⟨m5, w5, mu, h5, hf5⟩ := h3.move HN.out.1 HN.out.2 HF.out.few (by omega) (r := -1) (.inl ⟨rfl, HNO.out⟩)
      have g5 : w3.drew.cell? ⟨w.heap.size, 0, none⟩ = some (.int .i64 (n : Int)) := k5
      have g6 : w3.drew.cell? ⟨w.heap.size, 1, none⟩ = some (.int .i64 (i : Int)) := k6
      have H5 := Lib.hid h5
      have HF5 := Lib.hid (HF2.out.trans ((Fr.of (w0 := w0) (n₁ := n₁) (HB3.out.on (Below.refl w3.heap.size w3).drew)).trans hf5))
      clear h3 h5 hf5 k0 k3 k4 k7
      go_wp2_with fail
      go_region
      go_wp2_with fail
      go_returns
      exact ⟨-1, rfl, L, H5.out.more (by omega), Ext.refl L, .inl ⟨rfl, HNO.out⟩, HF5.out⟩
    | true =>
      have HYES := Lib.hid (show stO o s = some (stepC o s).1 by unfold stO; rw [hst]; rfl)
      have hln := stepC_len o s
      go_region_held3 (fun w' => w'.cell? ⟨w0.heap.size + 1 + 1 + 1, 0, none⟩ = some (.slice (some ⟨bo, po, none⟩) l.length co) ∧ w'.cell? ⟨w0.heap.size + 1 + 1 + 1, 3, none⟩ = some (.slice (some ⟨bq, pq, none⟩) L.length cq) ∧ w'.cell? ⟨bq, pq + n, none⟩ = some (.slice au s.length cu) ∧ w'.cell? ⟨w.heap.size, 0, none⟩ = some (.int .i64 (n : Int)) ∧ w'.cell? ⟨w.heap.size, 1, none⟩ = some (.int .i64 (i : Int)) ∧ (loadS 43 (.pointer (some ⟨bo, po + i * 11, none⟩))).run Try.prog w' = .ok (Value.agg #[Value.int .i64 o.id, Value.int .i64 o.proc, Value.int .i64 o.obj, Value.int .i64 o.kind, Value.int .i64 o.meth, Value.int .i64 o.arg, Value.int .i64 o.sec, Value.bool o.done, Value.int .i64 o.res, Value.int .i64 o.inv, Value.int .i64 o.ret]) w') (go_keep) (first
        | (go_at_call 100; (with_reducible refine (mstep_any o HWF.out HU.out.reads (by omega)).mono ?_); rintro _ w3 ⟨v3, rfl, ho3, hb3⟩; rw [hst]; obtain ⟨k0, k3, k4, k5, k6, k7⟩ := HSS.out w3 hb3; have HO3 := Lib.hid ho3; have HB3 := Lib.hid hb3; clear ho3 hb3)
        | fail)
      have HSL := Lib.hid (And.intro hsl hln)
      generalize (stepC o s).1 = L2 at HO3 HYES HSL
      have h3 := HD2.out.on HB3.out
      have hbx3 : w3.heap[w.heap.size]? = some (.cells #[.int .i64 (n : Int), .int .i64 (i : Int)] 159 (0, 0)) := (HB3.out.block _ (heap_inO HBX.out)).trans HBX.out
      have ho0 : OwnI 0 w3 v3 L2 := HO3.out.base (Nat.zero_le _)
      obtain ⟨a3, cp3, rfl⟩ := ho0.len
      have HNB := Lib.hid (number_any h3 ho0 ⟨ho0.inI, by have := HSL.out; omega⟩ (by have := HSL.out; omega) hE (by omega))
      have H3 := Lib.hid h3
      have HB3X := Lib.hid hbx3
      clear h3 hbx3 ho0 k0 k3 k4 k5 k6 k7 hsl hln
      go_wp2_with fail
      refine HNB.out.mono ?_
      rintro _ w4 ⟨k, rfl, L', h4, he4, hk4, hf4⟩
      have hb4 : Below w4.heap.size w4 w4.drew := (Below.refl _ _).drew
      have hx4 : w4.drew.heap[w.heap.size]? = some (.cells #[.int .i64 (n : Int), .int .i64 (i : Int)] 159 (0, 0)) := H3.out.cells hf4 HB3X.out (by decide) (by decide)
      have g5 : w4.drew.cell? ⟨w.heap.size, 0, none⟩ = some (.int .i64 (n : Int)) := by rw [cell_of_row _ _ _ _ _ _ hx4]; rfl
      have g6 : w4.drew.cell? ⟨w.heap.size, 1, none⟩ = some (.int .i64 (i : Int)) := by rw [cell_of_row _ _ _ _ _ _ hx4]; rfl
      have hmr : MvR L' o s (k : Int) := .inr ⟨k, L2, rfl, hk4, HYES.out⟩
      obtain ⟨m5, w5, mu, h5, hf5⟩ := (h4.on hb4).move (he4 _ _ HN.out.1) HN.out.2 HF.out.few (by omega) hmr
      have H5 := Lib.hid h5
      have HE5 := Lib.hid (And.intro he4 hmr)
      have HF5 := Lib.hid (HF2.out.trans ((Fr.of (w0 := w0) (n₁ := n₁) HB3.out).trans (hf4.trans ((Fr.of (w0 := w0) (n₁ := n₁) hb4).trans hf5))))
      clear h4 he4 hk4 hf4 hb4 hx4 hmr h5 hf5
      go_wp2_with fail
      go_region
      go_wp2_with fail
      go_returns
      exact ⟨k, rfl, L', H5.out, HE5.out.1, HE5.out.2, HF5.out⟩
end Ln
end Go.Proofs.Ytppjmmdiglnkfaa
