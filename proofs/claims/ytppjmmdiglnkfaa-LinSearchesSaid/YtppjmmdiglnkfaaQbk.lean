/- The document's Spots. -/
import Derived.Test.YtppjmmdiglnkfaaQbj
namespace Go.Proofs.Ytppjmmdiglnkfaa
set_option maxRecDepth 100000
open Go.ChangeShapes Go.WideShapes Go.ChangeAt Go.RowKit Go.PlainAid Go.Deep
namespace Ln
attribute [local go_sem ↓ high] load_op store_o app_rs app_bl
/-- A slice's numbers lie so. -/
def OnlyB (P : Nat → Prop) (u : Value) : Prop := ∀ a n c, u = .slice (some a) n c → 0 < n → P a.block
theorem StsQ.low {Q : Value → Prop} {w : World} {v : Value} {l : List (List Int)} (h : StsQ Q w v l) : StsQ (fun u => Q u ∧ OnlyB (fun b => b < w.heap.size) u) w v l := by
  obtain ⟨vs, h1, h2⟩ := h
  refine ⟨vs, h1, fun i u s hu hs => ⟨(h2 i u s hu hs).1, (h2 i u s hu hs).2, fun a n c e hn => ?_⟩⟩
  have hI := (h2 i u s hu hs).1
  rcases hI with ⟨_, a', c', e'⟩ | ⟨b', o, c', e', hlt, _⟩
  · rw [e] at e'
    have := (Value.slice.inj e').2.1
    omega
  · rw [e] at e'
    have := Option.some.inj (Value.slice.inj e').1
    rw [this]; exact hlt
theorem only_loc {n : Nat} {w : World} {u : Value} {s : List Int} (h : IntsOf w u s) (ho : OnlyB (fun b => b < n) u) : s = [] ∨ Loc n w u := by
  rcases h with ⟨e, _⟩ | ⟨b', o, c', e', _, h0, _⟩
  · exact .inl e
  · refine .inr fun b hb => .inl ?_
    have := ho _ _ _ e' h0
    subst e'
    obtain rfl : b' = b := by simpa [Value.ownBlock] using hb
    exact this
theorem bools_own {W : World} {g n n₀ : Nat} (hb : W.heap[g]? = some (boO (List.replicate n false))) (hg : n₀ ≤ g) (hn : n ≤ 100) : W.ownsRow n₀ 4 1 (.slice (some ⟨g, 0, none⟩) n n) n ((List.replicate n false).map Value.bool) := by
  unfold boO at hb
  exact ⟨by simp, .inr ⟨g, n, _, rfl, hg, hb, Nat.le_refl _, by unfold maxLen; omega, by simp, by simp⟩⟩
def SpPost (R : List Int → Prop) (l : List OpV) (E : Nat) (ents : List (List Int)) (lim : Int) (w0 w : World) (e : Ending) (w' : World) : Prop := ∃ v', e = .returned v' ∧ ∃ rs first bM ks, US ents first ∧ SpsR l first lim rs ∧ SpR w0.heap.size R l.length E w bM w' v' rs ks ∧ rs.length ≤ 400000
set_option maxHeartbeats 8000000 in
theorem spots_any {R : List Int → Prop} {vo vE : Value} {l : List OpV} {ents : List (List Int)} {E : Nat} {w0 w : World} (hw : Below w0.heap.size w0 w) (hO : OpsOf w0 vo l) (hl : l.length ≤ 7) (hE0 : StsQ CapOk w0 vE ents) (hR : RK R l) (hent : ∀ s ∈ ents, s.length ≤ E ∧ R s) (hEl : E ≤ 10000) (hel : ents.length ≤ 100000) (lim : Int) (hlim : -1 ≤ lim ∧ lim ≤ 32768) :
    Calls Try.prog 28 #[vo, vE, .int .i64 lim] w (SpPost R l E ents lim w0 w) := by
  have hE := (StsQ.low hE0).on hw
  have HW0 := Lib.hid hw
  obtain ⟨ao, co, rfl⟩ := hO.len
  have hbm : Below w.heap.size w (w.alloc (.map #[] 0)) := by go_grown
  have hmn := heap_alloc_new w (.map #[] 0)
  obtain ⟨W1, hW1⟩ : ∃ W, w.alloc (.map #[] 0) = W := ⟨_, rfl⟩
  rw [hW1] at hbm hmn
  have hst := hE.sts
  have HS := Lib.hid (rsorted_q (hE.on hbm) (fun s hs => by have := (hent s hs).1; omega) (by omega))
  have HOK := Lib.hid (show ∀ s ∈ ents, Okz s from sts_okz hst fun s hs => by have := (hent s hs).1; omega)
  have HO := Lib.hid (hO.on hw)
  have HR := Lib.hid hR
  have HEN := Lib.hid hent
  have HM := Lib.hid (And.intro hbm hmn)
  have HMS := Lib.hid (show W1.heap.size = w.heap.size + 1 by rw [← hW1, World.size_alloc])
  have mk := fun W => make_mapK W
  have HW := Lib.hid hW1
  clear hO hE hE0 hw hR hent hbm hmn hst hW1
  go_enter Try.func28, Try.ntmps28
  go_wp2_with fail
  rw [HW.out]
  refine HS.out.mono ?_
  rintro _ w1 ⟨vF, rfl, first, hF, hus, hb1⟩
  have hfl := hus.len
  obtain ⟨aF, cF, rfl⟩ := (hF.reads hb1).len
  have HUS := Lib.hid hus
  have HOUT0 := Lib.hid (show Out w0.heap.size w.heap.size w1 (.slice aF first.length cF) first from by
    obtain ⟨vs, h1, h2⟩ := hF
    refine ⟨vs, ownsRow_baseI h1 (by have := HMS.out; omega), fun i u s hu hs => ?_⟩
    obtain ⟨hI, hcap, hlow⟩ := h2 i u s hu hs
    exact ⟨⟨hI.on hb1, hcap⟩, only_loc (hI.on hb1) hlow⟩)
  have HI0 := Lib.hid (show SpR w0.heap.size R l.length E w w.heap.size w1 (.slice none 0 0) [] [] from ⟨HM.out.1.on hb1, ⟨[], World.ownsRow_nil _ _ _ _, fun i p hp => by simp at hp⟩, ⟨fun _ => none, ⟨#[], 0, (hb1.block _ (heap_inO HM.out.2)).trans HM.out.2, Lm.empty tMet 0 0⟩, fun k => ⟨fun e => (by cases e), fun ⟨p, hp, _⟩ => (by cases hp)⟩, fun k b e => (by cases e)⟩, fun p hp => (by cases hp), fun p hp => (by cases hp), Nat.le_refl _, HW0.out.size⟩)
  clear hF hus hb1 HS mk HM HW HMS
  go_wp2_with fail
  go_loopw [7, 10] (fun s7 s10 wr => ∃ i : Nat, s10 = .int .i64 i ∧ i ≤ first.length ∧ (i = 0 ∨ (i : Int) ≤ lim + 1) ∧ Hid (Out w0.heap.size w.heap.size wr (.slice aF first.length cF) first ∧ SpR w0.heap.size R l.length E w w.heap.size wr s7 ((first.take i).map (beg l.length)) ((first.take i).map (beg l.length)))) (fun _ s10 _ => first.length - (intOf s10).toNat)
  case atStart => exact ⟨0, rfl, Nat.zero_le _, .inl rfl, Lib.hid ⟨HOUT0.out, HI0.out⟩⟩
  case round =>
    clear HI0 HOUT0
    obtain ⟨i, rfl, hi, hil, HI⟩ := hrel
    rename World => wq
    obtain ⟨a7, c7, h7⟩ := HI.out.2.len
    rw [List.length_map, List.length_take, Nat.min_eq_left hi] at h7
    subst h7
    by_cases hgo : i < first.length ∧ (i : Int) ≤ lim
    · obtain ⟨hif, hilim⟩ := hgo
      have q1 : (i : Int) < (first.length : Int) := by omega
      have q2 : IntKind.i64.wrap ((i : Int) + 1) = (i : Int) + 1 := IntWalk.i64_in _ (by omega)
      have q3 : (0 : Int) ≤ i := by omega
      obtain ⟨s, hs⟩ : ∃ s, first[i]? = some s := ⟨_, List.getElem?_eq_getElem hif⟩
      obtain ⟨b, p, cap, u, hv, hbq, hc, hL⟩ := HI.out.1.at hs
      obtain ⟨rfl, _, rfl⟩ := Value.slice.inj hv
      obtain ⟨au, cu, rfl, _⟩ := hL.1.ints.parts
      have mb := make_bool l.length (by omega)
      have HC := Lib.hid (show ∀ W, Below wq.heap.size wq W → W.cell? ⟨b, p + i, none⟩ = some (.slice au s.length cu) from fun W hb => (hb.cell (p := ⟨b, p + i, none⟩) hbq).trans hc)
      have k0 := HC.out wq.drew (Below.refl _ _).drew
      have k1 := HC.out (wq.alloc (boO (List.replicate l.length false))).drew (show Below wq.heap.size wq (wq.alloc (boO (List.replicate l.length false))) by go_grown).drew
      have k2 := HC.out (wq.alloc (.cells #[.slice none 0 0, .slice none 0 0] 61)).drew (show Below wq.heap.size wq (wq.alloc (.cells #[.slice none 0 0, .slice none 0 0] 61)) by go_grown).drew
      have k3 := HC.out ((wq.alloc (boO (List.replicate l.length false))).alloc (.cells #[.slice none 0 0, .slice none 0 0] 61)).drew (show Below wq.heap.size wq ((wq.alloc (boO (List.replicate l.length false))).alloc (.cells #[.slice none 0 0, .slice none 0 0] 61)) by go_grown).drew
      have HL := Lib.hid hL
      have HSI := Lib.hid hs
      have hsE := Lib.hid ((HUS.out.mem s).1 (List.mem_of_getElem? hs))
      have k4 := HC.out ((wq.alloc (.cells #[.slice none 0 0, .slice none 0 0] 61)).alloc (boO (List.replicate l.length false))).drew (show Below wq.heap.size wq ((wq.alloc (.cells #[.slice none 0 0, .slice none 0 0] 61)).alloc (boO (List.replicate l.length false))) by go_grown).drew
      clear hv hL hs
      have HSF := Lib.hid (show SpF R l.length E (beg l.length s) from ⟨List.length_replicate, by show s.length + left (List.replicate l.length false) ≤ _; rw [left_rep]; have := (HEN.out s hsE.out).1; omega, HOK.out s hsE.out, (HEN.out s hsE.out).2⟩)
      have HFA := Lib.hid (show Below wq.heap.size wq ((wq.alloc (boO (List.replicate l.length false))).alloc (.cells #[.slice (some ⟨wq.heap.size, 0, none⟩) l.length l.length, .slice au s.length cu] 61)).drew ∧ ((wq.alloc (boO (List.replicate l.length false))).alloc (.cells #[.slice (some ⟨wq.heap.size, 0, none⟩) l.length l.length, .slice au s.length cu] 61)).drew.heap[wq.heap.size + 1]? = some (.cells #[.slice (some ⟨wq.heap.size, 0, none⟩) l.length l.length, .slice au s.length cu] 61 (0, 0)) ∧ ((wq.alloc (boO (List.replicate l.length false))).alloc (.cells #[.slice (some ⟨wq.heap.size, 0, none⟩) l.length l.length, .slice au s.length cu] 61)).drew.heap[wq.heap.size]? = some (boO (List.replicate l.length false)) from ⟨(show Below wq.heap.size wq _ by unfold boO; go_grown).drew, (by have := heap_alloc_new (wq.alloc (boO (List.replicate l.length false))) (.cells #[.slice (some ⟨wq.heap.size, 0, none⟩) l.length l.length, .slice au s.length cu] 61); rw [World.size_alloc] at this; exact this), ((Below.heap_alloc _ _ _ (by rw [World.size_alloc]; omega)).trans (heap_alloc_new wq _))⟩)
      have HFB := Lib.hid (show Below wq.heap.size wq ((wq.alloc (.cells #[.slice (some ⟨wq.heap.size + 1, 0, none⟩) l.length l.length, .slice au s.length cu] 61)).alloc (boO (List.replicate l.length false))).drew ∧ ((wq.alloc (.cells #[.slice (some ⟨wq.heap.size + 1, 0, none⟩) l.length l.length, .slice au s.length cu] 61)).alloc (boO (List.replicate l.length false))).drew.heap[wq.heap.size]? = some (.cells #[.slice (some ⟨wq.heap.size + 1, 0, none⟩) l.length l.length, .slice au s.length cu] 61 (0, 0)) ∧ ((wq.alloc (.cells #[.slice (some ⟨wq.heap.size + 1, 0, none⟩) l.length l.length, .slice au s.length cu] 61)).alloc (boO (List.replicate l.length false))).drew.heap[wq.heap.size + 1]? = some (boO (List.replicate l.length false)) from ⟨(show Below wq.heap.size wq _ by unfold boO; go_grown).drew, ((Below.heap_alloc _ _ _ (by rw [World.size_alloc]; omega)).trans (heap_alloc_new wq _)), (by have := heap_alloc_new (wq.alloc (.cells #[.slice (some ⟨wq.heap.size + 1, 0, none⟩) l.length l.length, .slice au s.length cu] 61)) (boO (List.replicate l.length false)); rw [World.size_alloc] at this; exact this)⟩)
      go_wp2_with fail
      go_region
      · generalize ((wq.alloc (boO (List.replicate l.length false))).alloc (.cells #[.slice (some ⟨wq.heap.size, 0, none⟩) l.length l.length, .slice au s.length cu] 61)).drew = W9 at HFA ⊢
        have hsp := HI.out.2.on HFA.out.1
        have hdn := bools_own (n₀ := w.heap.size) HFA.out.2.2 (by have := HI.out.2.bel.size; omega) (by omega)
        have hst := HL.out.on HFA.out.1
        have c0 : W9.cell? ⟨wq.heap.size + 1, 0, none⟩ = some (.slice (some ⟨wq.heap.size, 0, none⟩) l.length l.length) := by rw [cell_of_row _ _ _ _ _ _ HFA.out.2.1]; rfl
        have c1 : W9.cell? ⟨wq.heap.size + 1, 1, none⟩ = some (.slice au s.length cu) := by rw [cell_of_row _ _ _ _ _ _ HFA.out.2.1]; rfl
        have HK := Lib.hid (key_any (d := List.replicate l.length false) (by have := own_rd hdn; rw [List.length_replicate]; exact this) hst.1.ints (by rw [List.length_replicate]; omega) (by have := (HEN.out s hsE.out).1; omega))
        have HSP := Lib.hid hsp
        have HDN := Lib.hid (And.intro hdn hst)
        clear hsp hdn hst
        go_wp2_with fail
        refine HK.out.mono ?_
        rintro _ w2 ⟨rfl, hb2⟩
        obtain ⟨w3, r3, hsp3, hk3, ht3⟩ := (HSP.out.on hb2).know HSF.out (by omega) (by omega) (by rw [List.length_map, List.length_take]; omega)
        have hx2 := (hb2.block _ (heap_inO HFA.out.2.1)).trans HFA.out.2.1
        have hx3 := ht3 _ _ _ hx2
        have hmap : ∃ es ck, w2.heap[w.heap.size]? = some (.map es ck) := by obtain ⟨_, ⟨es, ck, e, _⟩, _⟩ := (HSP.out.on hb2).mp; exact ⟨es, ck, e⟩
        have hsc3 : SpC w0.heap.size w.heap.size w3 (beg l.length s) (.slice (some ⟨wq.heap.size, 0, none⟩) l.length l.length) (.slice au s.length cu) := (show SpC w0.heap.size w.heap.size w2 (beg l.length s) (.slice (some ⟨wq.heap.size, 0, none⟩) l.length l.length) (.slice au s.length cu) from ⟨ownsRow_onI (by show W9.ownsRow _ _ _ _ (List.replicate l.length false).length _; rw [List.length_replicate]; exact HDN.out.1) hb2, HDN.out.2.on hb2⟩).keep hk3 (fun g e => by rw [e]; exact HW0.out.size) (fun g cur e hg => map_no hmap e hg) (fun g cur e hg => map_no hmap e hg)
        obtain ⟨v4, w4, r4, ⟨a4, p4, rfl⟩, hsp4, hk4⟩ := hsp3.push HSF.out hsc3 (by rw [List.length_map, List.length_take]; omega)
        have c2 : w3.cell? ⟨wq.heap.size + 1, 0, none⟩ = some (.slice (some ⟨wq.heap.size, 0, none⟩) l.length l.length) := by rw [cell_of_row _ _ _ _ _ _ hx3]; rfl
        have c3 : w3.cell? ⟨wq.heap.size + 1, 1, none⟩ = some (.slice au s.length cu) := by rw [cell_of_row _ _ _ _ _ _ hx3]; rfl
        have hlen : (List.map (beg l.length) (List.take i first)).length = i := by rw [List.length_map, List.length_take]; omega
        rw [hlen] at r4
        have HN := Lib.hid (show Out w0.heap.size w.heap.size w4 (.slice (some ⟨b, p, none⟩) first.length cF) first ∧ SpR w0.heap.size R l.length E w w.heap.size w4 (.slice a4 (i + 1) p4) ((first.take (i + 1)).map (beg l.length)) ((first.take (i + 1)).map (beg l.length)) from by
          have ho2 := (HI.out.1.on HFA.out.1).on hb2
          have ho3 := ho2.know hk3 hmap HW0.out.size
          have ho4 := ho3.keep hk4 (fun g e => Nat.le_trans HW0.out.size (hsp3.vty e).1) (fun g cur e hg => by obtain ⟨_, c', h'⟩ := hsp3.vty e; rw [hg] at h'; exact absurd (Obj.cells.inj (Option.some.inj h')).2.1 (by decide)) (fun g cur e hg => by obtain ⟨_, c', h'⟩ := hsp3.vty e; rw [hg] at h'; exact absurd (Obj.cells.inj (Option.some.inj h')).2.1 (by decide))
          have e : (first.take (i + 1)).map (beg l.length) = (first.take i).map (beg l.length) ++ [beg l.length s] := by rw [List.take_add_one, HSI.out, List.map_append]; rfl
          rw [e]
          rw [hlen] at hsp4
          exact ⟨ho4, hsp4⟩)
        have r3' : (Instr.mapUpdate 93 (.map (some w.heap.size)) (.string (keyT (List.replicate l.length false, s))) (.bool true)).run Try.prog w2 = .ok () w3 := r3
        clear hb2 hsp3 hk3 ht3 hx2 hx3 hmap hsc3 hsp4 hk4 HK r3 c0 c1
        go_wp2_with fail
        refine ⟨⟨i + 1, by simp, by omega, .inr (by omega), HN⟩, ?_⟩
        simp [intOf] <;> omega
      · generalize ((wq.alloc (.cells #[.slice (some ⟨wq.heap.size + 1, 0, none⟩) l.length l.length, .slice au s.length cu] 61)).alloc (boO (List.replicate l.length false))).drew = W9 at HFB ⊢
        have hsp := HI.out.2.on HFB.out.1
        have hdn := bools_own (n₀ := w.heap.size) HFB.out.2.2 (by have := HI.out.2.bel.size; omega) (by omega)
        have hst := HL.out.on HFB.out.1
        have c0 : W9.cell? ⟨wq.heap.size, 0, none⟩ = some (.slice (some ⟨wq.heap.size + 1, 0, none⟩) l.length l.length) := by rw [cell_of_row _ _ _ _ _ _ HFB.out.2.1]; rfl
        have c1 : W9.cell? ⟨wq.heap.size, 1, none⟩ = some (.slice au s.length cu) := by rw [cell_of_row _ _ _ _ _ _ HFB.out.2.1]; rfl
        have HK := Lib.hid (key_any (d := List.replicate l.length false) (by have := own_rd hdn; rw [List.length_replicate]; exact this) hst.1.ints (by rw [List.length_replicate]; omega) (by have := (HEN.out s hsE.out).1; omega))
        have HSP := Lib.hid hsp
        have HDN := Lib.hid (And.intro hdn hst)
        clear hsp hdn hst
        go_wp2_with fail
        refine HK.out.mono ?_
        rintro _ w2 ⟨rfl, hb2⟩
        obtain ⟨w3, r3, hsp3, hk3, ht3⟩ := (HSP.out.on hb2).know HSF.out (by omega) (by omega) (by rw [List.length_map, List.length_take]; omega)
        have hx2 := (hb2.block _ (heap_inO HFB.out.2.1)).trans HFB.out.2.1
        have hx3 := ht3 _ _ _ hx2
        have hmap : ∃ es ck, w2.heap[w.heap.size]? = some (.map es ck) := by obtain ⟨_, ⟨es, ck, e, _⟩, _⟩ := (HSP.out.on hb2).mp; exact ⟨es, ck, e⟩
        have hsc3 : SpC w0.heap.size w.heap.size w3 (beg l.length s) (.slice (some ⟨wq.heap.size + 1, 0, none⟩) l.length l.length) (.slice au s.length cu) := (show SpC w0.heap.size w.heap.size w2 (beg l.length s) (.slice (some ⟨wq.heap.size + 1, 0, none⟩) l.length l.length) (.slice au s.length cu) from ⟨ownsRow_onI (by show W9.ownsRow _ _ _ _ (List.replicate l.length false).length _; rw [List.length_replicate]; exact HDN.out.1) hb2, HDN.out.2.on hb2⟩).keep hk3 (fun g e => by rw [e]; exact HW0.out.size) (fun g cur e hg => map_no hmap e hg) (fun g cur e hg => map_no hmap e hg)
        obtain ⟨v4, w4, r4, ⟨a4, p4, rfl⟩, hsp4, hk4⟩ := hsp3.push HSF.out hsc3 (by rw [List.length_map, List.length_take]; omega)
        have c2 : w3.cell? ⟨wq.heap.size, 0, none⟩ = some (.slice (some ⟨wq.heap.size + 1, 0, none⟩) l.length l.length) := by rw [cell_of_row _ _ _ _ _ _ hx3]; rfl
        have c3 : w3.cell? ⟨wq.heap.size, 1, none⟩ = some (.slice au s.length cu) := by rw [cell_of_row _ _ _ _ _ _ hx3]; rfl
        have hlen : (List.map (beg l.length) (List.take i first)).length = i := by rw [List.length_map, List.length_take]; omega
        rw [hlen] at r4
        have HN := Lib.hid (show Out w0.heap.size w.heap.size w4 (.slice (some ⟨b, p, none⟩) first.length cF) first ∧ SpR w0.heap.size R l.length E w w.heap.size w4 (.slice a4 (i + 1) p4) ((first.take (i + 1)).map (beg l.length)) ((first.take (i + 1)).map (beg l.length)) from by
          have ho2 := (HI.out.1.on HFB.out.1).on hb2
          have ho3 := ho2.know hk3 hmap HW0.out.size
          have ho4 := ho3.keep hk4 (fun g e => Nat.le_trans HW0.out.size (hsp3.vty e).1) (fun g cur e hg => by obtain ⟨_, c', h'⟩ := hsp3.vty e; rw [hg] at h'; exact absurd (Obj.cells.inj (Option.some.inj h')).2.1 (by decide)) (fun g cur e hg => by obtain ⟨_, c', h'⟩ := hsp3.vty e; rw [hg] at h'; exact absurd (Obj.cells.inj (Option.some.inj h')).2.1 (by decide))
          have e : (first.take (i + 1)).map (beg l.length) = (first.take i).map (beg l.length) ++ [beg l.length s] := by rw [List.take_add_one, HSI.out, List.map_append]; rfl
          rw [e]
          rw [hlen] at hsp4
          exact ⟨ho4, hsp4⟩)
        have r3' : (Instr.mapUpdate 93 (.map (some w.heap.size)) (.string (keyT (List.replicate l.length false, s))) (.bool true)).run Try.prog w2 = .ok () w3 := r3
        clear hb2 hsp3 hk3 ht3 hx2 hx3 hmap hsc3 hsp4 hk4 HK r3 c0 c1
        go_wp2_with fail
        refine ⟨⟨i + 1, by simp, by omega, .inr (by omega), HN⟩, ?_⟩
        simp [intOf] <;> omega
    · have HST := Lib.hid (show ∃ rs, Spg l first lim 0 rs ∧ SpR w0.heap.size R l.length E w w.heap.size wq (.slice a7 i c7) rs rs from ⟨_, Spg.start l.length hi hil hlim.1 hgo, HI.out.2⟩)
      by_cases hfi : i < first.length
      all_goals first | (have q1 : ¬ ((i : Int) < (first.length : Int)) := by omega) | (have q1 : (i : Int) < (first.length : Int) ∧ ¬ ((i : Int) ≤ lim) := (by omega); obtain ⟨q1, q2⟩ := q1)
      all_goals
        clear hgo hi hil HI hfi
        go_wp2_with fail
        clear q1
        try clear q2
        go_loopw [7, 12] (fun s7 s12 wr => ∃ (i : Nat) (rs : List RSp), s12 = .int .i64 i ∧ Hid (Spg l first lim i rs ∧ SpR w0.heap.size R l.length E w w.heap.size wr s7 rs rs)) (fun _ s12 _ => 40000 - (intOf s12).toNat)
        case atStart => obtain ⟨rs, h1, h2⟩ := HST.out; exact ⟨0, rs, rfl, Lib.hid ⟨h1, h2⟩⟩
        case round =>
          clear HST
          obtain ⟨i, rs, rfl, HI⟩ := hrel
          rename World => wz
          obtain ⟨a7, c7, rfl⟩ := HI.out.2.len
          have hfew := HI.out.1.few
          have hile := HI.out.1.le
          by_cases hgo2 : i < rs.length ∧ (rs.length : Int) ≤ lim
          · obtain ⟨hir, q2⟩ := hgo2
            obtain ⟨p, hp⟩ : ∃ p, rs[i]? = some p := ⟨_, List.getElem?_eq_getElem hir⟩
            have q1 : (i : Int) < (rs.length : Int) := by omega
            have q3 : (0 : Int) ≤ i := by omega
            have q5 : IntKind.i64.wrap ((i : Int) + 1) = (i : Int) + 1 := IntWalk.i64_in _ (by omega)
            have HP := Lib.hid hp
            have HG := Lib.hid HI.out.1
            have HS0 := Lib.hid HI.out.2
            have HBD := Lib.hid (And.intro hir (And.intro q2 hfew))
            clear hp hir hfew hile HI
            go_wp2_with fail
            clear q1 q2
            go_loopw [7, 13] (fun s7 s13 wr => ∃ (k : Nat) (r : List RSp), s13 = .int .i64 k ∧ k ≤ l.length ∧ Hid (InL l rs p k r ∧ SpR w0.heap.size R l.length E w w.heap.size wr s7 (rs ++ r) (rs ++ r))) (fun _ s13 _ => l.length - (intOf s13).toNat)
            case atStart => exact ⟨0, [], rfl, Nat.zero_le _, Lib.hid ⟨InL.zero _ _ _, by rw [List.append_nil]; exact HS0.out⟩⟩
            case round =>
              clear HS0
              obtain ⟨k, r, rfl, hk, HR3⟩ := hrel
              rename World => wy
              obtain ⟨n, hn⟩ : ∃ n, (rs ++ r).length = n := ⟨_, rfl⟩
              have hn1 : n = rs.length + r.length := by rw [← hn, List.length_append]
              have hrl := HR3.out.1.few
              by_cases hkl : k < l.length
              · obtain ⟨o, ho⟩ : ∃ o, l[k]? = some o := ⟨_, List.getElem?_eq_getElem hkl⟩
                obtain ⟨b, cap, vd, vs, hv, hbq, hc0, hc1, hsc⟩ := HR3.out.2.at (p := p) (by rw [List.getElem?_append_left HBD.out.1]; exact HP.out)
                subst hv
                have hspf : SpF R l.length E p := HR3.out.2.fit p (List.mem_of_getElem? (i := i) (by rw [List.getElem?_append_left HBD.out.1]; exact HP.out))
                have hpl := hspf.len
                have hpz := hspf.sz
                obtain ⟨ad, cd, rfl⟩ := (own_rd hsc.dn).len
                obtain ⟨au, cu, rfl, _⟩ := hsc.st.1.ints.parts
                have HN0 := Lib.hid (And.intro hn (show (n : Int) ≤ lim + 7 by have := HBD.out.2.1; omega))
                have HM := Lib.hid (rmay_any (HO.out.on HR3.out.2.bel) (own_rd hsc.dn) hpl (by omega) ho)
                have q1 : (i : Int) < (n : Int) := by have := HBD.out.1; omega
                have q2 : (k : Int) < (l.length : Int) := by omega
                have q4 : (0 : Int) ≤ (k : Int) := by omega
                have q6 : IntKind.i64.wrap ((k : Int) + 1) = (k : Int) + 1 := IntWalk.i64_in _ (by omega)
                have q7 : (k : Int) < (p.1.length : Int) := by omega
                have HSC := Lib.hid hsc
                have HSF := Lib.hid hspf
                have HO1 := Lib.hid ho
                have HIL := Lib.hid (And.intro hkl hpl)
                have HC := Lib.hid (show ∀ W, Below wy.heap.size wy W → W.cell? ⟨b, i * 2, none⟩ = some (.slice ad p.1.length cd) ∧ W.cell? ⟨b, i * 2 + 1, none⟩ = some (.slice au p.2.length cu) from fun W hb => ⟨(hb.cell (p := ⟨b, i * 2, none⟩) hbq).trans hc0, (hb.cell (p := ⟨b, i * 2 + 1, none⟩) hbq).trans hc1⟩)
                have hpz2 : p.2.length ≤ 20000 := by omega
                have HPZ := Lib.hid hpz2
                rw [hn]
                clear ho hsc hspf hpl hpz hpz2 hc1 hn hn1 hrl hk hkl hbq
                go_wp2_with fail
                refine HM.out.mono ?_
                rintro _ w4 ⟨rfl, hb4⟩
                have HC4 := Lib.hid (show ∀ W, Below w4.heap.size w4 W → W.cell? ⟨b, i * 2, none⟩ = some (.slice ad p.1.length cd) ∧ W.cell? ⟨b, i * 2 + 1, none⟩ = some (.slice au p.2.length cu) from fun W hb => HC.out W (hb4.on hb))
                have HI4 := Lib.hid (show SpR w0.heap.size R l.length E w w.heap.size w4 (.slice (some ⟨b, 0, none⟩) n cap) (rs ++ r) (rs ++ r) from by have := HR3.out.2.on hb4; rw [HN0.out.1] at this; exact this)
                have HSC4 := Lib.hid (HSC.out.on hb4)
                clear hb4 HM hc0
                rw [show (!(p.1[k]?).getD false && freeB l p.1 o) = mayR l p.1 k o from rfl]
                cases hm : mayR l p.1 k o with
                | false =>
                  have HN1 := Lib.hid (show InL l rs p (k + 1) r ∧ SpR w0.heap.size R l.length E w w.heap.size w4 (.slice (some ⟨b, 0, none⟩) n cap) (rs ++ r) (rs ++ r) from ⟨HR3.out.1.no (nx1_noM HO1.out hm), HI4.out⟩)
                  clear hm
                  go_wp2_with fail
                  go_roundw
                  case measure => have := HIL.out.1; simp [intOf] <;> omega
                  case rel => exact ⟨k + 1, r, by simp, by have := HIL.out.1; omega, HN1⟩
                | true =>
                  have HMR := Lib.hid hm
                  have HS := Lib.hid (show ∀ W, Below w4.heap.size w4 W → W.cell? ⟨b, i * 2 + 1, none⟩ = some (.slice au p.2.length cu) ∧ (∃ b3 p3, ao = some ⟨b3, p3, none⟩ ∧ (loadS 43 (.pointer (some ⟨b3, p3 + k * 11, none⟩))).run Try.prog W = .ok (Value.agg #[Value.int .i64 o.id, Value.int .i64 o.proc, Value.int .i64 o.obj, Value.int .i64 o.kind, Value.int .i64 o.meth, Value.int .i64 o.arg, Value.int .i64 o.sec, Value.bool o.done, Value.int .i64 o.res, Value.int .i64 o.inv, Value.int .i64 o.ret]) W) from fun W hb => ⟨(HC4.out W hb).2, by
                    obtain ⟨b3, p3, cap3, hv3, _, _, hcc3⟩ := OpsOf.at (HO.out.on (HI4.out.bel.on hb)) HO1.out
                    exact ⟨b3, p3, by cases hv3; rfl, load_cellsO (p := p3 + k * 11) hcc3⟩⟩)
                  obtain ⟨b3, p3, e3, _⟩ := (HS.out w4 (Below.refl _ _)).2
                  subst e3
                  have HS2 := Lib.hid (show ∀ W, Below w4.heap.size w4 W → W.cell? ⟨b, i * 2 + 1, none⟩ = some (.slice au p.2.length cu) ∧ (loadS 43 (.pointer (some ⟨b3, p3 + k * 11, none⟩))).run Try.prog W = .ok (Value.agg #[Value.int .i64 o.id, Value.int .i64 o.proc, Value.int .i64 o.obj, Value.int .i64 o.kind, Value.int .i64 o.meth, Value.int .i64 o.arg, Value.int .i64 o.sec, Value.bool o.done, Value.int .i64 o.res, Value.int .i64 o.inv, Value.int .i64 o.ret]) W from fun W hb => ⟨(HS.out W hb).1, by
                    obtain ⟨b5, p5, e5, h5⟩ := (HS.out W hb).2
                    cases e5
                    exact h5⟩)
                  have hb0 : Below w4.heap.size w4 w4.drew := (Below.refl _ _).drew
                  have HST := Lib.hid (rstep_any o (show o.Wf from by
                    obtain ⟨_, _, _, _, _, hwf, _⟩ := OpsOf.at (HO.out.on HI4.out.bel) HO1.out
                    exact hwf) ((HSC4.out.st.on hb0).1) (HR.out.ris o (List.mem_of_getElem? HO1.out) _ HSF.out.ris) (by have := HPZ.out; omega))
                  obtain ⟨k1, k2⟩ := HS2.out _ hb0
                  clear hm HS
                  go_wp2_with fail
                  go_region_held3 (fun w' => w'.cell? ⟨b, i * 2 + 1, none⟩ = some (.slice au p.2.length cu) ∧ (loadS 43 (.pointer (some ⟨b3, p3 + k * 11, none⟩))).run Try.prog w' = .ok (Value.agg #[Value.int .i64 o.id, Value.int .i64 o.proc, Value.int .i64 o.obj, Value.int .i64 o.kind, Value.int .i64 o.meth, Value.int .i64 o.arg, Value.int .i64 o.sec, Value.bool o.done, Value.int .i64 o.res, Value.int .i64 o.inv, Value.int .i64 o.ret]) w') (first | (exact HS2.out _ (by assumption)) | go_keep) (first | (go_at_call 53; (with_reducible refine HST.out.mono ?_); rintro _ w5 ⟨v5, rfl, hi5, hb5, hl5⟩; have hb45 := hb0.on hb5) | fail)
                  have HL5 := Lib.hid ((HSC4.out.st.on hb0).step hi5 hb5 hl5)
                  obtain ⟨a5, c5, rfl, _⟩ := hi5.ints.parts
                  have HI5 := Lib.hid (HI4.out.on hb45)
                  have HSC5 := Lib.hid (HSC4.out.on hb45)
                  have HC5 := Lib.hid (show ∀ W, Below w5.heap.size w5 W → W.cell? ⟨b, i * 2, none⟩ = some (.slice ad p.1.length cd) from fun W hb => (HC4.out W (hb45.on hb)).1)
                  clear hi5 hb5 hl5 hb0 hb45 HC4 HSC4 HI4 HST HS2 k1 k2 HC HSC
                  cases hst : (stepC o p.2).2 with
                  | false =>
                    have HN1 := Lib.hid (show InL l rs p (k + 1) r ∧ SpR w0.heap.size R l.length E w w.heap.size w5 (.slice (some ⟨b, 0, none⟩) n cap) (rs ++ r) (rs ++ r) from ⟨HR3.out.1.no (nx1_noS HO1.out hst), HI5.out⟩)
                    clear hst
                    go_wp2_with fail
                    go_roundw
                    case measure => have := HIL.out.1; simp [intOf] <;> omega
                    case rel => exact ⟨k + 1, r, by simp, by have := HIL.out.1; omega, HN1⟩
                  | true =>
                    have hkp : k < p.1.length := by have := HIL.out; omega
                    have HNX := Lib.hid (nx1_yesS HO1.out HMR.out hst hkp)
                    have HSN := Lib.hid (HSF.out.next HR HO1.out HMR.out hst ⟨HL5.out.1.ints.inI, by have := stepC_len o p.2; have := HPZ.out; omega⟩)
                    clear hst
                    obtain ⟨g, cg, w6, r6, ho6, hb6⟩ := bools_copy (own_rd HSC5.out.dn) (by omega) (by have := HIL.out.2; omega)
                    have hb67 : Below w6.heap.size w6 (w6.alloc (.cells #[.slice (some ⟨g, 0, none⟩) p.1.length cg, .slice a5 (stepC o p.2).1.length c5] 61)) := by go_grown
                    have ho7 := ownsRow_onI ho6 hb67
                    obtain ⟨ho8, hk8, hge, cur, hcur⟩ := own_set ho7 k (.bool true)
                    rw [← List.map_set] at ho8
                    have hx7 := heap_alloc_new w6 (.cells #[.slice (some ⟨g, 0, none⟩) p.1.length cg, .slice a5 (stepC o p.2).1.length c5] 61)
                    have hgx : w6.heap.size ≠ g := fun e => by
                      have h := hx7
                      rw [e, hcur] at h
                      exact absurd (Obj.cells.inj (Option.some.inj h)).2.1 (by decide)
                    have hx8 : (((w6.alloc (.cells #[.slice (some ⟨g, 0, none⟩) p.1.length cg, .slice a5 (stepC o p.2).1.length c5] 61)).setCell ⟨g, k, none⟩ (.bool true))).heap[w6.heap.size]? = some (.cells #[.slice (some ⟨g, 0, none⟩) p.1.length cg, .slice a5 (stepC o p.2).1.length c5] 61 (0, 0)) := (hk8.block _ (heap_inO hx7) hgx).trans hx7
                    have hb58 : Below w5.heap.size w5 ((w6.alloc (.cells #[.slice (some ⟨g, 0, none⟩) p.1.length cg, .slice a5 (stepC o p.2).1.length c5] 61)).setCell ⟨g, k, none⟩ (.bool true)) := (hb6.on hb67).trans (hk8.below (fun j e => by rw [e]; exact hge) (Nat.le_trans hb6.size hb67.size))
                    have f8 := cells_thaw hcur k
                    obtain ⟨ck, hck⟩ : ∃ c, p.1[k]? = some c := ⟨_, List.getElem?_eq_getElem hkp⟩
                    obtain ⟨b9, p9, cap9, hv9, _, y7⟩ := bool_at (own_rd ho7) hck
                    cases hv9
                    rw [Nat.zero_add] at y7
                    have y0 : (w6.alloc (.cells #[.slice (some ⟨g, 0, none⟩) p.1.length cg, .slice a5 (stepC o p.2).1.length c5] 61)).cell? ⟨w6.heap.size, 0, none⟩ = some (.slice (some ⟨g, 0, none⟩) p.1.length cg) := by rw [cell_of_row _ _ _ _ _ _ hx7]; rfl
                    have c0 : (((w6.alloc (.cells #[.slice (some ⟨g, 0, none⟩) p.1.length cg, .slice a5 (stepC o p.2).1.length c5] 61)).setCell ⟨g, k, none⟩ (.bool true))).cell? ⟨w6.heap.size, 0, none⟩ = some (.slice (some ⟨g, 0, none⟩) p.1.length cg) := by rw [cell_of_row _ _ _ _ _ _ hx8]; rfl
                    have c1 : (((w6.alloc (.cells #[.slice (some ⟨g, 0, none⟩) p.1.length cg, .slice a5 (stepC o p.2).1.length c5] 61)).setCell ⟨g, k, none⟩ (.bool true))).cell? ⟨w6.heap.size, 1, none⟩ = some (.slice a5 (stepC o p.2).1.length c5) := by rw [cell_of_row _ _ _ _ _ _ hx8]; rfl
                    have k0 := HC5.out w5 (Below.refl _ _)
                    have k1 := HC5.out (w5.alloc (.cells #[] 4)) (by go_grown)
                    have HF8 := Lib.hid (show Below w5.heap.size w5 ((w6.alloc (.cells #[.slice (some ⟨g, 0, none⟩) p.1.length cg, .slice a5 (stepC o p.2).1.length c5] 61)).setCell ⟨g, k, none⟩ (.bool true)) ∧ (((w6.alloc (.cells #[.slice (some ⟨g, 0, none⟩) p.1.length cg, .slice a5 (stepC o p.2).1.length c5] 61)).setCell ⟨g, k, none⟩ (.bool true))).heap[w6.heap.size]? = some (.cells #[.slice (some ⟨g, 0, none⟩) p.1.length cg, .slice a5 (stepC o p.2).1.length c5] 61 (0, 0)) ∧ (((w6.alloc (.cells #[.slice (some ⟨g, 0, none⟩) p.1.length cg, .slice a5 (stepC o p.2).1.length c5] 61)).setCell ⟨g, k, none⟩ (.bool true))).ownsRow w5.heap.size 4 1 (.slice (some ⟨g, 0, none⟩) p.1.length cg) p.1.length ((p.1.set k true).map Value.bool) from ⟨hb58, hx8, ho8⟩)
                    clear ho6 hb6 hb67 ho7 ho8 hk8 hge hcur hx7 hgx hx8 hb58 hck hkp
                    go_wp2_with fail
                    generalize ((w6.alloc (.cells #[.slice (some ⟨g, 0, none⟩) p.1.length cg, .slice a5 (stepC o p.2).1.length c5] 61)).setCell ⟨g, k, none⟩ (.bool true)) = W8 at HF8 c0 c1 ⊢
                    have hsp8 := HI5.out.on HF8.out.1
                    have hrow8 := own_rd HF8.out.2.2
                    rw [show p.1.length = (p.1.set k true).length from List.length_set.symm] at hrow8
                    have hlie8 := HL5.out.on HF8.out.1
                    have hsc8 : SpC w0.heap.size w.heap.size W8 (p.1.set k true, (stepC o p.2).1) (.slice (some ⟨g, 0, none⟩) p.1.length cg) (.slice a5 (stepC o p.2).1.length c5) := ⟨by
                      have h := HF8.out.2.2
                      rw [show p.1.length = (p.1.set k true).length from List.length_set.symm] at h ⊢
                      exact ownsRow_baseI h HI5.out.bel.size, hlie8⟩
                    have HKY := fun (W : World) (hb : Below W8.heap.size W8 W) => key_any (hrow8.on hb) (hlie8.on hb).1.ints (by rw [List.length_set]; have := HIL.out.2; omega) (by have := stepC_len o p.2; have := HPZ.out; omega)
                    simp only [List.length_set] at HKY
                    have HKY := Lib.hid HKY
                    have HSP8 := Lib.hid hsp8
                    have HSC8 := Lib.hid hsc8
                    clear hsp8 hrow8 hlie8 hsc8 r6 f8 y7 y0 k0 k1
                    refine (HKY.out _ (Below.refl _ _)).mono ?_
                    rintro _ w9 ⟨rfl, hb9⟩
                    have hsp9 := HSP8.out.on hb9
                    obtain ⟨bb, r9, hbb⟩ := hsp9.look HSN.out (by omega) (by omega)
                    have hx9 := (hb9.block _ (heap_inO HF8.out.2.1)).trans HF8.out.2.1
                    have HSP9 := Lib.hid hsp9
                    have HBB := Lib.hid hbb
                    have c2 : w9.cell? ⟨w6.heap.size, 0, none⟩ = some (.slice (some ⟨g, 0, none⟩) p.1.length cg) := by rw [cell_of_row _ _ _ _ _ _ hx9]; rfl
                    have c3 : w9.cell? ⟨w6.heap.size, 1, none⟩ = some (.slice a5 (stepC o p.2).1.length c5) := by rw [cell_of_row _ _ _ _ _ _ hx9]; rfl
                    have HX9 := Lib.hid (And.intro hx9 hb9)
                    clear hsp9 hbb hx9 c0 c1 hb9
                    have r9' : (Instr.lookup 93 (.map (some w.heap.size)) (.string (keyT (p.1.set k true, (stepC o p.2).1))) false).run Try.prog w9 = .ok (.bool bb) w9 := r9
                    clear r9
                    cases bb with
                    | true =>
                      have HN1 := Lib.hid (show InL l rs p (k + 1) r ∧ SpR w0.heap.size R l.length E w w.heap.size w9 (.slice (some ⟨b, 0, none⟩) n cap) (rs ++ r) (rs ++ r) from ⟨HR3.out.1.old HNX.out (HBB.out.1 rfl), HSP9.out⟩)
                      go_wp2_with fail
                      go_roundw
                      case measure => have := HIL.out.1; simp [intOf] <;> omega
                      case rel => exact ⟨k + 1, r, by simp, by have := HIL.out.1; omega, HN1⟩
                    | false =>
                      have HNM := Lib.hid (show (p.1.set k true, (stepC o p.2).1) ∉ rs ++ r from fun h => by have := HBB.out.2 h; cases this)
                      have HK2 := Lib.hid (HKY.out w9 HX9.out.2)
                      go_wp2_with fail
                      refine HK2.out.mono ?_
                      rintro _ w10 ⟨rfl, hb10⟩
                      have hnn := HN0.out
                      obtain ⟨w11, r11, hsp11, hk11, ht11⟩ := (HSP9.out.on hb10).know HSN.out (by omega) (by omega) (by omega)
                      have hx10 := (hb10.block _ (heap_inO HX9.out.1)).trans HX9.out.1
                      have hx11 := ht11 _ _ _ hx10
                      have hmap : ∃ es ck, w10.heap[w.heap.size]? = some (.map es ck) := by obtain ⟨_, ⟨es, ck, e, _⟩, _⟩ := (HSP9.out.on hb10).mp; exact ⟨es, ck, e⟩
                      have hsc11 := ((HSC8.out.on HX9.out.2).on hb10).keep hk11 (fun g e => by rw [e]; exact HW0.out.size) (fun g cur e hg => map_no hmap e hg) (fun g cur e hg => map_no hmap e hg)
                      obtain ⟨v12, w12, r12, ⟨a12, p12, rfl⟩, hsp12, hk12⟩ := hsp11.push HSN.out hsc11 (by omega)
                      rw [hnn.1] at r12 hsp12
                      have c4 : w11.cell? ⟨w6.heap.size, 0, none⟩ = some (.slice (some ⟨g, 0, none⟩) p.1.length cg) := by rw [cell_of_row _ _ _ _ _ _ hx11]; rfl
                      have c5' : w11.cell? ⟨w6.heap.size, 1, none⟩ = some (.slice a5 (stepC o p.2).1.length c5) := by rw [cell_of_row _ _ _ _ _ _ hx11]; rfl
                      have HN1 := Lib.hid (show InL l rs p (k + 1) (r ++ [(p.1.set k true, (stepC o p.2).1)]) ∧ SpR w0.heap.size R l.length E w w.heap.size w12 (.slice a12 (n + 1) p12) (rs ++ (r ++ [(p.1.set k true, (stepC o p.2).1)])) (rs ++ (r ++ [(p.1.set k true, (stepC o p.2).1)])) from by
                        refine ⟨HR3.out.1.new HNX.out (fun x hx => by rw [(HSP9.out.fit x hx).len, HSN.out.len]) HNM.out, ?_⟩
                        rw [← List.append_assoc]
                        exact hsp12)
                      have r11' : (Instr.mapUpdate 93 (.map (some w.heap.size)) (.string (keyT (p.1.set k true, (stepC o p.2).1))) (.bool true)).run Try.prog w10 = .ok () w11 := r11
                      clear hnn hsp11 hk11 ht11 hx10 hx11 hmap hsc11 hsp12 hk12 hb10 HK2 c2 c3 r11 r9'
                      go_wp2_with fail
                      go_roundw
                      case measure => have := HIL.out.1; simp [intOf] <;> omega
                      case rel => exact ⟨k + 1, r ++ [(p.1.set k true, (stepC o p.2).1)], by simp, by have := HIL.out.1; omega, HN1⟩
              · obtain rfl : k = l.length := by omega
                have q1 : ¬ ((l.length : Int) < (l.length : Int)) := by omega
                have HN1 := Lib.hid (And.intro (HG.out.next HP.out HBD.out.2.1 hlim.2 hl HR3.out.1) HR3.out.2)
                clear hn hn1 hrl hk
                go_wp2_with fail
                go_roundw
                case measure => have := HBD.out; simp [intOf] <;> omega
                case rel => exact ⟨i + 1, rs ++ r, by simp, HN1⟩
          · have HF := Lib.hid (show SpsR l first lim rs by
              by_cases c : rs.length ≤ i
              · exact HI.out.1.all c
              · exact HI.out.1.over (by omega))
            have hrs : rs.length ≤ 400000 := by omega
            by_cases hfi : i < rs.length
            all_goals first | (have q1 : ¬ ((i : Int) < (rs.length : Int)) := by omega) | (have q1 : (i : Int) < (rs.length : Int) ∧ ¬ ((rs.length : Int) ≤ lim) := (by omega); obtain ⟨q1, q2⟩ := q1)
            all_goals
              have HRS := Lib.hid hrs
              clear hgo2 hfi hfew hile hrs
              go_wp2_with fail
              go_returns
              exact ⟨_, rfl, rs, first, w.heap.size, rs, HUS.out, HF.out, HI.out.2, HRS.out⟩
end Ln
end Go.Proofs.Ytppjmmdiglnkfaa
