/- Pages that are given out are apart, and each has what was set in it last, till it is taken back; and the chapter's example holds: for every list of texts and every list of numbers. Conditions: none. -/
import Derived.Test.YtcoebinljdjemaaGS
import Derived.Test.YtcoebinljdjemaaLaw
import Derived.BigQuiet
import Derived.Deep.QuietTactic
import Derived.Lib.QuietBelow
import Derived.Deep.DeepCutAuto
import Derived.Deep.CutBlock
namespace Go.Proofs.Ytcoebinljdjemaa.pagerApart
open Go.ChangeShapes Go.WideShapes Go.ChangeAt Go.RowKit Go.PlainAid
open Go.ChangeMaps (open_string)
open Go.Sort (grow)

theorem own : ownKnob Try.prog.godebug = none := by kernel_rfl
theorem laidOut : laidOutB Try.prog = true := by kernel_rfl
set_option maxRecDepth 100000
open Go.MapKept Go.ChangeMaps
attribute [local go_sem ↓ high] app_intM
/-- The numbers of the first m pages. -/
def ats (m : Nat) : List Int := (List.range m).map fun t : Nat => (t : Int) + 2
theorem ats_len (m : Nat) : (ats m).length = m := by simp [ats]
theorem ats_at {m t : Nat} (h : t < m) : (ats m)[t]? = some ((t : Int) + 2) := by simp [ats, h]
theorem ats_snoc (m : Nat) : ats (m + 1) = ats m ++ [(m : Int) + 2] := by simp [ats, List.range_succ]
/-- Behind m rounds: m pages are given out, with these texts. -/
structure Laid (l : List ByteArray) (m : Nat) (V : Int → ByteArray) : Prop where
  set : ∀ k : Int, 0 ≤ k → k < (40 : Nat) → hasB (V 0) k = decide (k < ((2 + m : Nat) : Int))
  text : ∀ t s, t < m → l[t]? = some s → V ((t : Int) + 2) = filled s ∧ s.size ≤ 256
theorem Laid.next {l : List ByteArray} {m : Nat} {V : Int → ByteArray} (h : Laid l m V) (hs : (V 0).size = 256) (hm : m < 38) {s : ByteArray} (hx : l[m]? = some s) (hz : s.size ≤ 256) :
    Laid l (m + 1) (updV (givenV V ((m : Int) + 2)) ((m : Int) + 2) (filled s)) := by
  refine ⟨fun k a b => ?_, fun t x ht hx2 => ?_⟩
  · rw [updV_other _ _ (by omega)]
    have := given_first (i := 2 + m) hs (by omega) h.set (by omega) k a b
    rw [show ((2 + m : Nat) : Int) = (m : Int) + 2 by omega] at this
    rw [this]
    rfl
  · by_cases e : t = m
    · subst e
      rw [hx] at hx2
      cases hx2
      exact ⟨updV_same _ _ _, hz⟩
    · rw [updV_other _ _ (by omega)]
      unfold givenV
      rw [updV_other _ _ (by omega), updV_other _ _ (by omega)]
      exact h.text t x (by omega) hx2
/-- Behind Frees: the pages G of the m first ones are taken back, n of them. -/
structure Gone (l : List ByteArray) (m : Nat) (V : Int → ByteArray) (G : Int → Bool) (n : Nat) : Prop where
  set : ∀ k : Int, 0 ≤ k → k < (40 : Nat) → hasB (V 0) k = (decide (k < ((2 + m : Nat) : Int)) && !G k)
  text : ∀ t s, t < m → l[t]? = some s → V ((t : Int) + 2) = filled s ∧ s.size ≤ 256
  used : usedN (V 0) 40 + n = 2 + m
theorem Laid.gone {l : List ByteArray} {m : Nat} {V : Int → ByteArray} (h : Laid l m V) (hm : m ≤ 38) : Gone l m V (fun _ => false) 0 :=
  ⟨fun k a b => by rw [h.set k a b]; simp, h.text, by rw [used_first (n := 40) (i := 2 + m) h.set 40 (Nat.le_refl _)]; omega⟩
theorem Gone.has {l : List ByteArray} {m n : Nat} {V : Int → ByteArray} {G : Int → Bool} (h : Gone l m V G n) {r : Nat} (hr : r < m) (hm : m ≤ 38) : hasB (V 0) ((r : Int) + 2) = !G ((r : Int) + 2) := by
  rw [h.set _ (by omega) (by omega), decide_eq_true (by omega), Bool.true_and]
theorem Gone.next {l : List ByteArray} {m n : Nat} {V : Int → ByteArray} {G : Int → Bool} (h : Gone l m V G n) (hs : (V 0).size = 256) {r : Nat} (hr : r < m) (hm : m ≤ 38) (hg : G ((r : Int) + 2) = false) :
    Gone l m (updV V 0 (withS (V 0) ((r : Int) + 2) false)) (MB.put G ((r : Int) + 2)) (n + 1) := by
  have hh := h.has hr hm
  rw [hg] at hh
  refine ⟨fun k a b => ?_, fun t s ht hx => ?_, ?_⟩
  · rw [freed_has hs (by omega) (by omega), h.set k a b]
    unfold MB.put
    by_cases e : k = (r : Int) + 2
    · rw [if_pos e, if_pos e]; simp
    · rw [if_neg e, if_neg e]
  · rw [updV_other _ _ (by omega)]
    exact h.text t s ht hx
  · rw [updV_same]
    have := used_with (room_page hs (k := (r : Int) + 2) (by omega) (by omega)) false 40
    rw [if_pos (by omega), if_pos (by omega), hh] at this
    have hu := h.used
    simp only [Bool.not_false, Bool.toNat_true, Bool.toNat_false] at this
    omega
theorem Gone.same {l : List ByteArray} {m n : Nat} {V : Int → ByteArray} {G : Int → Bool} (h : Gone l m V G n) {r : Nat} (hg : G ((r : Int) + 2) = true) : Gone l m V (MB.put G ((r : Int) + 2)) n := by
  have : MB.put G ((r : Int) + 2) = G := funext fun k => by
    unfold MB.put
    by_cases e : k = (r : Int) + 2
    · rw [if_pos e, e, hg]
    · rw [if_neg e]
  rw [this]
  exact h
theorem go_grown_alloc (w : World) (o : Obj) : Below w.heap.size w (w.alloc o) := by go_grown
set_option maxRecDepth 100000 in
set_option maxHeartbeats 8000000 in
theorem walk (w : World) (v0 : Value) (l0 : List ByteArray) (h0 : TextsOf w v0 l0) (v1 : Value) (l1 : List Int) (h1 : UintsOf w v1 l1) :
    Calls Try.prog 3 #[v0, v1] w fun e w' => e = .returned (.bool true) ∧ Below w.heap.size w w' := by
  go_enter Try.func3, Try.ntmps3
  go_wp2_with fail
  refine (begunV_any 40 w (by omega) (by omega)).mono ?_
  rintro e y1 ⟨pp, p, q, V, rfl, H1⟩
  have HF := Lib.hid (H1.format (by omega) (by omega))
  have hV : ∀ k : Int, 0 ≤ k → k < (40 : Nat) → hasB (fmtV V 0) k = decide (k < ((2 : Nat) : Int)) := fun k a b => fmt_has a (by omega)
  clear H1
  go_wp2_with fail
  refine HF.out.mono ?_
  rintro e y2 ⟨rfl, H2⟩
  clear HF
  generalize fmtV V = V1 at *
  have H2' := Lib.hid H2
  have HV1 := Lib.hid hV
  clear H2 hV
  obtain ⟨a0, cp0, rfl⟩ : ∃ a cap, v0 = .slice a l0.length cap := by
    rcases h0 with ⟨rfl, ao, cap, rfl⟩ | ⟨b, o, cap, rfl, _⟩
    · exact ⟨_, _, rfl⟩
    · exact ⟨_, _, rfl⟩
  have hl0 : (l0.length : Int) ≤ 9223372036854775807 := by
    rcases h0 with ⟨rfl, _⟩ | ⟨_, _, _, _, _, _, hm, _⟩
    · decide
    · exact hm
  have HT0 := Lib.hid h0
  have HT1 := Lib.hid h1
  clear h0 h1
  go_upto_block 0 with (fail)
  go_cut [8] (fun s8 wx => ∃ (m : Nat) (V : Int → ByteArray), m ≤ l0.length ∧ m ≤ 38 ∧ PN w pp 40 (4 * m + 4) V (ats m) s8 [] wx ∧ Laid l0 m V)
  case first =>
   go_wp2_with fail
   go_loopw [8, 9] (fun va i wr => ∃ (m : Nat) (V : Int → ByteArray), m ≤ l0.length ∧ m ≤ 38 ∧ i = .int .i64 m ∧ PN w pp 40 (4 * m + 4) V (ats m) va [] wr ∧ Laid l0 m V) (fun _ i _ => l0.length - (intOf i).toNat)
   case atStart => exact ⟨0, V1, by omega, by omega, rfl, .inl ⟨rfl, rfl, H2'.out.mono (by omega)⟩, ⟨HV1.out, fun t s ht => absurd ht (Nat.not_lt_zero _)⟩⟩
   case round =>
     clear H2' HV1
     obtain ⟨m, V2, hml, hm38, rfl, hN, hL⟩ := hrel
     have HN := Lib.hid hN
     have HL := Lib.hid hL
     have s2 := hN.pv.size (k := 0) (by omega) (by omega)
     obtain ⟨ao, cap, rfl⟩ := hN.open
     rw [ats_len] at hN HN ⊢
     by_cases hgo : m < l0.length ∧ m < 38
     · obtain ⟨g1, g2⟩ := hgo
       obtain ⟨x, hx⟩ : ∃ x, l0[m]? = some x := ⟨_, List.getElem?_eq_getElem g1⟩
       obtain ⟨bb, oo, cap2, hvv, hbl, hrd⟩ : ∃ b o cap, Value.slice a0 l0.length cp0 = .slice (some ⟨b, o, none⟩) l0.length cap ∧ b < w.heap.size ∧ ∀ w', Below w.heap.size w w' → w'.cell? ⟨b, o + m, none⟩ = some (.string x) := by
         rcases HT0.out with ⟨hl, _⟩ | ⟨b, o, cap, h1, h2, _, _, h5⟩
         · rw [hl] at hx; cases hx
         · exact ⟨b, o, cap, h1, h2, fun w' hb => (hb.cell (p := ⟨b, o + m, none⟩) h2).trans (h5 m x hx).2⟩
       cases hvv
       have hcx := hrd _ hN.pv.below
       have d1 : (0 : Int) ≤ (m : Int) := by omega
       have d2 : (m : Int) < (l0.length : Int) := by omega
       have HRD := Lib.hid hrd
       have HX := Lib.hid hx
       have HS2 := Lib.hid s2
       clear hN hL hx hrd s2
       by_cases hbig : 256 < x.size
       · have hb1 : decide ((256 : Int) < (x.size : Int)) = true := by simp; omega
         have HB := Lib.hid HN.out.pv.below
         clear HN HL hbig
         go_wp2_with fail
         refine (awake_any _).mono ?_
         rintro e w3 ⟨rfl, hb3⟩
         have HB3 := Lib.hid (HB.out.on hb3)
         clear hb3 HB
         go_wp2
         go_returns
         exact ⟨rfl, HB3.out⟩
       · have hb1 : decide ((256 : Int) < (x.size : Int)) = false := by simp; omega
         have hle := least_first (n := 40) (i := 2 + m) HS2.out (by omega) HL.out.set (by omega) (by omega)
         rw [show ((2 + m : Nat) : Int) = (m : Int) + 2 by omega] at hle
         have HLE := Lib.hid hle
         have HA := Lib.hid (HN.out.call fun R h => h.alloc (by omega) (by omega) ((m : Int) + 2) HLE.out)
         have hgs := given_has (V := V2) (v := (m : Int) + 2) (k := (m : Int) + 2) HS2.out (by omega) (by omega)
         rw [if_pos rfl] at hgs
         have HGS := Lib.hid hgs
         have HNX := Lib.hid (HL.out.next HS2.out g2 HX.out (by omega))
         have d3 : decide ((m : Int) + 2 < 2) = false := by simp; omega
         have d4 : decide (40 ≤ (m : Int) + 2) = false := by simp; omega
         clear hle hgs HLE HN HL
         go_wp2_with fail
         refine HA.out.mono ?_
         rintro e w3 ⟨rfl, H3⟩
         generalize givenV V2 ((m : Int) + 2) = V3 at *
         have H3' := Lib.hid H3
         clear H3 HA
         go_wp2_with fail
         go_loopw [12] (fun j wx => ∃ t : Nat, t ≤ m ∧ j = .int .i64 t ∧ wx = w3) (fun j _ => m - (intOf j).toNat)
         case atStart => exact ⟨0, by omega, rfl, rfl⟩
         case round =>
           obtain ⟨t, htm, rfl, rfl⟩ := hrel
           by_cases ht : t < m
           · obtain ⟨g, cap', hv, _, hc⟩ := H3'.out.at (ats_at ht)
             rw [ats_len] at hv
             cases hv
             have q1 : ((t : Int) + 2 == (m : Int) + 2) = false := by simp; omega
             go_wp2
             go_roundw
             case rel => exact ⟨t + 1, by omega, by go_num, by first | trivial | rfl⟩
             case measure => simp [intOf]; omega
           · obtain rfl : t = m := by omega
             obtain ⟨g, cap', w4, hrun, H4⟩ := H3'.out.append (by rw [ats_len]; omega) ((t : Int) + 2) t (ats_len t)
             have hcx := HRD.out _ H4.pv.below
             have HS := Lib.hid (H4.call fun R h => h.set ((t : Int) + 2) x (by omega) (by omega) (by omega) (by omega) (by omega) (out_of (by omega) (by omega) HGS.out))
             clear H4 H3'
             go_wp2_with fail
             refine HS.out.mono ?_
             rintro e w5 ⟨rfl, H5⟩
             have H5' := Lib.hid (H5.mono (c' := 4 * (t + 1) + 4) (by omega))
             clear H5 HS hrun
             go_wp2
             go_roundw
             case rel => exact ⟨t + 1, _, by omega, by omega, by go_num, by rw [ats_snoc]; exact H5'.out, HNX.out⟩
             case measure => simp [intOf]; omega
     · have hstop : (m < l0.length ∧ decide ((m : Int) < 38) = false) ∨ ¬ m < l0.length := by
         by_cases h : m < l0.length
         · exact .inl ⟨h, by simp; omega⟩
         · exact .inr h
       clear hgo hN hL
       rcases hstop with ⟨hs1, hs2⟩ | hs1
       all_goals
         go_wp2_with fail
         go_meet
         exact ⟨m, V2, hml, hm38, HN.out, HL.out⟩
  case rest =>
    obtain ⟨m, V2, hml, hm38, hN, hL⟩ := hcut
    have HL := Lib.hid hL
    have s2 := hN.pv.size (k := 0) (by omega) (by omega)
    have HN := Lib.hid hN
    obtain ⟨ao, cap, rfl⟩ := hN.open
    rw [ats_len] at hN HN ⊢
    clear hN hL H2' HV1
    have hmm := @run_makeMap Try.prog
    go_upto_block 4 with (fail)
    have hb0 := HN.out.pv.below.size
    have HM := Lib.hid (HN.out.withMap (es := #[]) (clock := 0) (go_grown_alloc _ _) (Nat.le_refl _) (heap_alloc_new _ _))
    have HLO := Lib.hid hb0
    clear hmm hb0 HN
    obtain ⟨a1, cp1, hv1⟩ : ∃ a cap, v1 = .slice a l1.length cap := by
      rcases HT1.out with ⟨hl, ao, cap, hh⟩ | ⟨b, o, cap, hh, _⟩
      · exact ⟨ao, cap, by rw [hh, hl]; rfl⟩
      · exact ⟨_, _, hh⟩
    subst hv1
    obtain ⟨bm, hbm⟩ : ∃ b, wc.heap.size = b := ⟨_, rfl⟩
    rw [hbm] at HM HLO ⊢
    generalize wc.alloc (.map #[] 0) = W0 at *
    clear hbm s2
    go_cut [14] (fun s14 wx => ∃ (gn : Nat) (V : Int → ByteArray) (G : Int → Bool) (es : Array MapEntry) (clk : Nat), gn ≤ 20 ∧ PN w pp 40 220 V (ats m) (.slice ao m cap) [(bm, .map es clk)] wx ∧ MB.Is es clk gn G ∧ Gone l0 m V G gn)
    case first =>
      go_wp2_with fail
      go_loopw [14] (fun i wx => ∃ (t gn : Nat) (V : Int → ByteArray) (G : Int → Bool) (es : Array MapEntry) (clk : Nat), t ≤ l1.length ∧ t ≤ 20 ∧ i = .int .i64 t ∧ gn ≤ t ∧ PN w pp 40 (200 + t) V (ats m) (.slice ao m cap) [(bm, .map es clk)] wx ∧ MB.Is es clk gn G ∧ Gone l0 m V G gn) (fun i _ => l1.length - (intOf i).toNat)
      case atStart => exact ⟨0, 0, V2, fun _ => false, #[], 0, by omega, by omega, rfl, by omega, HM.out.mono (by omega), MB.empty 0, HL.out.gone hm38⟩
      case round =>
        clear HM HL
        obtain ⟨t, gn, V3, G, es, clk, ht1, ht20, rfl, hgn, hP, hM, hG⟩ := hrel
        have HP := Lib.hid hP
        have HM := Lib.hid hM
        have HG := Lib.hid hG
        have s3 := hP.pv.size (k := 0) (by omega) (by omega)
        have S3 := Lib.hid s3
        by_cases hgo2 : t < l1.length ∧ t < 20 ∧ 0 < m
        · obtain ⟨f1, f2, f3⟩ := hgo2
          obtain ⟨u, hu⟩ : ∃ u, l1[t]? = some u := ⟨_, List.getElem?_eq_getElem f1⟩
          obtain ⟨bu, ou, cpu, hvu, hbu, hul, hrd⟩ : ∃ b o cap, Value.slice a1 l1.length cp1 = .slice (some ⟨b, o, none⟩) l1.length cap ∧ b < w.heap.size ∧ (0 ≤ u ∧ u ≤ 18446744073709551615) ∧ ∀ w', Below w.heap.size w w' → w'.cell? ⟨b, o + t, none⟩ = some (.int .u64 u) := by
            rcases HT1.out with ⟨hl, _⟩ | ⟨b, o, cap, h1, h2, _, _, h5⟩
            · rw [hl] at hu; cases hu
            · exact ⟨b, o, cap, h1, h2, (h5 t u hu).1, fun w' hb => (hb.cell (p := ⟨b, o + t, none⟩) h2).trans (h5 t u hu).2⟩
          cases hvu
          have hcu := hrd _ hP.pv.below
          obtain ⟨r, hr, hrm⟩ : ∃ r : Nat, u % (m : Int) = (r : Int) ∧ r < m := by
            have e1 := Int.emod_nonneg u (show (m : Int) ≠ 0 by omega)
            have e2 := Int.emod_lt_of_pos u (show 0 < (m : Int) by omega)
            exact ⟨(u % (m : Int)).toNat, by omega, by omega⟩
          obtain ⟨g, cap', hv, _, hc⟩ := hP.at (ats_at hrm)
          rw [ats_len] at hv
          cases hv
          have d1 : (0 : Int) ≤ (t : Int) := by omega
          have d2 : (t : Int) < (l1.length : Int) := by omega
          have d3 : decide (0 < (m : Int)) = true := by simp; omega
          have hm0 : ((m : Int) == 0) = false := by simp; omega
          obtain ⟨gb, hgb⟩ : ∃ gb, G ((r : Int) + 2) = gb := ⟨_, rfl⟩
          have hhas := hG.has hrm hm38
          rw [hgb] at hhas
          have HGB := Lib.hid hgb
          have HH := Lib.hid hhas
          have HLK := Lib.hid fun (w' : World) (hb : w'.heap[bm]? = some (.map es clk)) => hM.look hb ((r : Int) + 2) (by omega) gb hgb
          clear hP hM hG s3 hgb hhas hu hrd
          go_wp2_with fail
          have HP2 := Lib.hid (HP.out.on (w' := wr.drew) (by go_grown))
          have hl1 := HLK.out wr.drew (HP2.out.pv.mem List.mem_cons_self)
          cases gb with
          | true =>
            have HF := Lib.hid (HP2.out.call fun R h => h.free_no ((r : Int) + 2) (by omega) (by omega) (by omega) (out_has HH.out))
            clear HP HP2
            go_region_law (first
              | (go_simp; (with_reducible refine HF.out.mono ?_); rintro e w4 ⟨rfl, H4⟩; have hl2 := HLK.out w4 (H4.pv.mem List.mem_cons_self); have H4' := Lib.hid H4; clear H4)
              | fail)
            all_goals
              obtain ⟨es2, clk2, hrun, hM2⟩ := HM.out.put (H4'.out.pv.mem (x := (bm, .map es clk)) List.mem_cons_self) (by omega) ((r : Int) + 2) (by omega)
              have H5 := Lib.hid (H4'.out.setMap (es' := es2) (clock' := clk2) HLO.out)
              have HM2 := Lib.hid hM2
              clear hM2 HF
              generalize setBlock w4 bm (.map es2 clk2) = w5 at *
              go_wp2
              go_roundw
              case rel => exact ⟨t + 1, gn, V3, MB.put G ((r : Int) + 2), es2, clk2, by omega, by omega, by go_num, by omega, H5.out.mono (by omega), by have := HM2.out; rw [HGB.out] at this; exact this, HG.out.same HGB.out⟩
              case measure => simp [intOf]; omega
          | false =>
            have HF := Lib.hid (HP2.out.call fun R h => h.free ((r : Int) + 2) (by omega) (by omega) (by omega) (by omega) (out_of (by omega) (by omega) HH.out))
            clear HP HP2
            go_region_law (first
              | (go_simp; (with_reducible refine HF.out.mono ?_); rintro e w4 ⟨rfl, H4⟩; have hl2 := HLK.out w4 (H4.pv.mem List.mem_cons_self); have H4' := Lib.hid H4; clear H4)
              | fail)
            all_goals
              obtain ⟨es2, clk2, hrun, hM2⟩ := HM.out.put (H4'.out.pv.mem (x := (bm, .map es clk)) List.mem_cons_self) (by omega) ((r : Int) + 2) (by omega)
              have H5 := Lib.hid (H4'.out.setMap (es' := es2) (clock' := clk2) HLO.out)
              have HM2 := Lib.hid hM2
              clear hM2 HF
              generalize setBlock w4 bm (.map es2 clk2) = w5 at *
              go_wp2
              go_roundw
              case rel => exact ⟨t + 1, gn + 1, _, MB.put G ((r : Int) + 2), es2, clk2, by omega, by omega, by go_num, by omega, H5.out.mono (by omega), by have := HM2.out; rw [HGB.out] at this; exact this, HG.out.next S3.out hrm hm38 HGB.out⟩
              case measure => simp [intOf]; omega
        · have hstop : (¬ t < l1.length) ∨ (t < l1.length ∧ decide ((t : Int) < 20) = false) ∨ (t < l1.length ∧ decide ((t : Int) < 20) = true ∧ decide (0 < (m : Int)) = false ∧ decide (0 < m) = false) := by
            by_cases h : t < l1.length
            · by_cases h2 : t < 20
              · exact .inr (.inr ⟨h, by simp; omega, by simp; omega, by simp; omega⟩)
              · exact .inr (.inl ⟨h, by simp; omega⟩)
            · exact .inl h
          clear hgo2 hP hM hG s3
          rcases hstop with hs1 | ⟨hs1, hs2⟩ | ⟨hs1, hs2, hs3, hs4⟩
          all_goals
            go_wp2_with fail
            go_meet
            exact ⟨gn, V3, G, es, clk, by omega, HP.out.mono (by omega), HM.out, HG.out⟩
    case rest =>
      obtain ⟨gn, V3, G, es, clk, hgn, hP, hM, hG⟩ := hcut
      have HP := Lib.hid hP
      have HMB := Lib.hid hM
      have HG := Lib.hid hG
      clear hP hM hG HM HL
      go_wp2_with fail
      go_loopw [16] (fun i wx => ∃ t : Nat, t ≤ m ∧ i = .int .i64 t ∧ PN w pp 40 220 V3 (ats m) (.slice ao m cap) [(bm, .map es clk)] wx) (fun i _ => m - (intOf i).toNat)
      case atStart => exact ⟨0, Nat.zero_le _, rfl, HP.out⟩
      case round =>
        clear HP
        obtain ⟨t, htm, rfl, hP⟩ := hrel
        have HP := Lib.hid hP
        by_cases hlt : t < m
        · obtain ⟨x, hx⟩ : ∃ x, l0[t]? = some x := ⟨_, List.getElem?_eq_getElem (by omega)⟩
          obtain ⟨hVt, hxs⟩ := HG.out.text t x hlt hx
          obtain ⟨bb, oo, cap2, hvv, hbl, hrd⟩ : ∃ b o cap, Value.slice a0 l0.length cp0 = .slice (some ⟨b, o, none⟩) l0.length cap ∧ b < w.heap.size ∧ ∀ w', Below w.heap.size w w' → w'.cell? ⟨b, o + t, none⟩ = some (.string x) := by
            rcases HT0.out with ⟨hl, _⟩ | ⟨b, o, cap, h1, h2, _, _, h5⟩
            · rw [hl] at hx; cases hx
            · exact ⟨b, o, cap, h1, h2, fun w' hb => (hb.cell (p := ⟨b, o + t, none⟩) h2).trans (h5 t x hx).2⟩
          cases hvv
          obtain ⟨g, cap', hv, _, hc⟩ := hP.at (ats_at hlt)
          rw [ats_len] at hv
          cases hv
          have HRD := Lib.hid hrd
          have HVT := Lib.hid hVt
          have HXS := Lib.hid hxs
          obtain ⟨gb, hgb⟩ : ∃ gb, G ((t : Int) + 2) = gb := ⟨_, rfl⟩
          have hhas := HG.out.has hlt hm38
          rw [hgb] at hhas
          have HH := Lib.hid hhas
          have HLK := Lib.hid fun (w' : World) (hb : w'.heap[bm]? = some (.map es clk)) => HMB.out.look hb ((t : Int) + 2) (by omega) gb hgb
          clear hP hgb hhas hx hrd hVt hxs
          have d1 : (0 : Int) ≤ (t : Int) := by omega
          have d2 : (t : Int) < (m : Int) := by omega
          have d3 : (t : Int) < (l0.length : Int) := by omega
          cases gb with
          | true =>
            have HF := Lib.hid (HP.out.call fun R h => h.get_no ((t : Int) + 2) (by omega) (by omega) (by omega) (out_has HH.out))
            clear HP
            go_wp2_with fail
            refine HF.out.mono ?_
            rintro e w4 ⟨rfl, H4⟩
            obtain ⟨g2, cap2, hv2, _, hc2⟩ := H4.at (ats_at hlt)
            rw [ats_len] at hv2
            cases hv2
            have hcx := HRD.out w4 H4.pv.below
            have hl1 := HLK.out w4 (H4.pv.mem List.mem_cons_self)
            have H4' := Lib.hid H4
            clear H4 HF
            go_wp2_with fail
            go_roundw
            case rel => exact ⟨t + 1, by omega, by go_num, H4'.out⟩
            case measure => simp [intOf]; omega
          | false =>
            have HF := Lib.hid (HP.out.call fun R h => h.get ((t : Int) + 2) (by omega) (by omega) (by omega) (out_of (by omega) (by omega) HH.out))
            clear HP
            go_wp2_with fail
            refine HF.out.mono ?_
            rintro e w4 ⟨rfl, H4⟩
            obtain ⟨g2, cap2, hv2, _, hc2⟩ := H4.at (ats_at hlt)
            rw [ats_len] at hv2
            cases hv2
            have hcx := HRD.out w4 H4.pv.below
            have hl1 := HLK.out w4 (H4.pv.mem List.mem_cons_self)
            have H4' := Lib.hid H4
            clear H4 HF
            rw [HVT.out]
            go_wp2_with fail
            refine (filled_any x _ HXS.out).mono ?_
            rintro e w5 ⟨rfl, hb5⟩
            have H5 := Lib.hid (H4'.out.on hb5)
            clear hb5 H4'
            go_wp2
            go_roundw
            case rel => exact ⟨t + 1, by omega, by go_num, H5.out⟩
            case measure => simp [intOf]; omega
        · obtain rfl : t = m := by omega
          have HR := Lib.hid (HP.out.call fun R h => h.room (by omega) (38 - (t : Int) + (gn : Int)) (by have := HG.out.used; omega))
          clear hP HP
          go_wp2_with fail
          refine HR.out.mono ?_
          rintro e w4 ⟨rfl, H4⟩
          have hlen := fun ty => HMB.out.len (H4.pv.mem (x := (bm, .map es clk)) List.mem_cons_self) ty
          have HB := Lib.hid H4.pv.below
          clear H4 HR
          go_wp2_with fail
          refine (awake_any _).mono ?_
          rintro e w5 ⟨rfl, hb5⟩
          have HB5 := Lib.hid (HB.out.on hb5)
          clear hb5 HB
          go_wp2
          go_returns
          exact ⟨rfl, HB5.out⟩

set_option maxRecDepth 100000 in
theorem lifted (os : Os) (started : os.Started) (H : Type) (enc : TypeId × Value → H) :
    ReturnsInHanded {} Try.checked os 3 .any (Rows.pagerApartSpec.pre6 enc Try.prog Try.f3 Rows.pagerApartRow.domain false) (Rows.pagerApartSpec.post enc Try.prog Try.f3 false true false false) := by
  refine law_lift (C := Try.checked) own started (by kernel_rfl) Try.func3 laidOut (by kernel_rfl) rfl Try.underlying4 rfl
    (fun ds h => match ds, h with | [_, _], _ => rfl)
    (ChangeSpec.witness6 (enc := enc) (C := Try.checked) false ⟨#[], #[.slice none 0 0, .slice none 0 0], []⟩ 8 (by kernel_rfl) (by kernel_rfl) (by kernel_rfl) (by kernel_rfl)) ?_
  intro W base args ds ps hval hA hsz
  rw [Try.params3] at hA hval hsz
  obtain ⟨v0, vs0, d0, ds0, p0, q0, hargs, rfl, rfl, h0, r0⟩ := trodAll_cons hA
  obtain ⟨v1, vs1, d1, ds1, p1, q1, rfl, rfl, rfl, h1, r1⟩ := trodAll_cons r0
  obtain ⟨rfl, rfl, rfl⟩ := trodAll_nil r1
  obtain rfl : args = #[v0, v1] := by cases args; simp_all
  obtain ⟨l0, hl0⟩ := texts_open (hval 0 22 v0 rfl rfl) h0
  obtain ⟨l1, hl1⟩ := uints_open (hval 1 23 v1 rfl rfl) h1
  exact walk W v0 l0 hl0 v1 l1 hl1

theorem over : Rows.pagerApartRow.holds Try.pinned (OpenSpec.ofChange Rows.pagerApartSpec) :=
  OpenClaim.holds_of_wide 3 Try.f3 rfl rfl rfl rfl rfl rfl rfl ⟨rfl, rfl, rfl, rfl, rfl⟩ rfl rfl rfl rfl rfl (by kernel_rfl) Try.func3 (by kernel_rfl)
    (of_decide_eq_true (by kernel_rfl)) (by unfold Func.isWrapper; first | (rw [if_pos (by decide +kernel)]; kernel_rfl) | (rw [if_neg (by decide +kernel)]; exact ⟨rfl, rfl⟩))
    (fun os started H enc _ => lifted os started H enc)

theorem proved : Rows.PagerApartSaid :=
  over
end Go.Proofs.Ytcoebinljdjemaa.pagerApart
