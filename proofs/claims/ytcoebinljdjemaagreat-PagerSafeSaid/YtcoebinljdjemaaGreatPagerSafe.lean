/- What is committed is as it was, whatever is done behind it, when the power goes and the store is opened again; and the chapter's example holds: for every two lists of acts. Conditions: none. -/
import Derived.Test.YtcoebinljdjemaaGreatGW
import Derived.Test.YtcoebinljdjemaaGreatLaw
import Derived.BigQuiet
import Derived.Deep.QuietTactic
import Derived.Lib.QuietBelow
import Derived.Deep.DeepCutAuto
import Derived.Deep.CutBlock
namespace Go.Proofs.YtcoebinljdjemaaGreat.pagerSafe
open Go.ChangeShapes Go.WideShapes Go.ChangeAt Go.RowKit Go.PlainAid
open Go.ChangeMaps (open_string)
open Go.Sort (grow)

theorem own : ownKnob Tryz.prog.godebug = none := by kernel_rfl
theorem laidOut : laidOutB Tryz.prog = true := by kernel_rfl
set_option maxRecDepth 100000
attribute [local go_sem ↓ high] app_text
set_option maxRecDepth 100000 in
set_option maxHeartbeats 8000000 in
theorem walk (w : World) (v0 : Value) (l0 : List ActV) (h0 : ActsIn w v0 l0) (v1 : Value) (l1 : List ActV) (h1 : ActsIn w v1 l1) :
    Calls Tryz.prog 3 #[v0, v1] w fun e w' => e = .returned (.bool true) ∧ Below w.heap.size w w' := by
  obtain ⟨a0, cp0, rfl⟩ : ∃ a cap, v0 = .slice a l0.length cap := by
    rcases h0 with ⟨hl, ao, cap, hv⟩ | ⟨b, o, cap, hv, _⟩
    · exact ⟨ao, cap, by rw [hv, hl]; rfl⟩
    · exact ⟨_, _, hv⟩
  obtain ⟨a1, cp1, rfl⟩ : ∃ a cap, v1 = .slice a l1.length cap := by
    rcases h1 with ⟨hl, ao, cap, hv⟩ | ⟨b, o, cap, hv, _⟩
    · exact ⟨ao, cap, by rw [hv, hl]; rfl⟩
    · exact ⟨_, _, hv⟩
  have HA0 := Lib.hid h0
  have HA1 := Lib.hid h1
  clear h0 h1
  have hset := formatted_settled 64 50 (by omega) (by omega) (by omega)
  have hpages : (firstHd 64 50).pages = 12 := by show min _ _ = _; omega
  have hroom : (firstHd 64 50).room = 50 := rfl
  have hseq : (firstHd 64 50).seq = 2 := rfl
  have hpg := pgs_fmt
  have hB : Calls Tryz.prog 5 #[.int .i64 12] w fun e w' => ∃ pp p q, e = .returned (.tuple #[.pointer (some ⟨p, 0, none⟩), .pointer (some ⟨q, 0, none⟩), .pointer (some ⟨pp, 0, none⟩)]) ∧
      PS w pp p (formatted (newD 64) 50) (firstHd 64 50) 0 (fun k => pageS (formatted (newD 64) 50) (firstHd 64 50) noPages k) [] w' := begunS_any 12 w (by omega) (by omega)
  generalize (fun k => pageS (formatted (newD 64) 50) (firstHd 64 50) noPages k) = V0 at *
  generalize formatted (newD 64) 50 = d at *
  generalize firstHd 64 50 = hd at *
  have HB := Lib.hid hB
  have HS := Lib.hid hset
  have HPG := Lib.hid hpg
  clear hB hset hpg
  go_enter Tryz.func3, Tryz.ntmps3
  go_wp2_with fail
  refine HB.out.mono ?_
  rintro e w1 ⟨pp, p, q, rfl, H1⟩
  have HF := Lib.hid (H1.format (by omega) (by omega))
  clear H1 HB
  go_wp2_with fail
  refine HF.out.mono ?_
  rintro e w2 ⟨rfl, H2⟩
  have H2' := Lib.hid H2
  clear H2 HF
  go_wp2_with fail
  refine (rnewp_any _).mono ?_
  rintro e w3 ⟨v3, x3, rfl, h3, _, hb3⟩
  obtain ⟨sg, scap, rfl, _⟩ := h3.open
  have H3 := H2'.out.on hb3
  have HR := Lib.hid (h3.format (some ⟨sg, 0, none⟩) 12 scap)
  have H3' := Lib.hid H3
  clear H3 h3 hb3 H2'
  go_wp2_with fail
  refine HR.out.mono ?_
  rintro e w4 ⟨v4, x4, rfl, h4, hlo4, hb4⟩
  obtain ⟨g4, cap4, rfl, _⟩ := h4.open
  have H4 := H3'.out.add (g := x4.1) (o := x4.2) hb4 hlo4 h4.2
  have ht4 := h4.1
  rw [HPG.out] at ht4
  obtain ⟨W, hW⟩ : ∃ y, w4.alloc (.cells #[.slice (some ⟨g4, 0, none⟩) 12 cap4, .slice (some ⟨sg, 0, none⟩) 12 scap] 32) = y := ⟨_, rfl⟩
  have hbW : Below w4.heap.size w4 W := by rw [← hW]; go_grown
  have hNo : W.heap[w4.heap.size]? = some (refO (.slice (some ⟨g4, 0, none⟩) 12 cap4) (.slice (some ⟨sg, 0, none⟩) 12 scap)) := by rw [← hW]; exact heap_alloc_new w4 _
  have H5 := H4.add hbW (Nat.le_refl _) hNo
  have hP : PR w pp p d hd 2 (fmtV V0) w4.heap.size sg scap [] W := ⟨_, x4, H5, ht4, fun y hy => by simp at hy, H4.below.size⟩
  have HP := Lib.hid hP
  clear H4 H5 h4 hlo4 hb4 ht4 hbW hNo hP HR H3' HPG
  go_upto_block 0 with (fail)
  go_cut [10] (fun s10 wx => ∃ (k : Nat) (V : Int → ByteArray), k ≤ 30 ∧ PR w pp p d hd (2 + 2 * k) V w4.heap.size sg scap [] wx)
  case first =>
   go_wp2_with fail
   go_loopw [10] (fun i wr => ∃ (k : Nat) (V : Int → ByteArray), k ≤ l0.length ∧ k ≤ 30 ∧ i = .int .i64 k ∧ PR w pp p d hd (2 + 2 * k) V w4.heap.size sg scap [] wr) (fun i _ => 30 - (intOf i).toNat)
   case atStart => exact ⟨0, _, Nat.zero_le _, Nat.zero_le _, rfl, HP.out⟩
   case round =>
    clear HP hW
    obtain ⟨k, V, hk, hk30, rfl, hP⟩ := hrel
    have HP := Lib.hid hP
    have hbel : Below w.heap.size w wr := by obtain ⟨vn, x, h, _⟩ := hP; exact h.below
    clear hP
    by_cases hgo : k < l0.length ∧ k < 30
    · obtain ⟨hlt, h30⟩ := hgo
      obtain ⟨x, hx⟩ : ∃ x, l0[k]? = some x := ⟨_, List.getElem?_eq_getElem hlt⟩
      obtain ⟨bb, oo, cap2, hvv, hbl, _, hlm, hr⟩ : ∃ b o cap, Value.slice a0 l0.length cp0 = .slice (some ⟨b, o, none⟩) l0.length cap ∧ b < w.heap.size ∧ 0 < l0.length ∧ (l0.length : Int) ≤ 9223372036854775807 ∧ ∀ i x, l0[i]? = some x → x.Wf ∧ w.rangeAt b (o + i * 4) x.cells := by
        rcases HA0.out with ⟨hl, _⟩ | hh
        · rw [hl] at hlt; exact absurd hlt (by simp)
        · exact hh
      cases hvv
      have hxw := (hr k x hx).1
      have hrg := rangeAt_keep (hr k x hx).2 (hbel.block bb hbl)
      have e0 : wr.cell? ⟨bb, oo + k * 4, none⟩ = some (.int .i64 x.kind) := hrg 0 _ rfl
      have e1 : wr.cell? ⟨bb, oo + k * 4 + 1, none⟩ = some (.int .i64 x.at_) := hrg 1 _ rfl
      have e2 : wr.cell? ⟨bb, oo + k * 4 + 2, none⟩ = some (.int .i64 x.to_) := hrg 2 _ rfl
      have e3 : wr.cell? ⟨bb, oo + k * 4 + 3, none⟩ = some (.string x.data) := hrg 3 _ rfl
      have HXW := Lib.hid hxw
      clear hr hrg hx hxw hbel
      by_cases hdo : x.kind < 6 ∧ x.data.size ≤ 2000
      · have d6 : decide (x.kind < 6) = true := by simpa using hdo.1
        have d2 : decide ((x.data.size : Int) ≤ 2000) = true := by have := hdo.2; simp; omega
        have HD : Hid (Calls Tryz.prog 9 #[.pointer (some ⟨pp, 0, none⟩), .pointer (some ⟨w4.heap.size, 0, none⟩), .agg #[.int .i64 x.kind, .int .i64 x.at_, .int .i64 x.to_, .string x.data]] wr fun e w' => (∃ b, e = .returned (.bool b)) ∧ ∃ V', PR w pp p d hd (2 + 2 * k + 2) V' w4.heap.size sg scap [] w') := Lib.hid (does_any HP.out hpages (by omega) x HXW.out hdo.1 hdo.2)
        clear HXW HP hdo
        go_wp2_with fail
        refine HD.out.mono ?_
        rintro e w5 ⟨⟨b5, rfl⟩, V5, h5⟩
        have H5 := Lib.hid h5
        clear h5 HD e0 e1 e2 e3
        go_wp2
        go_roundw
        case rel => exact ⟨k + 1, V5, by omega, by omega, by go_num, by rw [show 2 + 2 * (k + 1) = 2 + 2 * k + 2 by omega]; exact H5.out⟩
        case measure => simp [intOf]; omega
      · have hstop : decide (x.kind < 6) = false ∨ (decide (x.kind < 6) = true ∧ decide ((x.data.size : Int) ≤ 2000) = false) := by
          by_cases h : x.kind < 6
          · exact .inr ⟨by simpa using h, by have : ¬ x.data.size ≤ 2000 := fun q => hdo ⟨h, q⟩; simp; omega⟩
          · exact .inl (by simpa using h)
        clear HXW hdo
        rcases hstop with d6 | ⟨d6, d2⟩
        all_goals
          go_wp2
          go_roundw
          case rel => exact ⟨k + 1, V, by omega, by omega, by go_num, by obtain ⟨vn, y, h1, h2⟩ := HP.out; exact ⟨vn, y, h1.mono (by omega), h2⟩⟩
          case measure => simp [intOf]; omega
    · have hstop : (k < l0.length ∧ decide ((k : Int) < 30) = false) ∨ ¬ k < l0.length := by
        by_cases h : k < l0.length
        · exact .inl ⟨h, by simp; omega⟩
        · exact .inr h
      clear hgo hbel
      rcases hstop with ⟨hs1, hs2⟩ | hs1
      all_goals
        go_wp2_with fail
        go_meet
        exact ⟨k, V, hk30, HP.out⟩
  case rest =>
   obtain ⟨k, V, hk30, hP⟩ := hcut
   clear HP hW
   obtain ⟨vn, xs, hPS, ht, _, hlo⟩ := hP
   obtain ⟨g, cap, rfl, _⟩ := (show RP vn xs V _ from ⟨ht, hPS.mem (List.mem_cons_of_mem _ List.mem_cons_self)⟩).open
   have HC := Lib.hid (hPS.commit HS.out ⟨by omega, by omega, by omega⟩ (by omega) (by omega) (by rw [hpages, hroom]; decide))
   have hxr : xs.1 ≠ w4.heap.size := fun e => by
    have h1 := hPS.mem (x := xs) (List.mem_cons_of_mem _ List.mem_cons_self)
    have h2 := hPS.mem (x := (w4.heap.size, _)) List.mem_cons_self
    rw [e, h2] at h1
    obtain ⟨g, cap, cur, _, hm, _⟩ := ht
    rw [List.mem_singleton] at hm
    rw [← hm] at h1
    injection h1 with h1
    injection h1 with _ h1
    exact absurd h1 (by decide)
   have HT := Lib.hid ht
   clear hPS ht
   go_wp2_with fail
   refine HC.out.mono ?_
   rintro e w5 ⟨rfl, d5, h5, o5, S5, hr5, hp5, hpg5, hPS5⟩
   have hpages2 : h5.pages = 12 := hp5.trans hpages
   have hpq : pgs (fun k => pageS d5 h5 noPages k) = pgs V := pgs_congr fun k h0 h1 => hpg5 k h0 (by omega)
   have ht5 := HT.out
   rw [← hpq] at ht5
   have hB5 : Box2 w5 w4.heap.size (.slice (some ⟨g, 0, none⟩) 12 cap) (.slice (some ⟨sg, 0, none⟩) 12 scap) := ⟨hPS5.mem List.mem_cons_self⟩
   have z0 := hB5.c0
   have hP5 : PR w pp p d5 h5 62 (fun k => pageS d5 h5 noPages k) w4.heap.size sg scap [xs] w5 := ⟨_, xs, (hPS5.mono (by omega)).sub _ (fun y hy => by
    rcases List.mem_cons.1 hy with h | hy
    · rw [h]; exact List.mem_cons_self
    · rcases List.mem_cons.1 hy with h | hy
      · rw [h]; exact List.mem_cons_of_mem _ List.mem_cons_self
      · exact List.mem_cons_of_mem _ hy), ht5, fun y hy => by rw [List.mem_singleton] at hy; subst hy; exact hxr, hlo⟩
   have HP5 := Lib.hid hP5
   have HS5 := Lib.hid S5
   have HT5 := Lib.hid ht5
   clear hPS5 hP5 S5 ht5 hB5 HC HT HS hpg5 hpq
   go_upto_block 2 with (fail)
   go_cut [12] (fun s12 wx => ∃ (k : Nat) (V : Int → ByteArray), k ≤ 30 ∧ PR w pp p d5 h5 (62 + 2 * k) V w4.heap.size sg scap [xs] wx)
   case first =>
    go_wp2_with fail
    go_loopw [12] (fun i wr => ∃ (k : Nat) (V : Int → ByteArray), k ≤ l1.length ∧ k ≤ 30 ∧ i = .int .i64 k ∧ PR w pp p d5 h5 (62 + 2 * k) V w4.heap.size sg scap [xs] wr) (fun i _ => 30 - (intOf i).toNat)
    case atStart => exact ⟨0, _, Nat.zero_le _, Nat.zero_le _, rfl, HP5.out⟩
    case round =>
     clear HP5
     obtain ⟨k, V, hk, hk30, rfl, hP⟩ := hrel
     have HP := Lib.hid hP
     have hbel : Below w.heap.size w wr := by obtain ⟨vn, x, h, _⟩ := hP; exact h.below
     clear hP
     by_cases hgo : k < l1.length ∧ k < 30
     · obtain ⟨hlt, h30⟩ := hgo
       obtain ⟨x, hx⟩ : ∃ x, l1[k]? = some x := ⟨_, List.getElem?_eq_getElem hlt⟩
       obtain ⟨bb, oo, cap2, hvv, hbl, _, hlm, hr⟩ : ∃ b o cap, Value.slice a1 l1.length cp1 = .slice (some ⟨b, o, none⟩) l1.length cap ∧ b < w.heap.size ∧ 0 < l1.length ∧ (l1.length : Int) ≤ 9223372036854775807 ∧ ∀ i x, l1[i]? = some x → x.Wf ∧ w.rangeAt b (o + i * 4) x.cells := by
         rcases HA1.out with ⟨hl, _⟩ | hh
         · rw [hl] at hlt; exact absurd hlt (by simp)
         · exact hh
       cases hvv
       have hxw := (hr k x hx).1
       have hrg := rangeAt_keep (hr k x hx).2 (hbel.block bb hbl)
       have e0 : wr.cell? ⟨bb, oo + k * 4, none⟩ = some (.int .i64 x.kind) := hrg 0 _ rfl
       have e1 : wr.cell? ⟨bb, oo + k * 4 + 1, none⟩ = some (.int .i64 x.at_) := hrg 1 _ rfl
       have e2 : wr.cell? ⟨bb, oo + k * 4 + 2, none⟩ = some (.int .i64 x.to_) := hrg 2 _ rfl
       have e3 : wr.cell? ⟨bb, oo + k * 4 + 3, none⟩ = some (.string x.data) := hrg 3 _ rfl
       have HXW := Lib.hid hxw
       clear hr hrg hx hxw hbel
       by_cases hdo : 0 ≤ x.kind ∧ x.kind < 6 ∧ x.data.size ≤ 2000
       · have d0 : decide (0 ≤ x.kind) = true := by simpa using hdo.1
         have d6 : decide (x.kind < 6) = true := by simpa using hdo.2.1
         have d2 : decide ((x.data.size : Int) ≤ 2000) = true := by have := hdo.2.2; simp; omega
         have HD : Hid (Calls Tryz.prog 9 #[.pointer (some ⟨pp, 0, none⟩), .pointer (some ⟨w4.heap.size, 0, none⟩), .agg #[.int .i64 x.kind, .int .i64 x.at_, .int .i64 x.to_, .string x.data]] wr fun e w' => (∃ b, e = .returned (.bool b)) ∧ ∃ V', PR w pp p d5 h5 (62 + 2 * k + 2) V' w4.heap.size sg scap [xs] w') := Lib.hid (does_any HP.out hpages2 (by omega) x HXW.out hdo.2.1 hdo.2.2)
         clear HXW HP hdo
         go_wp2_with fail
         refine HD.out.mono ?_
         rintro e w5 ⟨⟨b5, rfl⟩, V5, h5⟩
         have H5 := Lib.hid h5
         clear h5 HD e0 e1 e2 e3
         go_wp2
         go_roundw
         case rel => exact ⟨k + 1, V5, by omega, by omega, by go_num, by rw [show 62 + 2 * (k + 1) = 62 + 2 * k + 2 by omega]; exact H5.out⟩
         case measure => simp [intOf]; omega
       · have hstop : decide (0 ≤ x.kind) = false ∨ (decide (0 ≤ x.kind) = true ∧ decide (x.kind < 6) = false) ∨ (decide (0 ≤ x.kind) = true ∧ decide (x.kind < 6) = true ∧ decide ((x.data.size : Int) ≤ 2000) = false) := by
           by_cases h0 : 0 ≤ x.kind
           · by_cases h : x.kind < 6
             · exact .inr (.inr ⟨by simpa using h0, by simpa using h, by have : ¬ x.data.size ≤ 2000 := fun q => hdo ⟨h0, h, q⟩; simp; omega⟩)
             · exact .inr (.inl ⟨by simpa using h0, by simpa using h⟩)
           · exact .inl (by simpa using h0)
         clear HXW hdo
         rcases hstop with d0 | ⟨d0, d6⟩ | ⟨d0, d6, d2⟩
         all_goals
           go_wp2
           go_roundw
           case rel => exact ⟨k + 1, V, by omega, by omega, by go_num, by obtain ⟨vn, y, h1, h2⟩ := HP.out; exact ⟨vn, y, h1.mono (by omega), h2⟩⟩
           case measure => simp [intOf]; omega
     · have hstop : (k < l1.length ∧ decide ((k : Int) < 30) = false) ∨ ¬ k < l1.length := by
         by_cases h : k < l1.length
         · exact .inl ⟨h, by simp; omega⟩
         · exact .inr h
       clear hgo hbel
       rcases hstop with ⟨hs1, hs2⟩ | hs1
       all_goals
         go_wp2_with fail
         go_meet
         exact ⟨k, V, hk30, HP.out⟩
   case rest =>
    obtain ⟨k2, V2, hk2, hP2⟩ := hcut
    clear HP5
    obtain ⟨vn2, x2, ⟨S2, ⟨hO2, L2, hK2, CB2, _, hSt2, _⟩, ⟨rfl, rfl, rfl⟩, _⟩, _⟩ := hP2
    have hOw := hSt2.own.sub [xs] (fun y hy => by rw [List.mem_singleton] at hy; subst hy; simp)
    have HCR := Lib.hid (q_crash hOw 18446744073709551615 (-1) 0 (by rw [HS5.out.late]; decide) (by decide) (by decide) (by decide) (by decide) (by decide) (by decide))
    have hcr := HS5.out.crashed 18446744073709551615 (-1) 0
    have HSC := Lib.hid hcr
    have HWF := Lib.hid hO2.wf
    clear hO2 hK2 hSt2 hOw hcr
    go_wp2_with fail
    refine HCR.out.mono ?_
    rintro e w6 ⟨rfl, H6⟩
    have HOP := Lib.hid (HSC.out.1.opens H6)
    clear H6 HCR
    go_wp2_with fail
    refine HOP.out.mono ?_
    rintro e w7 ⟨q7, bm7, rfl, _, _, H7⟩
    have H7' := Lib.hid H7
    clear H7 HOP
    generalize S2.d.crash 18446744073709551615 (-1) 0 = dC at *
    have HPG2 := Lib.hid hpages2
    have hpb := HWF.out.pages
    clear hpages2 hp5 hr5 hpages hroom hseq hk2 hk30
    have hqs := heap_lt H7'.out.at
    have HK0 := Lib.hid (Keeps.refl (fun j => j = q7) w7)
    have HQ0 := Lib.hid H7'.out.at
    have HR0 : Hid (w7.ownsRow w7.heap.size 9 1 (.slice none 0 0) 0 ((pages dC S2.h noPages 0).map Value.string)) := Lib.hid (World.ownsRow_nil _ _ _ _)
    go_wp2_with fail
    go_loopw [15, 16] (fun v i wr => ∃ k : Nat, k ≤ S2.h.pages ∧ i = .int .i64 k ∧ Keeps (fun j => j = q7) w7 wr ∧ wr.heap[q7]? = some (storeO S2.p bm7 S2.h false) ∧ wr.ownsRow w7.heap.size 9 1 v k ((pages dC S2.h noPages k).map Value.string)) (fun _ i _ => S2.h.pages - (intOf i).toNat)
    case atStart => exact ⟨0, Nat.zero_le _, rfl, HK0.out, HQ0.out, HR0.out⟩
    case round =>
      clear HK0 HQ0 HR0
      obtain ⟨k, hk, rfl, hK, hQ, hrow⟩ := hrel
      have HK := Lib.hid hK
      have HQ := Lib.hid hQ
      have HR := Lib.hid hrow
      clear hK hQ hrow
      have HL := Lib.hid (slen_any wr q7 S2.p bm7 S2.h false HQ.out)
      by_cases hlt : k < S2.h.pages
      · have HRd := Lib.hid (sread_any (H7'.out.keep HK.out HQ.out) (k : Int) (by omega) (by omega) HWF.out HSC.out.1.free.2 HSC.out.1.n)
        go_wp2_with fail
        refine HL.out.mono ?_
        rintro e _ ⟨rfl, rfl⟩
        go_wp2_with fail
        refine HRd.out.mono ?_
        rintro e w8 ⟨rfl, H8, K8⟩
        have hrow2 : w8.ownsRow w7.heap.size 9 1 u15 k ((pages dC S2.h noPages k).map Value.string) := HR.out.kept (row := some q7) (Keeps.grownBy (K8.mono fun i hi => .inl (by rw [hi]))) (.inr (by intro c; have := (HR.out.lt _ c).1; omega))
        have hlen : ((pages dC S2.h noPages k).map Value.string).length = k := by rw [List.length_map, pages_length]
        have hK2 := HK.out.on K8
        obtain ⟨g9, cap9, w9, p1, p2, p3⟩ := row_push (xs := (pages dC S2.h noPages k).map Value.string) (by rw [hlen]; exact hrow2) hK2.size (by rw [hlen]; omega) (pageS dC S2.h noPages (k : Int)) k hlen
        have hq3 : w9.heap[q7]? = some (storeO S2.p bm7 S2.h false) := (p3.block q7 hqs).trans H8.at
        have hK3 : Keeps (fun j => j = q7) w7 w9 := hK2.trans (Below.keeps (own := fun j => w7.heap.size ≤ j) p3 (fun i hi => hi)) (fun i hi => .inr hi)
        have e4 : (pages dC S2.h noPages k).map Value.string ++ [Value.string (pageS dC S2.h noPages (k : Int))] = (pages dC S2.h noPages (k + 1)).map Value.string := by rw [pages_snoc]; simp
        rw [e4] at p2
        rw [List.length_map, pages_length] at p2
        have HF := Lib.hid (And.intro hK3 (And.intro hq3 p2))
        clear hrow2 hlen hK2 p2 p3 hq3 hK3 e4 H8 K8 HL HRd
        go_wp2
        go_roundw
        case rel => exact ⟨k + 1, by omega, by go_num, HF.out.1, HF.out.2.1, HF.out.2.2⟩
        case measure => simp [intOf]; omega
      · obtain rfl : k = S2.h.pages := by omega
        go_wp2_with fail
        refine HL.out.mono ?_
        rintro e _ ⟨rfl, rfl⟩
        obtain ⟨g8, cap8, cur, rfl, hg, hgb, hcur⟩ := row_open HR.out (by rw [HPG2.out]; decide)
        have hF := H7'.out.keepAdd (N := [(g8, Obj.cells cur 9 (0, 0))]) HK.out HQ.out (fun x hx => by rw [List.mem_singleton] at hx; subst hx; exact ⟨hg, hgb⟩)
        have hTa : TextsR (.slice (some ⟨g8, 0, none⟩) S2.h.pages cap8) [(g8, Obj.cells cur 9 (0, 0))] (pages dC S2.h noPages S2.h.pages) := ⟨g8, cap8, cur, by rw [pages_length], List.mem_singleton.2 rfl, by rw [pages_length]; exact hcur⟩
        have heq : pages dC S2.h noPages S2.h.pages = pgs (fun k => pageS S2.d S2.h noPages k) := by
          unfold pages pgs
          rw [HPG2.out]
          apply List.map_congr_left
          intro i _
          unfold pageS
          rw [HSC.out.2]
        have HSM := Lib.hid (rsame_any (R := [(g8, Obj.cells cur 9 (0, 0)), xs]) (hTa.mono fun y hy => by rw [List.mem_singleton] at hy; rw [hy]; exact List.mem_cons_self) (HT5.out.mono fun y hy => List.mem_cons_of_mem _ hy) heq (by rw [pages_length]; omega) wr (fun y hy => hF.mem hy))
        have HBL := Lib.hid hF.below
        clear HL hF hTa heq hg hgb hcur HR HT5 hpb
        go_wp2_with fail
        refine HSM.out.mono ?_
        rintro e w10 ⟨rfl, hb10⟩
        have HB10 := Lib.hid (HBL.out.on hb10)
        clear hb10 HSM HBL
        go_wp2_with fail
        refine (awake_any _).mono ?_
        rintro e w11 ⟨rfl, hb11⟩
        have HB11 := Lib.hid (HB10.out.on hb11)
        clear hb11
        go_wp2
        go_returns
        exact ⟨rfl, HB11.out⟩

set_option maxRecDepth 100000 in
theorem lifted (os : Os) (started : os.Started) (H : Type) (enc : TypeId × Value → H) :
    ReturnsInHanded {} Tryz.checked os 3 .any (Rows.pagerSafeSpec.pre6 enc Tryz.prog Tryz.f3 Rows.pagerSafeRow.domain false) (Rows.pagerSafeSpec.post enc Tryz.prog Tryz.f3 false true false false) := by
  refine law_lift (C := Tryz.checked) own started (by kernel_rfl) Tryz.func3 laidOut (by kernel_rfl) rfl Tryz.underlying4 rfl
    (fun ds h => match ds, h with | [_, _], _ => rfl)
    (ChangeSpec.witness6 (enc := enc) (C := Tryz.checked) false ⟨#[], #[.slice none 0 0, .slice none 0 0], []⟩ 8 (by kernel_rfl) (by kernel_rfl) (by kernel_rfl) (by kernel_rfl)) ?_
  intro W base args ds ps hval hA hsz
  rw [Tryz.params3] at hA hval hsz
  obtain ⟨v0, vs0, d0, ds0, p0, q0, hargs, rfl, rfl, h0, r0⟩ := trodAll_cons hA
  obtain ⟨v1, vs1, d1, ds1, p1, q1, rfl, rfl, rfl, h1, r1⟩ := trodAll_cons r0
  obtain ⟨rfl, rfl, rfl⟩ := trodAll_nil r1
  obtain rfl : args = #[v0, v1] := by cases args; simp_all
  obtain ⟨l0, hl0⟩ := acts_open (hval 0 22 v0 rfl rfl) h0
  obtain ⟨l1, hl1⟩ := acts_open (hval 1 22 v1 rfl rfl) h1
  exact walk W v0 l0 hl0 v1 l1 hl1

theorem over : Rows.pagerSafeRow.holds Tryz.pinned (OpenSpec.ofChange Rows.pagerSafeSpec) :=
  OpenClaim.holds_of_wide 3 Tryz.f3 rfl rfl rfl rfl rfl rfl rfl ⟨rfl, rfl, rfl, rfl, rfl⟩ rfl rfl rfl rfl rfl (by kernel_rfl) Tryz.func3 (by kernel_rfl)
    (of_decide_eq_true (by kernel_rfl)) (by unfold Func.isWrapper; first | (rw [if_pos (by decide +kernel)]; kernel_rfl) | (rw [if_neg (by decide +kernel)]; exact ⟨rfl, rfl⟩))
    (fun os started H enc _ => lifted os started H enc)

theorem proved : Rows.PagerSafeSaid :=
  over
end Go.Proofs.YtcoebinljdjemaaGreat.pagerSafe
