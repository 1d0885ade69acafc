/- The reference's pager: Alloc, Root, SetRoot, New. The reference's pager: Root, SetRoot, New. The reference's pager: New. -/
import Derived.Test.YtcoebinljdjemaaGreatGR
namespace Go.Proofs.YtcoebinljdjemaaGreat
set_option maxRecDepth 100000
open Go.ChangeShapes Go.WideShapes Go.ChangeAt Go.RowKit Go.PlainAid
open Go.Sort (grow)
section
variable {w : World} {vn : Value} {x : Nat × Obj} {V : Int → ByteArray}
theorem given_alt (V : Int → ByteArray) {v : Int} (hv : v ≠ 0) : updV (updV V 0 (withS (V 0) v true)) v zeroText = givenV V v := by
  funext j
  unfold givenV updV
  by_cases a : j = v
  · subst a
    rw [if_pos rfl, if_neg hv, if_pos rfl]
  · rw [if_neg a]
    by_cases b : j = 0
    · rw [if_pos b, if_pos b]
    · rw [if_neg b, if_neg b, if_neg a]
set_option maxHeartbeats 2000000 in
theorem RP.alloc (h : RP vn x V w) (sa : Option Addr) (sn sc : Nat) (hs : (V 0).size = 256) (v : Int) (hv : Least (V 0) 2 (12 : Nat) v) :
    Calls Tryz.prog 34 #[.agg #[vn, .slice sa sn sc]] w (NewP w sa sn sc (givenV V v) fun p => .tuple #[p, .int .i64 v, .int .i64 0]) := by
  obtain ⟨W, hW, hbW, B0, B1⟩ := boxes w vn (.slice sa sn sc)
  obtain ⟨g, cap, rfl, hc⟩ := (h.on hbW).open
  have b00 := B0.c0
  have b01 := B0.c1
  have c0 := hc 0 (by omega)
  have HB := Lib.hid (And.intro hbW (And.intro B0 (And.intro B1 (heap_lt B1.obj))))
  have HR := Lib.hid (h.on hbW)
  have HL := Lib.hid hv
  clear h hbW B0 B1 hv hc
  go_enter Tryz.func34, Tryz.ntmps34
  go_wp2_with fail
  go_loopw [5] (fun i wr => ∃ k : Nat, 2 ≤ k ∧ k ≤ 12 ∧ i = .int .i64 k ∧ Below W.heap.size W wr ∧ ∀ l : Int, 2 ≤ l → l < k → hasB (V 0) l = true) (fun i _ => 12 - (intOf i).toNat)
  case atStart => exact ⟨2, by omega, by omega, rfl, Below.refl _ _, fun l a b => by omega⟩
  case round =>
    clear b00 b01 c0
    obtain ⟨k, hk2, hk12, rfl, hbr, hall⟩ := hrel
    have b00 := (HB.out.2.1.on hbr).c0
    have b01 := (HB.out.2.1.on hbr).c1
    obtain ⟨g', cap', hv', hc⟩ := (HR.out.on hbr).open
    cases hv'
    have c0 := hc 0 (by omega)
    rw [show ((0 : Nat) : Int) = 0 from rfl] at c0
    have HBR := Lib.hid hbr
    have HALL := Lib.hid hall
    have HH := Lib.hid fun (w : World) => rhas_any (V 0) (k : Int) w (by omega) (by omega) (by omega)
    clear hc hbr hall hW
    have hkv : (k : Int) ≤ v := by
      have h1 := HL.out.1
      by_cases c : (k : Int) ≤ v
      · exact c
      · have := HALL.out v h1.1 (by omega)
        rw [h1.2.2.2.2] at this
        cases this
    have hv12 : v < 12 := HL.out.1.2.2.1
    by_cases e : (k : Int) = v
    · have hf : hasB (V 0) (k : Int) = false := by rw [e]; exact HL.out.1.2.2.2.2
      rw [hf] at HH
      have HS := Lib.hid ((HR.out.on HBR.out).set sa sn sc (k : Int) true hs (by omega) (by omega))
      have hk12' : k < 12 := by omega
      have HE := Lib.hid e
      clear hf e
      go_wp2_with fail
      refine (HH.out _).mono ?_
      rintro e _ ⟨rfl, rfl⟩
      go_wp2_with fail
      refine HS.out.mono ?_
      rintro e w1 ⟨v1, x1, rfl, hR1, hlo1, hb1⟩
      have hlo1' := hlo1
      have HB1 := Lib.hid (HBR.out.on hb1)
      have HS2 := Lib.hid (hR1.put sa sn sc k hk12' ⟨#[]⟩ (by decide))
      clear hb1 HS HH hlo1 hR1
      go_wp2_with fail
      refine HS2.out.mono ?_
      rintro e w2 ⟨v2, x2, rfl, hR, hlo, hb2⟩
      rw [filled_empty, given_alt V (show (k : Int) ≠ 0 by omega), HE.out] at hR
      obtain ⟨g2, cap2, rfl, _⟩ := hR.open
      have hb12 := (HB1.out).on hb2
      have D1 := (HB.out.2.2.1.on (HB1.out)).on hb2
      have z0 := D1.c0
      have z1 := D1.c1
      have y0 := D1.f 0
      have y1 := D1.f 1
      have hsz := (HB1.out).size
      have hlt := HB.out.2.2.2
      have DS := D1.set (.slice (some ⟨g2, 0, none⟩) 12 cap2) (.slice sa sn sc)
      have hRS := hR.setBox (b := w.heap.size + 1) (u := .slice (some ⟨g2, 0, none⟩) 12 cap2) (u' := .slice sa sn sc) (by omega)
      have hBS := ((HB.out.1.on hb12).setCell (p := ⟨w.heap.size + 1, 0, none⟩) (Nat.le_succ _) (.slice (some ⟨g2, 0, none⟩) 12 cap2)).setCell (p := ⟨w.heap.size + 1, 1, none⟩) (Nat.le_succ _) (.slice sa sn sc)
      have HO := Lib.hid (And.intro DS (And.intro hRS (And.intro hBS (show w.heap.size ≤ x2.1 by omega))))
      clear DS hRS hBS D1 hR hlo hb2 hb12
      go_wp2
      generalize (w2.setCell ⟨w.heap.size + 1, 0, none⟩ (.slice (some ⟨g2, 0, none⟩) 12 cap2)).setCell ⟨w.heap.size + 1, 1, none⟩ (.slice sa sn sc) = w6 at *
      have e0 := HO.out.1.c0
      have e1 := HO.out.1.c1
      refine bodyPost_ret (v := .tuple #[.agg #[.slice (some ⟨g2, 0, none⟩) 12 cap2, .slice sa sn sc], .int .i64 (k : Int), .int .i64 0]) (by simp [results, Tryz.results34, go_sem, e0, e1]) rfl ?_
      exact ⟨_, x2, by rw [HE.out], HO.out.2.1, HO.out.2.2.2, HO.out.2.2.1⟩
    · have ht : hasB (V 0) (k : Int) = true := by
        have hk12' : (k : Int) < (12 : Nat) := by omega
        cases hh : hasB (V 0) (k : Int) with
        | true => rfl
        | false => exact absurd ⟨by omega, by omega, hk12', by rw [hs]; omega, hh⟩ (HL.out.2 (k : Int) (by omega))
      rw [ht] at HH
      have HT := Lib.hid ht
      clear ht
      go_wp2_with fail
      refine (HH.out _).mono ?_
      rintro e _ ⟨rfl, rfl⟩
      go_wp2
      go_roundw
      case rel => exact ⟨k + 1, by omega, by omega, by go_num, HBR.out, fun l a b => by
        by_cases c : l = (k : Int)
        · rw [c]; exact HT.out
        · exact HALL.out l a (by omega)⟩
      case measure => simp [intOf]; omega
set_option maxHeartbeats 2000000 in
theorem RP.alloc_no (h : RP vn x V w) (sa : Option Addr) (sn sc : Nat) (hs : (V 0).size = 256) (hv : ∀ l, ¬ LowP (V 0) 2 (12 : Nat) l) :
    Calls Tryz.prog 34 #[.agg #[vn, .slice sa sn sc]] w fun e w' => e = .returned (.tuple #[.agg #[vn, .slice sa sn sc], .int .i64 0, .int .i64 13]) ∧ Below w.heap.size w w' := by
  obtain ⟨W, hW, hbW, B0, B1⟩ := boxes w vn (.slice sa sn sc)
  obtain ⟨g, cap, rfl, hc⟩ := (h.on hbW).open
  have b00 := B0.c0
  have b01 := B0.c1
  have c0 := hc 0 (by omega)
  have HB := Lib.hid (And.intro hbW (And.intro B0 (And.intro B1 (heap_lt B1.obj))))
  have HR := Lib.hid (h.on hbW)
  have HL := Lib.hid hv
  clear h hbW B0 B1 hv hc
  go_enter Tryz.func34, Tryz.ntmps34
  go_wp2_with fail
  go_loopw [5] (fun i wr => ∃ k : Nat, 2 ≤ k ∧ k ≤ 12 ∧ i = .int .i64 k ∧ Below W.heap.size W wr ∧ ∀ l : Int, 2 ≤ l → l < k → hasB (V 0) l = true) (fun i _ => 12 - (intOf i).toNat)
  case atStart => exact ⟨2, by omega, by omega, rfl, Below.refl _ _, fun l a b => by omega⟩
  case round =>
    clear b00 b01 c0
    obtain ⟨k, hk2, hk12, rfl, hbr, hall⟩ := hrel
    have b00 := (HB.out.2.1.on hbr).c0
    have b01 := (HB.out.2.1.on hbr).c1
    obtain ⟨g', cap', hv', hc⟩ := (HR.out.on hbr).open
    cases hv'
    have c0 := hc 0 (by omega)
    rw [show ((0 : Nat) : Int) = 0 from rfl] at c0
    have HBR := Lib.hid hbr
    have HALL := Lib.hid hall
    have HH := Lib.hid fun (w : World) => rhas_any (V 0) (k : Int) w (by omega) (by omega) (by omega)
    clear hc hbr hall hW
    by_cases hlt : k < 12
    · have ht : hasB (V 0) (k : Int) = true := by
        have hk12' : (k : Int) < (12 : Nat) := by omega
        cases hh : hasB (V 0) (k : Int) with
        | true => rfl
        | false => exact absurd ⟨by omega, by omega, hk12', by rw [hs]; omega, hh⟩ (HL.out (k : Int))
      rw [ht] at HH
      have HT := Lib.hid ht
      clear ht
      go_wp2_with fail
      refine (HH.out _).mono ?_
      rintro e _ ⟨rfl, rfl⟩
      go_wp2
      go_roundw
      case rel => exact ⟨k + 1, by omega, by omega, by go_num, HBR.out, fun l a b => by
        by_cases c : l = (k : Int)
        · rw [c]; exact HT.out
        · exact HALL.out l a (by omega)⟩
      case measure => simp [intOf]; omega
    · obtain rfl : k = 12 := by omega
      have z0 := (HB.out.2.2.1.on HBR.out).c0
      have z1 := (HB.out.2.2.1.on HBR.out).c1
      have y0 := (HB.out.2.2.1.on HBR.out).f 0
      have y1 := (HB.out.2.2.1.on HBR.out).f 1
      have DS := (HB.out.2.2.1.on HBR.out).set (.slice (some ⟨g, 0, none⟩) 12 cap) (.slice sa sn sc)
      have hBS := ((HB.out.1.on HBR.out).setCell (p := ⟨w.heap.size + 1, 0, none⟩) (Nat.le_succ _) (.slice (some ⟨g, 0, none⟩) 12 cap)).setCell (p := ⟨w.heap.size + 1, 1, none⟩) (Nat.le_succ _) (.slice sa sn sc)
      have HO := Lib.hid (And.intro DS hBS)
      clear DS hBS
      go_wp2
      generalize (wr.setCell ⟨w.heap.size + 1, 0, none⟩ (.slice (some ⟨g, 0, none⟩) 12 cap)).setCell ⟨w.heap.size + 1, 1, none⟩ (.slice sa sn sc) = w6 at *
      have e0 := HO.out.1.c0
      have e1 := HO.out.1.c1
      refine bodyPost_ret (v := .tuple #[.agg #[.slice (some ⟨g, 0, none⟩) 12 cap, .slice sa sn sc], .int .i64 0, .int .i64 13]) (by simp [results, Tryz.results34, go_sem, e0, e1]) rfl ?_
      exact ⟨rfl, HO.out.2⟩
end
end Go.Proofs.YtcoebinljdjemaaGreat
namespace Go.Proofs.YtcoebinljdjemaaGreat
set_option maxRecDepth 100000
open Go.ChangeShapes Go.WideShapes Go.ChangeAt Go.RowKit Go.PlainAid
open Go.Sort (grow)
section
variable {w : World} {vn : Value} {x : Nat × Obj} {V : Int → ByteArray}
set_option maxHeartbeats 1000000 in
theorem RP.root_no (h : RP vn x V w) (sa : Option Addr) (sn sc : Nat) (i : Int) (hi : i < 0 ∨ 16 ≤ i) :
    Calls Tryz.prog 38 #[.agg #[vn, .slice sa sn sc], .int .i64 i] w fun e w' => e = .returned (.tuple #[.int .i64 0, .int .i64 1]) ∧ Below w.heap.size w w' := by
  obtain ⟨W, hW, hbW, B0⟩ := boxes1 w vn (.slice sa sn sc)
  have HB := Lib.hid hbW
  obtain ⟨g, cap, rfl, _⟩ := h.open
  clear h hbW B0
  rcases Int.lt_or_le i 0 with a | a
  · have d1 : decide (i < 0) = true := by simpa using a
    clear hi
    go_enter Tryz.func38, Tryz.ntmps38
    go_wp2
    go_returns
    exact ⟨rfl, HB.out⟩
  · have d1 : decide (i < 0) = false := by simpa using a
    have d2 : decide (16 ≤ i) = true := by simp; omega
    clear hi
    go_enter Tryz.func38, Tryz.ntmps38
    go_wp2
    go_returns
    exact ⟨rfl, HB.out⟩
theorem root_text {s : ByteArray} {i : Nat} (hi : i < 16) : rootZ s (i : Int) = unfixZ (s.extract (4 * i) (4 * i + 4)) := by
  unfold rootZ
  rw [show (4 * (i : Int)).toNat = 4 * i by omega, ext_ext _ _ _ _ _ (by omega), Nat.add_zero]
set_option maxHeartbeats 1000000 in
theorem RP.root (h : RP vn x V w) (sa : Option Addr) (sn sc : Nat) (i : Int) (hi : 0 ≤ i ∧ i < 16) (hs : (V 1).size = 256) :
    Calls Tryz.prog 38 #[.agg #[vn, .slice sa sn sc], .int .i64 i] w fun e w' => e = .returned (.tuple #[.int .i64 (rootZ (V 1) i), .int .i64 0]) ∧ Below w.heap.size w w' := by
  obtain ⟨n, rfl⟩ := Int.eq_ofNat_of_zero_le hi.1
  have hi2 : n < 16 := by omega
  obtain ⟨W, hW, hbW, B0⟩ := boxes1 w vn (.slice sa sn sc)
  obtain ⟨g, cap, rfl, hc⟩ := (h.on hbW).open
  have b00 := B0.c0
  have b01 := B0.c1
  have c1 := hc 1 (by omega)
  rw [show ((1 : Nat) : Int) = 1 from rfl] at c1
  have HB := Lib.hid hbW
  have hrt := root_text (s := V 1) hi2
  have hbd := root_bounds (V 1) (n : Int)
  have HU := Lib.hid fun (w : World) => runfixed_any ((V 1).extract (4 * n) (4 * n + 4)) w (by rw [ByteArray.size_extract]; unfold maxLen; omega)
  rw [← hrt] at HU
  have HBD := Lib.hid hbd
  clear h hbW B0 hc hrt hi hbd
  have st := slice_text (V 1) (4 * n) (4 * n + 4) (by omega) (by omega)
  rw [show ((4 * n : Nat) : Int) = 4 * (n : Int) by omega, show ((4 * n + 4 : Nat) : Int) = 4 * (n : Int) + 4 by omega] at st
  go_enter Tryz.func38, Tryz.ntmps38
  go_wp2_with fail
  refine (HU.out _).mono ?_
  rintro e _ ⟨rfl, rfl⟩
  obtain ⟨z0, z1⟩ := HBD.out
  clear st
  go_wp2
  go_returns
  exact ⟨rfl, HB.out⟩
theorem setRoot_text (s : ByteArray) (n : Nat) (k : Int) : setRoot s (n : Int) k = s.extract 0 (4 * n) ++ fixS k 4 ++ s.extract (4 * n + 4) 256 := by
  unfold setRoot
  rw [show (4 * (n : Int)).toNat = 4 * n by omega, show (4 * ((n : Int) + 1)).toNat = 4 * n + 4 by omega]
set_option maxHeartbeats 2000000 in
theorem RP.setRoot_arg (h : RP vn x V w) (sa : Option Addr) (sn sc : Nat) (i k : Int) (hi : i < 0 ∨ 16 ≤ i) :
    Calls Tryz.prog 39 #[.agg #[vn, .slice sa sn sc], .int .i64 i, .int .i64 k] w (fun e w' => e = .returned (.tuple #[.agg #[vn, .slice sa sn sc], .int .i64 1]) ∧ Below w.heap.size w w') := by
  obtain ⟨W, hW, hbW, B0, B1⟩ := boxes w vn (.slice sa sn sc)
  obtain ⟨g, cap, rfl, hc⟩ := (h.on hbW).open
  have b00 := B0.c0
  have b01 := B0.c1
  have HB := Lib.hid (And.intro hbW (And.intro B0 (And.intro B1 (heap_lt B1.obj))))
  have HR := Lib.hid (h.on hbW)
  clear h hbW B0 B1
  have HG := Lib.hid (HR.out.root_no sa sn sc i hi)
  clear hc
  go_enter Tryz.func39, Tryz.ntmps39
  go_wp2_with fail
  refine HG.out.mono ?_
  rintro e w1 ⟨rfl, hb1⟩
  have b00 := (HB.out.2.1.on hb1).c0
  have b01 := (HB.out.2.1.on hb1).c1
  have HB1 := Lib.hid hb1
  clear hb1 hW HG
  have z0 := (HB.out.2.2.1.on HB1.out).c0
  have z1 := (HB.out.2.2.1.on HB1.out).c1
  have y0 := (HB.out.2.2.1.on HB1.out).f 0
  have y1 := (HB.out.2.2.1.on HB1.out).f 1
  have DS := (HB.out.2.2.1.on HB1.out).set (.slice (some ⟨g, 0, none⟩) 12 cap) (.slice sa sn sc)
  have hBS := ((HB.out.1.on HB1.out).setCell (p := ⟨w.heap.size + 1, 0, none⟩) (Nat.le_succ _) (.slice (some ⟨g, 0, none⟩) 12 cap)).setCell (p := ⟨w.heap.size + 1, 1, none⟩) (Nat.le_succ _) (.slice sa sn sc)
  have HO := Lib.hid (And.intro DS hBS)
  clear DS hBS
  go_wp2
  generalize (w1.setCell ⟨w.heap.size + 1, 0, none⟩ (.slice (some ⟨g, 0, none⟩) 12 cap)).setCell ⟨w.heap.size + 1, 1, none⟩ (.slice sa sn sc) = w6 at *
  have e0 := HO.out.1.c0
  have e1 := HO.out.1.c1
  refine bodyPost_ret (v := .tuple #[.agg #[.slice (some ⟨g, 0, none⟩) 12 cap, .slice sa sn sc], .int .i64 1]) (by simp [results, Tryz.results39, go_sem, e0, e1]) rfl ?_
  exact ⟨rfl, HO.out.2⟩
set_option maxHeartbeats 2000000 in
theorem RP.setRoot_none (h : RP vn x V w) (sa : Option Addr) (sn sc : Nat) (i k : Int) (hi : 0 ≤ i ∧ i < 16) (hs : (V 1).size = 256) (hs0 : (V 0).size = 256) (z : k ≠ 0) (hk : outB 12 (V 0) k = false) (b0 : -9223372036854775808 ≤ k) (b1 : k ≤ 9223372036854775807) :
    Calls Tryz.prog 39 #[.agg #[vn, .slice sa sn sc], .int .i64 i, .int .i64 k] w (fun e w' => e = .returned (.tuple #[.agg #[vn, .slice sa sn sc], .int .i64 6]) ∧ Below w.heap.size w w') := by
  obtain ⟨W, hW, hbW, B0, B1⟩ := boxes w vn (.slice sa sn sc)
  obtain ⟨g, cap, rfl, hc⟩ := (h.on hbW).open
  have b00 := B0.c0
  have b01 := B0.c1
  have HB := Lib.hid (And.intro hbW (And.intro B0 (And.intro B1 (heap_lt B1.obj))))
  have HR := Lib.hid (h.on hbW)
  clear h hbW B0 B1
  have HG := Lib.hid (HR.out.root sa sn sc i hi hs)
  have hz : (k == 0) = false := by simpa using z
  have HV := Lib.hid fun (w1 : World) (bb : Below W.heap.size W w1) => (HR.out.on bb).given sa sn sc k hs0 b0 b1
  rw [hk] at HV
  clear hc
  go_enter Tryz.func39, Tryz.ntmps39
  go_wp2_with fail
  refine HG.out.mono ?_
  rintro e w1 ⟨rfl, hb1⟩
  have b00 := (HB.out.2.1.on hb1).c0
  have b01 := (HB.out.2.1.on hb1).c1
  have HB1 := Lib.hid hb1
  clear hb1 hW HG
  go_wp2_with fail
  refine (HV.out _ HB1.out).mono ?_
  rintro e w2 ⟨rfl, hb2⟩
  have hb12 := HB1.out.on hb2
  have b00 := (HB.out.2.1.on hb12).c0
  have b01 := (HB.out.2.1.on hb12).c1
  have HB2 := Lib.hid hb12
  clear hb2 hb12 HV
  have z0 := (HB.out.2.2.1.on HB2.out).c0
  have z1 := (HB.out.2.2.1.on HB2.out).c1
  have y0 := (HB.out.2.2.1.on HB2.out).f 0
  have y1 := (HB.out.2.2.1.on HB2.out).f 1
  have DS := (HB.out.2.2.1.on HB2.out).set (.slice (some ⟨g, 0, none⟩) 12 cap) (.slice sa sn sc)
  have hBS := ((HB.out.1.on HB2.out).setCell (p := ⟨w.heap.size + 1, 0, none⟩) (Nat.le_succ _) (.slice (some ⟨g, 0, none⟩) 12 cap)).setCell (p := ⟨w.heap.size + 1, 1, none⟩) (Nat.le_succ _) (.slice sa sn sc)
  have HO := Lib.hid (And.intro DS hBS)
  clear DS hBS
  go_wp2
  generalize (w2.setCell ⟨w.heap.size + 1, 0, none⟩ (.slice (some ⟨g, 0, none⟩) 12 cap)).setCell ⟨w.heap.size + 1, 1, none⟩ (.slice sa sn sc) = w6 at *
  have e0 := HO.out.1.c0
  have e1 := HO.out.1.c1
  refine bodyPost_ret (v := .tuple #[.agg #[.slice (some ⟨g, 0, none⟩) 12 cap, .slice sa sn sc], .int .i64 6]) (by simp [results, Tryz.results39, go_sem, e0, e1]) rfl ?_
  exact ⟨rfl, HO.out.2⟩
set_option maxHeartbeats 2000000 in
theorem RP.setRootP (h : RP vn x V w) (sa : Option Addr) (sn sc : Nat) (i k : Int) (hi : 0 ≤ i ∧ i < 16) (hs : (V 1).size = 256) (hs0 : (V 0).size = 256) (hk : k ≠ 0 → outB 12 (V 0) k = true) (b0 : -9223372036854775808 ≤ k) (b1 : k ≤ 9223372036854775807) :
    Calls Tryz.prog 39 #[.agg #[vn, .slice sa sn sc], .int .i64 i, .int .i64 k] w (NewP w sa sn sc (updV V 1 (setRoot (V 1) i k)) fun v => .tuple #[v, .int .i64 0]) := by
  obtain ⟨W, hW, hbW, B0, B1⟩ := boxes w vn (.slice sa sn sc)
  obtain ⟨g, cap, rfl, hc⟩ := (h.on hbW).open
  have b00 := B0.c0
  have b01 := B0.c1
  have HB := Lib.hid (And.intro hbW (And.intro B0 (And.intro B1 (heap_lt B1.obj))))
  have HR := Lib.hid (h.on hbW)
  clear h hbW B0 B1
  have HSR := Lib.hid (setRoot_size (s := V 1) (k := k) hs hi.1 hi.2)
  have hk0 : 0 ≤ k ∧ k < 1024 := by
    by_cases z : k = 0
    · omega
    · have := hk z
      unfold outB at this
      simp only [Bool.and_eq_true, decide_eq_true_eq] at this
      omega
  have HFX := Lib.hid (fun (w : World) => rfixed_any k 4 w (by omega) (by omega) (by omega) (by omega))
  have HG := Lib.hid (HR.out.root sa sn sc i hi hs)
  have HPT : Hid (∀ (w1 : World), Below W.heap.size W w1 → Calls Tryz.prog 33 #[.agg #[.slice (some ⟨g, 0, none⟩) 12 cap, .slice sa sn sc], .int .i64 1, .string ((V 1).extract 0 (4 * i).toNat ++ fixS k 4 ++ (V 1).extract (4 * i + 4).toNat 256)] w1 (NewP w1 sa sn sc (updV V 1 (setRoot (V 1) i k)) id)) := by
    refine Lib.hid fun w1 bb => ?_
    have := (HR.out.on bb).put sa sn sc 1 (by omega) (setRoot (V 1) i k) (Nat.le_of_eq HSR.out)
    rw [filled_full HSR.out] at this
    rw [show (4 * i + 4).toNat = (4 * (i + 1)).toNat by omega]
    exact this
  have HV := Lib.hid fun (z : k ≠ 0) (w1 : World) (bb : Below W.heap.size W w1) => (hk z) ▸ ((HR.out.on bb).given sa sn sc k hs0 b0 b1)
  have hfs := fixS_size4 k
  clear hc hk
  by_cases z : k = 0
  · subst z
    go_enter Tryz.func39, Tryz.ntmps39
    go_wp2_with fail
    refine HG.out.mono ?_
    rintro e w1 ⟨rfl, hb1⟩
    have b00 := (HB.out.2.1.on hb1).c0
    have b01 := (HB.out.2.1.on hb1).c1
    have HB1 := Lib.hid hb1
    clear hb1 hW HG HV
    obtain ⟨g', cap', hv', hc'⟩ := (HR.out.on HB1.out).open
    cases hv'
    have c1 := hc' 1 (by omega)
    rw [show ((1 : Nat) : Int) = 1 from rfl] at c1
    clear hc'
    go_wp2_with fail
    have k1 : IntKind.i64.wrap (4 * i) = 4 * i := IntWalk.i64_in _ (by omega)
    have k2 : IntKind.i64.wrap (4 * i + 4) = 4 * i + 4 := IntWalk.i64_in _ (by omega)
    have k3 : IntKind.u64.wrap 0 = 0 := rfl
    have n0 : 0 ≤ 4 * i := by omega
    have n1 : 4 * i ≤ 256 := by omega
    have n2 : (4 * i).toNat ≤ 256 := by omega
    have n3 : 0 ≤ 4 * i + 4 := by omega
    have n4 : 4 * i + 4 ≤ 256 := by omega
    have n5 : (4 * i + 4).toNat ≤ 256 := by omega
    have z1 : ((V 1).extract 0 (4 * i).toNat).size ≤ 256 := by rw [ByteArray.size_extract]; omega
    have z2 : (fixS 0 4).size ≤ 4 := by rw [fixS_size4]; exact Nat.le_refl _
    have z3 : ((V 1).extract (4 * i + 4).toNat 256).size ≤ 256 := by rw [ByteArray.size_extract]; omega
    have z4 : ((V 1).extract 0 (4 * i).toNat ++ fixS 0 4).size ≤ 260 := by rw [ByteArray.size_append]; omega
    have y1 : (9223372036854775807 < (4 * i).toNat + 4) = False := by simp; omega
    have y2 : (9223372036854775807 < (4 * i).toNat + 4 + (256 - (4 * i + 4).toNat)) = False := by simp; omega
    have hbd := HB1.out.on (show Below w1.heap.size w1 w1.drew by go_grown)
    have b00 := (HB.out.2.1.on hbd).c0
    have b01 := (HB.out.2.1.on hbd).c1
    have HBD := Lib.hid hbd
    clear hbd
    go_region_law (first
      | (go_simp; (with_reducible refine (HFX.out _).mono ?_); rintro e w5 ⟨rfl, hb5⟩
         have hb5' := HBD.out.on hb5
         have b00 := (HB.out.2.1.on hb5').c0
         have b01 := (HB.out.2.1.on hb5').c1
         have HB5 := Lib.hid hb5'
         clear hb5 hb5')
      | (go_simp; (with_reducible refine (HPT.out _ HB5.out).mono ?_); rintro e w6 ⟨v2, x2, rfl, hR, hlo, hb2⟩
         obtain ⟨g2, cap2, rfl, _⟩ := hR.open
         have hb12 := HB5.out.on hb2
         have D1 := HB.out.2.2.1.on hb12
         have z0 := D1.c0
         have z1 := D1.c1
         have y0 := D1.f 0
         have y1 := D1.f 1
         have hsz := HB5.out.size
         have hlt := HB.out.2.2.2
         have DS := D1.set (.slice (some ⟨g2, 0, none⟩) 12 cap2) (.slice sa sn sc)
         have hRS := hR.setBox (b := w.heap.size + 1) (u := .slice (some ⟨g2, 0, none⟩) 12 cap2) (u' := .slice sa sn sc) (by omega)
         have hBS := ((HB.out.1.on hb12).setCell (p := ⟨w.heap.size + 1, 0, none⟩) (Nat.le_succ _) (.slice (some ⟨g2, 0, none⟩) 12 cap2)).setCell (p := ⟨w.heap.size + 1, 1, none⟩) (Nat.le_succ _) (.slice sa sn sc)
         have HO := Lib.hid (And.intro DS (And.intro hRS (And.intro hBS (show w.heap.size ≤ x2.1 by omega))))
         clear DS hRS hBS D1 hR hlo hb2 hb12)
      | fail)
    all_goals
      go_wp2
      generalize (w6.setCell ⟨w.heap.size + 1, 0, none⟩ (.slice (some ⟨g2, 0, none⟩) 12 cap2)).setCell ⟨w.heap.size + 1, 1, none⟩ (.slice sa sn sc) = w7 at *
      have e0 := HO.out.1.c0
      have e1 := HO.out.1.c1
      refine bodyPost_ret (v := .tuple #[.agg #[.slice (some ⟨g2, 0, none⟩) 12 cap2, .slice sa sn sc], .int .i64 0]) (by simp [results, Tryz.results39, go_sem, e0, e1]) rfl ?_
      exact ⟨_, x2, rfl, HO.out.2.1, HO.out.2.2.2, HO.out.2.2.1⟩
  · have hz : (k == 0) = false := by simpa using z
    have HV2 := Lib.hid (HV.out z)
    go_enter Tryz.func39, Tryz.ntmps39
    go_wp2_with fail
    refine HG.out.mono ?_
    rintro e w1 ⟨rfl, hb1⟩
    have b00 := (HB.out.2.1.on hb1).c0
    have b01 := (HB.out.2.1.on hb1).c1
    have HB1 := Lib.hid hb1
    clear hb1 hW HG HV
    go_wp2_with fail
    refine (HV2.out _ HB1.out).mono ?_
    rintro e w2 ⟨rfl, hb2⟩
    have hb12 := HB1.out.on hb2
    have b00 := (HB.out.2.1.on hb12).c0
    have b01 := (HB.out.2.1.on hb12).c1
    have HB2 := Lib.hid hb12
    clear hb2 hb12 HV2
    obtain ⟨g', cap', hv', hc'⟩ := (HR.out.on HB2.out).open
    cases hv'
    have c1 := hc' 1 (by omega)
    rw [show ((1 : Nat) : Int) = 1 from rfl] at c1
    clear hc'
    go_wp2_with fail
    have k1 : IntKind.i64.wrap (4 * i) = 4 * i := IntWalk.i64_in _ (by omega)
    have k2 : IntKind.i64.wrap (4 * i + 4) = 4 * i + 4 := IntWalk.i64_in _ (by omega)
    have k3 : IntKind.u64.wrap k = k := IntWalk.u64_in _ (by omega)
    have n0 : 0 ≤ 4 * i := by omega
    have n1 : 4 * i ≤ 256 := by omega
    have n2 : (4 * i).toNat ≤ 256 := by omega
    have n3 : 0 ≤ 4 * i + 4 := by omega
    have n4 : 4 * i + 4 ≤ 256 := by omega
    have n5 : (4 * i + 4).toNat ≤ 256 := by omega
    have z1 : ((V 1).extract 0 (4 * i).toNat).size ≤ 256 := by rw [ByteArray.size_extract]; omega
    have z2 : (fixS k 4).size ≤ 4 := by rw [fixS_size4]; exact Nat.le_refl _
    have z3 : ((V 1).extract (4 * i + 4).toNat 256).size ≤ 256 := by rw [ByteArray.size_extract]; omega
    have z4 : ((V 1).extract 0 (4 * i).toNat ++ fixS k 4).size ≤ 260 := by rw [ByteArray.size_append]; omega
    have y1 : (9223372036854775807 < (4 * i).toNat + 4) = False := by simp; omega
    have y2 : (9223372036854775807 < (4 * i).toNat + 4 + (256 - (4 * i + 4).toNat)) = False := by simp; omega
    have hbd := HB2.out.on (show Below w2.heap.size w2 w2.drew by go_grown)
    have b00 := (HB.out.2.1.on hbd).c0
    have b01 := (HB.out.2.1.on hbd).c1
    have HBD := Lib.hid hbd
    clear hbd
    go_region_law (first
      | (go_simp; (with_reducible refine (HFX.out _).mono ?_); rintro e w5 ⟨rfl, hb5⟩
         have hb5' := HBD.out.on hb5
         have b00 := (HB.out.2.1.on hb5').c0
         have b01 := (HB.out.2.1.on hb5').c1
         have HB5 := Lib.hid hb5'
         clear hb5 hb5')
      | (go_simp; (with_reducible refine (HPT.out _ HB5.out).mono ?_); rintro e w6 ⟨v2, x2, rfl, hR, hlo, hb2⟩
         obtain ⟨g2, cap2, rfl, _⟩ := hR.open
         have hb12 := HB5.out.on hb2
         have D1 := HB.out.2.2.1.on hb12
         have z0 := D1.c0
         have z1 := D1.c1
         have y0 := D1.f 0
         have y1 := D1.f 1
         have hsz := HB5.out.size
         have hlt := HB.out.2.2.2
         have DS := D1.set (.slice (some ⟨g2, 0, none⟩) 12 cap2) (.slice sa sn sc)
         have hRS := hR.setBox (b := w.heap.size + 1) (u := .slice (some ⟨g2, 0, none⟩) 12 cap2) (u' := .slice sa sn sc) (by omega)
         have hBS := ((HB.out.1.on hb12).setCell (p := ⟨w.heap.size + 1, 0, none⟩) (Nat.le_succ _) (.slice (some ⟨g2, 0, none⟩) 12 cap2)).setCell (p := ⟨w.heap.size + 1, 1, none⟩) (Nat.le_succ _) (.slice sa sn sc)
         have HO := Lib.hid (And.intro DS (And.intro hRS (And.intro hBS (show w.heap.size ≤ x2.1 by omega))))
         clear DS hRS hBS D1 hR hlo hb2 hb12)
      | fail)
    all_goals
      go_wp2
      generalize (w6.setCell ⟨w.heap.size + 1, 0, none⟩ (.slice (some ⟨g2, 0, none⟩) 12 cap2)).setCell ⟨w.heap.size + 1, 1, none⟩ (.slice sa sn sc) = w7 at *
      have e0 := HO.out.1.c0
      have e1 := HO.out.1.c1
      refine bodyPost_ret (v := .tuple #[.agg #[.slice (some ⟨g2, 0, none⟩) 12 cap2, .slice sa sn sc], .int .i64 0]) (by simp [results, Tryz.results39, go_sem, e0, e1]) rfl ?_
      exact ⟨_, x2, rfl, HO.out.2.1, HO.out.2.2.2, HO.out.2.2.1⟩
end
end Go.Proofs.YtcoebinljdjemaaGreat
namespace Go.Proofs.YtcoebinljdjemaaGreat
set_option maxRecDepth 100000
open Go.ChangeShapes Go.WideShapes Go.ChangeAt Go.RowKit Go.PlainAid
open Go.Sort (grow)
attribute [local go_sem ↓ high] app_text

/-- Pages that nobody wrote. -/
def emptyV : Int → ByteArray := fun _ => filled ⟨#[]⟩
theorem pgs_empty : pgs emptyV = List.replicate 12 (filled ⟨#[]⟩) := rfl
set_option maxHeartbeats 1000000 in
theorem rnewp_any (w : World) : Calls Tryz.prog 7 #[.int .i64 12] w fun e w' => ∃ v x, e = .returned (.agg #[v, v]) ∧ RP v x emptyV w' ∧ w.heap.size ≤ x.1 ∧ Below w.heap.size w w' := by
  obtain ⟨W, hW, hbW, B0⟩ := boxes1 w (.slice none 0 0) (.slice none 0 0)
  have HR0 : Hid (W.ownsRow W.heap.size 9 1 (.slice none 0 0) 0 ((List.replicate 0 (filled ⟨#[]⟩)).map Value.string)) := Lib.hid (World.ownsRow_nil _ _ _ _)
  have HF := Lib.hid fun (w' : World) => filled_any ⟨#[]⟩ w' (by decide)
  have HB0 := Lib.hid (And.intro hbW (And.intro B0 (heap_lt B0.obj)))
  clear hbW B0
  go_enter Tryz.func7, Tryz.ntmps7
  go_wp2_with fail
  go_loopw [3, 4] (fun v i wr => ∃ k : Nat, k ≤ 12 ∧ i = .int .i64 k ∧ Below W.heap.size W wr ∧ wr.ownsRow W.heap.size 9 1 v k ((List.replicate k (filled ⟨#[]⟩)).map Value.string)) (fun _ i _ => 12 - (intOf i).toNat)
  case atStart => exact ⟨0, Nat.zero_le _, rfl, Below.refl _ _, HR0.out⟩
  case round =>
    obtain ⟨k, hk, rfl, hB, hrow⟩ := hrel
    have HB := Lib.hid hB
    have HR := Lib.hid hrow
    clear hB hrow HR0
    by_cases hlt : k < 12
    · go_wp2_with fail
      refine (HF.out _).mono ?_
      rintro e w2 ⟨rfl, hb2⟩
      have hlen : ((List.replicate k (filled ⟨#[]⟩)).map Value.string).length = k := by simp
      have hrow2 : w2.ownsRow W.heap.size 9 1 u3 k ((List.replicate k (filled ⟨#[]⟩)).map Value.string) := ownsRow_onM HR.out hb2
      have hB2 := HB.out.on hb2
      obtain ⟨g, cap, w3, p1, p2, p3⟩ := row_push (xs := (List.replicate k (filled ⟨#[]⟩)).map Value.string) (by rw [hlen]; exact hrow2) hB2.size (by rw [hlen]; omega) (filled ⟨#[]⟩) k hlen
      have e4 : (List.replicate k (filled ⟨#[]⟩)).map Value.string ++ [Value.string (filled ⟨#[]⟩)] = (List.replicate (k + 1) (filled ⟨#[]⟩)).map Value.string := by rw [List.replicate_succ']; simp
      rw [e4] at p2
      rw [List.length_map, List.length_replicate] at p2
      have HF3 := Lib.hid (And.intro (hB2.trans p3) p2)
      clear hrow2 hlen hB2 p2 p3 e4 hb2
      go_wp2
      go_roundw
      case rel => exact ⟨k + 1, by omega, by go_num, HF3.out.1, HF3.out.2⟩
      case measure => simp [intOf]; omega
    · obtain rfl : k = 12 := by omega
      obtain ⟨g, cap, cur, rfl, hg, hgb, hcur⟩ := row_open HR.out (by omega)
      have D1 := HB0.out.2.1.on HB.out
      have z0 := D1.c0
      have z1 := D1.c1
      have y0 := D1.f 0
      have y1 := D1.f 1
      have hlt0 := HB0.out.2.2
      have DS := D1.set (.slice (some ⟨g, 0, none⟩) 12 cap) (.slice (some ⟨g, 0, none⟩) 12 cap)
      have hRP : RP (.slice (some ⟨g, 0, none⟩) 12 cap) (g, Obj.cells cur 9 (0, 0)) emptyV wr := ⟨⟨g, cap, cur, by rw [pgs_len], List.mem_singleton.2 rfl, by rw [pgs_len, pgs_empty]; exact hcur⟩, hgb⟩
      have hRS := hRP.setBox (b := w.heap.size) (u := .slice (some ⟨g, 0, none⟩) 12 cap) (u' := .slice (some ⟨g, 0, none⟩) 12 cap) (by show g ≠ _; omega)
      have hBS := ((HB0.out.1.on HB.out).setCell (p := ⟨w.heap.size, 0, none⟩) (Nat.le_refl _) (.slice (some ⟨g, 0, none⟩) 12 cap)).setCell (p := ⟨w.heap.size, 1, none⟩) (Nat.le_refl _) (.slice (some ⟨g, 0, none⟩) 12 cap)
      have HO := Lib.hid (And.intro DS (And.intro hRS (And.intro hBS (show w.heap.size ≤ g by omega))))
      clear DS hRS hBS D1 hRP hg hgb hcur
      go_wp2
      generalize (wr.setCell ⟨w.heap.size, 0, none⟩ (.slice (some ⟨g, 0, none⟩) 12 cap)).setCell ⟨w.heap.size, 1, none⟩ (.slice (some ⟨g, 0, none⟩) 12 cap) = w6 at *
      have e0 := HO.out.1.c0
      have e1 := HO.out.1.c1
      refine bodyPost_ret (v := .agg #[.slice (some ⟨g, 0, none⟩) 12 cap, .slice (some ⟨g, 0, none⟩) 12 cap]) (by simp [results, Tryz.results7, go_sem, e0, e1]) rfl ?_
      exact ⟨_, _, rfl, HO.out.2.1, HO.out.2.2.2, HO.out.2.2.1⟩
end Go.Proofs.YtcoebinljdjemaaGreat
