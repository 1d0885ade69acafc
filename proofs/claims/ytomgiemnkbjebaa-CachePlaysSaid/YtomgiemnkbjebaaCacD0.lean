/- The law's does, kind 0. -/
import Derived.Test.YtomgiemnkbjebaaCacDa
namespace Go.Proofs.Ytomgiemnkbjebaa
set_option maxRecDepth 100000
open Go.ChangeShapes Go.WideShapes Go.ChangeAt Go.RowKit Go.PlainAid

namespace KA
attribute [local go_sem ↓ high] store_i app_i build_i store_c
set_option maxHeartbeats 4000000 in
theorem does_0 {w0 : World} {p q : Nat} {most : Nat} {L : List E} {w : World} (h : Both w0 p q (most : Int) L w) (key : Int) (val : ByteArray) (hq0 : w0.heap.size ≤ q) (hm1 : 1 ≤ most) (hm2 : most ≤ 1024) (hO : Once L) (hl : L.length ≤ most) :
    Calls Try.prog 11 #[.pointer (some ⟨p, 0, none⟩), .pointer (some ⟨q, 0, none⟩), .agg #[.int .i64 0, .int .i64 key, .string val]] w fun e w' => e = .returned (.bool true) ∧ Both w0 p q (most : Int) (stepL most ⟨0, key, val⟩ L) w' := by
  obtain ⟨ao, nn, cap, hC, hI⟩ := h
  have hqb : BoxC w q (most : Int) (.slice ao nn cap) := hC.mem (x := (q, bC (most : Int) (.slice ao nn cap))) (List.mem_singleton.2 rfl)
  have hq : q < w.heap.size := heap_in hqb
  obtain ⟨W1, hW1, hA1⟩ : ∃ W1, w.alloc (.cells #[.int .i64 0, .int .i64 key, .string val] 35) = W1 ∧ W1.heap[w.heap.size]? = some (.cells #[.int .i64 0, .int .i64 key, .string val] 35 (0, 0)) := ⟨_, rfl, heap_alloc_new w _⟩
  have hb1 : Below w.heap.size w W1 := by rw [← hW1]; go_grown
  have z1 : W1.heap.size = w.heap.size + 1 := by rw [← hW1]; simp
  have hb2' : Below W1.heap.size W1 (W1.alloc (.cells #[.int .i64 0, .slice none 0 0] 29)) := by go_grown
  have hN0 : BoxC (W1.alloc (.cells #[.int .i64 0, .slice none 0 0] 29)) W1.heap.size 0 (.slice none 0 0) := heap_alloc_new W1 _
  obtain ⟨W2, hst0, hN, _, hbel, hz2⟩ := hN0.store (most : Int) (.slice ao nn cap) rfl
  have hb2 := hbel _ _ hb2' (Nat.le_refl _)
  have z2 : W2.heap.size = w.heap.size + 2 := by rw [hz2]; simp [z1]
  obtain ⟨q0, q1, _⟩ := (hqb.on hb1 hq).read
  have hA2 := (hb2.block w.heap.size (by omega)).trans hA1
  have a0 : W2.cell? ⟨w.heap.size, 0, none⟩ = some (.int .i64 0) := by rw [cell_of_row _ _ _ _ _ _ hA2]; rfl
  have hC2 := (hC.add hb1 (Nat.le_refl _) hA1).add hb2 (Nat.le_refl _) hN
  have HC2 := Lib.hid hC2
  have hI2 : Items w0.heap.size W2 (.slice ao nn cap) L := ownsRow_on hI (hb1.on hb2)
  have HI2 := Lib.hid hI2
  have HO := Lib.hid hO
  have hb0 := hC.base
  have HZ := Lib.hid (And.intro z1 (And.intro z2 (And.intro hq (And.intro hq0 hC.below))))
  clear hC hI hqb hb1 z1 hb2' hN0 hN hbel hz2 hb2 z2 hA2 hA1 hC2 hI2 hO
  go_enter Try.func11, Try.ntmps11
  go_upto_block 0 with fail
  clear hW1 hst0 q0 q1
  generalize W1.heap.size = N at *
  go_cut [8] (fun s8 wx => s8 = .bool true ∧ NX w0 p q w.heap.size N (most : Int) (.cells #[.int .i64 0, .int .i64 key, .string val] 35 (0, 0)) (stepL most ⟨0, key, val⟩ L) (stepL most ⟨0, key, val⟩ L) wx)
  case first =>
    have hN0 : w0.heap.size ≤ N := by have := HZ.out.2.2.2.2.size; have := HZ.out.1; omega
    have hAN : w.heap.size ≠ N := by have := HZ.out.1; omega
    have hqN : q ≠ N := by have := HZ.out.1; have := HZ.out.2.2.1; omega
    have c1 : W2.cell? ⟨w.heap.size, 1, none⟩ = some (.int .i64 key) := by rw [cell_of_row _ _ _ _ _ _ (HC2.out.mem (x := (w.heap.size, .cells #[.int .i64 0, .int .i64 key, .string val] 35 (0, 0))) (List.mem_cons_of_mem _ List.mem_cons_self))]; rfl
    have c2 : W2.cell? ⟨w.heap.size, 2, none⟩ = some (.string val) := by rw [cell_of_row _ _ _ _ _ _ (HC2.out.mem (x := (w.heap.size, .cells #[.int .i64 0, .int .i64 key, .string val] 35 (0, 0))) (List.mem_cons_of_mem _ List.mem_cons_self))]; rfl
    have hqW : BoxC W2 q (most : Int) (.slice ao nn cap) := HC2.out.mem (x := (q, bC (most : Int) (.slice ao nn cap))) (List.mem_cons_of_mem _ (List.mem_cons_of_mem _ List.mem_cons_self))
    obtain ⟨q0, q1, _⟩ := hqW.read
    have hn0 : w0.heap.size ≤ W2.heap.size := by have := HZ.out.2.2.2.2.size; have := HZ.out.2.1; omega
    have hba : Below W2.heap.size W2 (W2.alloc (.cells #[.int .i64 0, .slice none 0 0] 29)) := by go_grown
    have q0' := (hba.cell (p := ⟨q, 0, none⟩) (heap_in hqW)).trans q0
    have q1' := (hba.cell (p := ⟨q, 1, none⟩) (heap_in hqW)).trans q1
    have hAl : w.heap.size < W2.heap.size := by have := HZ.out.2.1; omega
    have c1' := (hba.cell (p := ⟨w.heap.size, 1, none⟩) hAl).trans c1
    have c2' := (hba.cell (p := ⟨w.heap.size, 2, none⟩) hAl).trans c2
    have hqS := heap_in hqW
    clear hqW hba
    obtain ⟨g, gb, M, hg, hgb, hM⟩ : ∃ g gb M, (getV key L).getD ⟨#[]⟩ = g ∧ (getV key L).isSome = gb ∧ getL key L = M := ⟨_, _, _, rfl, rfl, rfl⟩
    obtain ⟨ha1, ha2⟩ := ra_both (f := 25) (args := #[.agg #[.int .i64 (most : Int), .slice ao nn cap], .int .i64 key]) (ret := fun u => .returned (.tuple #[.agg #[.int .i64 (most : Int), u], .string g, .bool gb])) (M := M) HC2.out hn0 (fun W' hW' => (rget_any (ownsRow_on HI2.out hW') (Nat.le_trans hn0 hW'.size) HO.out (most : Int) key (by omega)).mono (by
      rintro e w5 ⟨u, rfl, hI5, hb5⟩
      obtain ⟨ao5, nn5, cap5, rfl⟩ := items_slice hI5
      rw [hg, hgb]
      rw [hM] at hI5
      exact ⟨ao5, nn5, cap5, rfl, hI5, hb5⟩))
    have HA1 := Lib.hid ha1
    have HA2 := Lib.hid ha2
    clear ha1 ha2
    have HST : Hid (stepL most ⟨0, key, val⟩ L = M) := Lib.hid hM
    have HGT := Lib.hid (fun (nb : Nat) (ao5 : Option Addr) (nn5 cap5 : Nat) (w' : World) (hS : SA w0 p (most : Int) L M (.slice ao5 nn5 cap5) nb [(N, bC (most : Int) (.slice ao nn cap)), (w.heap.size, .cells #[.int .i64 0, .int .i64 key, .string val] 35 (0, 0)), (q, bC (most : Int) (.slice ao nn cap))] w') => sa_get hS (Nat.le_trans hl (by omega)) g gb hg hgb hM)
    clear hg hgb hM
    go_upto_region 7 with fail
    go_cut [9, 10, 11] (fun s9 s10 s11 wx => ∃ ao5 nn5 cap5 nb, s9 = .pointer (some ⟨nb, 0, none⟩) ∧ s10 = .string g ∧ s11 = .bool gb ∧ SA w0 p (most : Int) L M (.slice ao5 nn5 cap5) nb [(N, bC (most : Int) (.slice ao nn cap)), (w.heap.size, .cells #[.int .i64 0, .int .i64 key, .string val] 35 (0, 0)), (q, bC (most : Int) (.slice ao nn cap))] wx)
    case first =>
      clear HST HGT HC2 HI2 HO hN0 hAN hqN hn0 hAl hm1 hm2 hl hq hq0 hb0 hqS HZ
      go_region_with (first
        | (go_at_call 25; (with_reducible refine HA1.out.mono ?_); rintro e w5 ⟨ao5, nn5, cap5, W6, rfl, hst, HS⟩)
        | (go_at_call 25; (with_reducible refine HA2.out.mono ?_); rintro e w5 ⟨ao5, nn5, cap5, W6, rfl, hst, HS⟩))
      all_goals go_wp2_with fail
      all_goals go_simp
      all_goals go_meet
      all_goals exact ⟨ao5, nn5, cap5, _, rfl, rfl, rfl, HS.out⟩
    case rest =>
      obtain ⟨ao5, nn5, cap5, nb, rfl, rfl, rfl, hS⟩ := hcut
      have d1 := (sa_act (x := ⟨0, key, val⟩) hS).1
      have HG := Lib.hid (HGT.out nb ao5 nn5 cap5 _ hS)
      clear hS HA1 HA2 HGT q0 q1 q0' q1' c1 c2 c1' c2' a0
      go_wp2_with fail
      refine HG.out.mono ?_
      rintro e w7 ⟨rfl, hS7⟩
      obtain ⟨⟨n0, n1⟩, W8, hst8, hX⟩ := sa_store hS7 hN0 hAN hqN
      have HX := Lib.hid hX
      clear hS7 hX d1 HG
      go_wp2_with fail
      go_meet
      rw [HST.out]
      exact ⟨by simp, HX.out⟩
  case rest =>
    obtain ⟨rfl, hX⟩ := hcut
    obtain ⟨ao', nn', cap', w9, n0, n1, hst9, hB⟩ := nx_fin hX HZ.out.2.2.2.1
    have HB := Lib.hid hB
    clear hX hB
    go_wp2_with fail
    go_returns
    exact ⟨rfl, HB.out⟩
end KA
end Go.Proofs.Ytomgiemnkbjebaa
