/- Package lin: Unique. -/
import Derived.Test.YtpooekmogfkkjaaGG
import Derived.Deep.CutBlock
namespace Go.Proofs.Ytpooekmogfkkjaa
set_option maxRecDepth 100000
open Go.ChangeShapes Go.WideShapes Go.ChangeAt Go.RowKit Go.PlainAid Go.Deep Go.Sort
namespace Ln
attribute [local go_sem ↓ high] app_tx app_st
theorem mtext_any {v : Value} {L : List Int} {w : World} (h : IntsOf w v L) (hl : L.length ≤ 1000000000) : Calls Try.prog 31 #[v] w fun e w' => e = .returned (.string (textS L)) ∧ Below w.heap.size w w' :=
  text_any v L w h fun B b a s w1 hb hs hB => bwrite_any B b _ s w1 hb (by rw [cells_size]; omega) hB
theorem textS_size {L : List Int} (h : Okz L) : (textS L).size ≤ 10 * L.length + 10 := by
  have h1 := body_size L h.inr
  have h2 := varS_size (L.length : Int) (by omega) (by have := h.len; omega)
  unfold textS
  rw [ByteArray.size_append]
  omega
theorem mstate_any {s : List Int} (h : Okz s) (hl : s.length ≤ 1000000000) (w : World) : Calls Try.prog 34 #[.string (textS s)] w fun e w' => ∃ v', e = .returned (.tuple #[v', .int .i64 ((textS s).size : Int)]) ∧ OwnI w.heap.size w' v' s ∧ Below w.heap.size w w' := by
  have hz := textS_size h
  have hs := state_text h
  refine (state_any (textS s) w (by omega) (.inl (by omega))).mono ?_
  rintro _ w' ⟨v', rfl, ho, hb⟩
  rw [hs] at ho ⊢
  exact ⟨v', rfl, ho, hb⟩
theorem take_succ {α : Type} {l : List α} {i : Nat} {x : α} (h : l[i]? = some x) : l.take (i + 1) = l.take i ++ [x] := by rw [List.take_add_one, h]; rfl
theorem tx_push {n₀ : Nat} {W : World} {v : Value} {n : Nat} {a : List Value} (h : W.ownsRow n₀ 9 1 v n a) (s : ByteArray) (hn : n₀ ≤ W.heap.size) (hl : n < 100000000) :
    ∃ v' W', (appTx #[v, .slice (some ⟨W.heap.size, 0, none⟩) 1 1]).run Try.prog (W.alloc (.cells #[.string s] 9)) = .ok v' W' ∧ W'.ownsRow n₀ 9 1 v' (n + 1) (a ++ [.string s]) ∧ Below n₀ W W' := by
  obtain ⟨v', W', hr, ho, hk⟩ := row_push rtTx_good h [.string s] rfl (fun x hx => by rw [List.mem_singleton.1 hx]; rfl) hn hl
  exact ⟨v', W', hr, ho, hk.below (fun i hi => (h.lt i hi).1) hn⟩
set_option maxHeartbeats 4000000 in
theorem unique_any {v : Value} {l : List (List Int)} {w : World} (h : Sts w v l) (hk : ∀ s ∈ l, s.length ≤ 1000000000) (hl : l.length ≤ 20000000) :
    Calls Try.prog 15 #[v] w fun e w' => ∃ v', e = .returned v' ∧ ∃ r, StsOwn w.heap.size w' v' r ∧ US l r ∧ Below w.heap.size w w' := by
  obtain ⟨al, cl, rfl⟩ := h.len
  have hok : ∀ s ∈ l, Okz s := fun s hs => by
    obtain ⟨i, hi⟩ := List.getElem?_of_mem hs
    obtain ⟨b, p, cap, u, _, _, _, hu⟩ := h.at hi
    exact ⟨hu.inI, by have := hk s hs; omega⟩
  have H := Lib.hid h
  have HK := Lib.hid hk
  have HOK := Lib.hid hok
  have HUS := Lib.hid (us_sorted hok)
  have HI0 := Lib.hid (show w.ownsRow w.heap.size 9 1 (.slice none 0 0) 0 ((l.take 0).map fun s => Value.string (textS s)) ∧ Below w.heap.size w w from ⟨World.ownsRow_nil _ _ _ _, Below.refl _ _⟩)
  clear h hk hok
  go_enter Try.func15, Try.ntmps15
  go_wp2_with fail
  go_loopw [3, 13] (fun s3 s13 wr => ∃ (i : Nat) (aA : Option Addr) (cA : Nat), s13 = .int .i64 i ∧ s3 = .slice aA i cA ∧ i ≤ l.length ∧ Hid (wr.ownsRow w.heap.size 9 1 (.slice aA i cA) i ((l.take i).map fun s => Value.string (textS s)) ∧ Below w.heap.size w wr)) (fun _ s13 _ => l.length - (intOf s13).toNat)
  case atStart => exact ⟨0, none, 0, rfl, rfl, Nat.zero_le _, HI0⟩
  case round =>
    clear HI0
    obtain ⟨i, aA, cA, rfl, rfl, hi, HI⟩ := hrel
    by_cases hil : i < l.length
    · have q1 : (i : Int) < (l.length : Int) := by omega
      have q2 : IntKind.i64.wrap ((i : Int) + 1) = (i : Int) + 1 := IntWalk.i64_in _ (by omega)
      obtain ⟨s, hs⟩ : ∃ s, l[i]? = some s := ⟨_, List.getElem?_eq_getElem hil⟩
      obtain ⟨b, p, cap, u, hv, hlt, hc, hu⟩ := (H.out.on HI.out.2).at hs
      obtain rfl : al = some ⟨b, p, none⟩ := by cases hv; rfl
      have hsl : s.length ≤ 1000000000 := HK.out s (List.mem_of_getElem? hs)
      obtain ⟨au, cu, rfl, _⟩ := hu.parts
      have HU := Lib.hid hu
      have HS := Lib.hid hs
      clear hv hu hs hlt
      go_wp2_with fail
      refine (mtext_any HU.out hsl).mono ?_
      rintro _ w1 ⟨rfl, hb1⟩
      have hb01 := HI.out.2.on hb1
      obtain ⟨v2, w2, hr2, ho2, hb2⟩ := tx_push (ownsRow_onI HI.out.1 hb1) (textS s) hb01.size (by omega)
      obtain ⟨a2, c2, rfl, _⟩ := own_len ho2
      have HE := Lib.hid (show w2.ownsRow w.heap.size 9 1 (.slice a2 (i + 1) c2) (i + 1) ((l.take (i + 1)).map fun s => Value.string (textS s)) ∧ Below w.heap.size w w2 from ⟨by rw [take_succ HS.out, List.map_append]; exact ho2, hb01.trans hb2⟩)
      clear hb1 hb01 ho2 hb2
      go_wp2_with fail
      go_roundw
      case measure => simp [intOf] <;> omega
      case rel => exact ⟨i + 1, a2, c2, by simp, by simp, by omega, HE⟩
    · obtain rfl : i = l.length := by omega
      have q1 : ¬ ((l.length : Int) < (l.length : Int)) := by omega
      obtain ⟨hrow, hbel⟩ := HI.out
      rw [List.take_length] at hrow
      have e1 : (l.map fun s => Value.string (textS s)) = (l.map fun s => bytesOf (textS s)).map encStr := by
        rw [List.map_map]
        exact List.map_congr_left fun s _ => by rw [Function.comp, encStr, bytes_back]
      rw [e1] at hrow
      have hll : (l.map fun s => bytesOf (textS s)).length = l.length := List.length_map _
      have HR := Lib.hid (show wr.ownsRow w.heap.size 9 1 (.slice aA l.length cA) (l.map fun s => bytesOf (textS s)).length ((l.map fun s => bytesOf (textS s)).map encStr) by rw [hll]; exact hrow)
      have HB := Lib.hid hbel
      clear HI hrow hbel e1 hll
      generalize hgt : (l.map fun s => bytesOf (textS s)) = ts at HR HUS
      have hlt : ts.length = l.length := by rw [← hgt]; exact List.length_map _
      have HGT := Lib.hid hgt
      clear hgt
      go_wp2_with fail
      refine (sort_texts HR.out HB.out.size (by omega)).mono ?_
      rintro _ w1 ⟨rfl, hs1, hb1⟩
      have HB1 := Lib.hid (HB.out.trans hb1)
      have hms : (ts.mergeSort fun x y => decide (x ≤ y)).length = ts.length := List.length_mergeSort _
      have HS1 := Lib.hid (show w1.ownsRow w.heap.size 9 1 (.slice aA l.length cA) (ts.mergeSort fun x y => decide (x ≤ y)).length ((ts.mergeSort fun x y => decide (x ≤ y)).map encStr) by rw [hms]; exact hs1)
      clear hs1 hb1
      go_wp2_with fail
      refine (compact_texts HS1.out HB1.out.size (by omega)).mono ?_
      rintro _ w2 ⟨v2, rfl, hs2, hb2⟩
      have HB2 := Lib.hid (HB1.out.trans hb2)
      have hcm : ∀ t ∈ Lib.compact (ts.mergeSort fun x y => decide (x ≤ y)), ∃ s ∈ l, bytesOf (textS s) = t := fun t ht => by
        have := (compact_mem _ t).1 ht
        rw [List.mem_mergeSort, ← HGT.out, List.mem_map] at this
        exact this
      have hcl : (Lib.compact (ts.mergeSort fun x y => decide (x ≤ y))).length ≤ 20000000 := by
        refine Nat.le_trans ?_ (show ts.length ≤ 20000000 by omega)
        unfold Lib.compact Lib.compactUpTo
        rw [List.length_map]
        refine Nat.le_trans (List.length_filter_le _ _) ?_
        rw [List.length_range, hms]
        exact Nat.le_refl _
      generalize Lib.compact (ts.mergeSort fun x y => decide (x ≤ y)) = cs at hs2 HUS hcm hcl
      have HCM := Lib.hid hcm
      have hrd := own_rd hs2
      obtain ⟨a2, c2, rfl⟩ := hrd.len
      have HRD := Lib.hid hrd
      have HJ0 := Lib.hid (show StsOwn w2.heap.size w2 (.slice none 0 0) ((cs.take 0).map fun t => (stateP ⟨t.toArray⟩).1) ∧ Below w2.heap.size w2 w2 from ⟨StsOwn.nil _ _, Below.refl _ _⟩)
      clear hs2 hb2 hcm hrd
      go_wp2_with fail
      go_loopw [6, 28] (fun s6 s28 wr => ∃ (j : Nat) (aA : Option Addr) (cA : Nat), s28 = .int .i64 j ∧ s6 = .slice aA j cA ∧ j ≤ cs.length ∧ Hid (StsOwn w2.heap.size wr (.slice aA j cA) ((cs.take j).map fun t => (stateP ⟨t.toArray⟩).1) ∧ Below w2.heap.size w2 wr)) (fun _ s28 _ => cs.length - (intOf s28).toNat)
      case atStart => exact ⟨0, none, 0, rfl, rfl, Nat.zero_le _, HJ0⟩
      case round =>
        clear HJ0
        obtain ⟨j, aJ, cJ, rfl, rfl, hj, HJ⟩ := hrel
        by_cases hjl : j < cs.length
        · have q3 : (j : Int) < (cs.length : Int) := by omega
          have q4 : IntKind.i64.wrap ((j : Int) + 1) = (j : Int) + 1 := IntWalk.i64_in _ (by omega)
          obtain ⟨t, ht⟩ : ∃ t, cs[j]? = some t := ⟨_, List.getElem?_eq_getElem hjl⟩
          obtain ⟨s, hs, hst⟩ := HCM.out t (List.mem_of_getElem? ht)
          have hdt : (stateP ⟨t.toArray⟩).1 = s := by rw [← hst, bytes_back, state_text (HOK.out s hs)]
          obtain ⟨b, p, cap, hv, hlt2, hc⟩ := (HRD.out.on HJ.out.2).at (by omega)
          obtain rfl : a2 = some ⟨b, p, none⟩ := by cases hv; rfl
          have g1 : wr.cell? ⟨b, p + j, none⟩ = some (.string (textS s)) := hc j _ (by rw [List.getElem?_map, ht, ← hst]; simp [encStr, bytes_back])
          have HT := Lib.hid (And.intro ht hdt)
          have HOS := Lib.hid (And.intro (HOK.out s hs) (HK.out s hs))
          clear hv hlt2 hc ht hdt hs hst
          go_wp2_with fail
          refine (mstate_any HOS.out.1 HOS.out.2 _).mono ?_
          rintro _ w3 ⟨v3, rfl, ho3, hb3⟩
          have hb23 := HJ.out.2.on hb3
          obtain ⟨v4, w4, hr4, ho4, hk4⟩ := sts_push (HJ.out.1.on hb3) (ho3.base (Nat.zero_le _)) hb23.size (by rw [List.length_map, List.length_take]; omega)
          obtain ⟨a3, c3, rfl⟩ := ho3.len
          obtain ⟨a4, c4, rfl⟩ := ho4.reads.len
          have hb4 : Below w2.heap.size w3 w4 := hk4.below (fun k e => by
            obtain ⟨vs, h1, _⟩ := HJ.out.1.on hb3
            exact (h1.lt k e).1) hb23.size
          have hlen : ((cs.take j).map fun t => (stateP ⟨t.toArray⟩).1).length = j := by rw [List.length_map, List.length_take]; omega
          have e5 : ((cs.take j).map fun t => (stateP ⟨t.toArray⟩).1) ++ [s] = (cs.take (j + 1)).map fun t => (stateP ⟨t.toArray⟩).1 := by rw [take_succ HT.out.1, List.map_append, ← HT.out.2]; rfl
          have e6 : (((cs.take j).map fun t => (stateP ⟨t.toArray⟩).1) ++ [s]).length = j + 1 := by rw [List.length_append, hlen]; rfl
          rw [e6] at hr4 ho4
          rw [e5] at ho4
          have HE := Lib.hid (And.intro ho4 (hb23.trans hb4))
          clear hb3 hb23 ho3 ho4 hk4 hb4 hlen e5 e6
          go_wp2_with fail
          go_roundw
          case measure => simp [intOf] <;> omega
          case rel => exact ⟨j + 1, a4, c4, by simp, by simp, by omega, HE⟩
        · obtain rfl : j = cs.length := by omega
          have q3 : ¬ ((cs.length : Int) < (cs.length : Int)) := by omega
          go_wp2_with fail
          go_returns
          obtain ⟨h1, h2⟩ := HJ.out
          rw [List.take_length] at h1
          exact ⟨_, rfl, _, h1.base HB2.out.size, HUS.out, HB2.out.trans (h2.mono HB2.out.size)⟩
end Ln
end Go.Proofs.Ytpooekmogfkkjaa
