import Derived.Test.YtcjfnfdinhbdlaaGreatDoorGaf
import Derived.Test.YtcjfnfdinhbdlaaGreatDoorGad
namespace Go.Proofs.YtcjfnfdinhbdlaaGreatDoor
set_option maxRecDepth 100000
open Go.ChangeShapes Go.WideShapes Go.ChangeAt Go.RowKit Go.PlainAid
theorem setCells_row {w : World} {b o : Nat} {cur : Array Value} {t : TypeId} {vs : List Value} (h : w.heap[b]? = some (.cells cur t (0, 0))) (hs : o + vs.length ≤ cur.size) (h1 : ∀ v ∈ vs, v.oneCell' = true) :
    w.setCells b o vs = w.setRow b (cur.toList.take o ++ vs ++ cur.toList.drop (o + vs.length)).toArray := by
  have a := run_storeCells_at Tryz.prog b o t vs 0 cur w h (by simpa using hs) h1
  have c := run_storeCells_cells (P := Tryz.prog) b o vs 0 w (fun j hj => by
    rw [cell_of_row _ _ _ _ _ _ h]
    rw [Array.getElem?_eq_getElem (by omega)]
    rfl) (fun j _ => frozen_of_row _ _ _ _ _ h) h1
  rw [a] at c
  simp only [Nat.add_zero] at c
  injection c with _ c
  exact c.symm
theorem add_off (g b : Nat) : (⟨g, 0, none⟩ : Addr).add b = ⟨g, b, none⟩ := by
  unfold Addr.add
  split
  · next h => rw [h]
  · rw [Nat.zero_add]
namespace KA
theorem elem_e : Tryz.prog.elem 210 = 228 := by kernel_rfl
theorem under_e : Tryz.prog.underlying 210 = some (.slice (Tryz.prog.elem 210)) := by kernel_rfl
theorem info_e : (Tryz.prog.info? 228).map (·.size) = some 3 := by kernel_rfl
def offE (cap : Nat) : Nat := if cap = 1 then 0 else 3
theorem slice_up (g n cap i : Nat) (hi : i < n) (hc : n ≤ cap) (w : World) : (Instr.slice 210 (.slice (some ⟨g, 0, none⟩) n cap) (some (.int .i64 1)) (some (.int .i64 ((i : Int) + 1))) none).run Tryz.prog w = .ok (.slice (some ⟨g, offE cap, none⟩) i (cap - 1)) w := by
  rw [run_slice_lh (P := Tryz.prog) w 210 (some ⟨g, 0, none⟩) n cap under_e .i64 .i64 1 ((i : Int) + 1) (by omega) (by omega) (by omega), elem_e, Tryz.sizeOf228]
  show Result.ok (sliced _ _ _ _ _) w = _
  unfold sliced offE
  have e1 : ((i : Int) + 1).toNat = i + 1 := by omega
  have e2 : (1 : Int).toNat = 1 := rfl
  rw [e1, e2, Nat.add_sub_cancel]
  by_cases h : cap = 1
  · simp [h]
  · simp [h, add_off]
theorem slice_lo (g n cap i : Nat) (hi : i ≤ cap) (w : World) : (Instr.slice 210 (.slice (some ⟨g, 0, none⟩) n cap) none (some (.int .i64 (i : Int))) none).run Tryz.prog w = .ok (.slice (some ⟨g, 0, none⟩) i cap) w := by
  rw [run_slice_h (P := Tryz.prog) w 210 (some ⟨g, 0, none⟩) n cap under_e .i64 (i : Int) (by omega) (by omega), elem_e, Tryz.sizeOf228]
  show Result.ok (sliced _ _ _ _ _) w = _
  unfold sliced
  rw [Int.toNat_natCast]
  by_cases h : cap = 0 <;> simp [h, add_off]
theorem info_e2 : (Tryz.prog.info? 228).map (fun i => (i.zero, i.size, i.bytes)) = some (some (.agg #[.int .i64 0, .string ⟨#[]⟩, .int .i64 0]), 3, 32) := by kernel_rfl
def copyE (vs : Array Value) : Sem Value := Builtin.copy_ #[210, 210] 3 vs
theorem copy_e (vs : Array Value) : Builtin.copy_ #[210, 210] 3 vs = copyE vs := rfl
theorem store_e (p v : Value) : Instr.storeAt 228 p v = storeS 228 p v := rfl
theorem copy_up {w : World} {g cap : Nat} {cur : Array Value} {L : List E} {i : Nat} {x : E} (hg : w.heap[g]? = some (.cells cur 228 (0, 0))) (hx : L[i]? = some x) (hlc : L.length ≤ cap) (hcs : cur.size = cap * 3)
    (ht : cur.toList.take (L.length * 3) = flat cE L) : ∃ cur2 : Array Value, (copyE #[.slice (some ⟨g, offE cap, none⟩) i (cap - 1), .slice (some ⟨g, 0, none⟩) i cap]).run Tryz.prog w = .ok (.int .i64 (i : Int)) (w.setRow g cur2) ∧
      cur2.size = cap * 3 ∧ cur2.toList.drop 3 = cur.toList.take (i * 3) ++ cur.toList.drop ((i + 1) * 3) := by
  have hi := (List.getElem?_eq_some_iff.1 hx).1
  have ho : offE cap + i * 3 ≤ cap * 3 ∧ (offE cap = 3 ∨ (offE cap = 0 ∧ i = 0)) := by
    unfold offE
    split <;> omega
  have hr := run_copy_row3 (P := Tryz.prog) w 210 210 3 _ g (offE cap) i (cap - 1) i cap cur _ under_e (by rw [elem_e]; exact info_e) hg rfl (by rw [hcs]; exact ho.1) (fun v hv => by
    rw [take3 three ht (by omega)] at hv
    exact flat_one three _ v hv)
  refine ⟨_, hr, ?_, ?_⟩
  · simp only [List.size_toArray, List.length_append, List.length_take, List.length_drop, Array.length_toList]
    omega
  · rcases ho.2 with h | ⟨h, rfl⟩
    · rw [h]
      have h3 : (cur.toList.take 3).length = 3 := by rw [List.length_take, Array.length_toList]; omega
      show (List.take 3 cur.toList ++ _ ++ _).drop 3 = _
      rw [List.append_assoc, List.drop_append, h3, List.drop_of_length_le (by omega), show (i + 1) * 3 = 3 + i * 3 by omega]
      rfl
    · rw [h]
      simp
theorem store_up {w : World} {g cap : Nat} {cur2 : Array Value} {x : E} (hg : w.heap[g]? = some (.cells cur2 228 (0, 0))) (hs : cur2.size = cap * 3) {i : Nat} (hi : i < cap) :
    (storeS 228 (.pointer (some ⟨g, i * 3, none⟩)) (.agg (cE x).toArray)).run Tryz.prog w = .ok () (w.setRow g (cur2.toList.take (i * 3) ++ cE x ++ cur2.toList.drop (i * 3 + 3)).toArray) := by
  have h := storeMany_range (P := Tryz.prog) (t := 228) (w := w) (g := g) (o := i * 3) (cE x) ?_ (by rw [info_e]; rfl) (fun v hv => three.one x v hv)
  · rw [setCells_row hg (by show i * 3 + 3 ≤ _; omega) (fun v hv => three.one x v hv)] at h
    exact h
  · intro j hj
    have hj3 : j < 3 := hj
    refine ⟨?_, frozen_of_row _ _ _ _ _ hg⟩
    rw [cell_of_row _ _ _ _ _ _ hg, Array.getElem?_eq_getElem (by omega)]
    rfl
theorem below_row {w w' : World} {B g : Nat} (h : Below B w w') (hb : B ≤ g) (cs : Array Value) : Below B w (w'.setRow g cs) :=
  ⟨h.os, h.tape, h.output, by simp; exact h.size, fun k hk => (setRow_other w' g k cs (by omega)).trans (h.block k hk)⟩
theorem store_new (w : World) (x : E) (c : Array Value) (hc : c.size = 3) : (storeS 228 (.pointer (some ⟨w.heap.size, 0, none⟩)) (.agg #[.int .i64 x.key, .string x.val, .int .i64 (x.pins : Int)])).run Tryz.prog (w.alloc (.cells c 228)) = .ok () (w.alloc (.cells #[.int .i64 x.key, .string x.val, .int .i64 (x.pins : Int)] 228)) := by
  have h := run_storeVar_row (P := Tryz.prog) (w.alloc (.cells c 228)) w.heap.size 228 228 c #[.int .i64 x.key, .string x.val, .int .i64 (x.pins : Int)] (heap_alloc_new _ _) (by rw [info_e]; rfl) hc (all_oneCell_toArray (three.one x))
  rw [setRow_alloc] at h
  unfold storeS
  simp only [Instr.storeAt, Instr.sureAddr, Sem.run_bind, Sem.run_pure, Result.andThen_ok, h]
theorem drew_below {w w' : World} {B : Nat} (h : Below B w w') : Below B w w'.drew := ⟨h.os, h.tape, h.output, h.size, h.block⟩
def UsePost (w0 : World) (p : Nat) (most : Int) (L : List E) (R : List (Nat × Obj)) (i : Nat) (e : Ending) (w' : World) : Prop :=
  ∃ g cap, e = .returned (.pointer (some ⟨g, 0, none⟩)) ∧ w'.heap[p]? = some (.cells #[.int .i64 most, .slice (some ⟨g, 0, none⟩) L.length cap] 212 (0, 0)) ∧ CaT w0 p most (useL i L) R w'
attribute [local go_sem ↓ high] copy_e store_e
set_option maxHeartbeats 400000 in
theorem use_any {w0 : World} {p : Nat} {most : Int} {L : List E} {R : List (Nat × Obj)} {w : World} (h : CaT w0 p most L R w) (i : Nat) (hi : i < L.length) (hl : L.length ≤ 4096) :
    Calls Tryz.prog 161 #[.pointer (some ⟨p, 0, none⟩), .int .i64 (i : Int)] w (UsePost w0 p most L R i) := by
  obtain ⟨x, hx⟩ : ∃ x, L[i]? = some x := ⟨_, List.getElem?_eq_getElem hi⟩
  obtain ⟨v, hp, hr, _⟩ := h.row
  obtain ⟨hm, hu, _⟩ := box_cells hp
  obtain ⟨g, cap, cur, rfl, hg0, hg, hlc, hcm, hcs, ht⟩ := hr.block (by omega)
  obtain ⟨hc0, hc1, hc2⟩ := row_cells hr hx
  have H := Lib.hid h
  have HR := Lib.hid hr
  have HP := Lib.hid hp
  have HG := Lib.hid hg
  have HX := Lib.hid hx
  have HT := Lib.hid ht
  have HCS := Lib.hid hcs
  have h1 := slice_up g L.length cap i hi hlc
  have h2 := slice_lo g L.length cap i (by omega)
  have hw : IntKind.i64.wrap ((i : Int) + 1) = (i : Int) + 1 := IntWalk.i64_in _ (by omega)
  clear h hp hr hg hx ht hcs
  have hsn := store_new w x #[.int .i64 0, .string ⟨#[]⟩, .int .i64 0] rfl
  go_enter Tryz.func161, Tryz.ntmps161
  go_wp2_with fail
  clear hsn
  have hgp : p ≠ g := fun e => by
    subst e
    have := HG.out.symm.trans HP.out
    cases this
  generalize hW : w.alloc (.cells #[.int .i64 x.key, .string x.val, .int .i64 (x.pins : Int)] 228) = W
  have hbW : Below w.heap.size w W := by rw [← hW]; go_grown
  have hp1 := (hbW.block p (heap_in HP.out)).trans HP.out
  have hg1 := (hbW.block g (heap_in HG.out)).trans HG.out
  have hx1 : W.heap[w.heap.size]? = some (.cells #[.int .i64 x.key, .string x.val, .int .i64 (x.pins : Int)] 228 (0, 0)) := by rw [← hW]; exact heap_alloc_new _ _
  have hu1 := (box_cells hp1).2.1
  obtain ⟨cur2, hcopy, hs2, hd2⟩ := copy_up (w := W.drew) hg1 HX.out hlc HCS.out HT.out
  clear hW
  go_still_tail 13, (by kernel_rfl)
  go_wp2_with fail
  have HBW := Lib.hid hbW
  have hnp : w.heap.size ≠ g := fun e => by have := heap_in HG.out; omega
  have hg2 : (W.drew.setRow g cur2).heap[g]? = some (.cells cur2 228 (0, 0)) := setRow_heap W.drew g cur _ _ _ hg1
  have hp2 : (W.drew.setRow g cur2).heap[p]? = some (.cells #[.int .i64 most, .slice (some ⟨g, 0, none⟩) L.length cap] 212 (0, 0)) := (setRow_other W.drew g p cur2 hgp).trans hp1
  have hx2 : (W.drew.setRow g cur2).heap[w.heap.size]? = some (.cells #[.int .i64 x.key, .string x.val, .int .i64 (x.pins : Int)] 228 (0, 0)) := (setRow_other W.drew g _ cur2 hnp).trans hx1
  have HO : Hid (∀ k, k < w.heap.size → k ≠ g → (W.drew.setRow g cur2).heap[k]? = w.heap[k]?) := Lib.hid fun k hk hne => (setRow_other W.drew g k cur2 hne).trans (HBW.out.block k hk)
  have HB2 : Hid (Below w0.heap.size w (W.drew.setRow g cur2)) := Lib.hid (below_row (w' := W.drew) (drew_below (HBW.out.mono H.out.below.size)) hg0 cur2)
  clear hcopy hu1 hg1 hp1 hx1 hbW HBW hc0 hc1 hc2 hu hm hw h1 h2
  generalize W.drew.setRow g cur2 = W2 at *
  have hu2 := (box_cells hp2).2.1
  have hy0 : W2.cell? ⟨w.heap.size, 0, none⟩ = some (.int .i64 x.key) := by rw [cell_of_row _ _ _ _ _ _ hx2]; rfl
  have hy1 : W2.cell? ⟨w.heap.size, 1, none⟩ = some (.string x.val) := by rw [cell_of_row _ _ _ _ _ _ hx2]; rfl
  have hy2 : W2.cell? ⟨w.heap.size, 2, none⟩ = some (.int .i64 (x.pins : Int)) := by rw [cell_of_row _ _ _ _ _ _ hx2]; rfl
  have hst : (storeS 228 (.pointer (some ⟨g, 0, none⟩)) (.agg #[.int .i64 x.key, .string x.val, .int .i64 (x.pins : Int)])).run Tryz.prog W2.drew = .ok () (W2.drew.setRow g (cE x ++ cur2.toList.drop 3).toArray) := by
    have := store_up (w := W2.drew) (x := x) (i := 0) hg2 hs2 (by omega)
    rw [Nat.zero_mul, List.take_zero, List.nil_append, Nat.zero_add] at this
    exact this
  have HL : Hid ((cE x ++ cur2.toList.drop 3).toArray.toList.take ((useL i L).length * 3) = flat cE (useL i L)) := by
    refine Lib.hid ?_
    rw [useL_len hi]
    have := use_list three HX.out HT.out
    rw [List.append_assoc, ← hd2] at this
    exact this
  have HSZ : Hid ((cE x ++ cur2.toList.drop 3).toArray.size = cap * 3) := by
    refine Lib.hid ?_
    have h3 : (cE x).toArray.size = 3 := rfl
    simp only [← List.append_toArray, Array.size_append, h3, List.size_toArray, List.length_drop, Array.length_toList]
    omega
  generalize (cE x ++ cur2.toList.drop 3).toArray = cur3 at *
  have hp3 : (W2.drew.setRow g cur3).heap[p]? = some (.cells #[.int .i64 most, .slice (some ⟨g, 0, none⟩) L.length cap] 212 (0, 0)) := (setRow_other W2.drew g p _ hgp).trans hp2
  have hg3 : (W2.drew.setRow g cur3).heap[g]? = some (.cells cur3 228 (0, 0)) := setRow_heap W2.drew g cur2 _ _ _ hg2
  have HO3 : Hid (∀ k, k < w.heap.size → k ≠ g → (W2.drew.setRow g cur3).heap[k]? = w.heap[k]?) := Lib.hid fun k hk hne => (setRow_other W2.drew g k _ hne).trans (HO.out k hk hne)
  have HB3 : Hid (Below w0.heap.size w (W2.drew.setRow g cur3)) := Lib.hid (below_row (w' := W2.drew) (drew_below HB2.out) hg0 _)
  have hu3 := (box_cells hp3).2.1
  have HP3 := Lib.hid hp3
  have HG3 := Lib.hid hg3
  clear hp3 hg3 HO HB2 hg2 hp2 hx2 hs2 hd2
  have h0n : 0 < L.length := by omega
  have h0i : (0 : Int) < (L.length : Int) := by omega
  go_still_tail 6, (by kernel_rfl)
  go_wp2
  go_returns
  refine ⟨g, cap, rfl, HP3.out, H.out.move HP.out (fun _ _ _ => HB3.out) (fun k hk _ hne => HO3.out k hk fun e => hne (by rw [e]; rfl)) HP3.out (RowE.mk' three hg0 HG3.out hcm HSZ.out (by rw [useL_len hi]; exact hlc) HL.out (useL_len hi).symm) (fun k hk => .inl hk)⟩
end KA
end Go.Proofs.YtcjfnfdinhbdlaaGreatDoor
