/- Contracts: Unpin, slices.Delete, Drop. -/
import Derived.Test.YtomgiemnkbjebaaCacG
namespace Go.Proofs.Ytomgiemnkbjebaa
set_option maxRecDepth 100000
open Go.ChangeShapes Go.WideShapes Go.ChangeAt Go.RowKit Go.PlainAid

namespace KA
set_option maxHeartbeats 1000000 in
theorem unpin_any {w0 : World} {p : Nat} {most : Int} {L : List E} {R : List (Nat × Obj)} {w : World} (h : CaT w0 p most L R w) (k : Int) (hl : L.length ≤ 4096) (hpn : ∀ e ∈ L, e.pins ≤ 1048576) :
    Calls Try.prog 23 #[.pointer (some ⟨p, 0, none⟩), .int .i64 k] w (PinPost w0 p most L R (decide (posK k L < L.length ∧ ((L[posK k L]?).map (·.pins)).getD 0 ≠ 0)) (posK k L) (-1)) := by
  have H := Lib.hid h
  have hF := Lib.hid (find_any h k hl)
  clear h
  go_enter Try.func23, Try.ntmps23
  go_wp2_with fail
  refine hF.out.mono ?_
  rintro e w1 (⟨i, x, hx, hk, hpos, rfl, hb⟩ | ⟨hno, rfl, hb⟩)
  · have hil := (List.getElem?_eq_some_iff.1 hx).1
    have h1 := H.out.on hb
    obtain ⟨v, hp, hr, _⟩ := h1.row
    obtain ⟨g, cap, cur, rfl, _⟩ := hr.block (by omega)
    have hu := (box_cells hp).2.1
    obtain ⟨_, _, hc⟩ := row_cells hr hx
    have hf := row_thawed hr (i * 3 + 2)
    have hxp := hpn x (List.mem_of_getElem? hx)
    by_cases h0 : x.pins = 0
    · have HB : Hid (decide (posK k L < L.length ∧ ((L[posK k L]?).map (·.pins)).getD 0 ≠ 0) = false) := by
        refine Lib.hid (decide_eq_false fun hc => hc.2 ?_)
        rw [hpos, hx]
        exact h0
      have HN := Lib.hid h1
      rw [h0] at hc
      have hc' : w1.cell? ⟨g, i * 3 + 2, none⟩ = some (.int .i64 0) := hc
      clear hF hx hk hpos H hb h1 hr hp hpn h0 hc
      go_wp2
      go_returns
      unfold PinPost
      rw [HB.out]
      exact ⟨rfl, HN.out⟩
    · have HB : Hid (decide (posK k L < L.length ∧ ((L[posK k L]?).map (·.pins)).getD 0 ≠ 0) = true) := by
        refine Lib.hid (decide_eq_true ?_)
        rw [hpos, hx]
        exact ⟨hil, h0⟩
      have HN : Hid (CaT w0 p most (pinL i (-1) L) R (w1.setCell ⟨g, i * 3 + 2, none⟩ (.int .i64 ((x.pins : Int) - 1)))) := by
        refine Lib.hid ?_
        rw [pinL_set hx]
        refine h1.poke hp hx 2 (by omega) _ ?_
        show [_, _, _] = [_, _, _]
        rw [show (((((x.pins : Int) + -1).toNat : Nat) : Int)) = (x.pins : Int) - 1 by omega]
      have HPOS := Lib.hid hpos
      have h00 : ((x.pins : Int) == 0) = false := beq_eq_false_iff_ne.2 (by omega)
      have hx1 : (1 : Int) ≤ (x.pins : Int) := by omega
      clear hF hx hk hpos H hb h1 hr hp hpn h0
      go_wp2
      go_returns
      unfold PinPost
      rw [HB.out, HPOS.out]
      exact ⟨rfl, HN.out⟩
  · have H1 := Lib.hid (H.out.on hb)
    have HB : Hid (decide (posK k L < L.length ∧ ((L[posK k L]?).map (·.pins)).getD 0 ≠ 0) = false) := Lib.hid (decide_eq_false fun hc => hno hc.1)
    clear hF hno H hb hpn
    go_wp2
    go_returns
    unfold PinPost
    rw [HB.out]
    exact ⟨rfl, H1.out⟩
def appE (vs : Array Value) : Sem Value := Builtin.append_ #[63, 63] 63 vs
theorem app_e (vs : Array Value) : Builtin.append_ #[63, 63] 63 vs = appE vs := rfl
def clrE (t : TypeId) (vs : Array Value) : Sem Value := Builtin.clear_ #[63] t vs
theorem clr_e (t : TypeId) (vs : Array Value) : Builtin.clear_ #[63] t vs = clrE t vs := rfl
theorem slice_hi (g n cap j m : Nat) (ji : Int) (hji : ji = (j : Int)) (hj : j + m = n) : ∃ ad, (cap ≠ j → ad = ⟨g, j * 3, none⟩) ∧ ∀ w, (Instr.slice 63 (.slice (some ⟨g, 0, none⟩) n cap) (some (.int .i64 ji)) none none).run Try.prog w = .ok (.slice (some ad) m (cap - j)) w := by
  subst hji
  refine ⟨if cap = j then ⟨g, 0, none⟩ else ⟨g, j * 3, none⟩, fun h => if_neg h, fun w => ?_⟩
  rw [run_slice_l (P := Try.prog) w 63 (some ⟨g, 0, none⟩) n cap under_e .i64 (j : Int) (by omega) (by omega), elem_e, Try.sizeOf83]
  show Result.ok (sliced _ _ _ _ _) w = _
  unfold sliced
  rw [Int.toNat_natCast, show n - j = m by omega]
  by_cases h : cap = j
  · simp [h]
  · simp [h, add_off]
theorem slice_chk (g n cap i : Nat) (hi : i < n) (hc : n ≤ cap) : ∃ v, ∀ w, (Instr.slice 63 (.slice (some ⟨g, 0, none⟩) n cap) (some (.int .i64 (i : Int))) (some (.int .i64 ((i : Int) + 1))) (some (.int .i64 (n : Int)))).run Try.prog w = .ok v w := by
  refine ⟨sliced (some ⟨g, 0, none⟩) (i : Int).toNat ((i : Int) + 1).toNat (n : Int).toNat 3, fun w => ?_⟩
  rw [run_slice_lhm (P := Try.prog) w 63 (some ⟨g, 0, none⟩) n cap under_e .i64 .i64 .i64 (i : Int) ((i : Int) + 1) (n : Int) (by omega) (by omega) (by omega) (by omega), elem_e, Try.sizeOf83]
  rfl
theorem slice_end (g n cap m : Nat) (mi : Int) (hmi : mi = (m : Int)) (hm : m + 1 = n) (hc : n ≤ cap) (w : World) : (Instr.slice 63 (.slice (some ⟨g, 0, none⟩) m cap) (some (.int .i64 mi)) (some (.int .i64 (n : Int))) none).run Try.prog w = .ok (.slice (some ⟨g, m * 3, none⟩) 1 (cap - m)) w := by
  subst hmi
  rw [run_slice_lh (P := Try.prog) w 63 (some ⟨g, 0, none⟩) m cap under_e .i64 .i64 (m : Int) (n : Int) (by omega) (by omega) (by omega), elem_e, Try.sizeOf83]
  show Result.ok (sliced _ _ _ _ _) w = _
  unfold sliced
  rw [Int.toNat_natCast, Int.toNat_natCast, if_neg (by omega), show n - m = 1 by omega]
  simp [add_off]
theorem zero_e : ∀ w, (zeroValue 83).run Try.prog w = .ok (.agg #[.int .i64 0, .string ⟨#[]⟩, .int .i64 0]) w := fun w => by kernel_rfl
theorem clear_one {w : World} {g o c : Nat} {cur : Array Value} (t : TypeId) (hg : w.heap[g]? = some (.cells cur 83 (0, 0))) (hs : o + 3 ≤ cur.size) :
    (clrE t #[.slice (some ⟨g, o, none⟩) 1 c]).run Try.prog w = .ok (.tuple #[]) (w.setRow g (cur.toList.take o ++ cE ⟨0, ⟨#[]⟩, 0⟩ ++ cur.toList.drop (o + 3)).toArray) := by
  have hst := run_storeCells_at Try.prog g o 83 (cE ⟨0, ⟨#[]⟩, 0⟩) 0 cur w hg (by simpa [cE] using hs) (three.one _)
  have hz : (Builtin.zeroCells (Value.agg #[.int .i64 0, .string ⟨#[]⟩, .int .i64 0]).cells 1).toList = cE ⟨0, ⟨#[]⟩, 0⟩ := by kernel_rfl
  unfold clrE
  simp [Builtin.clear_, run_underlying under_e, elem_e, hz]
  rw [hst, List.append_assoc]
  rfl
/-- What slices.Delete leaves of a row, and gives. -/
def DelPost (n₀ : Nat) (L : List E) (g n cap i : Nat) (w : World) (e : Ending) (w' : World) : Prop :=
  e = .returned (.slice (some ⟨g, 0, none⟩) (n - 1) cap) ∧ RowE cE 83 n₀ w' (.slice (some ⟨g, 0, none⟩) (n - 1) cap) (L.eraseIdx i) ∧ Below n₀ w w' ∧ (∀ k, k < w.heap.size → k ≠ g → w'.heap[k]? = w.heap[k]?)
attribute [local go_sem ↓ high] app_e clr_e
set_option maxHeartbeats 1000000 in
theorem delete_any (n₀ g n cap i : Nat) (L : List E) (w : World) (hr : RowE cE 83 n₀ w (.slice (some ⟨g, 0, none⟩) n cap) L) (hi : i < L.length) (hl : L.length ≤ 4096) :
    Calls Try.prog 38 #[.slice (some ⟨g, 0, none⟩) n cap, .int .i64 (i : Int), .int .i64 ((i : Int) + 1)] w (DelPost n₀ L g n cap i w) := by
  obtain ⟨g', cap', cur, hv, hb, hg, hlc, hcm, hcs, ht⟩ := hr.block (by omega)
  cases hv
  obtain ⟨m, hm⟩ : ∃ m, i + m + 1 = L.length := ⟨L.length - 1 - i, by omega⟩
  obtain ⟨ad, had, hs1⟩ := slice_hi g L.length cap (i + 1) m ((i : Int) + 1) (by omega) (by omega)
  have hs2 := slice_lo g L.length cap i (by omega)
  have hown : w.drew.ownsRow n₀ 83 3 (.slice (some ⟨g, 0, none⟩) i cap) i (flat cE (L.take i)) := ⟨by rw [flat_len three, List.length_take, Nat.min_eq_left (by omega)], .inr ⟨g, cap, cur, rfl, hb, hg, by omega, hcm, hcs, take3 three ht (by omega)⟩⟩
  obtain ⟨i0, h1, h2, h3, h4⟩ := info_parts info_e2
  obtain ⟨w2, happ, hown2, hgrow⟩ := run_append_fits (P := Try.prog) w.drew n₀ 63 63 83 i0 3 Try.underlying63 h1 h3 g i cap _ hown ad m (cap - (i + 1)) (flat cE (L.drop (i + 1))) (by rw [flat_len three, List.length_drop]; omega) (fun j u hu => by
    have hj := (List.getElem?_eq_some_iff.1 hu).1
    rw [flat_len three, List.length_drop] at hj
    rw [had (by omega), Addr.add_mid]
    show w.cell? _ = _
    rw [cell_of_row _ _ _ _ _ _ hg]
    have e : (flat cE L)[(i + 1) * 3 + j]? = some u := by rw [← List.getElem?_drop, flat_drop three]; exact hu
    rw [← ht, List.getElem?_take_of_lt (by omega), Array.getElem?_toList] at e
    exact e) (flat_one three _) (by omega)
  have happ2 : (appE #[.slice (some ⟨g, 0, none⟩) i cap, .slice (some ad) m (cap - (i + 1))]).run Try.prog w.drew = .ok (.slice (some ⟨g, 0, none⟩) (i + m) cap) w2 := happ
  obtain ⟨vz, hs4⟩ := slice_chk g L.length cap i hi hlc
  have hs3 := slice_end g L.length cap (i + m) ((i : Int) + (m : Int)) (by omega) (by omega) hlc
  rcases hown2.2 with ⟨hv, _⟩ | ⟨g2, cap2, cur2, hv, _, hg2, _, _, hcs2, ht2⟩
  · cases hv
  cases hv
  have hclr : ∀ t, (clrE t #[.slice (some ⟨g, (i + m) * 3, none⟩) 1 (cap - (i + m))]).run Try.prog w2 = _ := fun t => clear_one t hg2 (by omega)
  have hfin : RowE cE 83 n₀ (w2.setRow g (cur2.toList.take ((i + m) * 3) ++ cE ⟨0, ⟨#[]⟩, 0⟩ ++ cur2.toList.drop ((i + m) * 3 + 3)).toArray) (.slice (some ⟨g, 0, none⟩) (L.length - 1) cap) (L.eraseIdx i) := by
    refine RowE.mk' three hb (setRow_heap w2 g cur2 _ _ _ hg2) hcm ?_ (by rw [List.length_eraseIdx_of_lt hi]; omega) ?_ (by rw [List.length_eraseIdx_of_lt hi])
    · have h3 : (cE ⟨0, ⟨#[]⟩, 0⟩).length = 3 := rfl
      simp only [List.size_toArray, List.length_append, List.length_take, List.length_drop, Array.length_toList, h3]
      omega
    · have e : (L.eraseIdx i).length = i + m := by rw [List.length_eraseIdx_of_lt hi]; omega
      have e2 : flat cE (L.eraseIdx i) = flat cE (L.take i) ++ flat cE (L.drop (i + 1)) := by rw [erase_cut, flat_app]
      have e3 : (cur2.toList.take ((i + m) * 3)).length = (i + m) * 3 := by rw [List.length_take, Array.length_toList]; omega
      rw [e, e2, List.append_assoc, List.take_append_of_le_length (by omega), List.take_of_length_le (by omega)]
      exact ht2
  have hbel : Below n₀ w (w2.setRow g (cur2.toList.take ((i + m) * 3) ++ cE ⟨0, ⟨#[]⟩, 0⟩ ++ cur2.toList.drop ((i + m) * 3 + 3)).toArray)   :=
    below_row (w' := w2) ((drew_below (Below.refl _ _) : Below n₀ w w.drew).grown hgrow (Nat.le_trans hb (Nat.le_of_lt (heap_in hg))) (fun k e => by cases e; exact hb)) hb _
  have hoth : ∀ k, k < w.heap.size → k ≠ g → (w2.setRow g (cur2.toList.take ((i + m) * 3) ++ cE ⟨0, ⟨#[]⟩, 0⟩ ++ cur2.toList.drop ((i + m) * 3 + 3)).toArray).heap[k]? = w.heap[k]? := fun k hk hne => (setRow_other _ _ _ _ hne).trans (hgrow.block k hk fun e => hne (by simpa using e))
  have HF := Lib.hid (And.intro hfin (And.intro hbel hoth))
  have hwi : IntKind.i64.wrap ((i : Int) + 1) = (i : Int) + 1 := IntWalk.i64_in _ (by omega)
  clear hfin hbel hoth hr hg ht hcs hown hgrow happ hown2 hg2 ht2 hcs2 h1 h2 h3 h4 had
  generalize (w2.setRow g (cur2.toList.take ((i + m) * 3) ++ cE ⟨0, ⟨#[]⟩, 0⟩ ++ cur2.toList.drop ((i + m) * 3 + 3)).toArray) = W3 at *
  obtain ⟨l, hll⟩ : ∃ l, L.length = l := ⟨_, rfl⟩
  have hne : ((i : Int) == (i : Int) + 1) = false := beq_eq_false_iff_ne.2 (by omega)
  have hil : (i : Int) + 1 ≤ (l : Int) := by omega
  rw [hll] at hs1 hs3 hs4 hs2
  rw [hll]
  have HLL := Lib.hid hll
  clear hll
  go_enter Try.func38, Try.ntmps38
  go_wp2_with fail
  go_still_tail 6, (by kernel_rfl)
  go_wp2
  go_returns
  have hlm : i + m = l - 1 := by have := HLL.out; omega
  rw [HLL.out] at HF
  refine ⟨?_, HF.out.1, HF.out.2⟩
  rw [← hlm]
  rfl
/-- What a Drop leaves. -/
def dropL (k : Int) (L : List E) : List E := if posK k L < L.length then L.eraseIdx (posK k L) else L
def DropPost (w0 : World) (p : Nat) (most : Int) (L : List E) (R : List (Nat × Obj)) (k : Int) (e : Ending) (w' : World) : Prop :=
  e = .returned (.bool (decide (posK k L < L.length))) ∧ CaT w0 p most (dropL k L) R w'
theorem CaT.deleted {w0 : World} {p : Nat} {most : Int} {L M : List E} {R : List (Nat × Obj)} {w w' : World} {g n cap : Nat} {m : Nat} (h : CaT w0 p most L R w) (hp : w.heap[p]? = some (.cells #[.int .i64 most, .slice (some ⟨g, 0, none⟩) n cap] 65 (0, 0)))
    (hr : RowE cE 83 w0.heap.size w' (.slice (some ⟨g, 0, none⟩) m cap) M) (hb : Below w0.heap.size w w') (ho : ∀ k, k < w.heap.size → k ≠ g → w'.heap[k]? = w.heap[k]?) :
    w'.cell? ⟨p, 1, none⟩ = some (.slice (some ⟨g, 0, none⟩) n cap) ∧ w'.frozen? ⟨p, 1, none⟩ = false ∧ CaT w0 p most M R (w'.setCell ⟨p, 1, none⟩ (.slice (some ⟨g, 0, none⟩) m cap)) := by
  obtain ⟨_, hne, _⟩ := h.rowAt hp
  have hgp : p ≠ g := fun e => hne (by rw [e]; rfl)
  have hp2 := (ho p (heap_in hp) hgp).trans hp
  have h5 := heap_setCell_same w' p 1 _ _ (.slice (some ⟨g, 0, none⟩) m cap) hp2
  refine ⟨(box_cells hp2).2.1, (box_cells hp2).2.2, h.move hp (fun _ _ hp0 => hb.setCell hp0 _) (fun k hk hkp hkv => (heap_setCell_other _ _ _ _ hkp).trans (ho k hk fun e => hkv (by rw [e]; rfl))) h5 ⟨hr.1, ?_⟩ (fun k hk => .inl hk)⟩
  rcases hr.2 with ⟨hv, _⟩ | ⟨g', cap', cur, hv, a1, a2, a3⟩
  · cases hv
  · cases hv
    exact .inr ⟨g, cap, cur, rfl, a1, (heap_setCell_other _ _ _ _ (fun e => hgp e.symm)).trans a2, a3⟩
set_option maxHeartbeats 1000000 in
theorem drop_any {w0 : World} {p : Nat} {most : Int} {L : List E} {R : List (Nat × Obj)} {w : World} (h : CaT w0 p most L R w) (k : Int) (hl : L.length ≤ 4096) :
    Calls Try.prog 24 #[.pointer (some ⟨p, 0, none⟩), .int .i64 k] w (DropPost w0 p most L R k) := by
  have H := Lib.hid h
  have hF := Lib.hid (find_any h k hl)
  clear h
  go_enter Try.func24, Try.ntmps24
  go_wp2_with fail
  refine hF.out.mono ?_
  rintro e w1 (⟨i, x, hx, hk, hpos, rfl, hb⟩ | ⟨hno, rfl, hb⟩)
  · have hil := (List.getElem?_eq_some_iff.1 hx).1
    have h1 := H.out.on hb
    obtain ⟨v, hp, hr, _⟩ := h1.row
    obtain ⟨g, cap, cur, rfl, _⟩ := hr.block (by omega)
    have hu := (box_cells hp).2.1
    have hw : IntKind.i64.wrap ((i : Int) + 1) = (i : Int) + 1 := IntWalk.i64_in _ (by omega)
    have HD := Lib.hid fun w (hr : RowE cE 83 w0.heap.size w (.slice (some ⟨g, 0, none⟩) L.length cap) L) => delete_any w0.heap.size g L.length cap i L w hr hil hl
    have HR1 : Hid (decide (posK k L < L.length) = true ∧ dropL k L = L.eraseIdx i) := by
      refine Lib.hid ?_
      unfold dropL
      rw [hpos, if_pos hil]
      exact ⟨decide_eq_true hil, rfl⟩
    have H1 := Lib.hid h1
    have HP := Lib.hid hp
    have HROW := Lib.hid hr
    clear hF hx hk hpos H hb h1 hr hp
    go_wp2_with fail
    refine (HD.out _ HROW.out).mono ?_
    rintro e w2 ⟨rfl, hr2, hb2, ho2⟩
    obtain ⟨c2, f2, h2⟩ := H1.out.deleted HP.out hr2 hb2 ho2
    have H2 := Lib.hid h2
    clear h2 hr2 hb2 ho2 HD
    go_wp2
    go_returns
    unfold DropPost
    rw [HR1.out.1, HR1.out.2]
    exact ⟨rfl, H2.out⟩
  · have H1 := Lib.hid (H.out.on hb)
    have HR1 : Hid (decide (posK k L < L.length) = false ∧ dropL k L = L) := by
      refine Lib.hid ?_
      unfold dropL
      rw [if_neg hno]
      exact ⟨decide_eq_false hno, rfl⟩
    clear hF hno H hb
    go_wp2
    go_returns
    unfold DropPost
    rw [HR1.out.1, HR1.out.2]
    exact ⟨rfl, H1.out⟩
end KA
end Go.Proofs.Ytomgiemnkbjebaa
