import Derived.Test.YtcjfnfdinhbdlaaGreatDoorGan
import Derived.Test.YtcjfnfdinhbdlaaGreatDoorGar
import Derived.Test.YtcjfnfdinhbdlaaGreatDoorGab
import Derived.Test.YtcjfnfdinhbdlaaGreatDoorGaq
import Derived.Deep.Slices
import Derived.Deep.Fields
import Derived.ChangeSame
import Derived.Deep.MidRow
import Derived.OwnWalk
import Derived.RangeFuncBox
import Derived.Deep.AppendLies
import Derived.Lib.SliceRun
namespace Go.Proofs.YtcjfnfdinhbdlaaGreatDoor
set_option maxRecDepth 100000
open Go.ChangeShapes Go.WideShapes Go.ChangeAt Go.RowKit Go.PlainAid
namespace KA
def appE (vs : Array Value) : Sem Value := Builtin.append_ #[210, 210] 210 vs
theorem app_e (vs : Array Value) : Builtin.append_ #[210, 210] 210 vs = appE vs := rfl
def clrE (t : TypeId) (vs : Array Value) : Sem Value := Builtin.clear_ #[210] t vs
theorem clr_e (t : TypeId) (vs : Array Value) : Builtin.clear_ #[210] t vs = clrE t vs := rfl
theorem slice_hi (g n cap j m : Nat) (ji : Int) (hji : ji = (j : Int)) (hj : j + m = n) : ∃ ad, (cap ≠ j → ad = ⟨g, j * 3, none⟩) ∧ ∀ w, (Instr.slice 210 (.slice (some ⟨g, 0, none⟩) n cap) (some (.int .i64 ji)) none none).run Tryz.prog w = .ok (.slice (some ad) m (cap - j)) w := by
  subst hji
  refine ⟨if cap = j then ⟨g, 0, none⟩ else ⟨g, j * 3, none⟩, fun h => if_neg h, fun w => ?_⟩
  rw [run_slice_l (P := Tryz.prog) w 210 (some ⟨g, 0, none⟩) n cap under_e .i64 (j : Int) (by omega) (by omega), elem_e, Tryz.sizeOf228]
  show Result.ok (sliced _ _ _ _ _) w = _
  unfold sliced
  rw [Int.toNat_natCast, show n - j = m by omega]
  by_cases h : cap = j
  · simp [h]
  · simp [h, add_off]
theorem slice_chk (g n cap i : Nat) (hi : i < n) (hc : n ≤ cap) : ∃ v, ∀ w, (Instr.slice 210 (.slice (some ⟨g, 0, none⟩) n cap) (some (.int .i64 (i : Int))) (some (.int .i64 ((i : Int) + 1))) (some (.int .i64 (n : Int)))).run Tryz.prog w = .ok v w := by
  refine ⟨sliced (some ⟨g, 0, none⟩) (i : Int).toNat ((i : Int) + 1).toNat (n : Int).toNat 3, fun w => ?_⟩
  rw [run_slice_lhm (P := Tryz.prog) w 210 (some ⟨g, 0, none⟩) n cap under_e .i64 .i64 .i64 (i : Int) ((i : Int) + 1) (n : Int) (by omega) (by omega) (by omega) (by omega), elem_e, Tryz.sizeOf228]
  rfl
theorem slice_end (g n cap m : Nat) (mi : Int) (hmi : mi = (m : Int)) (hm : m + 1 = n) (hc : n ≤ cap) (w : World) : (Instr.slice 210 (.slice (some ⟨g, 0, none⟩) m cap) (some (.int .i64 mi)) (some (.int .i64 (n : Int))) none).run Tryz.prog w = .ok (.slice (some ⟨g, m * 3, none⟩) 1 (cap - m)) w := by
  subst hmi
  rw [run_slice_lh (P := Tryz.prog) w 210 (some ⟨g, 0, none⟩) m cap under_e .i64 .i64 (m : Int) (n : Int) (by omega) (by omega) (by omega), elem_e, Tryz.sizeOf228]
  show Result.ok (sliced _ _ _ _ _) w = _
  unfold sliced
  rw [Int.toNat_natCast, Int.toNat_natCast, if_neg (by omega), show n - m = 1 by omega]
  simp [add_off]
theorem clear_one {w : World} {g o c : Nat} {cur : Array Value} (t : TypeId) (hg : w.heap[g]? = some (.cells cur 228 (0, 0))) (hs : o + 3 ≤ cur.size) :
    (clrE t #[.slice (some ⟨g, o, none⟩) 1 c]).run Tryz.prog w = .ok (.tuple #[]) (w.setRow g (cur.toList.take o ++ cE ⟨0, ⟨#[]⟩, 0⟩ ++ cur.toList.drop (o + 3)).toArray) := by
  have hst := run_storeCells_at Tryz.prog g o 228 (cE ⟨0, ⟨#[]⟩, 0⟩) 0 cur w hg (by simpa [cE] using hs) (three.one _)
  have hz : (Builtin.zeroCells (Value.agg #[.int .i64 0, .string ⟨#[]⟩, .int .i64 0]).cells 1).toList = cE ⟨0, ⟨#[]⟩, 0⟩ := by kernel_rfl
  unfold clrE
  simp [Builtin.clear_, run_underlying under_e, elem_e, hz]
  rw [hst, List.append_assoc]
  rfl
def DelPost (n₀ : Nat) (L : List E) (g n cap i : Nat) (w : World) (e : Ending) (w' : World) : Prop :=
  e = .returned (.slice (some ⟨g, 0, none⟩) (n - 1) cap) ∧ RowE cE 228 n₀ w' (.slice (some ⟨g, 0, none⟩) (n - 1) cap) (L.eraseIdx i) ∧ Below n₀ w w' ∧ (∀ k, k < w.heap.size → k ≠ g → w'.heap[k]? = w.heap[k]?)
attribute [local go_sem ↓ high] app_e clr_e
set_option maxHeartbeats 1000000 in
theorem delete_any (n₀ g n cap i : Nat) (L : List E) (w : World) (hr : RowE cE 228 n₀ w (.slice (some ⟨g, 0, none⟩) n cap) L) (hi : i < L.length) (hl : L.length ≤ 4096) :
    Calls Tryz.prog 202 #[.slice (some ⟨g, 0, none⟩) n cap, .int .i64 (i : Int), .int .i64 ((i : Int) + 1)] w (DelPost n₀ L g n cap i w) := by
  obtain ⟨g', cap', cur, hv, hb, hg, hlc, hcm, hcs, ht⟩ := hr.block (by omega)
  cases hv
  obtain ⟨m, hm⟩ : ∃ m, i + m + 1 = L.length := ⟨L.length - 1 - i, by omega⟩
  obtain ⟨ad, had, hs1⟩ := slice_hi g L.length cap (i + 1) m ((i : Int) + 1) (by omega) (by omega)
  have hs2 := slice_lo g L.length cap i (by omega)
  have hown : w.drew.ownsRow n₀ 228 3 (.slice (some ⟨g, 0, none⟩) i cap) i (flat cE (L.take i)) := ⟨by rw [flat_len three, List.length_take, Nat.min_eq_left (by omega)], .inr ⟨g, cap, cur, rfl, hb, hg, by omega, hcm, hcs, take3 three ht (by omega)⟩⟩
  obtain ⟨i0, h1, h2, h3, h4⟩ := info_parts info_e2
  obtain ⟨w2, happ, hown2, hgrow⟩ := run_append_fits (P := Tryz.prog) w.drew n₀ 210 210 228 i0 3 Tryz.underlying210 h1 h3 g i cap _ hown ad m (cap - (i + 1)) (flat cE (L.drop (i + 1))) (by rw [flat_len three, List.length_drop]; omega) (fun j u hu => by
    have hj := (List.getElem?_eq_some_iff.1 hu).1
    rw [flat_len three, List.length_drop] at hj
    rw [had (by omega), Addr.add_mid]
    show w.cell? _ = _
    rw [cell_of_row _ _ _ _ _ _ hg]
    have e : (flat cE L)[(i + 1) * 3 + j]? = some u := by rw [← List.getElem?_drop, flat_drop three]; exact hu
    rw [← ht, List.getElem?_take_of_lt (by omega), Array.getElem?_toList] at e
    exact e) (flat_one three _) (by omega)
  have happ2 : (appE #[.slice (some ⟨g, 0, none⟩) i cap, .slice (some ad) m (cap - (i + 1))]).run Tryz.prog w.drew = .ok (.slice (some ⟨g, 0, none⟩) (i + m) cap) w2 := happ
  obtain ⟨vz, hs4⟩ := slice_chk g L.length cap i hi hlc
  have hs3 := slice_end g L.length cap (i + m) ((i : Int) + (m : Int)) (by omega) (by omega) hlc
  rcases hown2.2 with ⟨hv, _⟩ | ⟨g2, cap2, cur2, hv, _, hg2, _, _, hcs2, ht2⟩
  · cases hv
  cases hv
  have hclr : ∀ t, (clrE t #[.slice (some ⟨g, (i + m) * 3, none⟩) 1 (cap - (i + m))]).run Tryz.prog w2 = _ := fun t => clear_one t hg2 (by omega)
  have hfin : RowE cE 228 n₀ (w2.setRow g (cur2.toList.take ((i + m) * 3) ++ cE ⟨0, ⟨#[]⟩, 0⟩ ++ cur2.toList.drop ((i + m) * 3 + 3)).toArray) (.slice (some ⟨g, 0, none⟩) (L.length - 1) cap) (L.eraseIdx i) := by
    refine RowE.mk' three hb (setRow_heap w2 g cur2 _ _ _ hg2) hcm ?_ (by rw [List.length_eraseIdx_of_lt hi]; omega) ?_ (by rw [List.length_eraseIdx_of_lt hi])
    · have h3 : (cE ⟨0, ⟨#[]⟩, 0⟩).length = 3 := rfl
      simp only [List.size_toArray, List.length_append, List.length_take, List.length_drop, Array.length_toList, h3]
      omega
    · have e : (L.eraseIdx i).length = i + m := by rw [List.length_eraseIdx_of_lt hi]; omega
      have e2 : flat cE (L.eraseIdx i) = flat cE (L.take i) ++ flat cE (L.drop (i + 1)) := by rw [erase_cut, flat_app]
      have e3 : (cur2.toList.take ((i + m) * 3)).length = (i + m) * 3 := by rw [List.length_take, Array.length_toList]; omega
      rw [e, e2, List.append_assoc, List.take_append_of_le_length (by omega), List.take_of_length_le (by omega)]
      exact ht2
  have hbel : Below n₀ w (w2.setRow g (cur2.toList.take ((i + m) * 3) ++ cE ⟨0, ⟨#[]⟩, 0⟩ ++ cur2.toList.drop ((i + m) * 3 + 3)).toArray)   :=
    below_row (w' := w2) ((drew_below (Below.refl _ _) : Below n₀ w w.drew).grown hgrow (Nat.le_trans hb (Nat.le_of_lt (heap_in hg))) (fun k e => by cases e; exact hb)) hb _
  have hoth : ∀ k, k < w.heap.size → k ≠ g → (w2.setRow g (cur2.toList.take ((i + m) * 3) ++ cE ⟨0, ⟨#[]⟩, 0⟩ ++ cur2.toList.drop ((i + m) * 3 + 3)).toArray).heap[k]? = w.heap[k]? := fun k hk hne => (setRow_other _ _ _ _ hne).trans (hgrow.block k hk fun e => hne (by simpa using e))
  have HF := Lib.hid (And.intro hfin (And.intro hbel hoth))
  have hwi : IntKind.i64.wrap ((i : Int) + 1) = (i : Int) + 1 := IntWalk.i64_in _ (by omega)
  clear hfin hbel hoth hr hg ht hcs hown hgrow happ hown2 hg2 ht2 hcs2 h1 h2 h3 h4 had
  generalize (w2.setRow g (cur2.toList.take ((i + m) * 3) ++ cE ⟨0, ⟨#[]⟩, 0⟩ ++ cur2.toList.drop ((i + m) * 3 + 3)).toArray) = W3 at *
  obtain ⟨l, hll⟩ : ∃ l, L.length = l := ⟨_, rfl⟩
  have hne : ((i : Int) == (i : Int) + 1) = false := beq_eq_false_iff_ne.2 (by omega)
  have hil : (i : Int) + 1 ≤ (l : Int) := by omega
  rw [hll] at hs1 hs3 hs4 hs2
  rw [hll]
  have HLL := Lib.hid hll
  clear hll
  go_enter Tryz.func202, Tryz.ntmps202
  go_wp2_with fail
  go_still_tail 6, (by kernel_rfl)
  go_wp2
  go_returns
  have hlm : i + m = l - 1 := by have := HLL.out; omega
  rw [HLL.out] at HF
  refine ⟨?_, HF.out.1, HF.out.2⟩
  rw [← hlm]
  rfl
def dropL (k : Int) (L : List E) : List E := if posK k L < L.length then L.eraseIdx (posK k L) else L
def DropPost (w0 : World) (p : Nat) (most : Int) (L : List E) (R : List (Nat × Obj)) (k : Int) (e : Ending) (w' : World) : Prop :=
  e = .returned (.bool (decide (posK k L < L.length))) ∧ CaT w0 p most (dropL k L) R w'
theorem CaT.deleted {w0 : World} {p : Nat} {most : Int} {L M : List E} {R : List (Nat × Obj)} {w w' : World} {g n cap : Nat} {m : Nat} (h : CaT w0 p most L R w) (hp : w.heap[p]? = some (.cells #[.int .i64 most, .slice (some ⟨g, 0, none⟩) n cap] 212 (0, 0)))
    (hr : RowE cE 228 w0.heap.size w' (.slice (some ⟨g, 0, none⟩) m cap) M) (hb : Below w0.heap.size w w') (ho : ∀ k, k < w.heap.size → k ≠ g → w'.heap[k]? = w.heap[k]?) :
    w'.cell? ⟨p, 1, none⟩ = some (.slice (some ⟨g, 0, none⟩) n cap) ∧ w'.frozen? ⟨p, 1, none⟩ = false ∧ CaT w0 p most M R (w'.setCell ⟨p, 1, none⟩ (.slice (some ⟨g, 0, none⟩) m cap)) := by
  obtain ⟨_, hne, _⟩ := h.rowAt hp
  have hgp : p ≠ g := fun e => hne (by rw [e]; rfl)
  have hp2 := (ho p (heap_in hp) hgp).trans hp
  have h5 := heap_setCell_same w' p 1 _ _ (.slice (some ⟨g, 0, none⟩) m cap) hp2
  refine ⟨(box_cells hp2).2.1, (box_cells hp2).2.2, h.move hp (fun _ _ hp0 => hb.setCell hp0 _) (fun k hk hkp hkv => (heap_setCell_other _ _ _ _ hkp).trans (ho k hk fun e => hkv (by rw [e]; rfl))) h5 ⟨hr.1, ?_⟩ (fun k hk => .inl hk)⟩
  rcases hr.2 with ⟨hv, _⟩ | ⟨g', cap', cur, hv, a1, a2, a3⟩
  · cases hv
  · cases hv
    exact .inr ⟨g, cap, cur, rfl, a1, (heap_setCell_other _ _ _ _ (fun e => hgp e.symm)).trans a2, a3⟩
set_option maxHeartbeats 1000000 in
theorem drop_any {w0 : World} {p : Nat} {most : Int} {L : List E} {R : List (Nat × Obj)} {w : World} (h : CaT w0 p most L R w) (k : Int) (hl : L.length ≤ 4096) :
    Calls Tryz.prog 147 #[.pointer (some ⟨p, 0, none⟩), .int .i64 k] w (DropPost w0 p most L R k) := by
  have H := Lib.hid h
  have hF := Lib.hid (find_any h k hl)
  clear h
  go_enter Tryz.func147, Tryz.ntmps147
  go_wp2_with fail
  refine hF.out.mono ?_
  rintro e w1 (⟨i, x, hx, hk, hpos, rfl, hb⟩ | ⟨hno, rfl, hb⟩)
  · have hil := (List.getElem?_eq_some_iff.1 hx).1
    have h1 := H.out.on hb
    obtain ⟨v, hp, hr, _⟩ := h1.row
    obtain ⟨g, cap, cur, rfl, _⟩ := hr.block (by omega)
    have hu := (box_cells hp).2.1
    have hw : IntKind.i64.wrap ((i : Int) + 1) = (i : Int) + 1 := IntWalk.i64_in _ (by omega)
    have HD := Lib.hid fun w (hr : RowE cE 228 w0.heap.size w (.slice (some ⟨g, 0, none⟩) L.length cap) L) => delete_any w0.heap.size g L.length cap i L w hr hil hl
    have HR1 : Hid (decide (posK k L < L.length) = true ∧ dropL k L = L.eraseIdx i) := by
      refine Lib.hid ?_
      unfold dropL
      rw [hpos, if_pos hil]
      exact ⟨decide_eq_true hil, rfl⟩
    have H1 := Lib.hid h1
    have HP := Lib.hid hp
    have HROW := Lib.hid hr
    clear hF hx hk hpos H hb h1 hr hp
    go_wp2_with fail
    refine (HD.out _ HROW.out).mono ?_
    rintro e w2 ⟨rfl, hr2, hb2, ho2⟩
    obtain ⟨c2, f2, h2⟩ := H1.out.deleted HP.out hr2 hb2 ho2
    have H2 := Lib.hid h2
    clear h2 hr2 hb2 ho2 HD
    go_wp2
    go_returns
    unfold DropPost
    rw [HR1.out.1, HR1.out.2]
    exact ⟨rfl, H2.out⟩
  · have H1 := Lib.hid (H.out.on hb)
    have HR1 : Hid (decide (posK k L < L.length) = false ∧ dropL k L = L) := by
      refine Lib.hid ?_
      unfold dropL
      rw [if_neg hno]
      exact ⟨decide_eq_false hno, rfl⟩
    clear hF hno H hb
    go_wp2
    go_returns
    unfold DropPost
    rw [HR1.out.1, HR1.out.2]
    exact ⟨rfl, H1.out⟩
end KA
end Go.Proofs.YtcjfnfdinhbdlaaGreatDoor
namespace Go.Proofs.YtcjfnfdinhbdlaaGreatDoor
set_option maxRecDepth 100000
open Go.ChangeShapes Go.WideShapes Go.ChangeAt Go.RowKit Go.PlainAid Go.MapKept Go.ChangeMaps
namespace KA
def Frame (w0 : World) (q : Nat) (most : Int) (M : List E) (RA : List (Nat × Obj)) : Prop :=
  ∃ v : Value, (q, Obj.cells #[.int .i64 most, v] 212 (0, 0)) ∈ RA ∧ (∀ b o, (b, o) ∈ RA → b = q ∨ v.ownBlock = some b) ∧ v.ownBlock ≠ some q ∧ (∀ b, v.ownBlock = some b → ∃ o, (b, o) ∈ RA) ∧ w0.heap.size ≤ q ∧
    ∀ w' : World, (∀ b o, (b, o) ∈ RA → w'.heap[b]? = some o) → RowE cE 228 w0.heap.size w' v M
theorem frame_of {w0 : World} {q : Nat} {most : Int} {M : List E} {X : List (Nat × Obj)} {w : World} (h : CaT w0 q most M X w) :
    ∃ RA, Frame w0 q most M RA ∧ (∀ b o, (b, o) ∈ RA → w.heap[b]? = some o) ∧ (∀ b o o', (b, o) ∈ X → (b, o') ∉ RA) := by
  obtain ⟨h1, h2, ⟨v, h3, h4, h5, h6⟩, h7⟩ := h
  rcases h4.2 with ⟨rfl, h0⟩ | ⟨g, cap, cur, rfl, a1, a2, a3⟩
  · refine ⟨[(q, .cells #[.int .i64 most, .slice none 0 0] 212 (0, 0))], ⟨.slice none 0 0, List.mem_singleton.2 rfl, fun b o hb => ?_, by simp [Value.ownBlock], fun b hb => by simp [Value.ownBlock] at hb, h2, fun w' _ => ⟨h4.1, .inl ⟨rfl, h0⟩⟩⟩, fun b o hb => ?_, fun b o o' hb hc => ?_⟩
    · rw [List.mem_singleton] at hb
      cases hb
      exact .inl rfl
    · rw [List.mem_singleton] at hb
      cases hb
      exact h3
    · rw [List.mem_singleton] at hc
      cases hc
      exact (h7 _ _ hb).2 rfl
  · have hgq : g ≠ q := fun e => h5 (by rw [← e]; rfl)
    refine ⟨[(q, .cells #[.int .i64 most, .slice (some ⟨g, 0, none⟩) M.length cap] 212 (0, 0)), (g, .cells cur 228 (0, 0))], ⟨_, List.mem_cons_self, fun b o hb => ?_, h5, fun b hb => ?_, h2, fun w' hw => ⟨h4.1, .inr ⟨g, cap, cur, rfl, a1, hw g _ (List.mem_cons_of_mem _ (List.mem_singleton.2 rfl)), a3⟩⟩⟩, fun b o hb => ?_, fun b o o' hb hc => ?_⟩
    · rcases List.mem_cons.1 hb with hb | hb
      · cases hb
        exact .inl rfl
      · rw [List.mem_singleton] at hb
        cases hb
        exact .inr rfl
    · have : g = b := by simpa [Value.ownBlock] using hb
      exact ⟨_, by rw [← this]; exact List.mem_cons_of_mem _ (List.mem_singleton.2 rfl)⟩
    · rcases List.mem_cons.1 hb with hb | hb
      · cases hb
        exact h3
      · rw [List.mem_singleton] at hb
        cases hb
        exact a2
    · rcases List.mem_cons.1 hc with hc | hc
      · cases hc
        exact (h7 _ _ hb).2 rfl
      · rw [List.mem_singleton] at hc
        cases hc
        exact h6 _ _ hb rfl
theorem of_frame {w0 : World} {q : Nat} {most : Int} {M : List E} {RA X : List (Nat × Obj)} {w : World} (h : Frame w0 q most M RA) (hb : Below w0.heap.size w0 w) (hw : ∀ b o, (b, o) ∈ RA → w.heap[b]? = some o)
    (hX : ∀ b o, (b, o) ∈ X → w.heap[b]? = some o) (hA : ∀ b o o', (b, o) ∈ X → (b, o') ∉ RA) : CaT w0 q most M X w := by
  obtain ⟨v, h1, h2, h3, h4, h5, h6⟩ := h
  refine ⟨hb, h5, ⟨v, hw _ _ h1, h6 w hw, h3, fun b o hbo hc => ?_⟩, fun b o hbo => ⟨hX b o hbo, fun e => ?_⟩⟩
  · obtain ⟨o', ho'⟩ := h4 b hc
    exact hA b o o' hbo ho'
  · subst e
    exact hA _ o _ hbo h1
end KA
end Go.Proofs.YtcjfnfdinhbdlaaGreatDoor
namespace Go.Proofs.YtcjfnfdinhbdlaaGreatDoor
set_option maxRecDepth 100000
open Go.ChangeShapes Go.WideShapes Go.ChangeAt Go.RowKit Go.PlainAid Go.Deep
theorem rules_of_laid {l : List (String × DataW Unit)} {W : World} (hp : (l.all fun x => x.2.handleName?.isNone) = true) (hm : ("annalist/op.rules", Rows.laid_annalist_op_rules) ∈ l) (h : laidMetH Tryz.prog l W) : RulesAt W := by
  rw [MakeChecks.laidMetH_plain _ _ _ hp] at h
  obtain ⟨ps, hL, _⟩ := h
  obtain ⟨g, t, cs, fuel, p, h1, h2, h3, h4⟩ := laid_one hL hm
  have hg : Tryz.prog.globalNamed "annalist/op.rules" = some 1 := by kernel_rfl
  have ht : (Tryz.prog.globals[1]?).map (·.type) = some 288 := by kernel_rfl
  obtain rfl := Option.some.inj (hg.symm.trans h1)
  obtain rfl := Option.some.inj (ht.symm.trans h2)
  have e := trod_table Tryz.underlying288 Tryz.underlying248 (by kernel_rfl) (by kernel_rfl) (by kernel_rfl) (fun j f hf => by
    match j, hf with
    | 0, hf => cases hf; exact Tryz.underlying3
    | 1, hf => cases hf; exact Tryz.underlying3
    | 2, hf => cases hf; exact Tryz.underlying3
    | 3, hf => cases hf; exact Tryz.underlying3
    | 4, hf => cases hf; exact Tryz.underlying3
    | j + 5, hf => simp at hf) h4 (tab.map fun r => [r.kind, r.meth, r.needs, r.low, r.high]) rfl
  have e2 : cs.toList = tabCells := e.trans (by rw [List.flatMap_map]; rfl)
  have hc : ∀ j v, tabCells[j]? = some v → W.cell? ⟨1, 0 + j, none⟩ = some v := fun j v hj => by
    rw [World.var?_cell hg h3, Nat.zero_add, ← hj, ← e2]
    simp
  exact ⟨World.block_lt_of_cell? W _ (hc 0 _ rfl), hc⟩
structure OpV.Wf (o : OpV) : Prop where
  id : -9223372036854775808 ≤ o.id ∧ o.id ≤ 9223372036854775807
  proc : -9223372036854775808 ≤ o.proc ∧ o.proc ≤ 9223372036854775807
  obj : -9223372036854775808 ≤ o.obj ∧ o.obj ≤ 9223372036854775807
  kind : -9223372036854775808 ≤ o.kind ∧ o.kind ≤ 9223372036854775807
  meth : -9223372036854775808 ≤ o.meth ∧ o.meth ≤ 9223372036854775807
  arg : -9223372036854775808 ≤ o.arg ∧ o.arg ≤ 9223372036854775807
  sec : -9223372036854775808 ≤ o.sec ∧ o.sec ≤ 9223372036854775807
  res : -9223372036854775808 ≤ o.res ∧ o.res ≤ 9223372036854775807
  inv : -9223372036854775808 ≤ o.inv ∧ o.inv ≤ 9223372036854775807
  ret : -9223372036854775808 ≤ o.ret ∧ o.ret ≤ 9223372036854775807
section
variable {H : Type} {enc : TypeId × Value → H} {P : Program} {w : World} {base : Nat} {sp : Nat → Bool} {held : Bool}
theorem struct_cellsO {e : TypeId} {fs : Array Field} {fuel : Nat} {cs : List Value} {x : DataW H × List MemPlace} (he : P.underlying e = some (.struct fs)) (hone : oneCellFields P fs = true) (hC : P.cellsOf e = fs.size)
    (h : DataW.trod enc P w base sp held fuel e cs = some x) : cs.length = fs.size ∧ ∀ (j : Nat) (f : Field), fs[j]? = some f → ∃ (v : Value) (y : DataW H × List MemPlace) (n : Nat), cs[j]? = some v ∧ DataW.trod enc P w base sp held n f.type [v] = some y := by
  obtain ⟨ys, n, _, _, hlen, hyl, hf⟩ := DataW.trod_struct he h
  have hlen' : cs.length = fs.size := hlen.trans hC
  refine ⟨hlen', fun j f hj => ?_⟩
  obtain ⟨ho, hk⟩ := hone_of hone j f hj
  have hjl : j < fs.size := (Array.getElem?_eq_some_iff.1 hj).1
  have h1 := hf j f hj
  rw [ho, hk] at h1
  have hv : cs[j]? = some (cs[j]'(by omega)) := List.getElem?_eq_getElem (by omega)
  have e1 : (cs.drop j).take 1 = [cs[j]'(by omega)] := by
    rw [List.drop_eq_getElem_cons (by omega)]
    rfl
  rw [e1] at h1
  have hy : ys[j]? = some (ys[j]'(by omega)) := List.getElem?_eq_getElem (by omega)
  exact ⟨_, _, n, hv, h1.trans hy⟩
end
theorem op_read {H : Type} {enc : TypeId × Value → H} {w : World} {base : Nat} {sp : Nat → Bool} {held : Bool} {fuel : Nat} {cs : List Value} {x : DataW H × List MemPlace}
    (h : DataW.trod enc Tryz.prog w base sp held fuel 32 cs = some x) : ∃ o : OpV, cs = [Value.int .i64 o.id, Value.int .i64 o.proc, Value.int .i64 o.obj, Value.int .i64 o.kind, Value.int .i64 o.meth, Value.int .i64 o.arg, Value.int .i64 o.sec, Value.bool o.done, Value.int .i64 o.res, Value.int .i64 o.inv, Value.int .i64 o.ret] ∧ o.Wf := by
  obtain ⟨hl, hf⟩ := struct_cellsO Tryz.underlying32 (by kernel_rfl) (by kernel_rfl) h
  obtain ⟨v0, _, _, g0, r0⟩ := hf 0 _ rfl
  obtain ⟨v1, _, _, g1, r1⟩ := hf 1 _ rfl
  obtain ⟨v2, _, _, g2, r2⟩ := hf 2 _ rfl
  obtain ⟨v3, _, _, g3, r3⟩ := hf 3 _ rfl
  obtain ⟨v4, _, _, g4, r4⟩ := hf 4 _ rfl
  obtain ⟨v5, _, _, g5, r5⟩ := hf 5 _ rfl
  obtain ⟨v6, _, _, g6, r6⟩ := hf 6 _ rfl
  obtain ⟨v7, _, _, g7, r7⟩ := hf 7 _ rfl
  obtain ⟨v8, _, _, g8, r8⟩ := hf 8 _ rfl
  obtain ⟨v9, _, _, g9, r9⟩ := hf 9 _ rfl
  obtain ⟨v10, _, _, g10, r10⟩ := hf 10 _ rfl
  obtain ⟨n0, e0, _, w0⟩ := DataW.trod_int Tryz.underlying3 r0
  obtain ⟨n1, e1, _, w1⟩ := DataW.trod_int Tryz.underlying3 r1
  obtain ⟨n2, e2, _, w2⟩ := DataW.trod_int Tryz.underlying3 r2
  obtain ⟨n3, e3, _, w3⟩ := DataW.trod_int Tryz.underlying3 r3
  obtain ⟨n4, e4, _, w4⟩ := DataW.trod_int Tryz.underlying3 r4
  obtain ⟨n5, e5, _, w5⟩ := DataW.trod_int Tryz.underlying3 r5
  obtain ⟨n6, e6, _, w6⟩ := DataW.trod_int Tryz.underlying3 r6
  obtain ⟨n7, e7, _⟩ := DataW.trod_bool Tryz.underlying4 r7
  obtain ⟨n8, e8, _, w8⟩ := DataW.trod_int Tryz.underlying3 r8
  obtain ⟨n9, e9, _, w9⟩ := DataW.trod_int Tryz.underlying3 r9
  obtain ⟨n10, e10, _, w10⟩ := DataW.trod_int Tryz.underlying3 r10
  obtain rfl : v0 = _ := by simpa using e0
  obtain rfl : v1 = _ := by simpa using e1
  obtain rfl : v2 = _ := by simpa using e2
  obtain rfl : v3 = _ := by simpa using e3
  obtain rfl : v4 = _ := by simpa using e4
  obtain rfl : v5 = _ := by simpa using e5
  obtain rfl : v6 = _ := by simpa using e6
  obtain rfl : v7 = _ := by simpa using e7
  obtain rfl : v8 = _ := by simpa using e8
  obtain rfl : v9 = _ := by simpa using e9
  obtain rfl : v10 = _ := by simpa using e10
  refine ⟨⟨n0, n1, n2, n3, n4, n5, n6, n7, n8, n9, n10⟩, ?_, ⟨bounds_i64 w0, bounds_i64 w1, bounds_i64 w2, bounds_i64 w3, bounds_i64 w4, bounds_i64 w5, bounds_i64 w6, bounds_i64 w8, bounds_i64 w9, bounds_i64 w10⟩⟩
  have hl4 : cs.length = 11 := hl
  apply List.ext_getElem?
  intro i
  match i with
  | 0 => exact g0
  | 1 => exact g1
  | 2 => exact g2
  | 3 => exact g3
  | 4 => exact g4
  | 5 => exact g5
  | 6 => exact g6
  | 7 => exact g7
  | 8 => exact g8
  | 9 => exact g9
  | 10 => exact g10
  | i + 11 => rw [List.getElem?_eq_none (by omega), List.getElem?_eq_none (by show 11 ≤ i + 11; omega)]
theorem op_open {H : Type} {enc : TypeId × Value → H} {w : World} {base b0 : Nat} {sp : Nat → Bool} {held : Bool} {r : Reach} {v : Value} {d : DataW H} {p : List MemPlace}
    (hv : Value.okWide Tryz.prog w r b0 32 v) (h : DataW.Trod enc Tryz.prog w base sp held 32 v d p) : ∃ o : OpV, v = Value.agg #[Value.int .i64 o.id, Value.int .i64 o.proc, Value.int .i64 o.obj, Value.int .i64 o.kind, Value.int .i64 o.meth, Value.int .i64 o.arg, Value.int .i64 o.sec, Value.bool o.done, Value.int .i64 o.res, Value.int .i64 o.inv, Value.int .i64 o.ret] ∧ o.Wf := by
  obtain ⟨cs, rfl, hsz⟩ := okWide_struct Tryz.underlying32 hv
  obtain ⟨fuel, hf⟩ := h
  obtain ⟨o, hy, hw⟩ := op_read hf
  refine ⟨o, ?_, hw⟩
  have : cs = ([Value.int .i64 o.id, Value.int .i64 o.proc, Value.int .i64 o.obj, Value.int .i64 o.kind, Value.int .i64 o.meth, Value.int .i64 o.arg, Value.int .i64 o.sec, Value.bool o.done, Value.int .i64 o.res, Value.int .i64 o.inv, Value.int .i64 o.ret]).toArray := by rw [← hy]; simp [Value.cells]
  rw [this]
theorem store_o (p v : Value) : Instr.storeAt 32 p v = storeS 32 p v := rfl
theorem one11 (o : OpV) : (#[Value.int .i64 o.id, Value.int .i64 o.proc, Value.int .i64 o.obj, Value.int .i64 o.kind, Value.int .i64 o.meth, Value.int .i64 o.arg, Value.int .i64 o.sec, Value.bool o.done, Value.int .i64 o.res, Value.int .i64 o.inv, Value.int .i64 o.ret]).all (·.oneCell') = true := by simp [Value.oneCell']
theorem store_op {w : World} {b : Nat} {c : Array Value} (h : w.heap[b]? = some (.cells c 32 (0, 0))) (hc : c.size = 11) (o : OpV) :
    (storeS 32 (.pointer (some ⟨b, 0, none⟩)) (Value.agg #[Value.int .i64 o.id, Value.int .i64 o.proc, Value.int .i64 o.obj, Value.int .i64 o.kind, Value.int .i64 o.meth, Value.int .i64 o.arg, Value.int .i64 o.sec, Value.bool o.done, Value.int .i64 o.res, Value.int .i64 o.inv, Value.int .i64 o.ret])).run Tryz.prog w = .ok () (w.setRow b #[Value.int .i64 o.id, Value.int .i64 o.proc, Value.int .i64 o.obj, Value.int .i64 o.kind, Value.int .i64 o.meth, Value.int .i64 o.arg, Value.int .i64 o.sec, Value.bool o.done, Value.int .i64 o.res, Value.int .i64 o.inv, Value.int .i64 o.ret]) := by
  have hsz : (Tryz.prog.info? 32).map (·.size) = some 11 := by kernel_rfl
  have h := run_storeVar_row (P := Tryz.prog) w b 32 32 c #[Value.int .i64 o.id, Value.int .i64 o.proc, Value.int .i64 o.obj, Value.int .i64 o.kind, Value.int .i64 o.meth, Value.int .i64 o.arg, Value.int .i64 o.sec, Value.bool o.done, Value.int .i64 o.res, Value.int .i64 o.inv, Value.int .i64 o.ret] h (by rw [hsz]; rfl) hc (one11 o)
  unfold storeS
  simp only [Instr.storeAt, Instr.sureAddr, Sem.run_bind, Sem.run_pure, Result.andThen_ok]
  exact h
theorem store_op_new (w : World) (c : Array Value) (hc : c.size = 11) (o : OpV) :
    (storeS 32 (.pointer (some ⟨w.heap.size, 0, none⟩)) (Value.agg #[Value.int .i64 o.id, Value.int .i64 o.proc, Value.int .i64 o.obj, Value.int .i64 o.kind, Value.int .i64 o.meth, Value.int .i64 o.arg, Value.int .i64 o.sec, Value.bool o.done, Value.int .i64 o.res, Value.int .i64 o.inv, Value.int .i64 o.ret])).run Tryz.prog (w.alloc (.cells c 32)) = .ok () (w.alloc (.cells #[Value.int .i64 o.id, Value.int .i64 o.proc, Value.int .i64 o.obj, Value.int .i64 o.kind, Value.int .i64 o.meth, Value.int .i64 o.arg, Value.int .i64 o.sec, Value.bool o.done, Value.int .i64 o.res, Value.int .i64 o.inv, Value.int .i64 o.ret] 32)) := by
  rw [store_op (heap_alloc_new w _) hc, setRow_alloc]
end Go.Proofs.YtcjfnfdinhbdlaaGreatDoor
namespace Go.Proofs.YtcjfnfdinhbdlaaGreatDoor
set_option maxRecDepth 100000
open Go.ChangeShapes Go.WideShapes Go.ChangeAt Go.RowKit Go.PlainAid Go.Deep
theorem load_cellsO {w : World} {b p : Nat} {o : OpV} (h : ∀ (j : Nat) (u : Value), (#[Value.int .i64 o.id, Value.int .i64 o.proc, Value.int .i64 o.obj, Value.int .i64 o.kind, Value.int .i64 o.meth, Value.int .i64 o.arg, Value.int .i64 o.sec, Value.bool o.done, Value.int .i64 o.res, Value.int .i64 o.inv, Value.int .i64 o.ret].toList)[j]? = some u → w.cell? ⟨b, p + j, none⟩ = some u) : (loadS 32 (.pointer (some ⟨b, p, none⟩))).run Tryz.prog w = .ok (Value.agg #[Value.int .i64 o.id, Value.int .i64 o.proc, Value.int .i64 o.obj, Value.int .i64 o.kind, Value.int .i64 o.meth, Value.int .i64 o.arg, Value.int .i64 o.sec, Value.bool o.done, Value.int .i64 o.res, Value.int .i64 o.inv, Value.int .i64 o.ret]) w :=
  loadMany_range (P := Tryz.prog) (t := 32) #[Value.int .i64 o.id, Value.int .i64 o.proc, Value.int .i64 o.obj, Value.int .i64 o.kind, Value.int .i64 o.meth, Value.int .i64 o.arg, Value.int .i64 o.sec, Value.bool o.done, Value.int .i64 o.res, Value.int .i64 o.inv, Value.int .i64 o.ret].toList _ h Tryz.underlying32 (by kernel_rfl) (by kernel_rfl)
def OpsOf (w : World) (v : Value) (l : List OpV) : Prop :=
  ((l = [] ∧ ∃ ao cap, v = .slice ao 0 cap) ∨ ∃ b p cap, v = .slice (some ⟨b, p, none⟩) l.length cap ∧ b < w.heap.size ∧ 0 < l.length ∧ ∀ (i : Nat) (o : OpV), l[i]? = some o → ∀ (j : Nat) (u : Value), (#[Value.int .i64 o.id, Value.int .i64 o.proc, Value.int .i64 o.obj, Value.int .i64 o.kind, Value.int .i64 o.meth, Value.int .i64 o.arg, Value.int .i64 o.sec, Value.bool o.done, Value.int .i64 o.res, Value.int .i64 o.inv, Value.int .i64 o.ret].toList)[j]? = some u → w.cell? ⟨b, p + i * 11 + j, none⟩ = some u) ∧
  ∀ o ∈ l, o.Wf
theorem OpsOf.on {w w' : World} {v : Value} {l : List OpV} (h : OpsOf w v l) (hb : Below w.heap.size w w') : OpsOf w' v l := by
  refine ⟨?_, h.2⟩
  rcases h.1 with h | ⟨b, p, cap, hv, hlt, h0, hr⟩
  · exact .inl h
  · exact .inr ⟨b, p, cap, hv, Nat.lt_of_lt_of_le hlt hb.size, h0, fun i o hi j u hj => (hb.cell (p := ⟨b, p + i * 11 + j, none⟩) hlt).trans (hr i o hi j u hj)⟩
theorem OpsOf.len {w : World} {v : Value} {l : List OpV} (h : OpsOf w v l) : ∃ ao cap, v = .slice ao l.length cap := by
  rcases h.1 with ⟨rfl, ao, cap, rfl⟩ | ⟨b, p, cap, rfl, _⟩
  · exact ⟨ao, cap, rfl⟩
  · exact ⟨_, cap, rfl⟩
theorem OpsOf.at {w : World} {v : Value} {l : List OpV} (h : OpsOf w v l) {i : Nat} {o : OpV} (hi : l[i]? = some o) : ∃ b p cap, v = .slice (some ⟨b, p, none⟩) l.length cap ∧ b < w.heap.size ∧ o.Wf ∧ ∀ (j : Nat) (u : Value), (#[Value.int .i64 o.id, Value.int .i64 o.proc, Value.int .i64 o.obj, Value.int .i64 o.kind, Value.int .i64 o.meth, Value.int .i64 o.arg, Value.int .i64 o.sec, Value.bool o.done, Value.int .i64 o.res, Value.int .i64 o.inv, Value.int .i64 o.ret].toList)[j]? = some u → w.cell? ⟨b, p + i * 11 + j, none⟩ = some u := by
  rcases h.1 with ⟨rfl, _⟩ | ⟨b, p, cap, rfl, hlt, _, hr⟩
  · simp at hi
  · exact ⟨b, p, cap, rfl, hlt, h.2 o (List.mem_of_getElem? hi), hr i o hi⟩
def cellsO (o : OpV) : List Value := #[Value.int .i64 o.id, Value.int .i64 o.proc, Value.int .i64 o.obj, Value.int .i64 o.kind, Value.int .i64 o.meth, Value.int .i64 o.arg, Value.int .i64 o.sec, Value.bool o.done, Value.int .i64 o.res, Value.int .i64 o.inv, Value.int .i64 o.ret].toList
theorem cellsO_len (o : OpV) : (cellsO o).length = 11 := rfl
def flatO (l : List OpV) : List Value := l.flatMap cellsO
theorem flatO_len : ∀ l : List OpV, (flatO l).length = l.length * 11
  | [] => rfl
  | o :: r => by
    have := flatO_len r
    unfold flatO at this ⊢
    rw [List.flatMap_cons, List.length_append, cellsO_len, this, List.length_cons]
    omega
theorem flatO_at : ∀ (l : List OpV) (i : Nat) (o : OpV), l[i]? = some o → ∀ (j : Nat) (u : Value), (cellsO o)[j]? = some u → (flatO l)[i * 11 + j]? = some u
  | [], i, o, h, _, _, _ => by simp at h
  | x :: r, 0, o, h, j, u, hj => by
    have : x = o := by simpa using h
    subst this
    unfold flatO
    rw [List.flatMap_cons, Nat.zero_mul, Nat.zero_add, List.getElem?_append_left (List.getElem?_eq_some_iff.1 hj).1]
    exact hj
  | x :: r, i + 1, o, h, j, u, hj => by
    have := flatO_at r i o (by simpa using h) j u hj
    unfold flatO at this ⊢
    rw [List.flatMap_cons, List.getElem?_append_right (by rw [cellsO_len]; omega), cellsO_len, show (i + 1) * 11 + j - 11 = i * 11 + j by omega]
    exact this
theorem flatO_one (l : List OpV) : ∀ u ∈ flatO l, u.oneCell' = true := fun u hu => by
  obtain ⟨o, _, ho⟩ := List.mem_flatMap.1 hu
  unfold cellsO at ho
  have := one11 o
  rw [Array.all_eq_true_iff_forall_mem] at this
  exact this u (by simpa using ho)
def appOO (vs : Array Value) : Sem Value := Builtin.append_ #[28, 28] 28 vs
theorem app_opO (vs : Array Value) : Builtin.append_ #[28, 28] 28 vs = appOO vs := rfl
theorem info_op : (Tryz.prog.info? 32).map (fun i => (i.zero, i.size, i.bytes)) = some (some (Value.agg #[Value.int .i64 0, Value.int .i64 0, Value.int .i64 0, Value.int .i64 0, Value.int .i64 0, Value.int .i64 0, Value.int .i64 0, Value.bool false, Value.int .i64 0, Value.int .i64 0, Value.int .i64 0]), 11, 88) := by kernel_rfl
def OpsOwn (n₀ : Nat) (W : World) (v : Value) (l : List OpV) : Prop := W.ownsRow n₀ 32 11 v l.length (flatO l)
theorem OpsOwn.reads {n₀ : Nat} {W : World} {v : Value} {l : List OpV} (h : OpsOwn n₀ W v l) (hw : ∀ o ∈ l, o.Wf) : OpsOf W v l := by
  refine ⟨?_, hw⟩
  obtain ⟨h1, h2⟩ := h
  rcases h2 with ⟨rfl, h0⟩ | ⟨g, cap, cur, rfl, hn, hg, hl, hc, hsz, ht⟩
  · exact .inl ⟨List.length_eq_zero_iff.1 (by simpa using h0), none, 0, rfl⟩
  · by_cases h0 : l.length = 0
    · exact .inl ⟨List.length_eq_zero_iff.1 h0, _, _, by rw [h0]⟩
    · refine .inr ⟨g, 0, cap, rfl, heap_inO hg, by omega, fun i o hi j u hj => ?_⟩
      rw [Nat.zero_add, cell_of_row _ _ _ _ _ _ hg]
      have := flatO_at l i o hi j u hj
      rw [← ht, List.getElem?_take] at this
      split at this
      · rw [← this, Array.getElem?_toList]
      · cases this
end Go.Proofs.YtcjfnfdinhbdlaaGreatDoor
namespace Go.Proofs.YtcjfnfdinhbdlaaGreatDoor
set_option maxRecDepth 100000
open Go.ChangeShapes Go.WideShapes Go.ChangeAt Go.RowKit Go.PlainAid Go.Deep
def zeroV : OpV := ⟨0, 0, 0, 0, 0, 0, 0, false, 0, 0, 0⟩
end Go.Proofs.YtcjfnfdinhbdlaaGreatDoor
namespace Go.Proofs.YtcjfnfdinhbdlaaGreatDoor
set_option maxRecDepth 100000
open Go.ChangeShapes Go.WideShapes Go.ChangeAt Go.RowKit Go.PlainAid
namespace KA
def appC (vs : Array Value) : Sem Value := Builtin.append_ #[210, 210] 210 vs
theorem app_c (vs : Array Value) : Builtin.append_ #[210, 210] 210 vs = appC vs := rfl
attribute [local go_sem ↓ high] app_c
theorem eq_rows (a : Option Addr) (n c : Nat) : ∀ w, (binOp .eql 210 (.slice a n c) (.slice none 0 0)).run Tryz.prog w = .ok (.bool a.isNone) w := fun w => Lib.run_eql_slice_nil w _ _ a n c 0 0 Tryz.underlying210
set_option maxHeartbeats 1000000 in
theorem clone_any {n₀ : Nat} {w : World} {v : Value} {L : List E} (h : RowE cE 228 n₀ w v L) (hl : L.length ≤ 4096) :
    Calls Tryz.prog 226 #[v] w fun e w' => ∃ v', e = .returned v' ∧ RowE cE 228 w.heap.size w' v' L ∧ Below w.heap.size w w' := by
  have hq := eq_rows
  rcases h.2 with ⟨rfl, h0⟩ | ⟨g, cap, cur, rfl, _, hg, hlc, hcm, hcs, ht⟩
  · obtain rfl : L = [] := List.length_eq_zero_iff.1 h0
    clear h
    go_enter Tryz.func226, Tryz.ntmps226
    go_wp2
    go_returns
    exact ⟨_, rfl, ⟨rfl, .inl ⟨rfl, rfl⟩⟩, Below.refl _ _⟩
  · have happ : ∃ v' w', (appC #[.slice (some ⟨w.heap.size, 0, none⟩) 0 0, .slice (some ⟨g, 0, none⟩) L.length cap]).run Tryz.prog (w.alloc (.cells #[] 228)) = .ok v' w' ∧ RowE cE 228 w.heap.size w' v' L ∧ Below w.heap.size w w' := by
      have hnews : ∀ j u, (flat cE L)[j]? = some u → (w.alloc (.cells #[] 228)).cell? ((⟨g, 0, none⟩ : Addr).add j) = some u := fun j u hu => by
        have hj : j < L.length * 3 := by rw [← flat_len three L]; exact (List.getElem?_eq_some_iff.1 hu).1
        have hadd : (⟨g, 0, none⟩ : Addr).add j = ⟨g, j, none⟩ := by unfold Addr.add; split <;> simp_all
        rw [hadd]
        refine Lib.cell?_alloc_some _ ?_
        rw [cell_of_row _ _ _ _ _ _ hg, ← hu, ← ht, List.getElem?_take_of_lt hj, Array.getElem?_toList]
      obtain ⟨i0, hi, hz0, hz1, hz2⟩ := info_parts info_e2
      obtain ⟨v', w', hr, h2, h3, _⟩ := run_append_own_at (P := Tryz.prog) (w := w.alloc (.cells #[] 228)) w.heap.size 210 210 228 i0 _ 3 32 Tryz.underlying210 hi hz0 hz1 hz2 (by simp [Value.cells]) (by decide) (.slice (some ⟨w.heap.size, 0, none⟩) 0 0) 0 []
        (World.ownsRow_made w #[] 0 (Nat.le_refl _) (Nat.zero_le _) rfl) ⟨g, 0, none⟩ L.length cap (flat cE L) (flat_len three L) hnews (flat_one three L) (by unfold maxLen; omega) (by omega) (by simp)
      refine ⟨v', w', hr, ?_, ((Below.refl _ w).alloc (Nat.le_refl _) _).grown h3 (by simp) (by intro k hk; simp [Value.ownBlock] at hk; omega)⟩
      rw [Nat.zero_add, List.nil_append] at h2
      exact h2
    obtain ⟨v', w', hr, h2, h3⟩ := happ
    have H2 := Lib.hid h2
    have H3 := Lib.hid h3
    clear h h2 h3
    go_enter Tryz.func226, Tryz.ntmps226
    go_wp2
    go_returns
    exact ⟨v', rfl, H2.out, H3.out⟩
theorem mk_all (p : Nat) (w : World) :
    Calls Tryz.prog 203 #[.pointer (some ⟨p, 0, none⟩)] w fun e w' => e = .returned (.func (.func 225) #[] #[.pointer (some ⟨w.heap.size, 0, none⟩)]) ∧ w.alloc (.cells #[.pointer (some ⟨p, 0, none⟩)] 99) = w' := by
  have hmf := make_func
  go_enter Tryz.func203, Tryz.ntmps203
  go_wp2
  go_returns
  exact ⟨rfl, rfl⟩
end KA
end Go.Proofs.YtcjfnfdinhbdlaaGreatDoor
