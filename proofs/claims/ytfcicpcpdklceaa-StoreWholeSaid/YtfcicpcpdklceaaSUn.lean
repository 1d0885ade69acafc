/- Package journal: the small calls of Unpack. Package journal: Unpack, of what Pack made. -/
import Derived.Test.YtfcicpcpdklceaaSFree
import Derived.Test.YtfcicpcpdklceaaShJoin
import Derived.Handy
namespace Go.Proofs.Ytfcicpcpdklceaa
set_option maxRecDepth 100000
open Go.ChangeShapes Go.WideShapes Go.ChangeAt Go.RowKit Go.PlainAid
open Go.Sort (grow)

set_option maxHeartbeats 1000000 in
theorem next_keep (bk : Nat) (s : ByteArray) (w : World) (h4 : 4 ≤ s.size) (hb : w.heap[bk]? = some (.cells #[.string s] 9 (0, 0))) :
    Calls Try.prog 80 #[.pointer (some ⟨bk, 0, none⟩)] w fun e w' => e = .returned (.int .i64 (unfixZ (s.extract 0 4))) ∧ Keeps (fun j => j = bk) w w' ∧ w'.heap[bk]? = some (.cells #[.string (s.extract 4 s.size)] 9 (0, 0)) := by
  have hz := unfixZ_short s h4
  have hc : w.cell? ⟨bk, 0, none⟩ = some (.string s) := by rw [cell_of_row _ _ _ _ _ _ hb]; rfl
  have hf : w.frozen? ⟨bk, 0, none⟩ = false := frozen_of_row _ _ _ _ _ hb
  have hlt := heap_lt' hb
  have HB0 := Lib.hid hb
  clear hb
  go_enter Try.func80, Try.ntmps80
  go_wp2_with fail
  refine (unfixed_any (s.extract 0 4) _).mono ?_
  rintro e w1 ⟨rfl, hb⟩
  have hc1 := (hb.cell (p := ⟨bk, 0, none⟩) hlt).trans hc
  have hf1 : w1.frozen? ⟨bk, 0, none⟩ = false := ((bcell hb).2 bk 0 hlt).trans hf
  have HB1 := Lib.hid ((hb.block bk hlt).trans HB0.out)
  have HB := Lib.hid hb
  clear hb hc hf
  go_wp2
  go_returns
  exact ⟨ret_i (by first | rfl | (rw [wrap64_in _ ⟨by omega, by omega⟩])), Keeps.setCell (own := fun j => j = bk) (Keeps.of_below HB.out) (.inl rfl) _, heap_setCell_same _ _ _ _ _ _ HB1.out⟩
theorem odd_no (s : ByteArray) (w : World) (h : s.size = 256) : Calls Try.prog 63 #[.string s] w fun e w' => e = .returned (.bool false) ∧ w = w' := by
  have h1 : ((s.size : Int) != 256) = false := by rw [h]; rfl
  clear h
  go_enter Try.func63, Try.ntmps63
  go_wp2
  go_returns
  exact ⟨rfl, rfl⟩
set_option maxHeartbeats 1000000 in
theorem index_no (g n c : Nat) (T : Nat → ByteArray) (w : World) (hT : ∀ j, j < n → (T j).size = 256) (hc : ∀ j, j < n → w.cell? ⟨g, j, none⟩ = some (.string (T j))) (hn : n ≤ 1000000) :
    Calls Try.prog 81 #[.slice (some ⟨g, 0, none⟩) n c, .func (.func 63) #[] #[]] w fun e w' => e = .returned (.int .i64 (-1)) ∧ w = w' := by
  have HC := Lib.hid hc
  have HT := Lib.hid hT
  clear hc hT
  go_enter Try.func81, Try.ntmps81
  go_wp2_with fail
  go_loop [8] (fun i => ∃ k : Nat, k ≤ n ∧ i = .int .i64 k) (fun i => n - (intOf i).toNat)
  case atStart => exact ⟨0, Nat.zero_le _, rfl⟩
  case round =>
    obtain ⟨k, hk, rfl⟩ := hrel
    by_cases hlt : k < n
    · have c0 := HC.out k hlt
      have HO := Lib.hid (odd_no (T k) w (HT.out k hlt))
      generalize T k = t at *
      go_wp2_with fail
      refine HO.out.mono ?_
      rintro e _ ⟨rfl, rfl⟩
      go_wp2
      go_round
      case rel => exact ⟨k + 1, by omega, by go_num⟩
      case measure => simp [intOf]; omega
    · obtain rfl : k = n := by omega
      go_wp2
      go_returns
      exact ⟨rfl, rfl⟩
theorem contains_no (g n c : Nat) (T : Nat → ByteArray) (w : World) (hT : ∀ j, j < n → (T j).size = 256) (hc : ∀ j, j < n → w.cell? ⟨g, j, none⟩ = some (.string (T j))) (hn : n ≤ 1000000) :
    Calls Try.prog 62 #[.slice (some ⟨g, 0, none⟩) n c, .func (.func 63) #[] #[]] w fun e w' => e = .returned (.bool false) ∧ w = w' := by
  have HI := Lib.hid (index_no g n c T w hT hc hn)
  clear hT hc
  go_enter Try.func62, Try.ntmps62
  go_wp2_with fail
  refine HI.out.mono ?_
  rintro e _ ⟨rfl, rfl⟩
  go_wp2
  go_returns
  exact ⟨rfl, rfl⟩
theorem clone_any (s : ByteArray) (w : World) (h : s.size ≤ 256) : Calls Try.prog 65 #[.string s] w fun e w' => e = .returned (.string s) ∧ Below w.heap.size w w' := by
  have HC := Lib.hid (sh_stringslite_Clone s w (by omega))
  go_enter Try.func65, Try.ntmps65
  go_wp2_with fail
  refine HC.out.mono ?_
  rintro e w1 ⟨rfl, hb⟩
  have HB := Lib.hid hb
  clear hb
  go_wp2
  go_returns
  exact ⟨rfl, HB.out⟩
theorem join_one (bk c : Nat) (x : ByteArray) (w : World) (hc : w.cell? ⟨bk, 0, none⟩ = some (.string x)) : Calls Try.prog 64 #[.slice (some ⟨bk, 0, none⟩) 1 c, .string ⟨#[]⟩] w fun e w' => e = .returned (.string x) ∧ w = w' :=
  (Any.strings_Join_one sh_lays156 sh_Builder_Extra_156 bk 0 c x ⟨#[]⟩ w hc).mono fun _ _ ⟨a, b⟩ => ⟨a, b.symm⟩

/-- The head of packed pages, number by number. -/
theorem headT_bt (n : Int) (l : List PageV) {k : Nat} {x : PageV} (hx : l[k]? = some x) {j : Nat} (hj : j < 4) : ∀ m, k < m → m ≤ l.length → bt (headT n (l.take m)) (4 + 4 * k + j) = bt (fixS (uZ x.at_) 4) j := by
  intro m
  induction m with
  | zero => intro h; omega
  | succ m ih =>
    intro h1 h2
    obtain ⟨y, hy⟩ : ∃ y, l[m]? = some y := ⟨_, List.getElem?_eq_getElem (by omega)⟩
    have e : l.take (m + 1) = l.take m ++ [y] := by rw [List.take_add_one, hy]; rfl
    have hs := headT_size n m l (by omega)
    rw [e, headT_snoc, bt_append, hs]
    by_cases c : k < m
    · rw [if_pos (by omega)]
      exact ih c (by omega)
    · obtain rfl : k = m := by omega
      rw [hx] at hy
      obtain rfl : x = y := by simpa using hy
      rw [if_neg (by omega), show 4 + 4 * k + j - (4 + 4 * k) = j by omega]
theorem headT_first (n : Int) : ∀ (m : Nat) (l : List PageV), m ≤ l.length → ∀ j, j < 4 → bt (headT n (l.take m)) j = bt (fixS (uZ n) 4) j := by
  intro m
  induction m with
  | zero => intro l _ j _; rfl
  | succ m ih =>
    intro l h j hj
    obtain ⟨y, hy⟩ : ∃ y, l[m]? = some y := ⟨_, List.getElem?_eq_getElem (by omega)⟩
    have e : l.take (m + 1) = l.take m ++ [y] := by rw [List.take_add_one, hy]; rfl
    rw [e, headT_snoc, bt_append, headT_size n m l (by omega), if_pos (by omega)]
    exact ih l (by omega) j hj
/-- The first block of packed pages. -/
def headBlock (l : List PageV) : ByteArray := filled (headT (l.length : Int) l)
theorem headBlock_size (l : List PageV) : (headBlock l).size = 256 := filled_size _
theorem packB_small {l : List PageV} (h : l.length ≤ 60) : packB l = headBlock l :: l.map fun p => filled p.data := by
  have hs := headT_full l
  have hc : chunks (headT (l.length : Int) l).size = 1 := by unfold chunks; rw [hs]; omega
  have hk : chunkT (headT (l.length : Int) l) 0 = headT (l.length : Int) l := by
    unfold chunkT chunkN
    rw [hs, show 256 * 0 = 0 from rfl, show 0 + min 256 (4 + 4 * l.length - 0) = 4 + 4 * l.length by omega]
    exact ext_full _ hs
  unfold packB
  rw [hc, show List.range 1 = [0] from rfl, List.map_cons, List.map_nil, hk]
  rfl
theorem headBlock_count {l : List PageV} (h : l.length ≤ 60) : unfixZ ((headBlock l).extract 0 4) = (l.length : Int) := by
  have e : (headBlock l).extract 0 4 = fixS (uZ (l.length : Int)) 4 := by
    have z := fixS4_size (uZ (l.length : Int))
    refine text_ext (by rw [ByteArray.size_extract, headBlock_size, z]; decide) fun k hk => ?_
    have hk4 : k < 4 := by rw [ByteArray.size_extract, headBlock_size] at hk; omega
    rw [bt_ext _ _ _ _ (by rw [headBlock_size]; decide) (by omega), Nat.zero_add]
    unfold headBlock
    rw [filled_bt _ (by omega)]
    have := headT_first (l.length : Int) l.length l (Nat.le_refl _) k hk4
    rwa [List.take_length] at this
  rw [e, back_fix4 _ (uZ_b _).1 (uZ_b _).2]
  unfold uZ
  omega
theorem headBlock_num {l : List PageV} (h : l.length ≤ 60) {k : Nat} {x : PageV} (hx : l[k]? = some x) (h0 : 0 ≤ x.at_) (h1 : x.at_ < 2048) : unfixZ (((headBlock l).extract (4 + 4 * k) 256).extract 0 4) = x.at_ := by
  have hk := (List.getElem?_eq_some_iff.1 hx).1
  have e : ((headBlock l).extract (4 + 4 * k) 256).extract 0 4 = fixS (uZ x.at_) 4 := by
    have z := fixS4_size (uZ x.at_)
    rw [ext_ext _ _ _ _ _ (by omega)]
    refine text_ext (by rw [ByteArray.size_extract, headBlock_size, z]; omega) fun j hj => ?_
    have hj4 : j < 4 := by rw [ByteArray.size_extract, headBlock_size] at hj; omega
    rw [bt_ext _ _ _ _ (by rw [headBlock_size]; omega) (by omega)]
    unfold headBlock
    rw [filled_bt _ (by omega)]
    have := headT_bt (l.length : Int) l hx hj4 l.length hk (Nat.le_refl _)
    rw [List.take_length] at this
    rw [show 4 + 4 * k + 0 + j = 4 + 4 * k + j by omega]
    exact this
  rw [e, back_fix4 _ (uZ_b _).1 (uZ_b _).2]
  unfold uZ
  omega
end Go.Proofs.Ytfcicpcpdklceaa
namespace Go.Proofs.Ytfcicpcpdklceaa
set_option maxRecDepth 100000
open Go.ChangeShapes Go.WideShapes Go.ChangeAt Go.RowKit Go.PlainAid
open Go.Sort (grow)

theorem make_pages (n : Nat) (hn : n ≤ 4096) (w : World) : (Instr.makeSlice 22 (.int .i64 n) (.int .i64 n)).run Try.prog w = .ok (.slice (some ⟨w.heap.size, 0, none⟩) n n) (w.alloc (.cells (madeCells #[.int .i64 0, .string ⟨#[]⟩] (n * 2)) 49)) := by
  obtain ⟨i, h1, h2, h3, h4⟩ := info_parts info_page
  have h := run_make (P := Try.prog) w 22 49 i _ Try.underlying22 h1 h2 .i64 .i64 n n (by omega) (by omega) (by rw [h4]; omega) (by omega)
  rw [h, h3]
  rfl
/-- The pages that are made, k of them filled. -/
def PagesAt (wr : World) (g n k : Nat) (l : List PageV) : Prop := ∃ C : Array Value, wr.heap[g]? = some (.cells C 49 (0, 0)) ∧ C.size = n * 2 ∧ C.toList.take (k * 2) = pageCells (l.take k)
theorem PagesAt.keep {w w' : World} {g n k : Nat} {l : List PageV} (h : PagesAt w g n k l) (e : w'.heap[g]? = w.heap[g]?) : PagesAt w' g n k l := by
  obtain ⟨C, h1, h2⟩ := h
  exact ⟨C, e.trans h1, h2⟩
theorem PagesAt.lt {w : World} {g n k : Nat} {l : List PageV} (h : PagesAt w g n k l) : g < w.heap.size := by
  obtain ⟨C, h1, h2⟩ := h
  exact heap_lt' h1
theorem PagesAt.cells {w : World} {g n k : Nat} {l : List PageV} (h : PagesAt w g n k l) (hk : k < n) : (∃ v, w.cell? ⟨g, k * 2, none⟩ = some v) ∧ (∃ v, w.cell? ⟨g, k * 2 + 1, none⟩ = some v) ∧ w.frozen? ⟨g, k * 2, none⟩ = false ∧ w.frozen? ⟨g, k * 2 + 1, none⟩ = false := by
  obtain ⟨C, h1, h2, _⟩ := h
  refine ⟨⟨C[k * 2]'(by omega), ?_⟩, ⟨C[k * 2 + 1]'(by omega), ?_⟩, frozen_of_row _ _ _ _ _ h1, frozen_of_row _ _ _ _ _ h1⟩
  · rw [cell_of_row _ _ _ _ _ _ h1, Array.getElem?_eq_getElem]
  · rw [cell_of_row _ _ _ _ _ _ h1, Array.getElem?_eq_getElem]
theorem PagesAt.set {w : World} {g n k : Nat} {l : List PageV} {x : PageV} (h : PagesAt w g n k l) (hk : k < n) (hx : l[k]? = some x) : PagesAt ((w.setCell ⟨g, k * 2, none⟩ (.int .i64 x.at_)).setCell ⟨g, k * 2 + 1, none⟩ (.string x.data)) g n (k + 1) l := by
  obtain ⟨C, h1, h2, h3⟩ := h
  have a1 := heap_setCell_same w g (k * 2) _ _ (.int .i64 x.at_) h1
  have a2 := heap_setCell_same _ g (k * 2 + 1) _ _ (.string x.data) a1
  refine ⟨_, a2, by simp [h2], ?_⟩
  have hl : (l.take k).length = k := by rw [List.length_take]; have := (List.getElem?_eq_some_iff.1 hx).1; omega
  have e : l.take (k + 1) = l.take k ++ [x] := by rw [List.take_add_one, hx]; rfl
  rw [e, pageCells_snoc, ← h3]
  simp only [Array.toList_setIfInBounds]
  apply List.ext_getElem?
  intro i
  by_cases c : i < (k + 1) * 2
  · rw [List.getElem?_take_of_lt c, List.getElem?_set, List.getElem?_set]
    have hcl : C.toList.length = n * 2 := by rw [Array.length_toList, h2]
    have htl : (C.toList.take (k * 2)).length = k * 2 := by rw [List.length_take, hcl]; omega
    by_cases c1 : k * 2 + 1 = i
    · subst c1
      rw [if_pos rfl, List.length_set, hcl, if_pos (by omega), List.getElem?_append_right (by rw [htl]; omega), htl, show k * 2 + 1 - k * 2 = 1 by omega]
      rfl
    · rw [if_neg c1]
      by_cases c0 : k * 2 = i
      · subst c0
        rw [if_pos rfl, hcl, if_pos (by omega), List.getElem?_append_right (by rw [htl]; omega), htl, Nat.sub_self]
        rfl
      · rw [if_neg c0, List.getElem?_append_left (by rw [htl]; omega), List.getElem?_take_of_lt (by omega)]
  · rw [List.getElem?_take_eq_none (by omega), List.getElem?_eq_none (by rw [List.length_append, List.length_take, Array.length_toList, h2]; simp [PageV.cells]; omega)]
theorem elem_texts : Try.prog.elem 31 = 9 := by kernel_rfl
theorem under_texts : Try.prog.underlying 31 = some (.slice (Try.prog.elem 31)) := by kernel_rfl
theorem texts_from (g n c b r : Nat) (hb : b < n) (hc : n ≤ c) (hr : n - b = r) : ∀ w, (Instr.slice 31 (.slice (some ⟨g, 0, none⟩) n c) (some (.int .i64 (b : Int))) none none).run Try.prog w = .ok (.slice (some ⟨g, b, none⟩) r (c - b)) w := fun w => by
  rw [run_slice_l (P := Try.prog) w 31 (some ⟨g, 0, none⟩) n c under_texts .i64 b (by omega) (by omega), elem_texts, Try.sizeOf9]
  show Result.ok (sliced _ _ _ _ _) w = _
  unfold sliced
  rw [if_neg (by omega), Nat.mul_one, Int.toNat_natCast, hr]
  simp only [Option.map_some, add_zero_off]
/-- What Unpack answers of packed pages. -/
def UnpackPost (w : World) (l : List PageV) (e : Ending) (w' : World) : Prop :=
  ∃ g C, e = .returned (.tuple #[.slice (some ⟨g, 0, none⟩) l.length l.length, .int .i64 0]) ∧ w.heap.size ≤ g ∧ w'.heap[g]? = some (.cells C 49 (0, 0)) ∧ C.toList.take (l.length * 2) = pageCells l ∧ Below w.heap.size w w'
set_option maxHeartbeats 2000000 in
theorem unpack_any {g cap : Nat} {l : List PageV} (w : World) (hcs : ∀ k s, (packB l)[k]? = some s → w.cell? ⟨g, k, none⟩ = some (.string s)) (hcap : (packB l).length ≤ cap) (hcap2 : cap ≤ maxLen) (h1 : 1 ≤ l.length) (h60 : l.length ≤ 60) (hok : ∀ x ∈ l, 0 ≤ x.at_ ∧ x.at_ < 2048 ∧ x.data.size = 256) :
    Calls Try.prog 46 #[.slice (some ⟨g, 0, none⟩) (packB l).length cap] w (UnpackPost w l) := by
  have hpb := packB_small h60
  have hlen : (packB l).length = l.length + 1 := by rw [hpb]; simp
  have hall : ∀ j, j < l.length + 1 → ((packB l).getD j ByteArray.empty).size = 256 := fun j hj => by
    rw [List.getD_eq_getElem?_getD, List.getElem?_eq_getElem (by omega)]
    exact packB_size l _ (List.getElem_mem _)
  have hcell : ∀ j, j < l.length + 1 → w.cell? ⟨g, j, none⟩ = some (.string ((packB l).getD j ByteArray.empty)) := fun j hj => by
    have : (packB l)[j]? = some ((packB l).getD j ByteArray.empty) := by rw [List.getD_eq_getElem?_getD, List.getElem?_eq_getElem (by omega)]; rfl
    exact hcs j _ this
  have c0 : w.cell? ⟨g, 0, none⟩ = some (.string (headBlock l)) := hcs 0 _ (by rw [hpb]; rfl)
  have hgl := World.block_lt_of_cell? w _ c0
  have hdat : ∀ k x, l[k]? = some x → w.cell? ⟨g, k + 1, none⟩ = some (.string x.data) := fun k x hx => by
    have : (packB l)[k + 1]? = some x.data := by
      rw [hpb, List.getElem?_cons_succ, List.getElem?_map, hx]
      show some (filled x.data) = _
      rw [filled_full (hok x (List.mem_of_getElem? hx)).2.2]
    exact hcs (k + 1) _ this
  have hfull := headBlock_size l
  have hcnt := headBlock_count h60
  have hnum := fun k x hx => headBlock_num h60 (k := k) (x := x) hx (hok x (List.mem_of_getElem? hx)).1 (hok x (List.mem_of_getElem? hx)).2.1
  rw [hlen] at hcap ⊢
  unfold maxLen at hcap2
  have HCI := Lib.hid (contains_no g (l.length + 1) cap _ w hall hcell (by omega))
  have HDAT := Lib.hid hdat
  have HFULL := Lib.hid hfull
  have HCNT := Lib.hid hcnt
  have HNUM := Lib.hid hnum
  have HOK := Lib.hid hok
  have HC0 := Lib.hid c0
  generalize headBlock l = HB at *
  generalize hnn : l.length = n at *
  have HN := Lib.hid hnn
  clear hcs hpb hlen hall hcell hdat hfull hcnt hnum hok hnn c0
  go_enter Try.func46, Try.ntmps46
  have d1024 : decide ((1024 : Int) < (n : Int)) = false := by simp; omega
  have z0 : ((n : Int) + 1 == 0) = false := by rw [beq_eq_false_iff_ne]; omega
  go_wp2_with fail
  refine HCI.out.mono ?_
  rintro e _ ⟨rfl, rfl⟩
  have c0 := HC0.out
  clear HCI
  go_wp2_with fail
  refine (reader_any HB w).mono ?_
  rintro e w1 ⟨rfl, rfl⟩
  have hq1 := heap_alloc_new w (.cells #[.string HB] 9)
  have hb1 : Below w.heap.size w (w.alloc (.cells #[.string HB] 9)) := by go_grown
  generalize w.alloc (.cells #[.string HB] 9) = W1 at *
  have HNX := Lib.hid (next_keep w.heap.size HB W1 (by rw [HFULL.out]; omega) hq1)
  have HB1 := Lib.hid hb1
  clear hq1 hb1 c0
  go_wp2_with fail
  refine HNX.out.mono ?_
  rintro e w2 ⟨rfl, hk2, _⟩
  rw [HCNT.out]
  have hb2 := HB1.out.trans (hk2.below (B := w.heap.size) (fun i hi => by rw [hi]; exact Nat.le_refl _) HB1.out.size)
  have HB2 := Lib.hid hb2
  clear hk2 hb2 HNX HB1
  have hbn : blocksN n = n + 1 := by unfold blocksN; omega
  have HBL := Lib.hid (blocks_any n w2 (by omega))
  rw [hbn] at HBL
  clear hbn
  go_wp2_with fail
  refine HBL.out.mono ?_
  rintro e _ ⟨rfl, rfl⟩
  have c2 := (HB2.out.cell (p := ⟨g, 0, none⟩) hgl).trans HC0.out
  have hsub : (n : Int) + 1 - (n : Int) = 1 := by omega
  have hj := join_one g cap HB w2 c2
  have HJ := Lib.hid hj
  clear hj
  have hs4 : ∀ w, (Instr.slice 9 (.string HB) (some (.int .i64 4)) none none).run Try.prog w = .ok (.string (HB.extract 4 256)) w := slice_of HB 4 256 (by rw [HFULL.out]; decide) HFULL.out
  have htf : ∀ w, (Instr.slice 31 (.slice (some ⟨g, 0, none⟩) (n + 1) cap) (some (.int .i64 1)) none none).run Try.prog w = .ok (.slice (some ⟨g, 1, none⟩) n (cap - 1)) w := texts_from g (n + 1) cap 1 n (by omega) hcap (by omega)
  have hmp := make_pages n (by omega) (w2.alloc (.cells #[.string (HB.extract 4 256)] 9))
  go_wp2_with fail
  refine HJ.out.mono ?_
  rintro e _ ⟨rfl, rfl⟩
  clear c2
  go_wp2_with fail
  refine (reader_any (HB.extract 4 256) w2).mono ?_
  rintro e w3 ⟨rfl, rfl⟩
  have hq3 := heap_alloc2_old w2 (.cells #[.string (HB.extract 4 256)] 9) (.cells (madeCells #[.int .i64 0, .string ⟨#[]⟩] (n * 2)) 49)
  have hp3 := heap_alloc2_new w2 (.cells #[.string (HB.extract 4 256)] 9) (.cells (madeCells #[.int .i64 0, .string ⟨#[]⟩] (n * 2)) 49)
  have hb3 : Below w2.heap.size w2 ((w2.alloc (.cells #[.string (HB.extract 4 256)] 9)).alloc (.cells (madeCells #[.int .i64 0, .string ⟨#[]⟩] (n * 2)) 49)) := by go_grown
  have hsz3 : (w2.alloc (.cells #[.string (HB.extract 4 256)] 9)).heap.size = w2.heap.size + 1 := by simp
  rw [hsz3] at hmp
  clear hsz3
  go_wp2_with fail
  clear hmp htf hs4 hsub z0 d1024
  have HP0 : Hid (PagesAt ((w2.alloc (.cells #[.string (HB.extract 4 256)] 9)).alloc (.cells (madeCells #[.int .i64 0, .string ⟨#[]⟩] (n * 2)) 49)) (w2.heap.size + 1) n 0 l) := Lib.hid ⟨_, hp3, size_madeCells _ _, by simp [pageCells]⟩
  have HQ3 := Lib.hid hq3
  have HB3 := Lib.hid (HB2.out.on hb3)
  have hle : w.heap.size ≤ w2.heap.size := HB2.out.size
  clear hq3 hp3 hb3 HJ HBL HB2
  generalize (w2.alloc (.cells #[.string (HB.extract 4 256)] 9)).alloc (.cells (madeCells #[.int .i64 0, .string ⟨#[]⟩] (n * 2)) 49) = W4 at *
  generalize w2.heap.size = bk at *
  go_loopw [48] (fun i wr => ∃ k : Nat, k ≤ n ∧ i = .int .i64 k ∧ Below w.heap.size w wr ∧ wr.heap[bk]? = some (.cells #[.string (HB.extract (4 + 4 * k) 256)] 9 (0, 0)) ∧ PagesAt wr (bk + 1) n k l) (fun i _ => n - (intOf i).toNat)
  case atStart => exact ⟨0, Nat.zero_le _, rfl, HB3.out, HQ3.out, HP0.out⟩
  case round =>
    clear HB3 HQ3 HP0
    obtain ⟨k, hk, rfl, hB, hQ, hP⟩ := hrel
    have HBr := Lib.hid hB
    have HQr := Lib.hid hQ
    have HPr := Lib.hid hP
    clear hB hQ hP
    by_cases hlt : k < n
    · obtain ⟨x, hx⟩ : ∃ x, l[k]? = some x := ⟨_, List.getElem?_eq_getElem (by rw [HN.out]; exact hlt)⟩
      have hd0 := HDAT.out k x hx
      have cd := (HBr.out.cell (p := ⟨g, k + 1, none⟩) hgl).trans hd0
      rw [Nat.add_comm] at cd
      obtain ⟨x0, x1, x2⟩ := HOK.out x (List.mem_of_getElem? hx)
      have HX := Lib.hid hx
      have HX2 := Lib.hid x2
      have hnx := next_keep bk (HB.extract (4 + 4 * k) 256) wr (by rw [ByteArray.size_extract, HFULL.out]; omega) HQr.out
      rw [HNUM.out k x hx, show (HB.extract (4 + 4 * k) 256).size = 256 - (4 + 4 * k) by rw [ByteArray.size_extract, HFULL.out]; omega, ext_ext HB (4 + 4 * k) 256 4 (256 - (4 + 4 * k)) (by omega)] at hnx
      have HNX := Lib.hid hnx
      clear hd0 hnx hx x2
      have dge : decide ((2048 : Int) ≤ x.at_) = false := by simp; omega
      go_wp2_with fail
      refine HNX.out.mono ?_
      rintro e w5 ⟨rfl, hk5, hq5⟩
      have hp5 := HPr.out.keep (hk5.block (bk + 1) HPr.out.lt (by omega))
      have hb5 := HBr.out.trans (hk5.below (B := w.heap.size) (fun i hi => by rw [hi]; exact hle) HBr.out.size)
      have HP5 := Lib.hid hp5
      have HB5 := Lib.hid hb5
      have HQ5 := Lib.hid hq5
      clear hk5 hq5 hp5 hb5 HNX cd
      go_wp2_with fail
      refine (clone_any x.data w5 (by rw [HX2.out]; omega)).mono ?_
      rintro e w6 ⟨rfl, hb6⟩
      have hp6 := HP5.out.keep (hb6.block (bk + 1) HP5.out.lt)
      have hq6 := (hb6.block bk (heap_lt' HQ5.out)).trans HQ5.out
      obtain ⟨⟨v1, y1⟩, ⟨v2, y2⟩, f1, f2⟩ := hp6.cells hlt
      have hp7 := hp6.set hlt HX.out
      have hq7 : ((w6.setCell ⟨bk + 1, k * 2, none⟩ (.int .i64 x.at_)).setCell ⟨bk + 1, k * 2 + 1, none⟩ (.string x.data)).heap[bk]? = some (.cells #[.string (HB.extract (4 + 4 * k + 4) (4 + 4 * k + (256 - (4 + 4 * k))))] 9 (0, 0)) := by
        rw [heap_setCell_other _ _ _ _ (by show bk ≠ bk + 1; omega), heap_setCell_other _ _ _ _ (by show bk ≠ bk + 1; omega)]
        exact hq6
      have hb7 := ((HB5.out.on hb6).setCell (p := ⟨bk + 1, k * 2, none⟩) (by show w.heap.size ≤ bk + 1; omega) (.int .i64 x.at_)).setCell (p := ⟨bk + 1, k * 2 + 1, none⟩) (by show w.heap.size ≤ bk + 1; omega) (.string x.data)
      rw [show 4 + 4 * k + 4 = 4 + 4 * (k + 1) by omega, show 4 + 4 * k + (256 - (4 + 4 * k)) = 256 by omega] at hq7
      have HF := Lib.hid (And.intro hb7 (And.intro hq7 hp7))
      clear hp6 hq6 hp7 hq7 hb7 hb6 HB5 HP5 HQ5
      go_wp2_with fail
      go_roundw
      case rel => exact ⟨k + 1, by omega, by go_num, HF.out⟩
      case measure => simp [intOf]; omega
    · obtain rfl : k = n := by omega
      obtain ⟨C, p1, p2, p3⟩ := HPr.out
      rw [← HN.out, List.take_length, HN.out] at p3
      have HC := Lib.hid (And.intro p1 p3)
      clear p1 p2 p3
      go_wp2
      go_returns
      exact ⟨bk + 1, C, by rw [HN.out]; rfl, by omega, HC.out.1, by rw [HN.out]; exact HC.out.2, HBr.out⟩
end Go.Proofs.Ytfcicpcpdklceaa
