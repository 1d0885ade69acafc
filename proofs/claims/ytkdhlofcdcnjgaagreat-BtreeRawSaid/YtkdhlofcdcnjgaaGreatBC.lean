/- Package btree: a pair is put into a row of pairs. Package btree: a page as bytes; where a page is cut; how many pages a way takes. Package btree: where a page is cut; how many pages a way takes. Package btree: a page written; a new root. Package btree: a new root; a page cut into two. Package btree: a page cut into two. -/
import Derived.Test.YtkdhlofcdcnjgaaGreatBA
import Derived.Shelf.RegionOpen
import Derived.Lib.AppendZerosOnto
import Derived.Lib.SlBuf
import Derived.Laws.CopyRow
import Derived.Laws.CopyOwn
import Derived.Deep.AppendSrc
import Derived.Lib.AppendStr
import Derived.Deep.RegionLaw
import Derived.Test.YtkdhlofcdcnjgaaGreatBB
import Derived.Deep.RegionHeld3
namespace Go.Proofs.YtkdhlofcdcnjgaaGreat
set_option maxRecDepth 100000
open Go.ChangeShapes Go.WideShapes Go.ChangeAt Go.RowKit Go.PlainAid Go.Shelf
open Go.Sort (grow)

/-- What a row of pairs with spare cells holds. -/
def RowP (cur : Array Value) (L : List Pr) : Prop := cur.toList.take (L.length * 2) = flatP L
theorem RowP.at {cur : Array Value} {L : List Pr} (h : RowP cur L) {i : Nat} {p : Pr} (hp : L[i]? = some p) : cur[i * 2]? = some (.string p.key) ∧ cur[i * 2 + 1]? = some (.string p.val) := by
  have hi := (List.getElem?_eq_some_iff.1 hp).1
  obtain ⟨a, b⟩ := flatP_at L i p hp
  rw [← h, List.getElem?_take_of_lt (by omega), Array.getElem?_toList] at a
  rw [← h, List.getElem?_take_of_lt (by omega), Array.getElem?_toList] at b
  exact ⟨a, b⟩
theorem rdP_cur {w : World} {g : Nat} {L : List Pr} {cur : Array Value} (h : w.heap[g]? = some (.cells cur 47 (0, 0))) (hr : RowP cur L) : RdP w (some ⟨g, 0, none⟩) L := by
  refine .inr ⟨g, 0, rfl, (Array.getElem?_eq_some_iff.1 h).1, fun i p hp => ?_⟩
  obtain ⟨a, b⟩ := hr.at hp
  exact ⟨by rw [cell_of_row _ _ _ _ _ _ h, Nat.zero_add]; exact a, by rw [cell_of_row _ _ _ _ _ _ h, Nat.zero_add]; exact b⟩
theorem rowP_self (L : List Pr) : RowP (flatP L).toArray L := by
  unfold RowP
  rw [List.take_of_length_le (by rw [flatP_len]; exact Nat.le_refl _)]
theorem flatP_take (L : List Pr) (j : Nat) : flatP (L.take j) = (flatP L).take (j * 2) := by
  by_cases h : j ≤ L.length
  · have e : (flatP (L.take j)).length = j * 2 := by rw [flatP_len, List.length_take, Nat.min_eq_left h]
    have e2 : flatP L = flatP (L.take j) ++ flatP (L.drop j) := by rw [← flatP_app, List.take_append_drop]
    rw [e2, ← e, List.take_left]
  · rw [List.take_of_length_le (by omega), List.take_of_length_le]
    rw [flatP_len]
    omega
theorem flatP_drop (L : List Pr) (j : Nat) (h : j ≤ L.length) : flatP (L.drop j) = (flatP L).drop (j * 2) := by
  have e : (flatP (L.take j)).length = j * 2 := by rw [flatP_len, List.length_take, Nat.min_eq_left h]
  have e2 : flatP L = flatP (L.take j) ++ flatP (L.drop j) := by rw [← flatP_app, List.take_append_drop]
  rw [e2, ← e, List.drop_left]
theorem size_zero2 (k : Nat) : (Builtin.zeroCells (Value.agg #[.string ⟨#[]⟩, .string ⟨#[]⟩]).cells k).size = k * 2 := by
  simp [Builtin.zeroCells, Value.cells]
/-- copy over elements of some cells each. -/
theorem run_copy_rowK {P : Program} (w : World) (dT sT ty elem : TypeId) (g o dLen dCap : Nat) (a : Addr) (sLen sCap : Nat) (cur : Array Value) (t : TypeId) (cs : List Value) (k : Nat)
    (hu : P.underlying dT = some (.slice elem)) (hs : (P.info? elem).map (·.size) = some k)
    (hg : w.heap[g]? = some (.cells cur t (0, 0))) (hn : cs.length = Nat.min sLen dLen * k) (m : Nat) (hm : Nat.min sLen dLen = m)
    (hsrc : ∀ j v, cs[j]? = some v → w.cell? (a.add j) = some v) (hfit : o + cs.length ≤ cur.size) (h1 : ∀ v ∈ cs, v.oneCell' = true) :
    (Builtin.copy_ #[dT, sT] ty #[.slice (some ⟨g, o, none⟩) dLen dCap, .slice (some a) sLen sCap]).run P w =
      .ok (goInt m) (w.setRow g (cur.toList.take o ++ cs ++ cur.toList.drop (o + cs.length)).toArray) := by
  have hl := run_loadCells_list (P := P) w a cs hsrc
  have hst := run_storeCells_at P g o t cs 0 cur w hg (by simpa using hfit) h1
  rw [hm] at hn
  cases hq : P.info? elem with
  | none => simp [hq] at hs
  | some i =>
    have hi : i.size = k := by simpa [hq] using hs
    simp [Builtin.copy_, run_underlying hu, Builtin.lenOf, Builtin.firstCells, sizeOf, typeInfo, hq, hi, hm, ← hn, hl, hst]
theorem below_drew (w : World) : Below w.heap.size w w.drew := ⟨rfl, rfl, rfl, Nat.le_refl _, fun _ _ => rfl⟩
/-- What slices.Insert gives. -/
def InsPost (w : World) (L : List Pr) (e : Ending) (w' : World) : Prop := ∃ g cap cur, e = .returned (.slice (some ⟨g, 0, none⟩) L.length cap) ∧ w.heap.size ≤ g ∧ w'.heap[g]? = some (.cells cur 47 (0, 0)) ∧ RowP cur L ∧ L.length ≤ cap ∧ Below w.heap.size w w'
set_option maxHeartbeats 8000000 in
theorem insert_mid {w : World} {g vb : Nat} {L : List Pr} (r : Pr) (j : Nat) (hj : j < L.length) (hL : L.length ≤ 4096) (hg : w.heap[g]? = some (rowO L)) (hv : w.heap[vb]? = some (rowO [r])) :
    Calls Tryz.prog 63 #[.slice (some ⟨g, 0, none⟩) L.length L.length, .int .i64 j, .slice (some ⟨vb, 0, none⟩) 1 1] w (InsPost w (L.take j ++ r :: L.drop j)) := by
  obtain ⟨i0, hi0, hz0, hzs, hzb⟩ := info_parts info_pair
  have hgw := (Array.getElem?_eq_some_iff.1 hg).1
  have hvw := (Array.getElem?_eq_some_iff.1 hv).1
  unfold rowO at hg hv
  have hcs : ∀ t v, (flatP L)[t]? = some v → w.cell? ⟨g, t, none⟩ = some v := fun t v h => by
    rw [cell_of_row _ _ _ _ _ _ hg]
    simpa using h
  have hkk : (L.length : Int) + 1 - (j : Int) = ((L.length + 1 - j : Nat) : Int) := by omega
  have hik : j + (L.length + 1 - j) = L.length + 1 := by omega
  have hold : (Builtin.firstCells i0.size j (.slice (some ⟨g, 0, none⟩) j L.length)).run Tryz.prog w.drew = .ok (flatP (L.take j)).toArray w.drew := by
    rw [hzs]
    exact run_firstCells_some w.drew 2 j ⟨g, 0, none⟩ j L.length (flatP (L.take j)) (by rw [flatP_len, List.length_take]; omega) (fun t v h => by
      rw [Addr.add_lit, Nat.zero_add]
      rw [flatP_take, List.getElem?_take] at h
      split at h
      · exact hcs t v h
      · cases h)
  obtain ⟨G, hG⟩ : ∃ G, G = grownCap w (L.length + 1) L.length 47 := ⟨_, rfl⟩
  obtain ⟨ROW, hROW⟩ : ∃ ROW : Array Value, ROW = (flatP (L.take j)).toArray ++ Builtin.zeroCells (Value.agg #[.string ⟨#[]⟩, .string ⟨#[]⟩]).cells (L.length + 1 - j) ++ Builtin.zeroCells (Value.agg #[.string ⟨#[]⟩, .string ⟨#[]⟩]).cells (G - (L.length + 1)) := ⟨_, rfl⟩
  have hrz : ∀ ty, (Builtin.append_ #[39, 3] ty #[.slice (some ⟨g, 0, none⟩) j L.length, .int .i64 ((L.length : Int) + 1 - (j : Int))]).run Tryz.prog w =
      .ok (.slice (some ⟨w.heap.size, 0, none⟩) (L.length + 1) G) (w.drew.alloc (.cells ROW 47)) := fun ty => by
    have h := Lib.run_append_grow_zeros w 39 3 ty 47 i0 _ .i64 .i64 Tryz.underlying39 Tryz.underlying3 hi0 hz0 (some ⟨g, 0, none⟩) j L.length (flatP (L.take j)) hold (L.length + 1 - j) (by omega) (by omega) (by omega) (by omega) (by rw [hzb]; omega) (by rw [hzb, hik]; exact growslice_fits (by omega) (by omega))
    rw [hik] at h
    rw [hkk, hROW, hG]
    exact h
  have hGn : L.length + 1 ≤ G := by rw [hG]; exact grownCap_ge w _ _ _
  have hG63 : G ≤ 9223372036854775807 := by
    have := grownCap_le_maxLen w (L.length + 1) L.length 47 (by unfold maxLen; omega)
    rw [← hG] at this
    unfold maxLen at this
    omega
  have hRs : ROW.size = G * 2 := by
    rw [hROW, Array.size_append, Array.size_append, size_zero2, size_zero2, List.size_toArray, flatP_len, List.length_take]
    omega
  have hRt : ROW.toList.take (j * 2) = flatP (L.take j) := by
    have e : (flatP (L.take j)).length = j * 2 := by rw [flatP_len, List.length_take]; omega
    rw [hROW, Array.toList_append, Array.toList_append, List.append_assoc, ← e]
    exact List.take_left
  have hin : (Tryz.prog.info? 47).map (·.size) = some 2 := by rw [hi0]; simp [hzs]
  have hone : ∀ L : List Pr, ∀ u ∈ flatP L, u.oneCell' = true := flatP_one
  obtain ⟨ROW2, hROW2⟩ : ∃ ROW2 : Array Value, ROW2 = (ROW.toList.take (j * 2) ++ flatP [r] ++ ROW.toList.drop (j * 2 + 2)).toArray := ⟨_, rfl⟩
  have hR2s : ROW2.size = G * 2 := by
    rw [hROW2, List.size_toArray, List.length_append, List.length_append, List.length_take, List.length_drop, flatP_len, Array.length_toList, hRs, List.length_singleton]
    omega
  have hR2t : ROW2.toList.take ((j + 1) * 2) = flatP (L.take j) ++ flatP [r] := by
    have e : (flatP (L.take j) ++ flatP [r]).length = (j + 1) * 2 := by rw [List.length_append, flatP_len, flatP_len, List.length_take, List.length_singleton]; omega
    rw [hROW2, hRt, ← e]
    exact List.take_left
  obtain ⟨ROW3, hROW3⟩ : ∃ ROW3 : Array Value, ROW3 = (ROW2.toList.take ((j + 1) * 2) ++ flatP (L.drop j) ++ ROW2.toList.drop ((j + 1) * 2 + (flatP (L.drop j)).length)).toArray := ⟨_, rfl⟩
  have hlen : (L.take j ++ r :: L.drop j).length = L.length + 1 := by rw [List.length_append, List.length_cons, List.length_take, List.length_drop]; omega
  have hR3 : RowP ROW3 (L.take j ++ r :: L.drop j) := by
    unfold RowP
    have e : flatP (L.take j ++ r :: L.drop j) = flatP (L.take j) ++ flatP [r] ++ flatP (L.drop j) := by
      rw [show L.take j ++ r :: L.drop j = L.take j ++ [r] ++ L.drop j by simp, flatP_app, flatP_app]
    have e2 : (flatP (L.take j) ++ flatP [r] ++ flatP (L.drop j)).length = (L.length + 1) * 2 := by rw [← e, flatP_len, hlen]
    rw [hlen, hROW3, hR2t, e, ← e2]
    exact List.take_left
  have hcpA : ∀ (W : World), W.heap[w.heap.size]? = some (.cells ROW 47 (0, 0)) → W.heap[vb]? = some (.cells (flatP [r]).toArray 47 (0, 0)) → ∀ ty dc,
      (Builtin.copy_ #[39, 39] ty #[.slice (some ⟨w.heap.size, j * 2, none⟩) (L.length + 1 - j) dc, .slice (some ⟨vb, 0, none⟩) 1 1]).run Tryz.prog W = .ok (goInt 1) (W.setRow w.heap.size ROW2) := fun W hr hv ty dc => by
    have h := run_copy_rowK (P := Tryz.prog) W 39 39 ty 47 w.heap.size (j * 2) (L.length + 1 - j) dc ⟨vb, 0, none⟩ 1 1 ROW 47 (flatP [r]) 2 Tryz.underlying39 hin hr (by rw [flatP_len]; simp only [Nat.min_def, List.length_singleton]; split <;> omega) 1 (by simp only [Nat.min_def]; split <;> omega)
      (fun t v ht => by rw [Addr.add_lit, Nat.zero_add, cell_of_row _ _ _ _ _ _ hv]; simpa using ht) (by rw [flatP_len, hRs]; simp only [List.length_singleton]; omega) (hone _)
    rw [show (flatP [r]).length = 2 from rfl, ← hROW2] at h
    exact h
  have hcpB : ∀ (W : World), W.heap[w.heap.size]? = some (.cells ROW2 47 (0, 0)) → W.heap[g]? = some (.cells (flatP L).toArray 47 (0, 0)) → ∀ ty dc sc,
      (Builtin.copy_ #[39, 39] ty #[.slice (some ⟨w.heap.size, (j + 1) * 2, none⟩) (L.length - j) dc, .slice (some ⟨g, j * 2, none⟩) (L.length - j) sc]).run Tryz.prog W = .ok (goInt (L.length - j : Nat)) (W.setRow w.heap.size ROW3) := fun W hr hv ty dc sc => by
    have hm : Nat.min (L.length - j) (L.length - j) = L.length - j := by simp only [Nat.min_def]; split <;> omega
    have h := run_copy_rowK (P := Tryz.prog) W 39 39 ty 47 w.heap.size ((j + 1) * 2) (L.length - j) dc ⟨g, j * 2, none⟩ (L.length - j) sc ROW2 47 (flatP (L.drop j)) 2 Tryz.underlying39 hin hr (by rw [flatP_len, List.length_drop, hm]) (L.length - j) hm
      (fun t v ht => by
        rw [Addr.add_lit, cell_of_row _ _ _ _ _ _ hv]
        rw [flatP_drop _ _ (by omega), List.getElem?_drop] at ht
        simpa using ht) (by rw [flatP_len, hR2s, List.length_drop]; omega) (hone _)
    rw [← hROW3] at h
    exact h
  have hA1 : (w.alloc (.cells ROW 47)).drew.heap[w.heap.size]? = some (.cells ROW 47 (0, 0)) := heap_alloc_new w _
  have hB1 : (w.alloc (.cells ROW 47)).drew.heap[vb]? = some (.cells (flatP [r]).toArray 47 (0, 0)) := (heap_alloc_old w _ hvw).trans hv
  have hBB : ∀ rr, (((w.alloc (.cells ROW 47)).drew).setRow w.heap.size rr).heap[g]? = some (.cells (flatP L).toArray 47 (0, 0)) := fun rr => (setRow_other _ _ _ _ (by omega)).trans ((heap_alloc_old w _ hgw).trans hg)
  have hBel : Hid (Below w.heap.size w ((((w.alloc (.cells ROW 47)).drew).setRow w.heap.size ROW2).drew.setRow w.heap.size ROW3)) := Lib.hid (below_setRow (Below.on (below_setRow (Below.on (show Below w.heap.size w (w.alloc (.cells ROW 47)) by go_grown) (below_drew _)) (Nat.le_refl _) ROW2) (below_drew _)) (Nat.le_refl _) ROW3)
  have hcp1 := fun ty dc => hcpA _ hA1 hB1 ty dc
  have hcp2 : ∀ ty dc, _ := fun ty dc => hcpB (((w.alloc (.cells ROW 47)).drew.setRow w.heap.size ROW2).drew) (setRow_heap _ _ _ _ _ _ hA1) (hBB _) ty dc (L.length - j)
  have hc1 := Lib.hid hR3
  have hc2 := Lib.hid (And.intro hlen (show (L.take j ++ r :: L.drop j).length ≤ G by rw [hlen]; exact hGn))
  have HG0 := Lib.hid hg
  clear hkk hik hold hROW hG hz0 hzb hcs hRs hRt hone hROW2 hR2s hR2t hROW3 hlen hR3 hzs hcpA hcpB hg hv
  have mixed : Tryz.prog.follows Departure.mixedOrders = true := by kernel_rfl
  have hw1 : IntKind.i64.wrap ((j : Int) + 1) = (j : Int) + 1 := IntWalk.i64_in _ (by omega)
  have hb1 : (0 : Int) ≤ (j : Int) + 1 := by omega
  have hb2 : (j : Int) + 1 ≤ (L.length : Int) + 1 := by omega
  have htn : ((j : Int) + 1).toNat = j + 1 := by omega
  have hGi : ¬ (G = j) := by omega
  have hGim : ¬ (G = j + 1) := by omega
  have hci : ¬ (L.length = j) := by omega
  have hbn : (j : Int) ≤ (L.length : Int) := by omega
  go_enter Tryz.func63, Tryz.ntmps63
  go_wp2_with (at_builtin; refine Lib.wpList_append_run _ rfl _ _ _ _ rfl _ _ rfl rfl _ _ (hrz _) ?_)
  go_region_law_o (fail)
  all_goals
    go_wp2
    go_returns
    exact ⟨w.heap.size, G, ROW3, by rw [hc2.out.1]; rfl, Nat.le_refl _, setRow_heap _ _ _ _ _ _ (setRow_heap _ _ _ _ _ _ hA1), hc1.out, hc2.out.2, hBel.out⟩
set_option maxHeartbeats 8000000 in
theorem insert_end {w : World} {g vb : Nat} {L : List Pr} (r : Pr) (hL0 : 0 < L.length) (hL : L.length ≤ 4096) (hg : w.heap[g]? = some (rowO L)) (hv : w.heap[vb]? = some (rowO [r])) :
    Calls Tryz.prog 63 #[.slice (some ⟨g, 0, none⟩) L.length L.length, .int .i64 L.length, .slice (some ⟨vb, 0, none⟩) 1 1] w (InsPost w (L ++ [r])) := by
  obtain ⟨i0, hi0, hz0, hzs, hzb⟩ := info_parts info_pair
  have hgw := (Array.getElem?_eq_some_iff.1 hg).1
  have hvw := (Array.getElem?_eq_some_iff.1 hv).1
  unfold rowO at hg hv
  have hold : (Builtin.firstCells i0.size L.length (.slice (some ⟨g, 0, none⟩) L.length L.length)).run Tryz.prog w.drew = .ok (flatP L).toArray w.drew := by
    rw [hzs]
    exact run_firstCells_some w.drew 2 L.length ⟨g, 0, none⟩ L.length L.length (flatP L) (flatP_len L) (fun t v h => by
      rw [Addr.add_lit, Nat.zero_add, cell_of_row (w := w.drew) _ _ _ _ _ hg]
      simpa using h)
  have hsrc : Src Tryz.prog i0.size 39 (.slice (some ⟨vb, 0, none⟩) 1 1) 1 (flatP [r]) w := by
    rw [hzs]
    exact Src.ofSlice w Tryz.underlying39 ⟨vb, 0, none⟩ 1 1 (flatP [r]) rfl (fun t v h => by
      rw [Addr.add_lit, Nat.zero_add, cell_of_row _ _ _ _ _ _ hv]
      simpa using h) (flatP_one _)
  obtain ⟨G, hG⟩ : ∃ G, G = grownCap w (L.length + 1) L.length 47 := ⟨_, rfl⟩
  obtain ⟨ROW, hROW⟩ : ∃ ROW : Array Value, ROW = (flatP L ++ flatP [r]).toArray ++ Builtin.zeroCells (Value.agg #[.string ⟨#[]⟩, .string ⟨#[]⟩]).cells (G - (L.length + 1)) := ⟨_, rfl⟩
  have hrz : ∀ ty, (Builtin.append_ #[39, 39] ty #[.slice (some ⟨g, 0, none⟩) L.length L.length, .slice (some ⟨vb, 0, none⟩) 1 1]).run Tryz.prog w = .ok (.slice (some ⟨w.heap.size, 0, none⟩) (L.length + 1) G) (w.drew.alloc (.cells ROW 47)) := fun ty => by
    have h := run_append_grow_src w 39 39 ty 47 i0 _ Tryz.underlying39 hi0 hz0 (some ⟨g, 0, none⟩) L.length L.length (flatP L) hold _ 1 (flatP [r]) hsrc (by omega) (by omega) (by rw [hzb]; exact growslice_fits (by omega) (by omega))
    rw [hROW, hG]
    exact h
  have hlen : (L ++ [r]).length = L.length + 1 := by simp
  have hR : RowP ROW (L ++ [r]) := by
    unfold RowP
    have e : (flatP L ++ flatP [r]).length = (L ++ [r]).length * 2 := by rw [← flatP_app, flatP_len]
    rw [hROW, Array.toList_append, flatP_app, ← e]
    exact List.take_left
  have hBel : Hid (Below w.heap.size w (w.drew.alloc (.cells ROW 47))) := Lib.hid ⟨rfl, rfl, rfl, by simp, fun k hk => heap_alloc_old w.drew _ hk⟩
  have hgr : (w.drew.alloc (.cells ROW 47)).heap[w.heap.size]? = some (.cells ROW 47 (0, 0)) := heap_alloc_new w.drew _
  have hge : (L ++ [r]).length ≤ G := by rw [hlen, hG]; exact grownCap_ge w _ _ _
  have hc1 := Lib.hid (And.intro hR (And.intro hlen (And.intro hgr hge)))
  clear hge
  clear hold hROW hG hz0 hzb hsrc hlen hR hzs hg hv hgr
  go_enter Tryz.func63, Tryz.ntmps63
  go_wp2_with (at_builtin; refine Lib.wpList_append_run _ rfl _ _ _ _ rfl _ _ rfl rfl _ _ (hrz _) ?_)
  all_goals
    go_returns
    exact ⟨w.heap.size, G, ROW, by rw [hc1.out.2.1]; rfl, Nat.le_refl _, hc1.out.2.2.1, hc1.out.1, hc1.out.2.2.2, hBel.out⟩
/-- A pair is put into a row at a place. -/
theorem insert_any {w : World} {g vb : Nat} {L : List Pr} (r : Pr) (j : Nat) (hj : j ≤ L.length) (h0 : 0 < L.length) (hL : L.length ≤ 4096) (hg : w.heap[g]? = some (rowO L)) (hv : w.heap[vb]? = some (rowO [r])) :
    Calls Tryz.prog 63 #[.slice (some ⟨g, 0, none⟩) L.length L.length, .int .i64 j, .slice (some ⟨vb, 0, none⟩) 1 1] w (InsPost w (L.take j ++ r :: L.drop j)) := by
  rcases Nat.lt_or_eq_of_le hj with h | rfl
  · exact insert_mid r j h hL hg hv
  · rw [List.take_length, List.drop_length]
    exact insert_end r h0 hL hg hv
end Go.Proofs.YtkdhlofcdcnjgaaGreat
namespace Go.Proofs.YtkdhlofcdcnjgaaGreat
set_option maxRecDepth 100000
open Go.ChangeShapes Go.WideShapes Go.ChangeAt Go.RowKit Go.PlainAid Go.Shelf
open Go.Sort (grow)

/-- A text's bytes as numbers. -/
def numsS (s : ByteArray) : List Int := s.data.toList.map fun b => (b.toNat : Int)
theorem numsS_len (s : ByteArray) : (numsS s).length = s.size := by
  unfold numsS
  rw [List.length_map, Array.length_toList]
  rfl
theorem strCells_nums (s : ByteArray) : Lib.strCells s = (numsS s).map (Value.int .u8) := by
  unfold Lib.strCells numsS
  rw [List.map_map]
  rfl
/-- A pair's bytes. -/
def onN (p : Pr) : List Int := [(p.key.size : Int) % 256, (p.val.size : Int) % 256] ++ numsS p.key ++ numsS p.val
def pkN (L : List Pr) : List Int := L.flatMap onN
theorem onN_len (p : Pr) : (onN p).length = 2 + p.key.size + p.val.size := by
  unfold onN
  rw [List.length_append, List.length_append, numsS_len, numsS_len]
  simp
theorem pkN_snoc (L : List Pr) (p : Pr) : pkN (L ++ [p]) = pkN L ++ onN p := by
  unfold pkN
  rw [List.flatMap_append]
  simp
/-- How many bytes pairs take. -/
def pkS (L : List Pr) : Nat := (L.map fun p => 2 + p.key.size + p.val.size).sum
theorem pkN_len (L : List Pr) : (pkN L).length = pkS L := by
  unfold pkN pkS
  rw [List.length_flatMap]
  congr 1
  exact List.map_congr_left fun p _ => onN_len p
/-- A page as bytes. -/
def packN (level : Int) (L : List Pr) : List Int := [level % 256, (L.length : Int) % 256] ++ pkN L
def packP (level : Int) (L : List Pr) : ByteArray := strOfNums (packN level L)
theorem packP_size (level : Int) (L : List Pr) : (packP level L).size = 2 + pkS L := by
  have h : (packP level L).data.toList.length = (packN level L).length := by unfold packP strOfNums; simp
  rw [Array.length_toList] at h
  show (packP level L).data.size = _
  rw [h]
  unfold packN
  rw [List.length_append, pkN_len]
  rfl
theorem take_snoc {α : Type} {L : List α} {k : Nat} {p : α} (h : L[k]? = some p) : L.take (k + 1) = L.take k ++ [p] := by
  rw [List.take_add_one, h]
  rfl
theorem pkS_take (L : List Pr) (k : Nat) : pkS (L.take k) ≤ pkS L := by
  conv => rhs; rw [← List.take_append_drop k L]
  unfold pkS
  rw [List.map_append, List.sum_append]
  omega
theorem info_u8 : (Tryz.prog.info? 5).map (fun i => (i.zero, i.size, i.bytes)) = some (some (.int .u8 0), 1, 1) := by kernel_rfl
set_option maxHeartbeats 4000000 in
theorem pack_any {w : World} {b o : Nat} {x : NdM} (h : NdIs w b o x) (hs : pkS x.L ≤ 65536) :
    Calls Tryz.prog 106 #[.pointer (some ⟨b, o, none⟩)] w fun e w' => e = .returned (.string (packP x.level x.L)) ∧ Below w.heap.size w w' := by
  have c1 := h.level
  have c4 := h.list
  have hsm := h.small
  have H := Lib.hid h
  clear h
  have hb0 : Below w.heap.size w (w.alloc (.cells #[.int .u8 (x.level % 256), .int .u8 ((x.L.length : Int) % 256)] 5)) := by go_grown
  have HB := Lib.hid hb0
  have e4 := (H.out.on hb0).list
  have HR0 : Hid ((w.alloc (.cells #[.int .u8 (x.level % 256), .int .u8 ((x.L.length : Int) % 256)] 5)).drew.ownsRow w.heap.size 5 1 (.slice (some ⟨w.heap.size, 0, none⟩) 2 2) (2 + pkS (x.L.take 0)) (([x.level % 256, (x.L.length : Int) % 256] ++ pkN (x.L.take 0)).map (Value.int .u8))) := by
    refine Lib.hid ⟨rfl, .inr ⟨w.heap.size, 2, #[.int .u8 (x.level % 256), .int .u8 ((x.L.length : Int) % 256)], rfl, Nat.le_refl _, heap_alloc_new w _, Nat.le_refl _, by unfold maxLen; omega, rfl, rfl⟩⟩
  have hmem : ∀ (k : Nat) (p : Pr), x.L[k]? = some p → pkS (x.L.take k) + (2 + p.key.size + p.val.size) ≤ pkS x.L ∧ pkS (x.L.take (k + 1)) = pkS (x.L.take k) + (2 + p.key.size + p.val.size) := fun k p hp => by
    have h1 := pkS_take x.L (k + 1)
    have h2 : pkS (x.L.take (k + 1)) = pkS (x.L.take k) + (2 + p.key.size + p.val.size) := by
      rw [take_snoc hp]
      unfold pkS
      rw [List.map_append, List.sum_append]
      simp
    omega
  have HM := Lib.hid hmem
  clear hb0 hmem
  obtain ⟨i0, hi, hz0, hz1, hz2⟩ := info_parts info_u8
  have HINF := Lib.hid (And.intro hi (And.intro hz0 (And.intro hz1 hz2)))
  clear hi hz0 hz1 hz2
  go_enter Tryz.func106, Tryz.ntmps106
  go_wp2
  go_region_law (fail)
  all_goals
    go_wp2
    go_loopw [3, 23] (fun v i wr => ∃ k : Nat, k ≤ x.L.length ∧ i = .int .i64 k ∧ Hid (wr.ownsRow w.heap.size 5 1 v (2 + pkS (x.L.take k)) (([x.level % 256, (x.L.length : Int) % 256] ++ pkN (x.L.take k)).map (Value.int .u8))) ∧ Below w.heap.size w wr) (fun _ i _ => x.L.length - (intOf i).toNat)
    case atStart => exact ⟨0, Nat.zero_le _, rfl, HR0, HB.out.on (below_drew _)⟩
    case round =>
      obtain ⟨k, hk, rfl, HRk, hb⟩ := hrel
      have HBk := Lib.hid hb
      have HN := Lib.hid (H.out.on hb)
      clear hb HB HR0 c1 c4 e4
      by_cases hlt : k < x.L.length
      · obtain ⟨p, hp⟩ : ∃ p, x.L[k]? = some p := ⟨_, List.getElem?_eq_getElem hlt⟩
        obtain ⟨g, o', hsl, hg, d1, d2⟩ := HN.out.rd.at hp
        obtain ⟨m1, m2⟩ := HM.out k p hp
        have HP := Lib.hid hp
        clear hp
        generalize x.sl = sl at *
        subst hsl
        obtain ⟨xs, hxs⟩ : ∃ xs, [x.level % 256, (x.L.length : Int) % 256] ++ pkN (x.L.take k) = xs := ⟨_, rfl⟩
        obtain ⟨m, hm⟩ : ∃ m, 2 + pkS (x.L.take k) = m := ⟨_, rfl⟩
        rw [hxs, hm] at HRk
        have HXS := Lib.hid (And.intro hxs (And.intro hm (And.intro m1 m2)))
        have hmb : m + 2 + p.key.size + p.val.size ≤ 65538 := by omega
        clear hxs hm m1 m2
        have hrw := HRk.out
        have hlt0 := fun k e => (hrw.lt k e)
        have q2 : ((wr.alloc (.cells #[.string p.key, .string p.val] 47)).alloc (.cells #[.int .u8 ((p.key.size : Int) % 256), .int .u8 ((p.val.size : Int) % 256)] 5)).heap[wr.heap.size]? = some (.cells #[.string p.key, .string p.val] 47 (0, 0)) := (heap_alloc_old _ _ (by simp)).trans (heap_alloc_new _ _)
        have q3 : ((wr.alloc (.cells #[.string p.key, .string p.val] 47)).alloc (.cells #[.int .u8 ((p.key.size : Int) % 256), .int .u8 ((p.val.size : Int) % 256)] 5)).heap[wr.heap.size + 1]? = some (.cells #[.int .u8 ((p.key.size : Int) % 256), .int .u8 ((p.val.size : Int) % 256)] 5 (0, 0)) := by
          have := heap_alloc_new (wr.alloc (.cells #[.string p.key, .string p.val] 47)) (.cells #[.int .u8 ((p.key.size : Int) % 256), .int .u8 ((p.val.size : Int) % 256)] 5)
          rwa [World.size_alloc] at this
        have hb2 : Below wr.heap.size wr ((wr.alloc (.cells #[.string p.key, .string p.val] 47)).alloc (.cells #[.int .u8 ((p.key.size : Int) % 256), .int .u8 ((p.val.size : Int) % 256)] 5)) := by go_grown
        have HQ2 := Lib.hid (And.intro q2 (And.intro (HBk.out.on hb2) q3))
        have HL0 := Lib.hid hlt0
        have hw0 : w.heap.size ≤ wr.heap.size := HBk.out.size
        clear hrw hlt0 q2 q3 hb2
        go_wp2_with (first
          | (at_builtin; (refine wpList_append_lies _ rfl (.tmp 27) (.tmp 36) 143 rfl w.heap.size 5 i0 _ 1 1 Tryz.underlying143 HINF.out.1 HINF.out.2.1 HINF.out.2.2.1 HINF.out.2.2.2 rfl (by decide) u3 m _ rfl (World.ownsRow.alloc (World.ownsRow.alloc HRk.out _) _) _ 2 2 [.int .u8 ((p.key.size : Int) % 256), .int .u8 ((p.val.size : Int) % 256)] rfl rfl (World.news_of_block HQ2.out.2.2) (by intro u hu; simp at hu; rcases hu with rfl | rfl <;> rfl) (by omega) (by unfold maxLen; omega) (by omega) (by simp; omega) _ rfl ?_)
             intro g3 cap3 w3 h3 k3 j3 l3
             have hg3 : w.heap.size ≤ g3 ∧ g3 ≠ wr.heap.size := by
               rcases j3 with j3 | j3
               · have := HL0.out _ j3
                 omega
               · rw [World.size_alloc, World.size_alloc] at j3
                 omega
             have HX3 := Lib.hid (And.intro h3 (And.intro (k3.block wr.heap.size (by rw [World.size_alloc, World.size_alloc]; omega) (fun e => by have := HL0.out _ e.symm; omega) |>.trans HQ2.out.1) (And.intro (HQ2.out.2.1.grown k3 (by rw [World.size_alloc, World.size_alloc]; omega) (fun k e => (HL0.out k e).1)) hg3)))
             have z0 : w3.cell? ⟨wr.heap.size, 0, none⟩ = some (.string p.key) := by rw [cell_of_row _ _ _ _ _ _ HX3.out.2.1]; rfl
             clear h3 k3 j3 l3 hg3)
          | (at_builtin; (refine Lib.wpList_append_own_string _ rfl _ _ 143 9 rfl w.heap.size 5 i0 Tryz.underlying143 Tryz.underlying9 HINF.out.1 HINF.out.2.1 HINF.out.2.2.1 HINF.out.2.2.2 (.slice (some ⟨g3, 0, none⟩) (m + 2) cap3) (m + 2) _ rfl HX3.out.1 p.key rfl (by unfold maxLen; omega) (by omega) HX3.out.2.2.1.size ?_)
             intro v4 w4 h4 k4 _
             have z1 : w4.cell? ⟨wr.heap.size, 1, none⟩ = some (.string p.val) := by rw [cell_of_row _ _ _ _ _ _ ((k4.block wr.heap.size ((Array.getElem?_eq_some_iff.1 HX3.out.2.1).1) (fun e => by simp [Value.ownBlock] at e; have := HX3.out.2.2.2.2; omega)).trans HX3.out.2.1)]; rfl
             have HX4 := Lib.hid (And.intro h4 (HX3.out.2.2.1.grown k4 HX3.out.2.2.1.size (fun k e => (HX3.out.1.lt k e).1)))
             clear h4 k4)
          | (at_builtin; (refine Lib.wpList_append_own_string _ rfl _ _ 143 9 rfl w.heap.size 5 i0 Tryz.underlying143 Tryz.underlying9 HINF.out.1 HINF.out.2.1 HINF.out.2.2.1 HINF.out.2.2.2 v4 (m + 2 + p.key.size) _ rfl HX4.out.1 p.val rfl (by unfold maxLen; omega) (by omega) HX4.out.2.size ?_)
             intro v5 w5 h5 k5 _
             have HX5 := Lib.hid (And.intro h5 (HX4.out.2.grown k5 HX4.out.2.size (fun k e => (HX4.out.1.lt k e).1)))
             clear h5 k5))
        go_roundw
        case rel =>
          refine ⟨k + 1, by omega, by go_num, Lib.hid ?_, HX5.out.2⟩
          have h5 := HX5.out.1
          rw [show m + 2 + p.key.size + p.val.size = 2 + pkS (x.L.take (k + 1)) by rw [HXS.out.2.2.2, ← HXS.out.2.1]; omega, strCells_nums, strCells_nums] at h5
          rw [take_snoc HP.out, pkN_snoc, ← List.append_assoc, HXS.out.1]
          rw [take_snoc HP.out] at h5
          unfold onN
          rw [List.map_append, List.map_append, List.map_append, ← List.append_assoc, ← List.append_assoc]
          exact h5
        case measure => simp [intOf]; omega
      · obtain rfl : k = x.L.length := by omega
        have hcv := conv_own (P := Tryz.prog) 143 5 9 Tryz.underlying143 Tryz.underlying5 Tryz.underlying9 _ wr _ _ _ HRk.out
        have HT : Hid (strOfNums ([x.level % 256, (x.L.length : Int) % 256] ++ pkN (x.L.take x.L.length)) = packP x.level x.L) := Lib.hid (by rw [List.take_length]; rfl)
        generalize strOfNums ([x.level % 256, (x.L.length : Int) % 256] ++ pkN (x.L.take x.L.length)) = T at *
        clear hk
        go_wp2
        go_returns
        exact ⟨by rw [HT.out]; rfl, HBk.out⟩
end Go.Proofs.YtkdhlofcdcnjgaaGreat
namespace Go.Proofs.YtkdhlofcdcnjgaaGreat
set_option maxRecDepth 100000
open Go.ChangeShapes Go.WideShapes Go.ChangeAt Go.RowKit Go.PlainAid Go.Shelf
open Go.Sort (grow)

set_option maxHeartbeats 4000000 in
theorem half_any {w : World} {b o : Nat} {x : NdM} (h : NdIs w b o x) (hm : Mod x.L) (h0 : 0 < x.L.length) :
    Calls Tryz.prog 115 #[.pointer (some ⟨b, o, none⟩)] w fun e w' => (∃ k : Nat, k < x.L.length ∧ e = .returned (.int .i64 k)) ∧ Below w.heap.size w w' := by
  have hsm := h.small
  have H := Lib.hid h
  have HW := Lib.hid (weight_any h hm)
  have HM := Lib.hid hm
  have hwl := wtP_le x.level hm
  have hwb : wtP x.level x.L ≤ 600000000 := by
    have := Nat.mul_le_mul_right 131074 hsm
    omega
  clear h hm hwl
  generalize wtP x.level x.L = A at *
  go_enter Tryz.func115, Tryz.ntmps115
  go_wp2_with fail
  refine HW.out.mono ?_
  rintro e w1 ⟨rfl, hb⟩
  have HB := Lib.hid hb
  have c4 := (H.out.on hb).list
  clear hb HW
  go_wp2
  go_loopw [4, 5, 6, 18] (fun c l s i wr => ∃ (k c' : Nat) (z : Int), k ≤ x.L.length ∧ c' < x.L.length ∧ c = .int .i64 c' ∧ l = .int .i64 z ∧ s = .int .i64 (wtP x.level (x.L.take k)) ∧ i = .int .i64 k ∧ Below w.heap.size w wr) (fun _ _ _ i _ => x.L.length - (intOf i).toNat)
  case atStart => exact ⟨0, 0, A, Nat.zero_le _, h0, rfl, rfl, rfl, rfl, HB.out⟩
  case round =>
    obtain ⟨k, c', z, hk, hc', rfl, rfl, rfl, rfl, hb⟩ := hrel
    have HBk := Lib.hid hb
    have HN := Lib.hid (H.out.on hb)
    clear hb H c4 HB
    by_cases hlt : k < x.L.length
    · obtain ⟨p, hp⟩ : ∃ p, x.L[k]? = some p := ⟨_, List.getElem?_eq_getElem hlt⟩
      obtain ⟨g, o', hsl, hg, d1, d2⟩ := HN.out.rd.at hp
      have HWT := Lib.hid (wtP_take (level := x.level) hp)
      have hw1 := wtP_le x.level (mod_take HM.out k)
      have hpm := HM.out p (List.mem_of_getElem? hp)
      have hw2 := szP_le x.level hpm
      have hlen : (x.L.take k).length ≤ k := List.length_take_le _ _
      clear hp
      have hb1 : Below wr.heap.size wr (wr.alloc (.cells #[.string p.key, .string p.val] 47)) := by go_grown
      have HS := Lib.hid (size_any p (HN.out.on hb1) hpm.1 hpm.2)
      have HB1 := Lib.hid (HBk.out.on hb1)
      clear hb1
      have h1 : wtP x.level (x.L.take k) ≤ 600000000 := by
        have := Nat.mul_le_mul_right 131074 hlen
        omega
      clear hw1 hlen
      generalize wtP x.level (x.L.take k) = W at *
      generalize x.sl = sl at *
      subst hsl
      go_wp2_with fail
      all_goals
        refine HS.out.mono ?_
        rintro e w2 ⟨rfl, hb2⟩
        have HB2 := Lib.hid (HB1.out.on hb2)
        clear hb2
        go_wp2
        go_roundw
        case rel => exact ⟨k + 1, _, _, by omega, by first | exact hlt | exact hc', rfl, rfl, by rw [HWT.out]; go_num, by go_num, HB2.out⟩
        case measure => simp [intOf]; omega
    · go_wp2
      go_returns
      exact ⟨⟨c', hc', rfl⟩, HBk.out⟩
set_option maxHeartbeats 4000000 in
theorem splits_any {w : World} {b cp : Nat} {ns : List NdM} (hn : ns.length ≤ 256) (H : ∀ i x, ns[i]? = some x → NdIs w b (i * 6) x ∧ Mod x.L) :
    Calls Tryz.prog 30 #[.slice (some ⟨b, 0, none⟩) ns.length cp] w fun e w' => (∃ k : Int, 0 ≤ k ∧ (∀ x, ns.getLast? = some x → wtP x.level x.L ≤ 254 → k = 0) ∧ e = .returned (.int .i64 k)) ∧ Below w.heap.size w w' := by
  go_enter Tryz.func30, Tryz.ntmps30
  go_wp2
  go_loopw [3, 4] (fun mo i wr => ∃ m q : Nat, m ≤ ns.length ∧ i = .int .i64 ((m : Int) - 1) ∧ mo = .int .i64 q ∧ q ≤ 36 ∧ (m = ns.length → q = 0) ∧ Hid (m < ns.length → ∀ x, ns.getLast? = some x → ¬ wtP x.level x.L ≤ 254) ∧ Below w.heap.size w wr) (fun _ i _ => (intOf i + 1).toNat)
  case atStart => exact ⟨ns.length, 0, Nat.le_refl _, rfl, rfl, by omega, fun _ => rfl, Lib.hid fun h => absurd h (Nat.lt_irrefl _), Below.refl _ _⟩
  case round =>
    obtain ⟨m, q, hm, rfl, rfl, hq, hq0, HNO, hb⟩ := hrel
    have HBk := Lib.hid hb
    have HQ0 := Lib.hid hq0
    clear hq0
    by_cases hm0 : m = 0
    · subst hm0
      clear hb
      go_wp2
      go_returns
      refine ⟨⟨(ns.length : Int) + 1, by omega, fun x hx hw => ?_, rfl⟩, HBk.out⟩
      have h0 : ns.length ≠ 0 := fun e => by
        rw [List.length_eq_zero_iff.1 e] at hx
        cases hx
      exact absurd hw (HNO.out (by omega) x hx)
    · obtain ⟨j, rfl⟩ : ∃ j, m = j + 1 := ⟨m - 1, by omega⟩
      obtain ⟨x, hx⟩ : ∃ x, ns[j]? = some x := ⟨_, List.getElem?_eq_getElem (by omega)⟩
      obtain ⟨hN, hM⟩ := H j x hx
      have HW := Lib.hid (weight_any (hN.on hb) hM)
      have hwl := wtP_le x.level hM
      have hsm := hN.small
      have hwb : wtP x.level x.L ≤ 600000000 := by
        have := Nat.mul_le_mul_right 131074 hsm
        omega
      have HLast : Hid (j + 1 = ns.length → ∀ y, ns.getLast? = some y → y = x) := Lib.hid fun e y hy => by
        rw [List.getLast?_eq_getElem?, ← e, Nat.add_sub_cancel, hx] at hy
        exact (Option.some.inj hy).symm
      have e1 : ((j + 1 : Nat) : Int) - 1 = (j : Int) := by omega
      clear hN hM hwl hsm hb hx
      obtain ⟨A, hA⟩ : ∃ A, wtP x.level x.L = A := ⟨_, rfl⟩
      rw [hA] at HW hwb
      have HA := Lib.hid hA
      clear hA hm0
      rw [e1]
      by_cases hle : A + q ≤ 254
      · have f1 : decide ((A : Int) + q ≤ 254) = true := decide_eq_true (by omega)
        clear hle
        go_wp2_with fail
        refine HW.out.mono ?_
        rintro e w2 ⟨rfl, hb2⟩
        have HB2 := Lib.hid (HBk.out.on hb2)
        clear hb2
        go_wp2
        go_returns
        refine ⟨⟨(ns.length : Int) - 1 - j, by omega, fun y hy hw => ?_, rfl⟩, HB2.out⟩
        by_cases hj : j + 1 = ns.length
        · omega
        · exact absurd hw (HNO.out (by omega) y hy)
      · have f1 : decide ((A : Int) + q ≤ 254) = false := decide_eq_false (by omega)
        have HNL : Hid (¬ A + q ≤ 254) := Lib.hid hle
        clear hle
        go_wp2_with fail
        refine HW.out.mono ?_
        rintro e w2 ⟨rfl, hb2⟩
        have HB2 := Lib.hid (HBk.out.on hb2)
        clear hb2
        go_wp2
        go_roundw
        case rel =>
          refine ⟨j, 36, by omega, rfl, rfl, Nat.le_refl _, fun h => by omega, Lib.hid fun _ y hy hw => ?_, HB2.out⟩
          by_cases hj : j + 1 = ns.length
          · have := HLast.out hj y hy
            subst this
            have h0 := HQ0.out hj
            have h1 := HA.out
            have h2 := HNL.out
            omega
          · exact HNO.out (by omega) y hy hw
        case measure => simp [intOf]
end Go.Proofs.YtkdhlofcdcnjgaaGreat
namespace Go.Proofs.YtkdhlofcdcnjgaaGreat
set_option maxRecDepth 100000
open Go.ChangeShapes Go.WideShapes Go.ChangeAt Go.RowKit Go.PlainAid Go.Shelf
open Go.Sort (grow)

/-- There is a least number, or none. -/
theorem least_or2 (s : ByteArray) (f t : Int) : (∃ v, Least s f t v) ∨ ∀ l, ¬ LowP s f t l := by
  by_cases h : ∃ l, LowP s f t l
  · obtain ⟨l, hl⟩ := h
    refine .inl ?_
    have key : ∀ (n : Nat) (l : Int), l.toNat < n → LowP s f t l → ∃ v, Least s f t v := by
      intro n
      induction n with
      | zero => intro l hl; omega
      | succ n ih =>
        intro l hn hl
        by_cases h : ∃ m, m < l ∧ LowP s f t m
        · obtain ⟨m, hm, hp⟩ := h
          have h0 := hp.2.1
          have h1 := hl.2.1
          exact ih m (by omega) hp
        · exact ⟨l, hl, fun m hm hp => h ⟨m, hm, hp⟩⟩
    exact key _ l (Nat.lt_succ_self _) hl
  · exact .inr fun l hl => h ⟨l, hl⟩
section
variable {w0 w w' : World} {pp n c tb : Nat} {V : Int → ByteArray} {R : List (Nat × Obj)} {i : Int}
theorem PV.setAny (H : PV w0 pp n c V R w) (k : Int) (s : ByteArray) (b0 : -9223372036854775808 ≤ k) (b1 : k ≤ 9223372036854775807) (hp : 0 < n) (hs : s.size ≤ 2000) (hc : c < 1000000) :
    Calls Tryz.prog 9 #[.pointer (some ⟨pp, 0, none⟩), .int .i64 k, .string s] w fun e w' => ∃ V' z, e = .returned (.int .i64 z) ∧ (outB n (V 0) k = true → s.size ≤ 256 → z = 0 ∧ V' = updV V k (filled s)) ∧ PV w0 pp n (c + 1) V' R w' := by
  cases hk : outB n (V 0) k with
  | false =>
    obtain ⟨S, h, rfl, rfl⟩ := H
    exact (pset_no h k s b0 b1 hp hk).mono fun e w' ⟨he, h'⟩ => ⟨_, _, he, fun h => (by cases h), S, h'.mono (by omega), rfl, rfl⟩
  | true =>
    by_cases hb : s.size ≤ 256
    · exact (H.set k s b0 b1 hp hb hc hk).mono fun e w' ⟨he, h'⟩ => ⟨_, _, he, fun _ _ => ⟨rfl, rfl⟩, h'⟩
    · obtain ⟨S, h, rfl, rfl⟩ := H
      exact (pset_big h k s b0 b1 hp (by omega) hs hc hk).mono fun e w' ⟨he, h'⟩ => ⟨_, _, he, fun _ h => absurd h hb, S, h', rfl, rfl⟩
theorem PV.setRootAny (H : PV w0 pp n c V R w) (i k : Int) (hi : 0 ≤ i ∧ i < 16) (hp : 1 < n) (hc : c < 1000000) (b0 : -9223372036854775808 ≤ k) (b1 : k ≤ 9223372036854775807) :
    Calls Tryz.prog 62 #[.pointer (some ⟨pp, 0, none⟩), .int .i64 i, .int .i64 k] w fun e w' => ∃ V' z, e = .returned (.int .i64 z) ∧ (outB n (V 0) k = true → z = 0 ∧ V' = updV V 1 (Go.Proofs.YtkdhlofcdcnjgaaGreat.setRoot (V 1) i k)) ∧ PV w0 pp n (c + 1) V' R w' := by
  cases hk : outB n (V 0) k with
  | false =>
    by_cases hz : k = 0
    · exact (H.setRoot i k hi hp hc (fun h => absurd hz h) b0 b1).mono fun e w' ⟨he, h'⟩ => ⟨_, _, he, fun h => (by cases h), h'⟩
    · exact (H.setRoot_none i k hi (by omega) hz hk b0 b1).mono fun e w' ⟨he, h'⟩ => ⟨_, _, he, fun h => (by cases h), h'.mono (by omega)⟩
  | true => exact (H.setRoot i k hi hp hc (fun _ => hk) b0 b1).mono fun e w' ⟨he, h'⟩ => ⟨_, _, he, fun _ => ⟨rfl, rfl⟩, h'⟩
theorem PV.allocAny (H : PV w0 pp n c V R w) (hp : 0 < n) (hc : c < 900000) :
    Calls Tryz.prog 60 #[.pointer (some ⟨pp, 0, none⟩)] w fun e w' => (∃ v, Least (V 0) 2 n v ∧ e = .returned (.tuple #[.int .i64 v, .int .i64 0]) ∧ PV w0 pp n (c + 2) (givenV V v) R w') ∨ ((∀ l, ¬ LowP (V 0) 2 n l) ∧ e = .returned (.tuple #[.int .i64 0, .int .i64 13]) ∧ PV w0 pp n (c + 2) V R w') := by
  rcases least_or2 (V 0) 2 n with ⟨v, hv⟩ | hno
  · exact (H.alloc hp hc v hv).mono fun e w' ⟨he, h'⟩ => .inl ⟨v, hv, he, h'⟩
  · exact (H.alloc_no hp hno).mono fun e w' ⟨he, h'⟩ => .inr ⟨hno, he, h'.mono (by omega)⟩
set_option maxHeartbeats 4000000 in
theorem twrite_any (H : PV w0 pp n c V R w) (hT : (tb, treeO pp i) ∈ R) (hn : 0 < n) (hc : c < 1000000) (x : NdM) (hk : Kn R x.sl x.L) (hs : pkS x.L ≤ 1000) (hsm : x.L.length ≤ 4096) (b0 : 0 ≤ x.at_) (b1 : x.at_ ≤ 65535) :
    Calls Tryz.prog 61 #[.pointer (some ⟨tb, 0, none⟩), .agg x.cells] w fun e w' => ∃ V' z, e = .returned (.int .i64 z) ∧ (outB n (V 0) x.at_ = true → pkS x.L ≤ 254 → z = 0 ∧ V' = updV V x.at_ (filled (packP x.level x.L))) ∧ PV w0 pp n (c + 1) V' R w' := by
  have H1 := H.push (ndO x)
  have hN := ndIs_of (H1.mem List.mem_cons_self) (H1.kn (hk.mono fun y hy => List.mem_cons_of_mem _ hy)) hsm
  obtain ⟨t0, t1⟩ := tree_cells (H1.mem (List.mem_cons_of_mem _ hT))
  obtain ⟨d0, d1, d2, d3, d4, d5⟩ := nd_cells (H1.mem List.mem_cons_self)
  simp only at t0 t1 d0 d1 d2 d3 d4 d5
  have HP := Lib.hid fun (W : World) (hb : Below (w.alloc (ndO x)).heap.size (w.alloc (ndO x)) W) => pack_any (hN.on hb) (by omega)
  have H1' := Lib.hid H1
  have HT := Lib.hid hT
  have hps := packP_size x.level x.L
  have hsl : (packP x.level x.L).size ≤ 2000 := by omega
  have HZ : Hid (pkS x.L ≤ 254 → (packP x.level x.L).size ≤ 256) := Lib.hid fun h => by omega
  clear H H1 hN d1 d2 d3 d4 d5 t1 hk hs hps hsm hT
  obtain ⟨D, hD⟩ : ∃ D, packP x.level x.L = D := ⟨_, rfl⟩
  rw [hD] at HP hsl HZ
  rw [hD]
  clear hD
  obtain ⟨W1, hW1⟩ : ∃ W1, w.alloc (ndO x) = W1 := ⟨_, rfl⟩
  rw [hW1] at HP H1' t0 d0
  have HW1 := Lib.hid hW1
  clear hW1
  unfold NdM.cells
  go_enter Tryz.func61, Tryz.ntmps61
  go_wp2
  rw [show (w.alloc (.cells #[.int .i64 x.at_, .int .i64 x.level, .string x.low, .string x.high, .slice x.sl x.L.length x.c, .int .i64 x.next] 70)) = W1 from HW1.out]
  go_region_held3 (fun w' => w'.cell? ⟨tb, 0, none⟩ = some (.pointer (some ⟨pp, 0, none⟩)) ∧ w'.cell? ⟨w.heap.size, 0, none⟩ = some (.int .i64 x.at_)) (go_keep)
    (first
      | (go_at_call 106
         refine (HP.out W1.drew (below_drew _)).mono ?_
         rintro e w5 ⟨rfl, hb5⟩
         have H5 := (H1'.out.on (below_drew _)).on hb5
         have z0 := (tree_cells (H5.mem (List.mem_cons_of_mem _ HT.out))).1
         have z1 := (nd_cells (H5.mem List.mem_cons_self)).1
         simp only at z0 z1
         have H5' := Lib.hid H5
         clear H5 hb5)
      | (go_at_call 9
         refine (PV.setAny H5'.out x.at_ D (by omega) (by omega) hn hsl hc).mono ?_
         rintro e w6 ⟨V6, z6, rfl, hp6, H6⟩
         have y0 := (tree_cells (H6.mem (List.mem_cons_of_mem _ HT.out))).1
         have y1 := (nd_cells (H6.mem List.mem_cons_self)).1
         simp only at y0 y1
         have HF := Lib.hid (And.intro hp6 H6.drop)
         clear H6 hp6))
  all_goals
    go_wp2
    go_returns
    exact ⟨V6, z6, rfl, fun h1 h2 => HF.out.1 h1 (HZ.out h2), HF.out.2⟩
end
end Go.Proofs.YtkdhlofcdcnjgaaGreat
namespace Go.Proofs.YtkdhlofcdcnjgaaGreat
set_option maxRecDepth 100000
open Go.ChangeShapes Go.WideShapes Go.ChangeAt Go.RowKit Go.PlainAid Go.Shelf
open Go.Sort (grow)

theorem out_given {V : Int → ByteArray} {n : Nat} {v : Int} (hs : (V 0).size = 256) (h : Least (V 0) 2 n v) (hn : n ≤ 1024) : outB n (givenV V v 0) v = true := by
  obtain ⟨⟨a, b, c, d, e⟩, _⟩ := h
  unfold outB
  rw [given_has hs (by omega) (by omega), if_pos rfl, decide_eq_true a, decide_eq_true c]
  rfl
/-- The pages behind a new root. -/
def topV (V : Int → ByteArray) (i v level : Int) (L : List Pr) : Int → ByteArray := updV (updV (givenV V v) v (filled (packP level L))) 1 (setRoot (updV (givenV V v) v (filled (packP level L)) 1) i v)
section
variable {w0 w w' : World} {pp n c tb : Nat} {V : Int → ByteArray} {R : List (Nat × Obj)} {i : Int}
set_option maxHeartbeats 4000000 in
theorem top_any (H : PV w0 pp n c V R w) (hT : (tb, treeO pp i) ∈ R) (hn : 1 < n) (hi : 0 ≤ i ∧ i < 16) (hc : c < 800000) (level : Int) (L : List Pr) (sl : Option Addr) (cp : Nat) (hk : Kn R sl L) (hs : pkS L ≤ 1000) (hsm : L.length ≤ 4096) :
    Calls Tryz.prog 27 #[.pointer (some ⟨tb, 0, none⟩), .int .i64 level, .slice sl L.length cp] w fun e w' => ∃ V' z, e = .returned (.int .i64 z) ∧ (∀ v, Least (V 0) 2 n v → pkS L ≤ 254 → z = 0 ∧ V' = topV V i v level L) ∧ PV w0 pp n (c + 4) V' R w' := by
  obtain ⟨t0, t1⟩ := tree_cells (H.mem hT)
  have hpg := H.pages
  have hv0 := H.size (k := 0) (by omega) (by omega)
  have HA := Lib.hid (H.allocAny (by omega) (by omega))
  have HT := Lib.hid hT
  have HK := Lib.hid hk
  clear H hT hk
  go_enter Tryz.func27, Tryz.ntmps27
  go_wp2_with fail
  refine HA.out.mono ?_
  rintro e w1 (⟨v, hv, rfl, H1⟩ | ⟨hno, rfl, H1⟩)
  · have hvb : 2 ≤ v ∧ v < n := ⟨hv.1.1, hv.1.2.2.1⟩
    have ho := out_given hv0 hv hpg
    have HW : Hid (Calls Tryz.prog 61 #[.pointer (some ⟨tb, 0, none⟩), .agg #[.int .i64 v, .int .i64 level, .string ⟨#[]⟩, .string ⟨#[]⟩, .slice sl L.length cp, .int .i64 0]] w1 fun e w' => ∃ V' z, e = .returned (.int .i64 z) ∧ (outB n (givenV V v 0) v = true → pkS L ≤ 254 → z = 0 ∧ V' = updV (givenV V v) v (filled (packP level L))) ∧ PV w0 pp n (c + 2 + 1) V' R w') :=
      Lib.hid (twrite_any H1 HT.out (by omega) (by omega) (⟨v, level, ⟨#[]⟩, ⟨#[]⟩, L, sl, cp, 0⟩ : NdM) HK.out hs hsm (by show 0 ≤ v; omega) (by show v ≤ 65535; omega))
    have HV := Lib.hid (And.intro hv ho)
    clear H1 HA hv ho
    go_wp2_with fail
    refine HW.out.mono ?_
    rintro e w2 ⟨V2, z2, rfl, hp2, H2⟩
    clear t0 t1 HW
    obtain ⟨t0, t1⟩ := tree_cells (H2.mem HT.out)
    simp only at t0 t1
    by_cases hz : z2 = 0
    · subst hz
      have HS := Lib.hid (H2.drew.setRootAny i v hi hn (by omega) (by omega) (by omega))
      have HP2 := Lib.hid hp2
      clear H2 hp2
      go_wp2_with fail
      go_region_law (first
        | (go_simp; (with_reducible refine HS.out.mono ?_); rintro e w3 ⟨V3, z3, rfl, hp3, H3⟩; have HF := Lib.hid (And.intro hp3 H3); clear H3 hp3)
        | fail)
      all_goals
        go_wp2
        go_returns
        refine ⟨V3, z3, rfl, fun v' hv' hpk => ?_, HF.out.2⟩
        have hvv : v' = v := by
          obtain ⟨a1, a2⟩ := hv'
          obtain ⟨b1, b2⟩ := HV.out.1
          have h1 : ¬ v' < v := fun h => b2 _ h a1
          have h2 : ¬ v < v' := fun h => a2 _ h b1
          omega
        subst hvv
        obtain ⟨_, rfl⟩ := HP2.out HV.out.2 hpk
        have h0 : updV (givenV V v') v' (filled (packP level L)) 0 = givenV V v' 0 := updV_other _ _ (by omega)
        exact HF.out.1 (by rw [h0]; exact HV.out.2)
    · have hz1 : (z2 != 0) = true := by simpa using hz
      have HF := Lib.hid (And.intro hp2 H2)
      clear H2 hp2 t0 t1
      go_wp2
      go_returns
      refine ⟨V2, z2, rfl, fun v' hv' hpk => ?_, HF.out.2.mono (by omega)⟩
      exact absurd (HF.out.1 HV.out.2 hpk).1 hz
  · have HF := Lib.hid (And.intro hno H1)
    clear H1 hno HA t0 t1
    go_wp2
    go_returns
    exact ⟨V, 13, rfl, fun v hv _ => absurd hv.1 (HF.out.1 v), HF.out.2.mono (by omega)⟩
end
end Go.Proofs.YtkdhlofcdcnjgaaGreat
namespace Go.Proofs.YtkdhlofcdcnjgaaGreat
set_option maxRecDepth 100000
open Go.ChangeShapes Go.WideShapes Go.ChangeAt Go.RowKit Go.PlainAid Go.Shelf
open Go.Sort (grow)

attribute [local go_sem ↓ high] store_n
theorem RdP.dropP {w : World} {g o : Nat} {L : List Pr} (h : RdP w (some ⟨g, o, none⟩) L) (k : Nat) : RdP w (some ⟨g, o + k * 2, none⟩) (L.drop k) := by
  rcases h with rfl | ⟨g', o', he, h2, h3⟩
  · exact .inl (by simp)
  · cases he
    refine .inr ⟨g, o + k * 2, rfl, h2, fun i p hp => ?_⟩
    rw [List.getElem?_drop] at hp
    obtain ⟨a, b⟩ := h3 (k + i) p hp
    rw [show o + k * 2 + i * 2 = o + (k + i) * 2 by omega]
    exact ⟨a, b⟩
theorem RdP.takeP {w : World} {sl : Option Addr} {L : List Pr} (h : RdP w sl L) (k : Nat) : RdP w sl (L.take k) := by
  rcases h with rfl | ⟨g', o', he, h2, h3⟩
  · exact .inl (by simp)
  · refine .inr ⟨g', o', he, h2, fun i p hp => ?_⟩
    rw [List.getElem?_take] at hp
    split at hp
    · exact h3 i p hp
    · cases hp
theorem Kn.dropP {R : List (Nat × Obj)} {g o : Nat} {L : List Pr} (h : Kn R (some ⟨g, o, none⟩) L) (k : Nat) : Kn R (some ⟨g, o + k * 2, none⟩) (L.drop k) := fun w hw => (h w hw).dropP k
theorem Kn.takeP {R : List (Nat × Obj)} {sl : Option Addr} {L : List Pr} (h : Kn R sl L) (k : Nat) : Kn R sl (L.take k) := fun w hw => (h w hw).takeP k
theorem pkS_drop (L : List Pr) (k : Nat) : pkS (L.drop k) ≤ pkS L := by
  conv => rhs; rw [← List.take_append_drop k L]
  unfold pkS
  rw [List.map_append, List.sum_append]
  omega
section
variable {w0 w w' : World} {pp n c rb : Nat} {V : Int → ByteArray} {R : List (Nat × Obj)}
/-- The empty pair is stored where the answer lies. -/
theorem PV.blankP (H : PV w0 pp n c V ((rb, prO ⟨⟨#[]⟩, ⟨#[]⟩⟩) :: R) w) (hR : ∀ x ∈ R, x.1 ≠ rb) (hb : w0.heap.size ≤ rb) :
    (w.cell? ⟨rb, 0, none⟩ = some (.string ⟨#[]⟩) ∧ w.cell? ⟨rb, 1, none⟩ = some (.string ⟨#[]⟩) ∧ w.frozen? ⟨rb, 0, none⟩ = false ∧ w.frozen? ⟨rb, 1, none⟩ = false) ∧
    PV w0 pp n c V R ((w.setCell ⟨rb, 0, none⟩ (.string ⟨#[]⟩)).setCell ⟨rb, 1, none⟩ (.string ⟨#[]⟩)) ∧
    ((w.setCell ⟨rb, 0, none⟩ (.string ⟨#[]⟩)).setCell ⟨rb, 1, none⟩ (.string ⟨#[]⟩)).cell? ⟨rb, 0, none⟩ = some (.string ⟨#[]⟩) ∧
    ((w.setCell ⟨rb, 0, none⟩ (.string ⟨#[]⟩)).setCell ⟨rb, 1, none⟩ (.string ⟨#[]⟩)).cell? ⟨rb, 1, none⟩ = some (.string ⟨#[]⟩) := by
  have hr := H.mem List.mem_cons_self
  have H9 := (H.into hR (by decide) hb 0 (.string ⟨#[]⟩)).into hR (by decide) hb 1 (.string ⟨#[]⟩)
  have hr9 := H9.mem List.mem_cons_self
  unfold prO at hr
  simp only at hr9
  refine ⟨⟨?_, ?_, frozen_of_row _ _ _ _ _ hr, frozen_of_row _ _ _ _ _ hr⟩, H9.drop, ?_, ?_⟩
  · rw [cell_of_row _ _ _ _ _ _ hr]; rfl
  · rw [cell_of_row _ _ _ _ _ _ hr]; rfl
  · rw [cell_of_row _ _ _ _ _ _ hr9]; rfl
  · rw [cell_of_row _ _ _ _ _ _ hr9]; rfl
end
section
variable {w0 w w' : World} {pp n c tb : Nat} {V : Int → ByteArray} {R : List (Nat × Obj)} {i : Int}
set_option maxHeartbeats 4000000 in
theorem split_any (H : PV w0 pp n c V R w) (hT : (tb, treeO pp i) ∈ R) (hn : 1 < n) (hc : c < 800000) (x : NdM) (g : Nat) (hg : x.sl = some ⟨g, 0, none⟩) (hk : Kn R x.sl x.L) (hs : pkS x.L ≤ 1000) (hsm : x.L.length ≤ 4096) (h0 : 0 < x.L.length) (hcp : x.L.length ≤ x.c) (hm : Mod x.L) (h32 : ∀ q ∈ x.L, q.key.size ≤ 32) (b0 : 0 ≤ x.at_) (b1 : x.at_ ≤ 65535) :
    Calls Tryz.prog 67 #[.pointer (some ⟨tb, 0, none⟩), .agg x.cells] w fun e w' => ∃ V' z, ∃ p : Pr, e = .returned (.tuple #[.agg #[.string p.key, .string p.val], .int .i64 z]) ∧ p.key.size ≤ 32 ∧ p.val.size ≤ 2 ∧ PV w0 pp n (c + 4) V' R w' := by
  have H1 := ((H.push (ndO x)).push (prO ⟨⟨#[]⟩, ⟨#[]⟩⟩)).turn
  rw [show (w.alloc (ndO x)).heap.size = w.heap.size + 1 by simp] at H1
  have hpg := H.pages
  have hlt0 := H.below.size
  have hRB : Hid (∀ y ∈ R, y.1 < w.heap.size) := Lib.hid fun y hy => H.lt hy
  have hT1 : (tb, treeO pp i) ∈ (w.heap.size, ndO x) :: (w.heap.size + 1, prO ⟨⟨#[]⟩, ⟨#[]⟩⟩) :: R := List.mem_cons_of_mem _ (List.mem_cons_of_mem _ hT)
  obtain ⟨t0, t1⟩ := tree_cells (H1.mem hT1)
  obtain ⟨d0, d1, d2, d3, d4, d5⟩ := nd_cells (H1.mem List.mem_cons_self)
  simp only at t0 t1 d0 d1 d2 d3 d4 d5
  have HA := Lib.hid (H1.allocAny (by omega) (by omega))
  have HK := Lib.hid (And.intro hk (And.intro hm h32))
  have HT := Lib.hid hT1
  have HTR := Lib.hid hT
  clear H H1 hk hT hT1 hm h32
  obtain ⟨W1, hW1⟩ : ∃ W1, (w.alloc (ndO x)).alloc (prO ⟨⟨#[]⟩, ⟨#[]⟩⟩) = W1 := ⟨_, rfl⟩
  rw [hW1] at HA t0 t1 d0 d1 d2 d3 d4 d5
  have HW1 := Lib.hid hW1
  clear hW1
  unfold NdM.cells
  go_enter Tryz.func67, Tryz.ntmps67
  go_upto_region 1 with (fail)
  rw [show ((w.alloc (.cells #[.int .i64 x.at_, .int .i64 x.level, .string x.low, .string x.high, .slice (some ⟨g, 0, none⟩) x.L.length x.c, .int .i64 x.next] 70)).alloc (.cells #[.string ⟨#[]⟩, .string ⟨#[]⟩] 47)) = W1 by rw [← hg]; exact HW1.out]
  go_wp2_with fail
  refine HA.out.mono ?_
  clear HA
  rintro e w1 (⟨v, hv, rfl, H1⟩ | ⟨hno, rfl, H1⟩)
  · have hvb : 2 ≤ v ∧ v < n := ⟨hv.1.1, hv.1.2.2.1⟩
    obtain ⟨vn, hvn⟩ := Int.eq_ofNat_of_zero_le (show 0 ≤ v by omega)
    subst hvn
    generalize hvq : (vn : Int) = v at *
    have HVN := Lib.hid hvq
    clear hvq
    have hN := ndIs_of (H1.mem List.mem_cons_self) (H1.kn (HK.out.1.mono fun y hy => List.mem_cons_of_mem _ (List.mem_cons_of_mem _ hy))) hsm
    have HH := Lib.hid (half_any hN HK.out.2.1 h0)
    have H1' := Lib.hid H1
    clear H1 hN d0 d1 d2 d3 d4 d5 t0 t1 hv
    go_wp2_with fail
    refine HH.out.mono ?_
    rintro e w2 ⟨⟨k, hk, rfl⟩, hb2⟩
    have H2 := H1'.out.on hb2
    obtain ⟨t0, t1⟩ := tree_cells (H2.mem HT.out)
    obtain ⟨d0, d1, d2, d3, d4, d5⟩ := nd_cells (H2.mem List.mem_cons_self)
    have f4 := nd_thaw (H2.mem List.mem_cons_self) 4
    simp only at t0 t1 d0 d1 d2 d3 d4 d5 f4
    clear hb2 HH
    rw [hg] at d4
    have H2' := Lib.hid H2
    have H2a := H2.push (.cells #[.int .i64 0, .int .i64 0, .string ⟨#[]⟩, .string ⟨#[]⟩, .slice none 0 0, .int .i64 0] 70 (0, 0))
    obtain ⟨_, a1, _, _, a4, _⟩ := nd_cells (H2a.mem (List.mem_cons_of_mem _ List.mem_cons_self))
    simp only at a1 a4
    rw [hg] at a4
    have hltW : w.heap.size < w2.heap.size := H2.lt (x := (w.heap.size, ndO x)) List.mem_cons_self
    have hltW2 : w.heap.size + 1 < w2.heap.size := H2.lt (x := (w.heap.size + 1, prO ⟨⟨#[]⟩, ⟨#[]⟩⟩)) (List.mem_cons_of_mem _ List.mem_cons_self)
    clear H2a
    have hkc : k ≤ x.c := by omega
    have hkl : k ≤ x.L.length := by omega
    have hkl2 : (k : Int) ≤ (x.L.length : Int) := by omega
    have hcne : ¬ (x.c = k) := by omega
    clear H2
    obtain ⟨x2, hx2⟩ : ∃ x2 : NdM, (⟨v, x.level, ⟨#[]⟩, ⟨#[]⟩, x.L.drop k, some ⟨g, 0 + k * 2, none⟩, x.c - k, 0⟩ : NdM) = x2 := ⟨_, rfl⟩
    have hc2 : x2.cells = #[.int .i64 v, .int .i64 x.level, .string ⟨#[]⟩, .string ⟨#[]⟩, .slice (some ⟨g, k * 2, none⟩) (x.L.length - k) (x.c - k), .int .i64 0] := by
      rw [← hx2]
      unfold NdM.cells
      simp only [List.length_drop, Nat.zero_add]
    have hst : (storeS 70 (.pointer (some ⟨w2.heap.size, 0, none⟩)) (.agg #[.int .i64 v, .int .i64 x.level, .string ⟨#[]⟩, .string ⟨#[]⟩, .slice (some ⟨g, k * 2, none⟩) (x.L.length - k) (x.c - k), .int .i64 0])).run Tryz.prog (w2.drew.alloc (.cells #[.int .i64 0, .int .i64 0, .string ⟨#[]⟩, .string ⟨#[]⟩, .slice none 0 0, .int .i64 0] 70)) = .ok () (w2.drew.alloc (ndO x2)) := by
      have := store_nd_fresh w2.drew x2
      rw [hc2] at this
      exact this
    have hst2 : (storeS 70 (.pointer (some ⟨w2.heap.size, 0, none⟩)) (.agg #[.int .i64 v, .int .i64 x.level, .string ⟨#[]⟩, .string ⟨#[]⟩, .slice (some ⟨g, k * 2, none⟩) (x.L.length - k) (x.c - k), .int .i64 0])).run Tryz.prog (w2.alloc (.cells #[.int .i64 0, .int .i64 0, .string ⟨#[]⟩, .string ⟨#[]⟩, .slice none 0 0, .int .i64 0] 70)).drew = .ok () (w2.drew.alloc (ndO x2)) := hst
    have HX2 := Lib.hid (And.intro hx2 hc2)
    clear hx2 hc2
    go_upto_region 6 with fail
    go_cut [9] (fun s9 wx => ∃ nb, s9 = .pointer (some ⟨nb, 0, none⟩) ∧ w2.heap.size ≤ nb ∧ PV w0 pp n (c + 2) (givenV V v) ((nb, ndO x2) :: (w.heap.size, ndO x) :: (w.heap.size + 1, prO ⟨⟨#[]⟩, ⟨#[]⟩⟩) :: R) wx)
    case first =>
      go_wp2_with fail
      go_region_law (fail)
      all_goals go_wp2_with fail
      all_goals go_simp
      all_goals go_meet
      all_goals exact ⟨_, rfl, Nat.le_refl _, (H2'.out.push (ndO x2)).drew⟩
    case rest =>
      obtain ⟨nb, rfl, hnb2, H3⟩ := hcut
      clear hst hst2 a1 a4 t0 t1 d0 d1 d2 d3 d4 d5 f4 H2'
      have hne : ∀ y ∈ (nb, ndO x2) :: (w.heap.size + 1, prO ⟨⟨#[]⟩, ⟨#[]⟩⟩) :: R, y.1 ≠ w.heap.size := fun y hy e => by
        rcases List.mem_cons.1 hy with rfl | hy
        · simp only at e
          omega
        · rcases List.mem_cons.1 hy with rfl | hy
          · simp only at e
            omega
          · have := hRB.out y hy
            omega
      have H4 := H3.turn
      obtain ⟨t0, t1⟩ := tree_cells (H4.mem (x := (tb, treeO pp i)) (by simp [HTR.out]))
      obtain ⟨d0, d1, d2, d3, d4, d5⟩ := nd_cells (H4.mem List.mem_cons_self)
      have f4 := nd_thaw (H4.mem List.mem_cons_self) 4
      simp only at t0 t1 d0 d1 d2 d3 d4 d5 f4
      rw [hg] at d4
      have H5 := H4.into hne (by decide) hlt0 4 (.slice (some ⟨g, 0, none⟩) k x.c)
      obtain ⟨x1, hx1⟩ : ∃ x1 : NdM, ({ x with L := x.L.take k, sl := some ⟨g, 0, none⟩ } : NdM) = x1 := ⟨_, rfl⟩
      have hlk : (x.L.take k).length = k := by rw [List.length_take]; omega
      have hc1 : x1.cells = #[.int .i64 x.at_, .int .i64 x.level, .string x.low, .string x.high, .slice (some ⟨g, 0, none⟩) k x.c, .int .i64 x.next] := by
        rw [← hx1]
        unfold NdM.cells
        simp only [hlk]
      have H5 : PV w0 pp n (c + 2) (givenV V v) ((w.heap.size, ndO x1) :: (nb, ndO x2) :: (w.heap.size + 1, prO ⟨⟨#[]⟩, ⟨#[]⟩⟩) :: R) (wc.setCell ⟨w.heap.size, 4, none⟩ (.slice (some ⟨g, 0, none⟩) k x.c)) := by
        unfold ndO
        rw [hc1]
        exact H5
      obtain ⟨W5, hW5⟩ : ∃ W5, wc.setCell ⟨w.heap.size, 4, none⟩ (.slice (some ⟨g, 0, none⟩) k x.c) = W5 := ⟨_, rfl⟩
      rw [hW5] at H5
      obtain ⟨k0, k1, k2, k3, k4, k5⟩ := nd_cells (H5.mem List.mem_cons_self)
      have hx1L : x1.L = x.L.take k ∧ x1.sl = some ⟨g, 0, none⟩ ∧ x1.c = x.c ∧ x1.at_ = x.at_ ∧ x1.level = x.level ∧ x1.low = x.low ∧ x1.high = x.high ∧ x1.next = x.next := by rw [← hx1]; exact ⟨rfl, rfl, rfl, rfl, rfl, rfl, rfl, rfl⟩
      obtain ⟨e1, e2, e3, e4, e5, e6, e7, e8⟩ := hx1L
      simp only at k0 k1 k2 k3 k4 k5
      rw [e4] at k0
      rw [e5] at k1
      rw [e6] at k2
      rw [e7] at k3
      rw [e1, e2, e3, hlk] at k4
      rw [e8] at k5
      have HW := Lib.hid (twrite_any H5 (x := x1) (i := i) (tb := tb) (by simp [HTR.out]) (by omega) (by omega) (by rw [e1, e2, ← hg]; exact (HK.out.1.mono fun y hy => by simp [hy]).takeP k) (by rw [e1]; have := pkS_take x.L k; omega) (by rw [e1, hlk]; omega) (by rw [e4]; omega) (by rw [e4]; omega))
      rw [hc1] at HW
      clear H3 H4 H5 hne e1 e2 e3 e4 e5 e6 e7 e8 hlk hc1 hx1
      go_wp2_with fail
      refine HW.out.mono ?_
      rintro e w6 ⟨V6, z6, rfl, _, H6⟩
      clear HW t0 t1 d0 d1 d2 d3 d4 d5 f4 k0 k1 k2 k3 k4 k5 hW5
      by_cases hz : z6 = 0
      · subst hz
        obtain ⟨p, hp⟩ : ∃ p, x.L[k]? = some p := ⟨_, List.getElem?_eq_getElem hk⟩
        have hp32 := HK.out.2.2 p (List.mem_of_getElem? hp)
        have kn2 : ∀ q : Pr, Kn ((w.heap.size, ndO x1) :: (nb, ndO x2) :: (w.heap.size + 1, prO q) :: R) x2.sl x2.L := fun q => by
          rw [← HX2.out.1]
          show Kn _ (some ⟨g, 0 + k * 2, none⟩) (x.L.drop k)
          rw [hg] at HK
          exact (HK.out.1.mono fun y hy => by simp [hy]).dropP k
        have hp2 : x2.L[0]? = some p := by
          rw [← HX2.out.1]
          show (x.L.drop k)[0]? = some p
          rw [List.getElem?_drop, Nat.add_zero]
          exact hp
        have facts : ∀ (c' : Nat) (V' : Int → ByteArray) (W : World) (q : Pr), PV w0 pp n c' V' ((w.heap.size, ndO x1) :: (nb, ndO x2) :: (w.heap.size + 1, prO q) :: R) W →
            W.cell? ⟨nb, 0, none⟩ = some (.int .i64 v) ∧ W.cell? ⟨nb, 1, none⟩ = some (.int .i64 x.level) ∧ W.cell? ⟨nb, 2, none⟩ = some (.string ⟨#[]⟩) ∧ W.cell? ⟨nb, 3, none⟩ = some (.string ⟨#[]⟩) ∧
            W.cell? ⟨nb, 4, none⟩ = some (.slice (some ⟨g, k * 2, none⟩) (x.L.length - k) (x.c - k)) ∧ W.cell? ⟨nb, 5, none⟩ = some (.int .i64 0) ∧ W.cell? ⟨g, k * 2, none⟩ = some (.string p.key) := fun c' V' W q h => by
          have hm := h.mem (x := (nb, ndO x2)) (by simp)
          unfold ndO at hm
          rw [HX2.out.2] at hm
          refine ⟨?_, ?_, ?_, ?_, ?_, ?_, ?_⟩
          iterate 6 (first | (rw [cell_of_row _ _ _ _ _ _ hm]; rfl))
          obtain ⟨g', o', he, _, hc, _⟩ := (h.kn (kn2 q)).at hp2
          rw [← HX2.out.1] at he
          have he : some (⟨g, 0 + k * 2, none⟩ : Addr) = some ⟨g', o', none⟩ := he
          cases he
          simpa using hc
        have HF := Lib.hid facts
        have HNR : Hid (∀ y ∈ (w.heap.size, ndO x1) :: (nb, ndO x2) :: R, y.1 ≠ w.heap.size + 1) := Lib.hid fun y hy e => by
          rcases List.mem_cons.1 hy with rfl | hy
          · simp at e
          · rcases List.mem_cons.1 hy with rfl | hy
            · simp only at e
              omega
            · have := hRB.out y hy
              omega
        have HKN := Lib.hid kn2
        have H6' := Lib.hid H6
        obtain ⟨q0, q1, q2, q3, q4, q5, q6⟩ := facts _ _ _ _ H6.drew
        clear facts kn2 H6 hp hp2
        have hlk0 : (0 : Int) < ((x.L.length - k : Nat) : Int) := by omega
        have hlk1 : 0 < x.L.length - k := by omega
        have hlk2 : (0 : Int) ≤ 0 := by omega
        go_wp2_with fail
        go_region_held3 (fun w' => w'.cell? ⟨nb, 0, none⟩ = some (.int .i64 v) ∧ w'.cell? ⟨nb, 1, none⟩ = some (.int .i64 x.level) ∧ w'.cell? ⟨nb, 2, none⟩ = some (.string ⟨#[]⟩) ∧ w'.cell? ⟨nb, 3, none⟩ = some (.string ⟨#[]⟩) ∧
            w'.cell? ⟨nb, 4, none⟩ = some (.slice (some ⟨g, k * 2, none⟩) (x.L.length - k) (x.c - k)) ∧ w'.cell? ⟨nb, 5, none⟩ = some (.int .i64 0) ∧ w'.cell? ⟨g, k * 2, none⟩ = some (.string p.key)) (first | go_keep | exact HS9.out.1)
          (first
            | (go_at_call 68
               rw [← HVN.out]
               refine (number_any vn _ (by have := HVN.out; omega)).mono ?_
               rintro e w7 ⟨⟨s7, rfl, hs7⟩, hb7⟩
               rw [HVN.out]
               have H7 := H6'.out.drew.on hb7
               obtain ⟨y0, y1, y2, y3, y4, y5, y6⟩ := HF.out _ _ _ _ H7
               have H7' := Lib.hid (And.intro hs7 H7)
               clear H7 hb7 hs7)
            | (go_at_call 61
               have HW8 := twrite_any H7'.out.2 (x := x2) (i := i) (tb := tb) (by simp [HTR.out]) (by omega) (by omega) (HKN.out _) (by rw [← HX2.out.1]; show pkS (x.L.drop k) ≤ _; have := pkS_drop x.L k; omega) (by rw [← HX2.out.1]; show (x.L.drop k).length ≤ _; rw [List.length_drop]; omega) (by rw [← HX2.out.1]; show 0 ≤ v; omega) (by rw [← HX2.out.1]; show v ≤ 65535; omega)
               rw [HX2.out.2] at HW8
               refine HW8.mono ?_
               rintro e w8 ⟨V8, z8, rfl, _, H8⟩
               obtain ⟨y0, y1, y2, y3, y4, y5, y6⟩ := HF.out _ _ _ _ H8
               have hr := H8.mem (x := (w.heap.size + 1, prO ⟨⟨#[]⟩, ⟨#[]⟩⟩)) (by simp)
               unfold prO at hr
               have y7 : w8.cell? ⟨w.heap.size + 1, 0, none⟩ = some (.string ⟨#[]⟩) := by rw [cell_of_row _ _ _ _ _ _ hr]; rfl
               have y8 : w8.cell? ⟨w.heap.size + 1, 1, none⟩ = some (.string ⟨#[]⟩) := by rw [cell_of_row _ _ _ _ _ _ hr]; rfl
               have y9 : w8.frozen? ⟨w.heap.size + 1, 0, none⟩ = false := frozen_of_row _ _ _ _ _ hr
               have y10 : w8.frozen? ⟨w.heap.size + 1, 1, none⟩ = false := frozen_of_row _ _ _ _ _ hr
               have H9 := ((((H8.sub ((w.heap.size + 1, prO ⟨⟨#[]⟩, ⟨#[]⟩⟩) :: (w.heap.size, ndO x1) :: (nb, ndO x2) :: R) (fun y hy => by
                 simp only [List.mem_cons] at hy ⊢
                 rcases hy with h | h | h | h
                 · exact .inr (.inr (.inl h))
                 · exact .inl h
                 · exact .inr (.inl h)
                 · exact .inr (.inr (.inr h)))).into HNR.out (by decide) (by omega) 0 (.string p.key)).into HNR.out (by decide) (by omega) 1 (.string s7)).sub ((w.heap.size, ndO x1) :: (nb, ndO x2) :: (w.heap.size + 1, prO ⟨p.key, s7⟩) :: R) (fun y hy => by
                 simp only [List.mem_cons] at hy ⊢
                 rcases hy with h | h | h | h
                 · exact .inr (.inl h)
                 · exact .inr (.inr (.inl h))
                 · exact .inl h
                 · exact .inr (.inr (.inr h))))
               have hr9 := H9.mem (x := (w.heap.size + 1, prO ⟨p.key, s7⟩)) (by simp)
               unfold prO at hr9
               have HS9 := Lib.hid (And.intro (HF.out _ _ _ _ H9) (And.intro H9.drop.drop.drop hr9))
               clear H8 HW8 hr H9 hr9))
        all_goals
          go_wp2_with fail
          have r0 : ((w8.setCell ⟨w.heap.size + 1, 0, none⟩ (.string p.key)).setCell ⟨w.heap.size + 1, 1, none⟩ (.string s7)).cell? ⟨w.heap.size + 1, 0, none⟩ = some (.string p.key) := by rw [cell_of_row _ _ _ _ _ _ HS9.out.2.2]; rfl
          have r1 : ((w8.setCell ⟨w.heap.size + 1, 0, none⟩ (.string p.key)).setCell ⟨w.heap.size + 1, 1, none⟩ (.string s7)).cell? ⟨w.heap.size + 1, 1, none⟩ = some (.string s7) := by rw [cell_of_row _ _ _ _ _ _ HS9.out.2.2]; rfl
          refine bodyPost_ret (v := .tuple #[.agg #[.string p.key, .string s7], .int .i64 z8]) (by simp [results, Tryz.results67, go_sem, r0, r1]) rfl ?_
          exact ⟨V8, z8, ⟨p.key, s7⟩, rfl, hp32, by show s7.size ≤ 2; have := H7'.out.1; omega, HS9.out.2.1.mono (by omega)⟩
      · have hz1 : (z6 != 0) = true := by simpa using hz
        obtain ⟨⟨y7, y8, y9, y10⟩, H9, r0, r1⟩ := (H6.drop.drop).blankP (fun y hy e => by have := hRB.out y hy; omega) (by omega)
        have HX := Lib.hid (And.intro H9 (And.intro r0 r1))
        clear H6 H9 r0 r1
        go_wp2_with fail
        obtain ⟨H9, r0, r1⟩ := HX.out
        refine bodyPost_ret (v := .tuple #[.agg #[.string ⟨#[]⟩, .string ⟨#[]⟩], .int .i64 z6]) (by simp [results, Tryz.results67, go_sem, r0, r1]) rfl ?_
        exact ⟨V6, z6, ⟨⟨#[]⟩, ⟨#[]⟩⟩, rfl, by decide, by decide, H9.mono (by omega)⟩
  · obtain ⟨⟨y7, y8, y9, y10⟩, H9, r0, r1⟩ := (H1.drop).blankP (fun y hy e => by have := hRB.out y hy; omega) (by omega)
    have HX := Lib.hid (And.intro H9 (And.intro r0 r1))
    clear H1 H9 r0 r1 hno t0 t1 d0 d1 d2 d3 d4 d5
    go_wp2_with fail
    obtain ⟨H9, r0, r1⟩ := HX.out
    refine bodyPost_ret (v := .tuple #[.agg #[.string ⟨#[]⟩, .string ⟨#[]⟩], .int .i64 13]) (by simp [results, Tryz.results67, go_sem, r0, r1]) rfl ?_
    exact ⟨V, 13, ⟨⟨#[]⟩, ⟨#[]⟩⟩, rfl, by decide, by decide, H9.mono (by omega)⟩
end
end Go.Proofs.YtkdhlofcdcnjgaaGreat
