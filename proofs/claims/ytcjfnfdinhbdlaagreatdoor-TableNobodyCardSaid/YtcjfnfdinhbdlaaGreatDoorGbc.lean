import Derived.Test.YtcjfnfdinhbdlaaGreatDoorGaz
import Derived.Shelf.RegionOpen
import Derived.Lib.AppendZerosOnto
import Derived.Lib.SlBuf
import Derived.Laws.CopyRow
import Derived.Laws.CopyOwn
import Derived.Deep.AppendSrc
import Derived.Test.YtcjfnfdinhbdlaaGreatDoorGae
import Derived.Lib.AppendStr
import Derived.Deep.RegionLaw
namespace Go.Proofs.YtcjfnfdinhbdlaaGreatDoor
set_option maxRecDepth 100000
open Go.ChangeShapes Go.WideShapes Go.ChangeAt Go.RowKit Go.PlainAid Go.Shelf
open Go.Sort (grow)
def RowP (cur : Array Value) (L : List Pr) : Prop := cur.toList.take (L.length * 2) = flatP L
theorem RowP.at {cur : Array Value} {L : List Pr} (h : RowP cur L) {i : Nat} {p : Pr} (hp : L[i]? = some p) : cur[i * 2]? = some (.string p.key) ∧ cur[i * 2 + 1]? = some (.string p.val) := by
  have hi := (List.getElem?_eq_some_iff.1 hp).1
  obtain ⟨a, b⟩ := flatP_at L i p hp
  rw [← h, List.getElem?_take_of_lt (by omega), Array.getElem?_toList] at a
  rw [← h, List.getElem?_take_of_lt (by omega), Array.getElem?_toList] at b
  exact ⟨a, b⟩
theorem rdP_cur {w : World} {g : Nat} {L : List Pr} {cur : Array Value} (h : w.heap[g]? = some (.cells cur 121 (0, 0))) (hr : RowP cur L) : RdP w (some ⟨g, 0, none⟩) L := by
  refine .inr ⟨g, 0, rfl, (Array.getElem?_eq_some_iff.1 h).1, fun i p hp => ?_⟩
  obtain ⟨a, b⟩ := hr.at hp
  exact ⟨by rw [cell_of_row _ _ _ _ _ _ h, Nat.zero_add]; exact a, by rw [cell_of_row _ _ _ _ _ _ h, Nat.zero_add]; exact b⟩
theorem rowP_self (L : List Pr) : RowP (flatP L).toArray L := by
  unfold RowP
  rw [List.take_of_length_le (by rw [flatP_len]; exact Nat.le_refl _)]
theorem flatP_take (L : List Pr) (j : Nat) : flatP (L.take j) = (flatP L).take (j * 2) := by
  by_cases h : j ≤ L.length
  · have e : (flatP (L.take j)).length = j * 2 := by rw [flatP_len, List.length_take, Nat.min_eq_left h]
    have e2 : flatP L = flatP (L.take j) ++ flatP (L.drop j) := by rw [← flatP_app, List.take_append_drop]
    rw [e2, ← e, List.take_left]
  · rw [List.take_of_length_le (by omega), List.take_of_length_le]
    rw [flatP_len]
    omega
theorem flatP_drop (L : List Pr) (j : Nat) (h : j ≤ L.length) : flatP (L.drop j) = (flatP L).drop (j * 2) := by
  have e : (flatP (L.take j)).length = j * 2 := by rw [flatP_len, List.length_take, Nat.min_eq_left h]
  have e2 : flatP L = flatP (L.take j) ++ flatP (L.drop j) := by rw [← flatP_app, List.take_append_drop]
  rw [e2, ← e, List.drop_left]
theorem size_zero2 (k : Nat) : (Builtin.zeroCells (Value.agg #[.string ⟨#[]⟩, .string ⟨#[]⟩]).cells k).size = k * 2 := by
  simp [Builtin.zeroCells, Value.cells]
theorem run_copy_rowK {P : Program} (w : World) (dT sT ty elem : TypeId) (g o dLen dCap : Nat) (a : Addr) (sLen sCap : Nat) (cur : Array Value) (t : TypeId) (cs : List Value) (k : Nat)
    (hu : P.underlying dT = some (.slice elem)) (hs : (P.info? elem).map (·.size) = some k)
    (hg : w.heap[g]? = some (.cells cur t (0, 0))) (hn : cs.length = Nat.min sLen dLen * k) (m : Nat) (hm : Nat.min sLen dLen = m)
    (hsrc : ∀ j v, cs[j]? = some v → w.cell? (a.add j) = some v) (hfit : o + cs.length ≤ cur.size) (h1 : ∀ v ∈ cs, v.oneCell' = true) :
    (Builtin.copy_ #[dT, sT] ty #[.slice (some ⟨g, o, none⟩) dLen dCap, .slice (some a) sLen sCap]).run P w =
      .ok (goInt m) (w.setRow g (cur.toList.take o ++ cs ++ cur.toList.drop (o + cs.length)).toArray) := by
  have hl := run_loadCells_list (P := P) w a cs hsrc
  have hst := run_storeCells_at P g o t cs 0 cur w hg (by simpa using hfit) h1
  rw [hm] at hn
  cases hq : P.info? elem with
  | none => simp [hq] at hs
  | some i =>
    have hi : i.size = k := by simpa [hq] using hs
    simp [Builtin.copy_, run_underlying hu, Builtin.lenOf, Builtin.firstCells, sizeOf, typeInfo, hq, hi, hm, ← hn, hl, hst]
theorem below_drew (w : World) : Below w.heap.size w w.drew := ⟨rfl, rfl, rfl, Nat.le_refl _, fun _ _ => rfl⟩
def InsPost (w : World) (L : List Pr) (e : Ending) (w' : World) : Prop := ∃ g cap cur, e = .returned (.slice (some ⟨g, 0, none⟩) L.length cap) ∧ w.heap.size ≤ g ∧ w'.heap[g]? = some (.cells cur 121 (0, 0)) ∧ RowP cur L ∧ L.length ≤ cap ∧ Below w.heap.size w w'
set_option maxHeartbeats 8000000 in
theorem insert_mid {w : World} {g vb : Nat} {L : List Pr} (r : Pr) (j : Nat) (hj : j < L.length) (hL : L.length ≤ 4096) (hg : w.heap[g]? = some (rowO L)) (hv : w.heap[vb]? = some (rowO [r])) :
    Calls Tryz.prog 123 #[.slice (some ⟨g, 0, none⟩) L.length L.length, .int .i64 j, .slice (some ⟨vb, 0, none⟩) 1 1] w (InsPost w (L.take j ++ r :: L.drop j)) := by
  obtain ⟨i0, hi0, hz0, hzs, hzb⟩ := info_parts info_pair
  have hgw := (Array.getElem?_eq_some_iff.1 hg).1
  have hvw := (Array.getElem?_eq_some_iff.1 hv).1
  unfold rowO at hg hv
  have hcs : ∀ t v, (flatP L)[t]? = some v → w.cell? ⟨g, t, none⟩ = some v := fun t v h => by
    rw [cell_of_row _ _ _ _ _ _ hg]
    simpa using h
  have hkk : (L.length : Int) + 1 - (j : Int) = ((L.length + 1 - j : Nat) : Int) := by omega
  have hik : j + (L.length + 1 - j) = L.length + 1 := by omega
  have hold : (Builtin.firstCells i0.size j (.slice (some ⟨g, 0, none⟩) j L.length)).run Tryz.prog w.drew = .ok (flatP (L.take j)).toArray w.drew := by
    rw [hzs]
    exact run_firstCells_some w.drew 2 j ⟨g, 0, none⟩ j L.length (flatP (L.take j)) (by rw [flatP_len, List.length_take]; omega) (fun t v h => by
      rw [Addr.add_lit, Nat.zero_add]
      rw [flatP_take, List.getElem?_take] at h
      split at h
      · exact hcs t v h
      · cases h)
  obtain ⟨G, hG⟩ : ∃ G, G = grownCap w (L.length + 1) L.length 121 := ⟨_, rfl⟩
  obtain ⟨ROW, hROW⟩ : ∃ ROW : Array Value, ROW = (flatP (L.take j)).toArray ++ Builtin.zeroCells (Value.agg #[.string ⟨#[]⟩, .string ⟨#[]⟩]).cells (L.length + 1 - j) ++ Builtin.zeroCells (Value.agg #[.string ⟨#[]⟩, .string ⟨#[]⟩]).cells (G - (L.length + 1)) := ⟨_, rfl⟩
  have hrz : ∀ ty, (Builtin.append_ #[114, 3] ty #[.slice (some ⟨g, 0, none⟩) j L.length, .int .i64 ((L.length : Int) + 1 - (j : Int))]).run Tryz.prog w =
      .ok (.slice (some ⟨w.heap.size, 0, none⟩) (L.length + 1) G) (w.drew.alloc (.cells ROW 121)) := fun ty => by
    have h := Lib.run_append_grow_zeros w 114 3 ty 121 i0 _ .i64 .i64 Tryz.underlying114 Tryz.underlying3 hi0 hz0 (some ⟨g, 0, none⟩) j L.length (flatP (L.take j)) hold (L.length + 1 - j) (by omega) (by omega) (by omega) (by omega) (by rw [hzb]; omega) (by rw [hzb, hik]; exact growslice_fits (by omega) (by omega))
    rw [hik] at h
    rw [hkk, hROW, hG]
    exact h
  have hGn : L.length + 1 ≤ G := by rw [hG]; exact grownCap_ge w _ _ _
  have hG63 : G ≤ 9223372036854775807 := by
    have := grownCap_le_maxLen w (L.length + 1) L.length 121 (by unfold maxLen; omega)
    rw [← hG] at this
    unfold maxLen at this
    omega
  have hRs : ROW.size = G * 2 := by
    rw [hROW, Array.size_append, Array.size_append, size_zero2, size_zero2, List.size_toArray, flatP_len, List.length_take]
    omega
  have hRt : ROW.toList.take (j * 2) = flatP (L.take j) := by
    have e : (flatP (L.take j)).length = j * 2 := by rw [flatP_len, List.length_take]; omega
    rw [hROW, Array.toList_append, Array.toList_append, List.append_assoc, ← e]
    exact List.take_left
  have hin : (Tryz.prog.info? 121).map (·.size) = some 2 := by rw [hi0]; simp [hzs]
  have hone : ∀ L : List Pr, ∀ u ∈ flatP L, u.oneCell' = true := flatP_one
  obtain ⟨ROW2, hROW2⟩ : ∃ ROW2 : Array Value, ROW2 = (ROW.toList.take (j * 2) ++ flatP [r] ++ ROW.toList.drop (j * 2 + 2)).toArray := ⟨_, rfl⟩
  have hR2s : ROW2.size = G * 2 := by
    rw [hROW2, List.size_toArray, List.length_append, List.length_append, List.length_take, List.length_drop, flatP_len, Array.length_toList, hRs, List.length_singleton]
    omega
  have hR2t : ROW2.toList.take ((j + 1) * 2) = flatP (L.take j) ++ flatP [r] := by
    have e : (flatP (L.take j) ++ flatP [r]).length = (j + 1) * 2 := by rw [List.length_append, flatP_len, flatP_len, List.length_take, List.length_singleton]; omega
    rw [hROW2, hRt, ← e]
    exact List.take_left
  obtain ⟨ROW3, hROW3⟩ : ∃ ROW3 : Array Value, ROW3 = (ROW2.toList.take ((j + 1) * 2) ++ flatP (L.drop j) ++ ROW2.toList.drop ((j + 1) * 2 + (flatP (L.drop j)).length)).toArray := ⟨_, rfl⟩
  have hlen : (L.take j ++ r :: L.drop j).length = L.length + 1 := by rw [List.length_append, List.length_cons, List.length_take, List.length_drop]; omega
  have hR3 : RowP ROW3 (L.take j ++ r :: L.drop j) := by
    unfold RowP
    have e : flatP (L.take j ++ r :: L.drop j) = flatP (L.take j) ++ flatP [r] ++ flatP (L.drop j) := by
      rw [show L.take j ++ r :: L.drop j = L.take j ++ [r] ++ L.drop j by simp, flatP_app, flatP_app]
    have e2 : (flatP (L.take j) ++ flatP [r] ++ flatP (L.drop j)).length = (L.length + 1) * 2 := by rw [← e, flatP_len, hlen]
    rw [hlen, hROW3, hR2t, e, ← e2]
    exact List.take_left
  have hcpA : ∀ (W : World), W.heap[w.heap.size]? = some (.cells ROW 121 (0, 0)) → W.heap[vb]? = some (.cells (flatP [r]).toArray 121 (0, 0)) → ∀ ty dc,
      (Builtin.copy_ #[114, 114] ty #[.slice (some ⟨w.heap.size, j * 2, none⟩) (L.length + 1 - j) dc, .slice (some ⟨vb, 0, none⟩) 1 1]).run Tryz.prog W = .ok (goInt 1) (W.setRow w.heap.size ROW2) := fun W hr hv ty dc => by
    have h := run_copy_rowK (P := Tryz.prog) W 114 114 ty 121 w.heap.size (j * 2) (L.length + 1 - j) dc ⟨vb, 0, none⟩ 1 1 ROW 121 (flatP [r]) 2 Tryz.underlying114 hin hr (by rw [flatP_len]; simp only [Nat.min_def, List.length_singleton]; split <;> omega) 1 (by simp only [Nat.min_def]; split <;> omega)
      (fun t v ht => by rw [Addr.add_lit, Nat.zero_add, cell_of_row _ _ _ _ _ _ hv]; simpa using ht) (by rw [flatP_len, hRs]; simp only [List.length_singleton]; omega) (hone _)
    rw [show (flatP [r]).length = 2 from rfl, ← hROW2] at h
    exact h
  have hcpB : ∀ (W : World), W.heap[w.heap.size]? = some (.cells ROW2 121 (0, 0)) → W.heap[g]? = some (.cells (flatP L).toArray 121 (0, 0)) → ∀ ty dc sc,
      (Builtin.copy_ #[114, 114] ty #[.slice (some ⟨w.heap.size, (j + 1) * 2, none⟩) (L.length - j) dc, .slice (some ⟨g, j * 2, none⟩) (L.length - j) sc]).run Tryz.prog W = .ok (goInt (L.length - j : Nat)) (W.setRow w.heap.size ROW3) := fun W hr hv ty dc sc => by
    have hm : Nat.min (L.length - j) (L.length - j) = L.length - j := by simp only [Nat.min_def]; split <;> omega
    have h := run_copy_rowK (P := Tryz.prog) W 114 114 ty 121 w.heap.size ((j + 1) * 2) (L.length - j) dc ⟨g, j * 2, none⟩ (L.length - j) sc ROW2 121 (flatP (L.drop j)) 2 Tryz.underlying114 hin hr (by rw [flatP_len, List.length_drop, hm]) (L.length - j) hm
      (fun t v ht => by
        rw [Addr.add_lit, cell_of_row _ _ _ _ _ _ hv]
        rw [flatP_drop _ _ (by omega), List.getElem?_drop] at ht
        simpa using ht) (by rw [flatP_len, hR2s, List.length_drop]; omega) (hone _)
    rw [← hROW3] at h
    exact h
  have hA1 : (w.alloc (.cells ROW 121)).drew.heap[w.heap.size]? = some (.cells ROW 121 (0, 0)) := heap_alloc_new w _
  have hB1 : (w.alloc (.cells ROW 121)).drew.heap[vb]? = some (.cells (flatP [r]).toArray 121 (0, 0)) := (heap_alloc_old w _ hvw).trans hv
  have hBB : ∀ rr, (((w.alloc (.cells ROW 121)).drew).setRow w.heap.size rr).heap[g]? = some (.cells (flatP L).toArray 121 (0, 0)) := fun rr => (setRow_other _ _ _ _ (by omega)).trans ((heap_alloc_old w _ hgw).trans hg)
  have hBel : Hid (Below w.heap.size w ((((w.alloc (.cells ROW 121)).drew).setRow w.heap.size ROW2).drew.setRow w.heap.size ROW3)) := Lib.hid (below_setRow (Below.on (below_setRow (Below.on (show Below w.heap.size w (w.alloc (.cells ROW 121)) by go_grown) (below_drew _)) (Nat.le_refl _) ROW2) (below_drew _)) (Nat.le_refl _) ROW3)
  have hcp1 := fun ty dc => hcpA _ hA1 hB1 ty dc
  have hcp2 : ∀ ty dc, _ := fun ty dc => hcpB (((w.alloc (.cells ROW 121)).drew.setRow w.heap.size ROW2).drew) (setRow_heap _ _ _ _ _ _ hA1) (hBB _) ty dc (L.length - j)
  have hc1 := Lib.hid hR3
  have hc2 := Lib.hid (And.intro hlen (show (L.take j ++ r :: L.drop j).length ≤ G by rw [hlen]; exact hGn))
  have HG0 := Lib.hid hg
  clear hkk hik hold hROW hG hz0 hzb hcs hRs hRt hone hROW2 hR2s hR2t hROW3 hlen hR3 hzs hcpA hcpB hg hv
  have mixed : Tryz.prog.follows Departure.mixedOrders = true := by kernel_rfl
  have hw1 : IntKind.i64.wrap ((j : Int) + 1) = (j : Int) + 1 := IntWalk.i64_in _ (by omega)
  have hb1 : (0 : Int) ≤ (j : Int) + 1 := by omega
  have hb2 : (j : Int) + 1 ≤ (L.length : Int) + 1 := by omega
  have htn : ((j : Int) + 1).toNat = j + 1 := by omega
  have hGi : ¬ (G = j) := by omega
  have hGim : ¬ (G = j + 1) := by omega
  have hci : ¬ (L.length = j) := by omega
  have hbn : (j : Int) ≤ (L.length : Int) := by omega
  go_enter Tryz.func123, Tryz.ntmps123
  go_wp2_with (at_builtin; refine Lib.wpList_append_run _ rfl _ _ _ _ rfl _ _ rfl rfl _ _ (hrz _) ?_)
  go_region_law_o (fail)
  all_goals
    go_wp2
    go_returns
    exact ⟨w.heap.size, G, ROW3, by rw [hc2.out.1]; rfl, Nat.le_refl _, setRow_heap _ _ _ _ _ _ (setRow_heap _ _ _ _ _ _ hA1), hc1.out, hc2.out.2, hBel.out⟩
set_option maxHeartbeats 8000000 in
theorem insert_end {w : World} {g vb : Nat} {L : List Pr} (r : Pr) (hL0 : 0 < L.length) (hL : L.length ≤ 4096) (hg : w.heap[g]? = some (rowO L)) (hv : w.heap[vb]? = some (rowO [r])) :
    Calls Tryz.prog 123 #[.slice (some ⟨g, 0, none⟩) L.length L.length, .int .i64 L.length, .slice (some ⟨vb, 0, none⟩) 1 1] w (InsPost w (L ++ [r])) := by
  obtain ⟨i0, hi0, hz0, hzs, hzb⟩ := info_parts info_pair
  have hgw := (Array.getElem?_eq_some_iff.1 hg).1
  have hvw := (Array.getElem?_eq_some_iff.1 hv).1
  unfold rowO at hg hv
  have hold : (Builtin.firstCells i0.size L.length (.slice (some ⟨g, 0, none⟩) L.length L.length)).run Tryz.prog w.drew = .ok (flatP L).toArray w.drew := by
    rw [hzs]
    exact run_firstCells_some w.drew 2 L.length ⟨g, 0, none⟩ L.length L.length (flatP L) (flatP_len L) (fun t v h => by
      rw [Addr.add_lit, Nat.zero_add, cell_of_row (w := w.drew) _ _ _ _ _ hg]
      simpa using h)
  have hsrc : Src Tryz.prog i0.size 114 (.slice (some ⟨vb, 0, none⟩) 1 1) 1 (flatP [r]) w := by
    rw [hzs]
    exact Src.ofSlice w Tryz.underlying114 ⟨vb, 0, none⟩ 1 1 (flatP [r]) rfl (fun t v h => by
      rw [Addr.add_lit, Nat.zero_add, cell_of_row _ _ _ _ _ _ hv]
      simpa using h) (flatP_one _)
  obtain ⟨G, hG⟩ : ∃ G, G = grownCap w (L.length + 1) L.length 121 := ⟨_, rfl⟩
  obtain ⟨ROW, hROW⟩ : ∃ ROW : Array Value, ROW = (flatP L ++ flatP [r]).toArray ++ Builtin.zeroCells (Value.agg #[.string ⟨#[]⟩, .string ⟨#[]⟩]).cells (G - (L.length + 1)) := ⟨_, rfl⟩
  have hrz : ∀ ty, (Builtin.append_ #[114, 114] ty #[.slice (some ⟨g, 0, none⟩) L.length L.length, .slice (some ⟨vb, 0, none⟩) 1 1]).run Tryz.prog w = .ok (.slice (some ⟨w.heap.size, 0, none⟩) (L.length + 1) G) (w.drew.alloc (.cells ROW 121)) := fun ty => by
    have h := run_append_grow_src w 114 114 ty 121 i0 _ Tryz.underlying114 hi0 hz0 (some ⟨g, 0, none⟩) L.length L.length (flatP L) hold _ 1 (flatP [r]) hsrc (by omega) (by omega) (by rw [hzb]; exact growslice_fits (by omega) (by omega))
    rw [hROW, hG]
    exact h
  have hlen : (L ++ [r]).length = L.length + 1 := by simp
  have hR : RowP ROW (L ++ [r]) := by
    unfold RowP
    have e : (flatP L ++ flatP [r]).length = (L ++ [r]).length * 2 := by rw [← flatP_app, flatP_len]
    rw [hROW, Array.toList_append, flatP_app, ← e]
    exact List.take_left
  have hBel : Hid (Below w.heap.size w (w.drew.alloc (.cells ROW 121))) := Lib.hid ⟨rfl, rfl, rfl, by simp, fun k hk => heap_alloc_old w.drew _ hk⟩
  have hgr : (w.drew.alloc (.cells ROW 121)).heap[w.heap.size]? = some (.cells ROW 121 (0, 0)) := heap_alloc_new w.drew _
  have hge : (L ++ [r]).length ≤ G := by rw [hlen, hG]; exact grownCap_ge w _ _ _
  have hc1 := Lib.hid (And.intro hR (And.intro hlen (And.intro hgr hge)))
  clear hge
  clear hold hROW hG hz0 hzb hsrc hlen hR hzs hg hv hgr
  go_enter Tryz.func123, Tryz.ntmps123
  go_wp2_with (at_builtin; refine Lib.wpList_append_run _ rfl _ _ _ _ rfl _ _ rfl rfl _ _ (hrz _) ?_)
  all_goals
    go_returns
    exact ⟨w.heap.size, G, ROW, by rw [hc1.out.2.1]; rfl, Nat.le_refl _, hc1.out.2.2.1, hc1.out.1, hc1.out.2.2.2, hBel.out⟩
theorem insert_any {w : World} {g vb : Nat} {L : List Pr} (r : Pr) (j : Nat) (hj : j ≤ L.length) (h0 : 0 < L.length) (hL : L.length ≤ 4096) (hg : w.heap[g]? = some (rowO L)) (hv : w.heap[vb]? = some (rowO [r])) :
    Calls Tryz.prog 123 #[.slice (some ⟨g, 0, none⟩) L.length L.length, .int .i64 j, .slice (some ⟨vb, 0, none⟩) 1 1] w (InsPost w (L.take j ++ r :: L.drop j)) := by
  rcases Nat.lt_or_eq_of_le hj with h | rfl
  · exact insert_mid r j h hL hg hv
  · rw [List.take_length, List.drop_length]
    exact insert_end r h0 hL hg hv
end Go.Proofs.YtcjfnfdinhbdlaaGreatDoor
namespace Go.Proofs.YtcjfnfdinhbdlaaGreatDoor
set_option maxRecDepth 100000
open Go.ChangeShapes Go.WideShapes Go.ChangeAt Go.RowKit Go.PlainAid Go.Shelf
open Go.Sort (grow)
theorem strCells_nums (s : ByteArray) : Lib.strCells s = (numsS s).map (Value.int .u8) := by
  unfold Lib.strCells numsS
  rw [List.map_map]
  rfl
theorem take_snoc {α : Type} {L : List α} {k : Nat} {p : α} (h : L[k]? = some p) : L.take (k + 1) = L.take k ++ [p] := by
  rw [List.take_add_one, h]
  rfl
theorem pkS_take (L : List Pr) (k : Nat) : pkS (L.take k) ≤ pkS L := by
  conv => rhs; rw [← List.take_append_drop k L]
  unfold pkS
  rw [List.map_append, List.sum_append]
  omega
theorem info_u8 : (Tryz.prog.info? 5).map (fun i => (i.zero, i.size, i.bytes)) = some (some (.int .u8 0), 1, 1) := by kernel_rfl
set_option maxHeartbeats 4000000 in
theorem pack_any {w : World} {b o : Nat} {x : NdM} (h : NdIs w b o x) (hs : pkS x.L ≤ 65536) :
    Calls Tryz.prog 174 #[.pointer (some ⟨b, o, none⟩)] w fun e w' => e = .returned (.string (packP x.level x.L)) ∧ Below w.heap.size w w' := by
  have c1 := h.level
  have c4 := h.list
  have hsm := h.small
  have H := Lib.hid h
  clear h
  have hb0 : Below w.heap.size w (w.alloc (.cells #[.int .u8 (x.level % 256), .int .u8 ((x.L.length : Int) % 256)] 5)) := by go_grown
  have HB := Lib.hid hb0
  have e4 := (H.out.on hb0).list
  have HR0 : Hid ((w.alloc (.cells #[.int .u8 (x.level % 256), .int .u8 ((x.L.length : Int) % 256)] 5)).drew.ownsRow w.heap.size 5 1 (.slice (some ⟨w.heap.size, 0, none⟩) 2 2) (2 + pkS (x.L.take 0)) (([x.level % 256, (x.L.length : Int) % 256] ++ pkN (x.L.take 0)).map (Value.int .u8))) := by
    refine Lib.hid ⟨rfl, .inr ⟨w.heap.size, 2, #[.int .u8 (x.level % 256), .int .u8 ((x.L.length : Int) % 256)], rfl, Nat.le_refl _, heap_alloc_new w _, Nat.le_refl _, by unfold maxLen; omega, rfl, rfl⟩⟩
  have hmem : ∀ (k : Nat) (p : Pr), x.L[k]? = some p → pkS (x.L.take k) + (2 + p.key.size + p.val.size) ≤ pkS x.L ∧ pkS (x.L.take (k + 1)) = pkS (x.L.take k) + (2 + p.key.size + p.val.size) := fun k p hp => by
    have h1 := pkS_take x.L (k + 1)
    have h2 : pkS (x.L.take (k + 1)) = pkS (x.L.take k) + (2 + p.key.size + p.val.size) := by
      rw [take_snoc hp]
      unfold pkS
      rw [List.map_append, List.sum_append]
      simp
    omega
  have HM := Lib.hid hmem
  clear hb0 hmem
  obtain ⟨i0, hi, hz0, hz1, hz2⟩ := info_parts info_u8
  have HINF := Lib.hid (And.intro hi (And.intro hz0 (And.intro hz1 hz2)))
  clear hi hz0 hz1 hz2
  go_enter Tryz.func174, Tryz.ntmps174
  go_wp2
  go_region_law (fail)
  all_goals
    go_wp2
    go_loopw [3, 23] (fun v i wr => ∃ k : Nat, k ≤ x.L.length ∧ i = .int .i64 k ∧ Hid (wr.ownsRow w.heap.size 5 1 v (2 + pkS (x.L.take k)) (([x.level % 256, (x.L.length : Int) % 256] ++ pkN (x.L.take k)).map (Value.int .u8))) ∧ Below w.heap.size w wr) (fun _ i _ => x.L.length - (intOf i).toNat)
    case atStart => exact ⟨0, Nat.zero_le _, rfl, HR0, HB.out.on (below_drew _)⟩
    case round =>
      obtain ⟨k, hk, rfl, HRk, hb⟩ := hrel
      have HBk := Lib.hid hb
      have HN := Lib.hid (H.out.on hb)
      clear hb HB HR0 c1 c4 e4
      by_cases hlt : k < x.L.length
      · obtain ⟨p, hp⟩ : ∃ p, x.L[k]? = some p := ⟨_, List.getElem?_eq_getElem hlt⟩
        obtain ⟨g, o', hsl, hg, d1, d2⟩ := HN.out.rd.at hp
        obtain ⟨m1, m2⟩ := HM.out k p hp
        have HP := Lib.hid hp
        clear hp
        generalize x.sl = sl at *
        subst hsl
        obtain ⟨xs, hxs⟩ : ∃ xs, [x.level % 256, (x.L.length : Int) % 256] ++ pkN (x.L.take k) = xs := ⟨_, rfl⟩
        obtain ⟨m, hm⟩ : ∃ m, 2 + pkS (x.L.take k) = m := ⟨_, rfl⟩
        rw [hxs, hm] at HRk
        have HXS := Lib.hid (And.intro hxs (And.intro hm (And.intro m1 m2)))
        have hmb : m + 2 + p.key.size + p.val.size ≤ 65538 := by omega
        clear hxs hm m1 m2
        have hrw := HRk.out
        have hlt0 := fun k e => (hrw.lt k e)
        have q2 : ((wr.alloc (.cells #[.string p.key, .string p.val] 121)).alloc (.cells #[.int .u8 ((p.key.size : Int) % 256), .int .u8 ((p.val.size : Int) % 256)] 5)).heap[wr.heap.size]? = some (.cells #[.string p.key, .string p.val] 121 (0, 0)) := (heap_alloc_old _ _ (by simp)).trans (heap_alloc_new _ _)
        have q3 : ((wr.alloc (.cells #[.string p.key, .string p.val] 121)).alloc (.cells #[.int .u8 ((p.key.size : Int) % 256), .int .u8 ((p.val.size : Int) % 256)] 5)).heap[wr.heap.size + 1]? = some (.cells #[.int .u8 ((p.key.size : Int) % 256), .int .u8 ((p.val.size : Int) % 256)] 5 (0, 0)) := by
          have := heap_alloc_new (wr.alloc (.cells #[.string p.key, .string p.val] 121)) (.cells #[.int .u8 ((p.key.size : Int) % 256), .int .u8 ((p.val.size : Int) % 256)] 5)
          rwa [World.size_alloc] at this
        have hb2 : Below wr.heap.size wr ((wr.alloc (.cells #[.string p.key, .string p.val] 121)).alloc (.cells #[.int .u8 ((p.key.size : Int) % 256), .int .u8 ((p.val.size : Int) % 256)] 5)) := by go_grown
        have HQ2 := Lib.hid (And.intro q2 (And.intro (HBk.out.on hb2) q3))
        have HL0 := Lib.hid hlt0
        have hw0 : w.heap.size ≤ wr.heap.size := HBk.out.size
        clear hrw hlt0 q2 q3 hb2
        go_wp2_with (first
          | (at_builtin; (refine wpList_append_lies _ rfl (.tmp 27) (.tmp 36) 160 rfl w.heap.size 5 i0 _ 1 1 Tryz.underlying160 HINF.out.1 HINF.out.2.1 HINF.out.2.2.1 HINF.out.2.2.2 rfl (by decide) u3 m _ rfl (World.ownsRow.alloc (World.ownsRow.alloc HRk.out _) _) _ 2 2 [.int .u8 ((p.key.size : Int) % 256), .int .u8 ((p.val.size : Int) % 256)] rfl rfl (World.news_of_block HQ2.out.2.2) (by intro u hu; simp at hu; rcases hu with rfl | rfl <;> rfl) (by omega) (by unfold maxLen; omega) (by omega) (by simp; omega) _ rfl ?_)
             intro g3 cap3 w3 h3 k3 j3 l3
             have hg3 : w.heap.size ≤ g3 ∧ g3 ≠ wr.heap.size := by
               rcases j3 with j3 | j3
               · have := HL0.out _ j3
                 omega
               · rw [World.size_alloc, World.size_alloc] at j3
                 omega
             have HX3 := Lib.hid (And.intro h3 (And.intro (k3.block wr.heap.size (by rw [World.size_alloc, World.size_alloc]; omega) (fun e => by have := HL0.out _ e.symm; omega) |>.trans HQ2.out.1) (And.intro (HQ2.out.2.1.grown k3 (by rw [World.size_alloc, World.size_alloc]; omega) (fun k e => (HL0.out k e).1)) hg3)))
             have z0 : w3.cell? ⟨wr.heap.size, 0, none⟩ = some (.string p.key) := by rw [cell_of_row _ _ _ _ _ _ HX3.out.2.1]; rfl
             clear h3 k3 j3 l3 hg3)
          | (at_builtin; (refine Lib.wpList_append_own_string _ rfl _ _ 160 9 rfl w.heap.size 5 i0 Tryz.underlying160 Tryz.underlying9 HINF.out.1 HINF.out.2.1 HINF.out.2.2.1 HINF.out.2.2.2 (.slice (some ⟨g3, 0, none⟩) (m + 2) cap3) (m + 2) _ rfl HX3.out.1 p.key rfl (by unfold maxLen; omega) (by omega) HX3.out.2.2.1.size ?_)
             intro v4 w4 h4 k4 _
             have z1 : w4.cell? ⟨wr.heap.size, 1, none⟩ = some (.string p.val) := by rw [cell_of_row _ _ _ _ _ _ ((k4.block wr.heap.size ((Array.getElem?_eq_some_iff.1 HX3.out.2.1).1) (fun e => by simp [Value.ownBlock] at e; have := HX3.out.2.2.2.2; omega)).trans HX3.out.2.1)]; rfl
             have HX4 := Lib.hid (And.intro h4 (HX3.out.2.2.1.grown k4 HX3.out.2.2.1.size (fun k e => (HX3.out.1.lt k e).1)))
             clear h4 k4)
          | (at_builtin; (refine Lib.wpList_append_own_string _ rfl _ _ 160 9 rfl w.heap.size 5 i0 Tryz.underlying160 Tryz.underlying9 HINF.out.1 HINF.out.2.1 HINF.out.2.2.1 HINF.out.2.2.2 v4 (m + 2 + p.key.size) _ rfl HX4.out.1 p.val rfl (by unfold maxLen; omega) (by omega) HX4.out.2.size ?_)
             intro v5 w5 h5 k5 _
             have HX5 := Lib.hid (And.intro h5 (HX4.out.2.grown k5 HX4.out.2.size (fun k e => (HX4.out.1.lt k e).1)))
             clear h5 k5))
        go_roundw
        case rel =>
          refine ⟨k + 1, by omega, by go_num, Lib.hid ?_, HX5.out.2⟩
          have h5 := HX5.out.1
          rw [show m + 2 + p.key.size + p.val.size = 2 + pkS (x.L.take (k + 1)) by rw [HXS.out.2.2.2, ← HXS.out.2.1]; omega, strCells_nums, strCells_nums] at h5
          rw [take_snoc HP.out, pkN_snoc, ← List.append_assoc, HXS.out.1]
          rw [take_snoc HP.out] at h5
          unfold onN
          rw [List.map_append, List.map_append, List.map_append, ← List.append_assoc, ← List.append_assoc]
          exact h5
        case measure => simp [intOf]; omega
      · obtain rfl : k = x.L.length := by omega
        have hcv := conv_own (P := Tryz.prog) 160 5 9 Tryz.underlying160 Tryz.underlying5 Tryz.underlying9 _ wr _ _ _ HRk.out
        have HT : Hid (strOfNums ([x.level % 256, (x.L.length : Int) % 256] ++ pkN (x.L.take x.L.length)) = packP x.level x.L) := Lib.hid (by rw [List.take_length]; rfl)
        generalize strOfNums ([x.level % 256, (x.L.length : Int) % 256] ++ pkN (x.L.take x.L.length)) = T at *
        clear hk
        go_wp2
        go_returns
        exact ⟨by rw [HT.out]; rfl, HBk.out⟩
end Go.Proofs.YtcjfnfdinhbdlaaGreatDoor
namespace Go.Proofs.YtcjfnfdinhbdlaaGreatDoor
set_option maxRecDepth 100000
open Go.ChangeShapes Go.WideShapes Go.ChangeAt Go.RowKit Go.PlainAid Go.Shelf
open Go.Sort (grow)
set_option maxHeartbeats 4000000 in
theorem half_any {w : World} {b o : Nat} {x : NdM} (h : NdIs w b o x) (hm : Mod x.L) (h0 : 0 < x.L.length) :
    Calls Tryz.prog 169 #[.pointer (some ⟨b, o, none⟩)] w fun e w' => e = .returned (.int .i64 (halfP x.level x.L : Nat)) ∧ Below w.heap.size w w' := by
  have hsm := h.small
  have H := Lib.hid h
  have HW := Lib.hid (weight_any h hm)
  have HM := Lib.hid hm
  have hwl := wtP_le x.level hm
  have hwb : wtP x.level x.L ≤ 600000000 := by
    have := Nat.mul_le_mul_right 131074 hsm
    omega
  have HT0 : Hid (halfT x.level x.L 0 = (0, (wtP x.level x.L : Int))) := Lib.hid rfl
  have HTS : Hid (∀ k, halfT x.level x.L (k + 1) = if max ((wtP x.level x.L : Int) - 2 * (wtP x.level (x.L.take k) : Int)) (2 * (wtP x.level (x.L.take k) : Int) - (wtP x.level x.L : Int)) < (halfT x.level x.L k).2 then (k, max ((wtP x.level x.L : Int) - 2 * (wtP x.level (x.L.take k) : Int)) (2 * (wtP x.level (x.L.take k) : Int) - (wtP x.level x.L : Int))) else halfT x.level x.L k) := Lib.hid fun k => rfl
  have HTE : Hid (halfP x.level x.L = (halfT x.level x.L x.L.length).1) := Lib.hid rfl
  obtain ⟨TT, hTT⟩ : ∃ TT : Nat → Nat × Int, halfT x.level x.L = TT := ⟨_, rfl⟩
  rw [hTT] at HT0 HTS HTE
  clear h hm hwl hTT
  generalize halfP x.level x.L = HP at *
  generalize wtP x.level x.L = A at *
  go_enter Tryz.func169, Tryz.ntmps169
  go_wp2_with fail
  refine HW.out.mono ?_
  rintro e w1 ⟨rfl, hb⟩
  have HB := Lib.hid hb
  have c4 := (H.out.on hb).list
  clear hb HW
  go_wp2
  go_loopw [4, 5, 6, 18] (fun c l s i wr => ∃ (k c' : Nat) (z : Int), k ≤ x.L.length ∧ Hid (TT k = (c', z)) ∧ c = .int .i64 c' ∧ l = .int .i64 z ∧ s = .int .i64 (wtP x.level (x.L.take k)) ∧ i = .int .i64 k ∧ Below w.heap.size w wr) (fun _ _ _ i _ => x.L.length - (intOf i).toNat)
  case atStart => exact ⟨0, 0, A, Nat.zero_le _, HT0, rfl, rfl, rfl, rfl, HB.out⟩
  case round =>
    obtain ⟨k, c', z, hk, HC, rfl, rfl, rfl, rfl, hb⟩ := hrel
    have HBk := Lib.hid hb
    have HTK := Lib.hid (HTS.out k)
    have HN := Lib.hid (H.out.on hb)
    clear hb H c4 HB
    by_cases hlt : k < x.L.length
    · obtain ⟨p, hp⟩ : ∃ p, x.L[k]? = some p := ⟨_, List.getElem?_eq_getElem hlt⟩
      obtain ⟨g, o', hsl, hg, d1, d2⟩ := HN.out.rd.at hp
      have HWT := Lib.hid (wtP_take (level := x.level) hp)
      have hw1 := wtP_le x.level (mod_take HM.out k)
      have hpm := HM.out p (List.mem_of_getElem? hp)
      have hw2 := szP_le x.level hpm
      have hlen : (x.L.take k).length ≤ k := List.length_take_le _ _
      clear hp
      have hb1 : Below wr.heap.size wr (wr.alloc (.cells #[.string p.key, .string p.val] 121)) := by go_grown
      have HS := Lib.hid (size_any p (HN.out.on hb1) hpm.1 hpm.2)
      have HB1 := Lib.hid (HBk.out.on hb1)
      clear hb1
      have h1 : wtP x.level (x.L.take k) ≤ 600000000 := by
        have := Nat.mul_le_mul_right 131074 hlen
        omega
      clear hw1 hlen
      generalize wtP x.level (x.L.take k) = W at *
      generalize x.sl = sl at *
      subst hsl
      go_wp2_with fail
      all_goals
        refine HS.out.mono ?_
        rintro e w2 ⟨rfl, hb2⟩
        have HB2 := Lib.hid (HB1.out.on hb2)
        clear hb2
        go_wp2
        go_roundw
        case rel => exact ⟨k + 1, _, _, by omega, (Lib.hid (by rw [HTK.out, HC.out]; first | exact if_pos (by assumption) | exact if_neg (Int.not_lt.2 (by assumption)))), rfl, rfl, by rw [HWT.out]; go_num, by go_num, HB2.out⟩
        case measure => simp [intOf]; omega
    · go_wp2
      go_returns
      refine ⟨?_, HBk.out⟩
      have e : k = x.L.length := by omega
      rw [HTE.out, ← e, HC.out]
      rfl
set_option maxHeartbeats 4000000 in
theorem splits_any {w : World} {b cp : Nat} {ns : List NdM} (hn : ns.length ≤ 256) (H : ∀ i x, ns[i]? = some x → NdIs w b (i * 6) x ∧ Mod x.L) :
    Calls Tryz.prog 70 #[.slice (some ⟨b, 0, none⟩) ns.length cp] w fun e w' => e = .returned (.int .i64 (splN 0 (ns.map fun x => (x.level, x.L)).reverse : Nat)) ∧ Below w.heap.size w w' := by
  go_enter Tryz.func70, Tryz.ntmps70
  go_wp2
  go_loopw [3, 4] (fun mo i wr => ∃ m q : Nat, m ≤ ns.length ∧ i = .int .i64 ((m : Int) - 1) ∧ mo = .int .i64 q ∧ q ≤ 36 ∧ Hid (splN 0 (ns.map fun x => (x.level, x.L)).reverse = (ns.length - m) + splN q ((ns.take m).map fun x => (x.level, x.L)).reverse) ∧ Below w.heap.size w wr) (fun _ i _ => (intOf i + 1).toNat)
  case atStart => exact ⟨ns.length, 0, Nat.le_refl _, rfl, rfl, by omega, Lib.hid (by rw [Nat.sub_self, Nat.zero_add, List.take_length]), Below.refl _ _⟩
  case round =>
    obtain ⟨m, q, hm, rfl, rfl, hq, HSN, hb⟩ := hrel
    have HBk := Lib.hid hb
    by_cases hm0 : m = 0
    · subst hm0
      clear hb
      go_wp2
      go_returns
      refine ⟨?_, HBk.out⟩
      have h0 := HSN.out
      rw [List.take_zero] at h0
      rw [h0]
      show _ = Ending.returned (.int .i64 (((ns.length - 0 + 1 : Nat)) : Int))
      rw [Nat.sub_zero]
      rfl
    · obtain ⟨j, rfl⟩ : ∃ j, m = j + 1 := ⟨m - 1, by omega⟩
      obtain ⟨x, hx⟩ : ∃ x, ns[j]? = some x := ⟨_, List.getElem?_eq_getElem (by omega)⟩
      obtain ⟨hN, hM⟩ := H j x hx
      have HW := Lib.hid (weight_any (hN.on hb) hM)
      have hwl := wtP_le x.level hM
      have hsm := hN.small
      have hwb : wtP x.level x.L ≤ 600000000 := by
        have := Nat.mul_le_mul_right 131074 hsm
        omega
      have HSX : Hid (splN q ((ns.take (j + 1)).map fun x => (x.level, x.L)).reverse = if wtP x.level x.L + q ≤ 254 then 0 else 1 + splN 36 ((ns.take j).map fun x => (x.level, x.L)).reverse) := Lib.hid (by
        rw [take_snoc hx, List.map_append, List.reverse_append]
        rfl)
      have e1 : ((j + 1 : Nat) : Int) - 1 = (j : Int) := by omega
      clear hN hM hwl hsm hb hx
      obtain ⟨A, hA⟩ : ∃ A, wtP x.level x.L = A := ⟨_, rfl⟩
      rw [hA] at HW hwb
      rw [hA] at HSX
      clear hA hm0
      rw [e1]
      by_cases hle : A + q ≤ 254
      · have f1 : decide ((A : Int) + q ≤ 254) = true := decide_eq_true (by omega)
        have HLE : Hid (A + q ≤ 254) := Lib.hid hle
        clear hle
        go_wp2_with fail
        refine HW.out.mono ?_
        rintro e w2 ⟨rfl, hb2⟩
        have HB2 := Lib.hid (HBk.out.on hb2)
        clear hb2
        go_wp2
        go_returns
        refine ⟨?_, HB2.out⟩
        have h1 := HSN.out
        rw [HSX.out, if_pos HLE.out] at h1
        rw [h1, show ((ns.length - (j + 1) + 0 : Nat) : Int) = (ns.length : Int) - 1 - j by omega]
        rfl
      · have f1 : decide ((A : Int) + q ≤ 254) = false := decide_eq_false (by omega)
        have HNL : Hid (¬ A + q ≤ 254) := Lib.hid hle
        clear hle
        go_wp2_with fail
        refine HW.out.mono ?_
        rintro e w2 ⟨rfl, hb2⟩
        have HB2 := Lib.hid (HBk.out.on hb2)
        clear hb2
        go_wp2
        go_roundw
        case rel =>
          refine ⟨j, 36, by omega, rfl, rfl, Nat.le_refl _, Lib.hid ?_, HB2.out⟩
          rw [HSN.out, HSX.out, if_neg HNL.out]
          omega
        case measure => simp [intOf]
end Go.Proofs.YtcjfnfdinhbdlaaGreatDoor
