/- Lists of operations of the call's own: one put in (slices.Insert). -/
import Derived.Test.YtpjnmokofdldmaaDoorHtH
import Derived.Lib.AppendZerosOnto
import Derived.Lib.Overlaps
import Derived.Lib.SlBuf
import Derived.Laws.Externs
namespace Go.Proofs.YtpjnmokofdldmaaDoor
set_option maxRecDepth 100000
open Go.ChangeShapes Go.WideShapes Go.ChangeAt Go.RowKit Go.PlainAid Go.Deep Go.Shelf

attribute [local go_sem ↓ high] app_opO
/-- copy over elements of some cells each. -/
theorem run_copy_rowK {P : Program} (w : World) (dT sT ty elem : TypeId) (g o dLen dCap : Nat) (a : Addr) (sLen sCap : Nat) (cur : Array Value) (t : TypeId) (cs : List Value) (k : Nat)
    (hu : P.underlying dT = some (.slice elem)) (hs : (P.info? elem).map (·.size) = some k)
    (hg : w.heap[g]? = some (.cells cur t (0, 0))) (hn : cs.length = Nat.min sLen dLen * k) (m : Nat) (hm : Nat.min sLen dLen = m)
    (hsrc : ∀ j v, cs[j]? = some v → w.cell? (a.add j) = some v) (hfit : o + cs.length ≤ cur.size) (h1 : ∀ v ∈ cs, v.oneCell' = true) :
    (Builtin.copy_ #[dT, sT] ty #[.slice (some ⟨g, o, none⟩) dLen dCap, .slice (some a) sLen sCap]).run P w =
      .ok (goInt m) (w.setRow g (cur.toList.take o ++ cs ++ cur.toList.drop (o + cs.length)).toArray) := by
  have hl := run_loadCells_list (P := P) w a cs hsrc
  have hst := run_storeCells_at P g o t cs 0 cur w hg (by simpa using hfit) h1
  rw [hm] at hn
  cases hq : P.info? elem with
  | none => simp [hq] at hs
  | some i =>
    have hi : i.size = k := by simpa [hq] using hs
    simp [Builtin.copy_, run_underlying hu, Builtin.lenOf, Builtin.firstCells, sizeOf, typeInfo, hq, hi, hm, ← hn, hl, hst]
theorem below_row {B : Nat} {w W : World} (h : Below B w W) (hw : B ≤ w.heap.size) {g : Nat} (hg : B ≤ g) (cs : Array Value) : Below B w (W.setRow g cs) :=
  h.trans (Keeps.below (Keeps.setRow (own := fun j => j = g) (Keeps.refl _ _) (.inl rfl) cs) (fun i e => by rw [show i = g from e]; exact hg) (Nat.le_trans hw h.size))
theorem ins_len {L : List OpV} {j : Nat} (hj : j ≤ L.length) (x : OpV) : (L.take j ++ x :: L.drop j).length = L.length + 1 := by
  rw [List.length_append, List.length_cons, List.length_take, List.length_drop]; omega
theorem ins_flat {L : List OpV} {j : Nat} (x : OpV) : flatO (L.take j ++ x :: L.drop j) = flatO (L.take j) ++ flatO [x] ++ flatO (L.drop j) := by
  rw [show L.take j ++ x :: L.drop j = L.take j ++ [x] ++ L.drop j by simp, flatO_app, flatO_app]
theorem one_flat (o : OpV) : flatO [o] = [Value.int .i64 o.id, Value.int .i64 o.proc, Value.int .i64 o.obj, Value.int .i64 o.kind, Value.int .i64 o.meth, Value.int .i64 o.arg, Value.int .i64 o.sec, Value.bool o.done, Value.int .i64 o.res, Value.int .i64 o.inv, Value.int .i64 o.ret] := rfl
theorem op_src {W : World} {vb : Nat} {o : OpV} (h : OpAt W vb o) : ∀ t v, (flatO [o])[t]? = some v → W.cell? ((⟨vb, 0, none⟩ : Addr).add t) = some v := fun t v ht => by
  rw [Addr.add_lit, Nat.zero_add, cell_of_row _ _ _ _ _ _ h]
  rw [one_flat] at ht
  simpa using ht
theorem info11 : (Tryd.prog.info? 28).map (·.size) = some 11 := by kernel_rfl
theorem min_self (n : Nat) : Nat.min n n = n := by simp only [Nat.min_def]; split <;> omega
theorem size_zero11 (k : Nat) : (Builtin.zeroCells (Value.agg #[Value.int .i64 0, Value.int .i64 0, Value.int .i64 0, Value.int .i64 0, Value.int .i64 0, Value.int .i64 0, Value.int .i64 0, Value.bool false, Value.int .i64 0, Value.int .i64 0, Value.int .i64 0]).cells k).size = k * 11 := by
  simp [Builtin.zeroCells, Value.cells]
/-- Wf of a list with one put in. -/
theorem ins_wf {L : List OpV} {j : Nat} {x : OpV} (h : ∀ o ∈ L, o.Wf) (hx : x.Wf) : ∀ o ∈ L.take j ++ x :: L.drop j, o.Wf := fun o ho => by
  rcases List.mem_append.1 ho with c | c
  · exact h o (List.mem_of_mem_take c)
  · rcases List.mem_cons.1 c with c | c
    · rw [c]; exact hx
    · exact h o (List.mem_of_mem_drop c)
set_option maxHeartbeats 4000000 in
theorem insert_end {n₀ : Nat} {w : World} {v : Value} {L : List OpV} {vb : Nat} {x : OpV} (h : OpsOwn n₀ w v L) (hw : ∀ o ∈ L, o.Wf) (hv : OpAt w vb x) (hx : x.Wf) (hn₀ : n₀ ≤ w.heap.size) (hl : L.length ≤ 1048576) :
    Calls Tryd.prog 39 #[v, .int .i64 L.length, .slice (some ⟨vb, 0, none⟩) 1 1] w fun e w' => ∃ v', e = .returned v' ∧ OpsNew n₀ w' v' (L ++ [x]) ∧ Below n₀ w w' := by
  obtain ⟨v', W', hr, ho, hb⟩ := ops_push h hv hx hn₀ (by omega)
  have HO := Lib.hid (ho.news (fun o ho => by
    rcases List.mem_append.1 ho with c | c
    · exact hw o c
    · rw [List.mem_singleton.1 c]; exact hx))
  have HB := Lib.hid hb
  obtain ⟨ao, ac, rfl, hle⟩ : ∃ ao ac, v = .slice ao L.length ac ∧ L.length ≤ ac := by
    rcases h.2 with ⟨rfl, h0⟩ | ⟨g, cap, cur, rfl, _, _, hl, _⟩
    · exact ⟨none, 0, by rw [h0], by omega⟩
    · exact ⟨_, cap, rfl, hl⟩
  clear ho hb h hv hw hx
  have hle2 : (L.length : Int) ≤ (L.length : Int) := Int.le_refl _
  have hge : (0 : Int) ≤ (L.length : Int) := by omega
  cases ao <;>
  · go_enter Tryd.func39, Tryd.ntmps39
    go_wp2
    all_goals
      go_returns
      exact ⟨_, rfl, HO.out, HB.out⟩
set_option maxHeartbeats 8000000 in
theorem insert_room {n₀ : Nat} {w : World} {g cap vb : Nat} {cur : Array Value} {L : List OpV} {x : OpV} (hng : n₀ ≤ g) (hg : w.heap[g]? = some (.cells cur 28 (0, 0))) (hsz : cur.size = cap * 11) (hrow : RowO cur L)
    (hw : ∀ o ∈ L, o.Wf) (hv : OpAt w vb x) (hx : x.Wf) (hn₀ : n₀ ≤ w.heap.size) (hne : vb ≠ g) (hl : L.length ≤ 1048576) (j : Nat) (hj : j < L.length) (hroom : L.length + 1 ≤ cap) :
    Calls Tryd.prog 39 #[.slice (some ⟨g, 0, none⟩) L.length cap, .int .i64 j, .slice (some ⟨vb, 0, none⟩) 1 1] w fun e w' => ∃ v', e = .returned v' ∧ OpsNew n₀ w' v' (L.take j ++ x :: L.drop j) ∧ Below n₀ w w' := by
  have hg' : w.drew.heap[g]? = some (.cells cur 28 (0, 0)) := hg
  have hdl : (flatO (L.drop j)).length = (L.length - j) * 11 := by rw [flatO_len, List.length_drop]
  have hov : ∀ lb cb, (callFunc 50 #[.slice (some ⟨vb, 0, none⟩) 1 1, .slice (some ⟨g, (j + 1) * 11, none⟩) lb cb]).run Tryd.prog w = .ok (.value (.bool false)) w := fun lb cb => by
    rw [run_callFunc_extern Tryd.func50 (by kernel_rfl) (by kernel_rfl) (by kernel_rfl) (e := Extern.SlicesOverlaps.overlaps #[22, 22] #[4]) (by kernel_rfl),
      Lib.run_overlaps_apart w 22 4 28 Tryd.underlying22 11 Tryd.sizeOf28 ⟨vb, 0, none⟩ ⟨g, (j + 1) * 11, none⟩ 1 1 lb cb hne 28 28 11 cur.size (by simp [World.shape?, show w.heap[vb]? = _ from hv]) (by simp [World.shape?, hg]) (by omega) (frozen_of_row _ _ _ _ _ hv) (frozen_of_row _ _ _ _ _ hv)]
    rfl
  obtain ⟨ROW1, hROW1⟩ : ∃ R : Array Value, R = (cur.toList.take ((j + 1) * 11) ++ flatO (L.drop j) ++ cur.toList.drop ((j + 1) * 11 + (flatO (L.drop j)).length)).toArray := ⟨_, rfl⟩
  have hcp1 : ∀ ty dc sc, (Builtin.copy_ #[22, 22] ty #[.slice (some ⟨g, (j + 1) * 11, none⟩) (L.length - j) dc, .slice (some ⟨g, j * 11, none⟩) (L.length + 1 - j) sc]).run Tryd.prog w.drew = .ok (goInt (L.length - j : Nat)) (w.drew.setRow g ROW1) := fun ty dc sc => by
    have h := run_copy_rowK (P := Tryd.prog) w.drew 22 22 ty 28 g ((j + 1) * 11) (L.length - j) dc ⟨g, j * 11, none⟩ (L.length + 1 - j) sc cur 28 (flatO (L.drop j)) 11 Tryd.underlying22 info11 hg' (by rw [hdl]; simp only [Nat.min_def]; split <;> omega) (L.length - j) (by simp only [Nat.min_def]; split <;> omega)
      (fun t u ht => by
        rw [Addr.add_lit, cell_of_row _ _ _ _ _ _ hg']
        rw [flatO_drop _ _ (by omega), List.getElem?_drop] at ht
        exact hrow.get ht) (by rw [hdl]; omega) (flatO_one _)
    rw [← hROW1] at h
    exact h
  have hR1s : ROW1.size = cap * 11 := by
    rw [hROW1, List.size_toArray, List.length_append, List.length_append, List.length_take, List.length_drop, hdl, Array.length_toList, hsz]
    omega
  have hR1t : ROW1.toList.take (j * 11) = flatO (L.take j) := by
    rw [hROW1, List.append_assoc, List.take_append_of_le_length (by rw [List.length_take, Array.length_toList]; omega), List.take_take, Nat.min_eq_left (by omega)]
    unfold RowO at hrow
    rw [flatO_take, ← hrow, List.take_take, Nat.min_eq_left (by omega)]
  have hR1d : ∀ k u, (flatO (L.drop j))[k]? = some u → ROW1[(j + 1) * 11 + k]? = some u := fun k u hk => by
    have e : (cur.toList.take ((j + 1) * 11)).length = (j + 1) * 11 := by rw [List.length_take, Array.length_toList]; omega
    rw [hROW1, List.getElem?_toArray, List.append_assoc, List.getElem?_append_right (by omega), e, Nat.add_sub_cancel_left, List.getElem?_append_left (List.getElem?_eq_some_iff.1 hk).1]
    exact hk
  obtain ⟨ROW2, hROW2⟩ : ∃ R : Array Value, R = (ROW1.toList.take (j * 11) ++ flatO [x] ++ ROW1.toList.drop (j * 11 + 11)).toArray := ⟨_, rfl⟩
  have hg1 : (w.drew.setRow g ROW1).heap[g]? = some (.cells ROW1 28 (0, 0)) := setRow_heap _ _ _ _ _ _ hg'
  have hv1 : OpAt (w.drew.setRow g ROW1) vb x := (setRow_other _ _ _ _ hne).trans hv
  have hcp2 : ∀ ty dc, (Builtin.copy_ #[22, 22] ty #[.slice (some ⟨g, j * 11, none⟩) (L.length + 1 - j) dc, .slice (some ⟨vb, 0, none⟩) 1 1]).run Tryd.prog (w.drew.setRow g ROW1) = .ok (goInt 1) ((w.drew.setRow g ROW1).setRow g ROW2) := fun ty dc => by
    have h := run_copy_rowK (P := Tryd.prog) (w.drew.setRow g ROW1) 22 22 ty 28 g (j * 11) (L.length + 1 - j) dc ⟨vb, 0, none⟩ 1 1 ROW1 28 (flatO [x]) 11 Tryd.underlying22 info11 hg1 (by rw [one_flat]; simp only [Nat.min_def]; split <;> simp <;> omega) 1 (by simp only [Nat.min_def]; split <;> omega)
      (op_src hv1) (by rw [show (flatO [x]).length = 11 from rfl]; omega) (flatO_one _)
    rw [show (flatO [x]).length = 11 from rfl, ← hROW2] at h
    exact h
  have hlen := ins_len (L := L) (Nat.le_of_lt hj) x
  have R2 : Hid (OpsNew n₀ ((w.drew.setRow g ROW1).setRow g ROW2) (.slice (some ⟨g, 0, none⟩) (L.length + 1) cap) (L.take j ++ x :: L.drop j)) := by
    have hr : RowO ROW2 (L.take j ++ x :: L.drop j) := RowO.of fun k u hk => by
      rw [ins_flat] at hk
      have e1 : (flatO (L.take j)).length = j * 11 := by rw [flatO_len, List.length_take, Nat.min_eq_left (by omega)]
      have e2 : (flatO (L.take j) ++ flatO [x]).length = j * 11 + 11 := by rw [List.length_append, e1]; rfl
      have e3 : (flatO (L.take j) ++ flatO [x]) = ROW2.toList.take (j * 11 + 11) := by
        rw [hROW2, hR1t, ← e2]
        exact List.take_left.symm
      by_cases c : k < j * 11 + 11
      · rw [List.getElem?_append_left (by omega), e3, List.getElem?_take_of_lt c, Array.getElem?_toList] at hk
        exact hk
      · rw [List.getElem?_append_right (by omega), e2] at hk
        have := hR1d _ u hk
        rw [show (j + 1) * 11 + (k - (j * 11 + 11)) = k by omega] at this
        rw [hROW2, hR1t, List.getElem?_toArray, List.getElem?_append_right (by rw [e2]; omega), e2, List.getElem?_drop, show j * 11 + 11 + (k - (j * 11 + 11)) = k by omega, Array.getElem?_toList]
        exact this
    have := RowO.news (cap := cap) hng (show ((w.drew.setRow g ROW1).setRow g ROW2).heap[g]? = some (.cells ROW2 28 (0, 0)) from setRow_heap _ _ _ _ _ _ hg1) hr (ins_wf hw hx)
    rw [hlen] at this
    exact this
  have HB : Hid (Below n₀ w ((w.drew.setRow g ROW1).setRow g ROW2)) := below_row (below_row (⟨rfl, rfl, rfl, Nat.le_refl _, fun _ _ => rfl⟩ : Below n₀ w w.drew) hn₀ hng _) hn₀ hng _
  have mixed : Tryd.prog.follows Departure.mixedOrders = true := by kernel_rfl
  have hw1 : IntKind.i64.wrap ((j : Int) + 1) = (j : Int) + 1 := IntWalk.i64_in _ (by omega)
  have hw2 : IntKind.i64.wrap ((L.length : Int) + 1) = (L.length : Int) + 1 := IntWalk.i64_in _ (by omega)
  have hb1 : (0 : Int) ≤ (j : Int) + 1 := by omega
  have hb0 : (0 : Int) ≤ (L.length : Int) + 1 := by omega
  have hb2 : (j : Int) + 1 ≤ (L.length : Int) + 1 := by omega
  have hb3 : (j : Int) ≤ (L.length : Int) + 1 := by omega
  have hb4 : (L.length : Int) + 1 ≤ (cap : Int) := by omega
  have hb5 : ¬ (cap : Int) < (L.length : Int) + 1 := by omega
  have hb6 : (j : Int) ≤ (L.length : Int) := by omega
  have htn : ((j : Int) + 1).toNat = j + 1 := by omega
  have htl : ((L.length : Int) + 1).toNat = L.length + 1 := by omega
  have hci : ¬ (cap = j) := by omega
  have hcj : ¬ (cap = j + 1) := by omega
  have hjl : ((j : Int) == (L.length : Int)) = false := beq_eq_false_iff_ne.2 (by omega)
  have hjn : ¬ (j = L.length) := by omega
  clear hROW1 hROW2 hR1s hR1t hR1d hg1 hv1 hlen hdl hg hg' hsz hrow hw hv hx
  go_enter Tryd.func39, Tryd.ntmps39
  go_wp2_with (simp only [hov])
  go_region_law_o (fail)
  all_goals
    go_wp2
    go_returns
    exact ⟨_, rfl, R2.out, HB.out⟩
set_option maxHeartbeats 8000000 in
theorem insert_grow {n₀ : Nat} {w : World} {g vb : Nat} {cur : Array Value} {L : List OpV} {x : OpV} (hg : w.heap[g]? = some (.cells cur 28 (0, 0))) (hrow : RowO cur L)
    (hw : ∀ o ∈ L, o.Wf) (hv : OpAt w vb x) (hx : x.Wf) (hn₀ : n₀ ≤ w.heap.size) (hl : L.length ≤ 1048576) (j : Nat) (hj : j < L.length) :
    Calls Tryd.prog 39 #[.slice (some ⟨g, 0, none⟩) L.length L.length, .int .i64 j, .slice (some ⟨vb, 0, none⟩) 1 1] w fun e w' => ∃ v', e = .returned v' ∧ OpsNew n₀ w' v' (L.take j ++ x :: L.drop j) ∧ Below n₀ w w' := by
  obtain ⟨i0, hi0, hz0, hzs, hzb⟩ := info_parts info_op
  have hgw := heap_inO hg
  have hvw : vb < w.heap.size := heap_inO hv
  have hkk : (L.length : Int) + 1 - (j : Int) = ((L.length + 1 - j : Nat) : Int) := by omega
  have hik : j + (L.length + 1 - j) = L.length + 1 := by omega
  have hold : (Builtin.firstCells i0.size j (.slice (some ⟨g, 0, none⟩) j L.length)).run Tryd.prog w.drew = .ok (flatO (L.take j)).toArray w.drew := by
    rw [hzs]
    exact run_firstCells_some w.drew 11 j ⟨g, 0, none⟩ j L.length (flatO (L.take j)) (by rw [flatO_len, List.length_take]; omega) (fun t v h => by
      rw [Addr.add_lit, Nat.zero_add, cell_of_row (w := w.drew) _ _ _ _ _ hg]
      rw [flatO_take, List.getElem?_take] at h
      split at h
      · exact hrow.get h
      · cases h)
  obtain ⟨G, hG⟩ : ∃ G, G = grownCap w (L.length + 1) L.length 28 := ⟨_, rfl⟩
  obtain ⟨ROW, hROW⟩ : ∃ ROW : Array Value, ROW = (flatO (L.take j)).toArray ++ Builtin.zeroCells (Value.agg #[Value.int .i64 0, Value.int .i64 0, Value.int .i64 0, Value.int .i64 0, Value.int .i64 0, Value.int .i64 0, Value.int .i64 0, Value.bool false, Value.int .i64 0, Value.int .i64 0, Value.int .i64 0]).cells (L.length + 1 - j) ++ Builtin.zeroCells (Value.agg #[Value.int .i64 0, Value.int .i64 0, Value.int .i64 0, Value.int .i64 0, Value.int .i64 0, Value.int .i64 0, Value.int .i64 0, Value.bool false, Value.int .i64 0, Value.int .i64 0, Value.int .i64 0]).cells (G - (L.length + 1)) := ⟨_, rfl⟩
  have hrz : ∀ ty, (Builtin.append_ #[22, 3] ty #[.slice (some ⟨g, 0, none⟩) j L.length, .int .i64 ((L.length : Int) + 1 - (j : Int))]).run Tryd.prog w =
      .ok (.slice (some ⟨w.heap.size, 0, none⟩) (L.length + 1) G) (w.drew.alloc (.cells ROW 28)) := fun ty => by
    have h := Lib.run_append_grow_zeros w 22 3 ty 28 i0 _ .i64 .i64 Tryd.underlying22 Tryd.underlying3 hi0 hz0 (some ⟨g, 0, none⟩) j L.length (flatO (L.take j)) hold (L.length + 1 - j) (by omega) (by omega) (by omega) (by omega) (by rw [hzb]; omega) (by rw [hzb, hik]; exact growslice_fits (by omega) (by omega))
    rw [hik] at h
    rw [hkk, hROW, hG]
    exact h
  have hGn : L.length + 1 ≤ G := by rw [hG]; exact grownCap_ge w _ _ _
  have hRs : ROW.size = G * 11 := by
    rw [hROW, Array.size_append, Array.size_append, size_zero11, size_zero11, List.size_toArray, flatO_len, List.length_take]
    omega
  have hRt : ROW.toList.take (j * 11) = flatO (L.take j) := by
    have e : (flatO (L.take j)).length = j * 11 := by rw [flatO_len, List.length_take]; omega
    rw [hROW, Array.toList_append, Array.toList_append, List.append_assoc, ← e]
    exact List.take_left
  obtain ⟨ROW2, hROW2⟩ : ∃ ROW2 : Array Value, ROW2 = (ROW.toList.take (j * 11) ++ flatO [x] ++ ROW.toList.drop (j * 11 + 11)).toArray := ⟨_, rfl⟩
  have hR2s : ROW2.size = G * 11 := by
    rw [hROW2, List.size_toArray, List.length_append, List.length_append, List.length_take, List.length_drop, flatO_len, Array.length_toList, hRs, List.length_singleton]
    omega
  have hR2t : ROW2.toList.take ((j + 1) * 11) = flatO (L.take j) ++ flatO [x] := by
    have e : (flatO (L.take j) ++ flatO [x]).length = (j + 1) * 11 := by rw [List.length_append, flatO_len, flatO_len, List.length_take, List.length_singleton]; omega
    rw [hROW2, hRt, ← e]
    exact List.take_left
  obtain ⟨ROW3, hROW3⟩ : ∃ ROW3 : Array Value, ROW3 = (ROW2.toList.take ((j + 1) * 11) ++ flatO (L.drop j) ++ ROW2.toList.drop ((j + 1) * 11 + (flatO (L.drop j)).length)).toArray := ⟨_, rfl⟩
  have hlen := ins_len (L := L) (Nat.le_of_lt hj) x
  have hR3 : RowO ROW3 (L.take j ++ x :: L.drop j) := by
    unfold RowO
    have e2 : (flatO (L.take j) ++ flatO [x] ++ flatO (L.drop j)).length = (L.length + 1) * 11 := by rw [← ins_flat, flatO_len, hlen]
    rw [hlen, hROW3, hR2t, ins_flat, ← e2]
    exact List.take_left
  have hcpA : ∀ (W : World), W.heap[w.heap.size]? = some (.cells ROW 28 (0, 0)) → OpAt W vb x → ∀ ty dc,
      (Builtin.copy_ #[22, 22] ty #[.slice (some ⟨w.heap.size, j * 11, none⟩) (L.length + 1 - j) dc, .slice (some ⟨vb, 0, none⟩) 1 1]).run Tryd.prog W = .ok (goInt 1) (W.setRow w.heap.size ROW2) := fun W hr hv ty dc => by
    have h := run_copy_rowK (P := Tryd.prog) W 22 22 ty 28 w.heap.size (j * 11) (L.length + 1 - j) dc ⟨vb, 0, none⟩ 1 1 ROW 28 (flatO [x]) 11 Tryd.underlying22 info11 hr (by rw [show (flatO [x]).length = 11 from rfl]; simp only [Nat.min_def]; split <;> omega) 1 (by simp only [Nat.min_def]; split <;> omega)
      (op_src hv) (by rw [show (flatO [x]).length = 11 from rfl]; omega) (flatO_one _)
    rw [show (flatO [x]).length = 11 from rfl, ← hROW2] at h
    exact h
  have hcpB : ∀ (W : World), W.heap[w.heap.size]? = some (.cells ROW2 28 (0, 0)) → W.heap[g]? = some (.cells cur 28 (0, 0)) → ∀ ty dc sc,
      (Builtin.copy_ #[22, 22] ty #[.slice (some ⟨w.heap.size, (j + 1) * 11, none⟩) (L.length - j) dc, .slice (some ⟨g, j * 11, none⟩) (L.length - j) sc]).run Tryd.prog W = .ok (goInt (L.length - j : Nat)) (W.setRow w.heap.size ROW3) := fun W hr hv ty dc sc => by
    have h := run_copy_rowK (P := Tryd.prog) W 22 22 ty 28 w.heap.size ((j + 1) * 11) (L.length - j) dc ⟨g, j * 11, none⟩ (L.length - j) sc ROW2 28 (flatO (L.drop j)) 11 Tryd.underlying22 info11 hr (by rw [flatO_len, List.length_drop, min_self]) (L.length - j) (min_self _)
      (fun t v ht => by
        rw [Addr.add_lit, cell_of_row _ _ _ _ _ _ hv]
        rw [flatO_drop _ _ (by omega), List.getElem?_drop] at ht
        exact hrow.get ht) (by rw [flatO_len, hR2s, List.length_drop]; omega) (flatO_one _)
    rw [← hROW3] at h
    exact h
  have hA1 : (w.alloc (.cells ROW 28)).drew.heap[w.heap.size]? = some (.cells ROW 28 (0, 0)) := heap_alloc_new w _
  have hB1 : OpAt (w.alloc (.cells ROW 28)).drew vb x := (heap_alloc_old w _ hvw).trans hv
  have hBB : ∀ rr, (((w.alloc (.cells ROW 28)).drew).setRow w.heap.size rr).heap[g]? = some (.cells cur 28 (0, 0)) := fun rr => (setRow_other _ _ _ _ (by omega)).trans ((heap_alloc_old w _ hgw).trans hg)
  have e2 : ((((w.alloc (.cells ROW 28)).drew).setRow w.heap.size ROW2).drew.setRow w.heap.size ROW3).heap[w.heap.size]? = some (.cells ROW3 28 (0, 0)) := setRow_heap _ _ _ _ _ _ (show (((w.alloc (.cells ROW 28)).drew).setRow w.heap.size ROW2).drew.heap[w.heap.size]? = some (.cells ROW2 28 (0, 0)) from setRow_heap _ _ _ _ _ _ hA1)
  have R2 : Hid (OpsNew n₀ ((((w.alloc (.cells ROW 28)).drew).setRow w.heap.size ROW2).drew.setRow w.heap.size ROW3) (.slice (some ⟨w.heap.size, 0, none⟩) (L.length + 1) G) (L.take j ++ x :: L.drop j)) := by
    have := RowO.news (cap := G) hn₀ e2 hR3 (ins_wf hw hx)
    rw [hlen] at this
    exact this
  have hB0 : Below n₀ w (w.alloc (.cells ROW 28)).drew := ((Below.refl _ _).alloc hn₀ _).drew
  have HB : Hid (Below n₀ w ((((w.alloc (.cells ROW 28)).drew).setRow w.heap.size ROW2).drew.setRow w.heap.size ROW3)) := Lib.hid (below_row ((below_row hB0 hn₀ hn₀ ROW2).drew) hn₀ hn₀ ROW3)
  have hcp1 := fun ty dc => hcpA _ hA1 hB1 ty dc
  have hcp2 : ∀ ty dc, _ := fun ty dc => hcpB (((w.alloc (.cells ROW 28)).drew.setRow w.heap.size ROW2).drew) (setRow_heap _ _ _ _ _ _ hA1) (hBB _) ty dc (L.length - j)
  have hG63 : G ≤ 9223372036854775807 := by
    have := grownCap_le_maxLen w (L.length + 1) L.length 28 (by unfold maxLen; omega)
    rw [← hG] at this
    unfold maxLen at this
    omega
  clear hkk hik hold hROW hG hz0 hzb hRs hRt hROW2 hR2s hR2t hROW3 hlen hR3 hzs hcpA hcpB hg hv hA1 hB1 hBB e2 hB0 hrow hw hx
  have mixed : Tryd.prog.follows Departure.mixedOrders = true := by kernel_rfl
  have hw1 : IntKind.i64.wrap ((j : Int) + 1) = (j : Int) + 1 := IntWalk.i64_in _ (by omega)
  have hb1 : (0 : Int) ≤ (j : Int) + 1 := by omega
  have hb2 : (j : Int) + 1 ≤ (L.length : Int) + 1 := by omega
  have htn : ((j : Int) + 1).toNat = j + 1 := by omega
  have hGi : ¬ (G = j) := by omega
  have hGim : ¬ (G = j + 1) := by omega
  have hci : ¬ (L.length = j) := by omega
  have hbn : (j : Int) ≤ (L.length : Int) := by omega
  go_enter Tryd.func39, Tryd.ntmps39
  go_wp2_with (at_builtin; refine Lib.wpList_append_run _ rfl _ _ _ _ rfl _ _ rfl rfl _ _ (hrz _) ?_)
  go_region_law_o (fail)
  all_goals
    go_wp2
    go_returns
    exact ⟨_, rfl, R2.out, HB.out⟩
/-- slices.Insert of one operation, which lies in a block beside. -/
theorem insert_any {n₀ : Nat} {w : World} {v : Value} {L : List OpV} {vb : Nat} {x : OpV} (h : OpsOwn n₀ w v L) (hw : ∀ o ∈ L, o.Wf) (hv : OpAt w vb x) (hx : x.Wf) (hn₀ : n₀ ≤ w.heap.size) (hne : ∀ g o n c, v = .slice (some ⟨g, o, none⟩) n c → vb ≠ g) (hl : L.length ≤ 1048576) (j : Nat) (hj : j ≤ L.length) :
    Calls Tryd.prog 39 #[v, .int .i64 j, .slice (some ⟨vb, 0, none⟩) 1 1] w fun e w' => ∃ v', e = .returned v' ∧ OpsNew n₀ w' v' (L.take j ++ x :: L.drop j) ∧ Below n₀ w w' := by
  rcases Nat.lt_or_eq_of_le hj with hlt | rfl
  · obtain ⟨g, cap, cur, rfl, hng, hg, hlc, _, hsz, hrow⟩ := h.row (by omega)
    by_cases c : L.length + 1 ≤ cap
    · exact insert_room hng hg hsz hrow hw hv hx hn₀ (hne _ _ _ _ rfl) hl j hlt c
    · obtain rfl : cap = L.length := by omega
      exact insert_grow hg hrow hw hv hx hn₀ hl j hlt
  · rw [List.take_length, List.drop_length]
    exact insert_end h hw hv hx hn₀ hl
end Go.Proofs.YtpjnmokofdldmaaDoor
