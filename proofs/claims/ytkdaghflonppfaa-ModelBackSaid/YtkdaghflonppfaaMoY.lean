/- A builder whose text may be longer than what is handed in. -/
import Derived.Test.YtkdaghflonppfaaMoX
import Derived.Lib.AppendStr
namespace Go.Proofs.Ytkdaghflonppfaa
set_option maxRecDepth 100000
open Go.ChangeShapes Go.WideShapes Go.ChangeAt Go.RowKit Go.PlainAid Go.Deep

theorem fits_big {need old : Nat} (h : old < need) (hb : need ≤ 200000000000000) : Builtin.nextslicecap need old * 1 ≤ 281474976710656 := by
  rw [Nat.mul_one]
  unfold Builtin.nextslicecap
  split
  · omega
  · split
    · omega
    · rw [growBy_four]
      repeat' split
      all_goals omega
/-- A text behind a row of bytes of the call's own, up to 200 million million bytes. -/
theorem big_string {w : World} {base : Nat} {i : TypeInfo} (hi : Try.prog.info? 5 = some i) (hz : i.zero = some (.int .u8 0)) (hsize : i.size = 1) (hby : i.bytes = 1)
    (v : Value) (n : Nat) (xs : List Value) (hown : w.ownsRow base 5 1 v n xs) (s : ByteArray) (hl : n + s.size ≤ 200000000000000) (hbase : base ≤ w.heap.size) (ty : TypeId) :
    ∃ v' w', (Builtin.append_ #[52, 9] ty #[v, .string s]).run Try.prog w = .ok v' w' ∧ w'.ownsRow base 5 1 v' (n + s.size) (xs ++ Lib.strCells s) ∧ w.grownBy w' v.ownBlock := by
  by_cases hsm : n + s.size ≤ 140737488355328
  · obtain ⟨v', w', hr, h2, h3, _⟩ := Lib.run_append_own_string (P := Try.prog) w base 52 9 ty 5 i Try.underlying52 Try.underlying9 hi hz hsize hby v n xs hown s (by unfold maxLen; omega) hsm hbase
    exact ⟨v', w', hr, h2, h3⟩
  · obtain ⟨hxl, hrow⟩ := hown
    have hxn : xs.length = n := by rw [hxl, Nat.mul_one]
    have hlen : (xs ++ Lib.strCells s).length = (n + s.size) * 1 := by rw [List.length_append, hxn, Lib.strCells_length, Nat.mul_one]
    rcases hrow with ⟨rfl, rfl⟩ | ⟨g, cap, cur, rfl, hbg, hg, hnc, hcm, hcs, htake⟩
    · obtain rfl : xs = [] := List.length_eq_zero_iff.1 hxn
      have hr := run_append_nil_string (P := Try.prog) w 52 9 ty 5 i (.int .u8 0) Try.underlying52 Try.underlying9 hi hz s (by omega) (by omega) (by rw [hby]; omega)
      have hc1 := grownCap_ge w s.size 0 5
      have hc2 := grownCap_le_maxLen w s.size 0 5 (by unfold maxLen; omega)
      have ec : (s.data.map fun b => Value.int .u8 b.toNat) = (Lib.strCells s).toArray := by
        apply Array.ext'
        simp [Lib.strCells]
      rw [ec] at hr
      refine ⟨_, _, hr, ⟨by rw [hlen], .inr ⟨w.heap.size, _, _, by rw [Nat.zero_add], hbase, heap_alloc_new w.drew _, by rw [Nat.zero_add]; exact hc1, hc2, ?_, ?_⟩⟩, ⟨rfl, rfl, rfl, by simp, fun k hk _ => heap_alloc_old w.drew _ hk⟩⟩
      · rw [Array.size_append, size_zeroCells, List.size_toArray, Lib.strCells_length]
        show s.size + (grownCap w s.size 0 5 - s.size) * 1 = grownCap w s.size 0 5 * 1
        omega
      · rw [Array.toList_append, Nat.zero_add, List.nil_append, Nat.mul_one, ← Lib.strCells_length s]
        exact List.take_left
    · by_cases hroom : n + s.size ≤ cap
      · have hr := Lib.run_append_room_string (P := Try.prog) w 52 9 ty 5 i Try.underlying52 Try.underlying9 hi hsize g n cap cur hg s hroom (by omega)
        refine ⟨_, _, hr, ⟨hlen, .inr ⟨g, cap, _, rfl, hbg, setRow_heap w g cur _ 5 _ hg, hroom, hcm, ?_, ?_⟩⟩, ⟨rfl, rfl, rfl, by simp, fun k _ hk => setRow_other w g k _ (fun e => hk (by rw [e]; rfl))⟩⟩
        · rw [List.size_toArray, List.length_append, List.length_append, List.length_take, List.length_drop, Array.length_toList, Lib.strCells_length]
          omega
        · have ht : cur.toList.take n = xs := by rw [← htake, Nat.mul_one]
          rw [ht, ← hlen]
          exact List.take_left
      · have hcells : ∀ j u, xs[j]? = some u → w.cell? ((⟨g, 0, none⟩ : Addr).add j) = some u := fun j u hu => by
          rw [Addr.add_lit, Nat.zero_add, cell_of_row _ _ _ _ _ _ hg]
          have hj : j < n := by have := (List.getElem?_eq_some_iff.1 hu).1; omega
          rw [← htake, Nat.mul_one, List.getElem?_take_of_lt hj, Array.getElem?_toList] at hu
          exact hu
        have hr := Lib.run_append_grow_string (P := Try.prog) w 52 9 ty 5 i (.int .u8 0) Try.underlying52 Try.underlying9 hi hz ⟨g, 0, none⟩ n cap xs (by rw [hsize, hxn, Nat.mul_one]) hcells s (by omega) (by omega) (by rw [hby]; exact fits_big (by omega) hl)
        have hc1 := grownCap_ge w (n + s.size) cap 5
        have hc2 := grownCap_le_maxLen w (n + s.size) cap 5 (by unfold maxLen; omega)
        refine ⟨_, _, hr, ⟨hlen, .inr ⟨w.heap.size, _, _, rfl, hbase, heap_alloc_new w.drew _, hc1, hc2, ?_, ?_⟩⟩, ⟨rfl, rfl, rfl, by simp, fun k hk _ => heap_alloc_old w.drew _ hk⟩⟩
        · rw [Array.size_append, Array.size_append, size_zeroCells, List.size_toArray, List.size_toArray, hxn, Lib.strCells_length]
          show n + s.size + (grownCap w (n + s.size) cap 5 - (n + s.size)) * 1 = grownCap w (n + s.size) cap 5 * 1
          omega
        · rw [Array.toList_append, Array.toList_append, ← hlen]
          exact List.take_left
theorem step_big {ops : Array Oper} {rest : List Oper} {o : Oper} {a : Act} {w : World} {Q : Exit → Act → World → Prop} {R : Value → World → Prop} (hgd : o.guard = none) (sl x : Operand)
    (ho : o.op = .call { callee := .builtin .append, args := #[sl, x], argTypes := #[52, 9] }) (v u : Value) (hs : a.eval sl = v) (hx : a.eval x = u)
    (hr : ∃ v' w', (Builtin.append_ #[52, 9] o.type #[v, u]).run Try.prog w = .ok v' w' ∧ R v' w') (h : ∀ v' w', R v' w' → wpList Try.prog ops Q rest (a.put o.dst v') w') : wpList Try.prog ops Q (o :: rest) a w := by
  refine wpList_plain hgd fun K hK => ?_
  obtain ⟨v', w', hrun, hR⟩ := hr
  unfold Oper.wp execOp
  simp only [ho, resolve, invoke, builtin, Sem.run_bind, Sem.run_pure, Result.andThen_ok, List.map_toArray, List.map_cons, List.map_nil, hs, hx, hrun]
  exact hK _ _ (h v' w' hR)
set_option maxHeartbeats 2000000 in
/-- WriteString. -/
theorem bwrite_big (B b : Nat) (bs : List Value) (s : ByteArray) (w : World) (h : Lib.IsBuilder 54 5 B b bs w) (hlen : bs.length + s.size ≤ 200000000000000) (hBw : B ≤ w.heap.size) :
    Calls Try.prog 34 #[.pointer (some ⟨b, 0, none⟩), .string s] w fun e w' => e = .returned (.tuple #[.int .i64 s.size, .nilIface]) ∧ Lib.BuilderAt 54 5 B b (.pointer (some ⟨b, 0, none⟩)) (bs ++ Lib.strCells s) w' ∧ Below B w w' := by
  obtain ⟨i0, hi, hz0, hz1, hz2⟩ := info_parts infoByte
  go_enter Try.func34, Try.ntmps34
  go_wp2_with (go_at_call 46; refine (bcheck_any B b bs _ h).mono ?_)
  rintro e w1 ⟨rfl, h1, hb1⟩
  obtain ⟨hB, v, hbk, hown, hne⟩ := h1
  have c0 : w1.cell? ⟨b, 0, none⟩ = some (.pointer (some ⟨b, 0, none⟩)) := by rw [Lib.cell_of_heap hbk]; rfl
  have c1 : w1.cell? ⟨b, 1, none⟩ = some v := by rw [Lib.cell_of_heap hbk]; rfl
  go_wp2_with (at_builtin; refine step_big (R := fun v' w' => w'.ownsRow B 5 1 v' (bs.length + s.size) (bs ++ Lib.strCells s) ∧ w1.grownBy w' v.ownBlock) rfl _ _ rfl _ _ rfl rfl (big_string hi hz0 hz1 hz2 _ _ _ hown s hlen (by have := hb1.size; omega) _) ?_)
  intro v' w2 hown' hgrow
  have hb2 : w2.heap[b]? = some (.cells #[.pointer (some ⟨b, 0, none⟩), v] 54 (0, 0)) := by
    rw [hgrow.block b (heap_ltS hbk) (fun e => hne e.symm)]
    exact hbk
  have d0 : w2.cell? ⟨b, 0, none⟩ = some (.pointer (some ⟨b, 0, none⟩)) := by rw [Lib.cell_of_heap hb2]; rfl
  have d1 : w2.cell? ⟨b, 1, none⟩ = some v := by rw [Lib.cell_of_heap hb2]; rfl
  have f1 : w2.frozen? ⟨b, 1, none⟩ = false := Lib.frozen_of_heap hb2 1
  obtain ⟨ao, n', cap, rfl⟩ : ∃ ao n' cap, v' = .slice ao n' cap := by
    rcases hown'.2 with ⟨hv, _⟩ | ⟨g, cap, cur, hv, _⟩
    · exact ⟨_, _, _, hv⟩
    · exact ⟨_, _, _, hv⟩
  go_wp2
  go_ret2
  refine ⟨rfl, ?_, ?_⟩
  · exact Lib.BuilderAt.put (T := 54) (e := 5) hB hb2 (bs' := bs ++ Lib.strCells s) (by simpa [Lib.strCells_length] using hown') (by decide)
  · exact (hb1.grown hgrow (by have := hb1.size; omega) (fun k hk => (hown.lt k hk).1)).setCell (p := ⟨b, 1, none⟩) hB _
end Go.Proofs.Ytkdaghflonppfaa
