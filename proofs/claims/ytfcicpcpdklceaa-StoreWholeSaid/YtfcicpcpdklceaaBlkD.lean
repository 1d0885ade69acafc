/- Contracts of package block: Flush, Limit. -/
import Derived.Test.YtfcicpcpdklceaaBlkC
namespace Go.Proofs.Ytfcicpcpdklceaa
set_option maxRecDepth 100000
open Go.ChangeShapes Go.WideShapes Go.ChangeAt Go.RowKit Go.PlainAid
attribute [local go_sem ↓ high] loadS_write loadS_block storeS_write storeS_block buildS_write

theorem storeS_new (w : World) (i : Int) (s : ByteArray) : (storeS 77 (.pointer (some ⟨w.heap.size, 0, none⟩)) (.agg (writeCells i s))).run Try.prog (w.alloc (.cells emptyWrite 77)) = .ok () (w.alloc (.cells (writeCells i s) 77)) := by
  have h0 : emptyWrite.size = (writeCells i s).size := by rw [writeCells_size]; simp [emptyWrite]
  have hr := run_storeVar_row (P := Try.prog) (w.alloc (.cells emptyWrite 77)) w.heap.size 77 77 emptyWrite (writeCells i s) (heap_alloc_new w _) (by rw [size_write, writeCells_size]) h0
    (Array.all_eq_true_iff_forall_mem.2 fun v hv => writeCells_one i s v (by simpa using hv))
  rw [setRow_alloc] at hr
  show (Instr.storeAt 77 (.pointer (some ⟨w.heap.size, 0, none⟩)) (.agg (writeCells i s))).run Try.prog _ = _
  simp only [Instr.storeAt, Instr.sureAddr, Sem.run_bind, Sem.run_pure, Result.andThen_ok, hr]
theorem loadS_range {w : World} {g o : Nat} {i : Int} {s : ByteArray} (h : w.rangeAt g o (writeCells i s).toList) : (loadS 77 (.pointer (some ⟨g, o, none⟩))).run Try.prog w = .ok (.agg (writeCells i s)) w :=
  loadMany_range (writeCells i s).toList _ h Try.underlying77 rfl (by rw [size_write, Array.length_toList, writeCells_size])
theorem loadS_text {w : World} {g o : Nat} {s : ByteArray} (h : w.rangeAt g o (textCells 256 s)) : (loadS 75 (.pointer (some ⟨g, o, none⟩))).run Try.prog w = .ok (.agg (textCells 256 s).toArray) w :=
  loadMany_range _ _ h Try.underlying75 rfl (by rw [size_block, length_textCells])
theorem storeS_text {w : World} {g o : Nat} {s : ByteArray} (h : w.there g o 256) : (storeS 75 (.pointer (some ⟨g, o, none⟩)) (.agg (textCells 256 s).toArray)).run Try.prog w = .ok () (w.setCells g o (textCells 256 s)) :=
  storeMany_range _ (by rw [length_textCells]; exact h) (by rw [size_block, length_textCells]) (textCells_one _ _)
/-- The data of a write that lies whole in a block. -/
theorem range_data {w : World} {g : Nat} {i : Int} {s : ByteArray} {t : TypeId} {fr : Nat × Nat} (h : w.heap[g]? = some (.cells (writeCells i s) t fr)) : w.rangeAt g 1 (textCells 256 s) := fun j v hv => by
  rw [cell_of_row _ _ _ _ _ _ h]
  have e : (writeCells i s)[1 + j]? = (textCells 256 s)[j]? := by
    rw [Nat.add_comm]
    simp [writeCells]
  rw [e, hv]

def flushE (d : D) : Int := if readyE d = 0 then spendE d else readyE d
def D.flush (d : D) : D := if readyE d = 0 then (if spendE d = 0 then d.spent.flushed else d.spent) else d
theorem flushed_moves {w w1 wr : World} {F : Foot} {d : D} (hd1 : Dk w1 F d.spent) (hk1 : Keeps (fun k => k = F.p) w w1) (hkr : Keeps (fun j => j = F.S) w1 wr) (hr : Rows 75 wr F.S d.spent.n d.spent.last) :
    Moves F d.spent.flushed w (wr.setCell ⟨F.p, 2, none⟩ (.slice none 0 0)) := by
  refine ⟨_, DiskAt.flush hd1 hkr hr, rfl, fun k hk => .inl ?_, ?_⟩
  · rcases hk with hk | hk | hk | hk
    · exact .inl hk
    · exact .inr (.inl hk)
    · exact .inr (.inr (.inl hk))
    · cases hk
  · have a : Keeps F.own w w1 := hk1.mono fun i hi => .inl (.inl hi)
    have b : Keeps F.own w1 wr := hkr.mono fun i hi => .inl (.inr (.inl hi))
    exact (a.on b).setCell (.inl (.inl rfl)) _
set_option maxHeartbeats 400000 in
theorem flush_any (w : World) (F : Foot) (d : D) (h : Dk w F d) (hl : d.late.length < 4294967296) :
    Calls Try.prog 41 #[.pointer (some ⟨F.p, 0, none⟩)] w fun e w' => e = .returned (.int .i64 (flushE d)) ∧ Moves F d.flush w w' := by
  have hE : flushE d = if readyE d = 0 then spendE d else readyE d := rfl
  have hD : d.flush = if readyE d = 0 then (if spendE d = 0 then d.spent.flushed else d.spent) else d := rfl
  have HE := Lib.hid hE
  have HD := Lib.hid hD
  clear hE hD
  have hcases : readyE d = 11 ∨ readyE d = 0 := by unfold readyE; cases d.dark <;> simp
  rcases hcases with a | a
  · have hr := Lib.hid a
    clear a
    go_enter Try.func41, Try.ntmps41
    go_wp2_with fail
    refine (ready_any _ F d h).mono ?_
    rintro e _ ⟨rfl, rfl⟩
    rw [hr.out]
    go_wp2
    go_returns
    exact ⟨ret_i (by rw [HE.out, hr.out, if_neg (by decide)]), by rw [HD.out, hr.out, if_neg (by decide)]; exact WritePost_no h⟩
  · have hr := Lib.hid a
    clear a
    have hsp : spendE d = 11 ∨ spendE d = 0 := by unfold spendE; split <;> simp
    rcases hsp with a | a
    · have hs := Lib.hid a
      clear a
      go_enter Try.func41, Try.ntmps41
      go_wp2_with fail
      refine (ready_any _ F d h).mono ?_
      rintro e _ ⟨rfl, rfl⟩
      rw [hr.out]
      go_wp2_with fail
      refine (spend_any _ F d h).mono ?_
      rintro e w1 ⟨rfl, hd1, hk1⟩
      rw [hs.out]
      go_wp2
      go_returns
      exact ⟨ret_i (by rw [HE.out, hr.out, if_pos rfl, hs.out]), by
        rw [HD.out, hr.out, if_pos rfl, if_neg (by rw [hs.out]; decide)]
        exact ⟨F, hd1, rfl, fun _ hk => .inl hk, hk1.mono fun i hi => .inl (.inl hi)⟩⟩
    · have hs := Lib.hid a
      clear a
      have hlen : d.spent.late.length < 4294967296 := by rw [(spent_same d).2.2]; exact hl
      go_enter Try.func41, Try.ntmps41
      go_wp2_with fail
      refine (ready_any _ F d h).mono ?_
      rintro e _ ⟨rfl, rfl⟩
      rw [hr.out]
      go_wp2_with fail
      refine (spend_any _ F d h).mono ?_
      rintro e w1 ⟨rfl, hd1, hk1⟩
      rw [hs.out]
      have hzero := zero_write
      have hnew := storeS_new
      obtain ⟨c0, c1, c2, c3, c4⟩ := DiskAt.cells hd1
      rcases hd1.lates with ⟨hv, hnil⟩ | ⟨g, cap, hv, hB, hgl, hown, hrows⟩
      · rw [hv] at c2
        have HN := Lib.hid hnil
        have f2 := DiskAt.thaw hd1 2
        clear hv hnil
        go_wp2
        go_rounds 1
        go_returns
        refine ⟨?_, ?_⟩
        · rw [HE.out, hr.out, if_pos rfl, hs.out]
          rfl
        · rw [HD.out, hr.out, if_pos rfl, hs.out, if_pos rfl]
          refine flushed_moves hd1 hk1 (Keeps.refl _ _) ?_
          refine hd1.safe.congr fun k _ => ?_
          unfold D.last
          rw [HN.out]
          rfl
      · rw [hv] at c2
        have HV := Lib.hid hv
        have HO := Lib.hid hown
        have HR := Lib.hid hrows
        have hSB := hd1.SB
        clear hv hown hrows
        go_wp2
        go_loopw [22] (fun i wr => ∃ k : Nat, k ≤ d.spent.late.length ∧ i = .int .i64 k ∧ Keeps (fun j => j = F.S) w1 wr ∧ Rows 75 wr F.S d.spent.n (done d.spent.safe (d.spent.late.take k))) (fun i _ => d.spent.late.length - (intOf i).toNat)
        case atStart => exact ⟨0, Nat.zero_le _, rfl, Keeps.refl _ _, hd1.safe⟩
        case round =>
          obtain ⟨k, hk, rfl, hkr, hsr⟩ := hrel
          by_cases hlt : k < d.spent.late.length
          · obtain ⟨x, hx⟩ : ∃ x, d.spent.late[k]? = some x := ⟨_, List.getElem?_eq_getElem hlt⟩
            have hxw := hd1.wf.late x (List.mem_of_getElem? hx)
            have hx1 : x.1 < d.spent.n := hxw.1
            have hld := loadS_range (rangeAt_keep (HR.out k x hx) (hkr.block g hgl (by omega)))
            have hW0 : (wr.alloc (.cells (writeCells x.1 x.2) 77)).heap[wr.heap.size]? = some (.cells (writeCells x.1 x.2) 77 (0, 0)) := heap_alloc_new _ _
            have hkW : Keeps (fun j => j = F.S) w1 (wr.alloc (.cells (writeCells x.1 x.2) 77)) := hkr.alloc _
            have hsW : Rows 75 (wr.alloc (.cells (writeCells x.1 x.2) 77)) F.S d.spent.n (done d.spent.safe (d.spent.late.take k)) := hsr.keep (Below.heap_alloc _ _ _ hsr.lt)
            have hcW : (wr.alloc (.cells (writeCells x.1 x.2) 77)).cell? ⟨F.p, 0, none⟩ = some (.slice (some ⟨F.S, 0, none⟩) d.spent.n d.spent.n) :=
              (World.cell?_of_block (a := ⟨F.p, 0, none⟩) (hkW.block F.p (DiskAt.own_lt hd1 (.inl rfl)) hd1.pS)).trans c0
            have H1 := Lib.hid hW0
            have H2 := Lib.hid hsW
            have H3 := Lib.hid hx
            clear hW0 hsW hx hsr
            go_wp2_with fail
            generalize wr.alloc (.cells (writeCells x.1 x.2) 77) = W at *
            have hat : W.cell? ⟨wr.heap.size, 0, none⟩ = some (.int .i64 x.1) := by rw [cell_of_row _ _ _ _ _ _ H1.out]; rfl
            have hdt : (loadS 75 (.pointer (some ⟨wr.heap.size, 1, none⟩))).run Try.prog W.drew = .ok (.agg (textCells 256 x.2).toArray) W.drew := loadS_text (w := W.drew) (range_data H1.out)
            have hst : (storeS 75 (.pointer (some ⟨F.S, x.1 * 256, none⟩)) (.agg (textCells 256 x.2).toArray)).run Try.prog W.drew = .ok () (W.drew.setCells F.S (x.1 * 256) (textCells 256 x.2)) := storeS_text (H2.out.there hx1)
            have hsz : d.spent.late.length ≤ 4294967296 := Nat.le_of_lt hlen
            clear hld
            go_still_tail 9, (by kernel_rfl)
            go_wp2
            go_roundw
            case rel =>
              refine ⟨k + 1, by omega, by go_num, hkW.drew.setCells (.inl rfl) _ _, ?_⟩
              rw [done_take _ _ _ x H3.out]
              exact Rows.set (w := W.drew) H2.out hx1 x.2
            case measure => simp [intOf]; omega
          · have hk2 : k = d.spent.late.length := by omega
            subst hk2
            have hp2 := (World.cell?_of_block (a := ⟨F.p, 2, none⟩) (hkr.block F.p (DiskAt.own_lt hd1 (.inl rfl)) hd1.pS)).trans c2
            have hf2 : wr.frozen? ⟨F.p, 2, none⟩ = false := (World.frozen?_of_block (a := ⟨F.p, 2, none⟩) (hkr.block F.p (DiskAt.own_lt hd1 (.inl rfl)) hd1.pS)).trans (DiskAt.thaw hd1 2)
            have HS := Lib.hid hsr
            clear hsr
            go_wp2
            go_returns
            refine ⟨?_, ?_⟩
            · rw [HE.out, hr.out, if_pos rfl, hs.out]
              rfl
            · rw [HD.out, hr.out, if_pos rfl, hs.out, if_pos rfl]
              refine flushed_moves hd1 hk1 hkr ?_
              have := HS.out
              rw [List.take_length] at this
              exact this
def D.limited (d : D) (n : Int) : D := { d with limit := max n (-1) }
theorem limited_moves {w : World} {F : Foot} {d : D} (h : Dk w F d) (n v : Int) (hv : v = max n (-1)) (h1 : n ≤ 9223372036854775807) : Moves F (d.limited n) w (w.setCell ⟨F.p, 3, none⟩ (.int .i64 v)) := by
  refine ⟨F, ?_, rfl, fun _ hk => .inl hk, (Keeps.refl _ _).setCell (.inl (.inl rfl)) _⟩
  have := h.newHead (w.setCell ⟨F.p, 3, none⟩ (.int .i64 v)) v d.dark (by rw [World.size_setCell]; exact Nat.le_refl _) (by omega) (by omega) (heap_setCell_same _ _ _ _ _ _ h.head) (fun k _ hk => heap_setCell_other _ _ _ _ hk)
  rw [hv] at this ⊢
  exact this
set_option maxHeartbeats 400000 in
theorem limit_any (w : World) (F : Foot) (d : D) (n : Int) (h : Dk w F d) (_h0 : -9223372036854775808 ≤ n) (h1 : n ≤ 9223372036854775807) :
    Calls Try.prog 13 #[.pointer (some ⟨F.p, 0, none⟩), .int .i64 n] w fun e w' => e = .returned (.tuple #[]) ∧ Moves F (d.limited n) w w' := by
  obtain ⟨c0, c1, c2, c3, c4⟩ := DiskAt.cells h
  have f3 := DiskAt.thaw h 3
  rcases Int.lt_or_le n (-1) with a | a
  all_goals
    go_enter Try.func13, Try.ntmps13
    go_wp2_with fail
    refine (made_any _ F d h).mono ?_
    rintro e _ ⟨rfl, rfl⟩
    go_wp2
    all_goals
      go_returns
      exact ⟨rfl, limited_moves h n _ (by omega) h1⟩
set_option maxHeartbeats 400000 in
theorem limit_no (w : World) (v : Value) (n : Int) (h : NoDisk w v) :
    Calls Try.prog 13 #[v, .int .i64 n] w fun e w' => e = .returned (.tuple #[]) ∧ w = w' := by
  go_enter Try.func13, Try.ntmps13
  go_wp2_with fail
  refine (made_no _ v h).mono ?_
  rintro e _ ⟨rfl, rfl⟩
  go_wp2
  go_returns
  exact ⟨rfl, rfl⟩
set_option maxHeartbeats 400000 in
theorem flush_no (w : World) (v : Value) (h : NoDisk w v) :
    Calls Try.prog 41 #[v] w fun e w' => e = .returned (.int .i64 3) ∧ w = w' := by
  go_enter Try.func41, Try.ntmps41
  go_wp2_with fail
  refine (ready_no _ v h).mono ?_
  rintro e _ ⟨rfl, rfl⟩
  go_wp2
  go_returns
  exact ⟨rfl, rfl⟩
set_option maxHeartbeats 400000 in
theorem write_no (w : World) (v : Value) (k : Int) (s : ByteArray) (h : NoDisk w v) :
    Calls Try.prog 38 #[v, .int .i64 k, .string s] w fun e w' => e = .returned (.int .i64 3) ∧ w = w' := by
  go_enter Try.func38, Try.ntmps38
  go_wp2_with fail
  refine (reach_no _ v k h).mono ?_
  rintro e _ ⟨rfl, rfl⟩
  go_wp2
  go_returns
  exact ⟨rfl, rfl⟩
set_option maxHeartbeats 400000 in
theorem crash_no (w : World) (v : Value) (m t c : Int) (h : NoDisk w v) :
    Calls Try.prog 14 #[v, .int .u64 m, .int .i64 t, .int .i64 c] w fun e w' => e = .returned (.tuple #[]) ∧ w = w' := by
  go_enter Try.func14, Try.ntmps14
  go_wp2_with fail
  refine (made_no _ v h).mono ?_
  rintro e _ ⟨rfl, rfl⟩
  go_wp2
  go_returns
  exact ⟨rfl, rfl⟩
end Go.Proofs.Ytfcicpcpdklceaa
