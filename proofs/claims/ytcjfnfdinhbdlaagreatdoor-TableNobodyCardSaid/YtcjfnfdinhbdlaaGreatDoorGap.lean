import Derived.Test.YtcjfnfdinhbdlaaGreatDoorGai
import Derived.Deep.RegionLaw
import Derived.StillTailTactics
namespace Go.Proofs.YtcjfnfdinhbdlaaGreatDoor
set_option maxRecDepth 100000
open Go.ChangeShapes Go.WideShapes Go.ChangeAt Go.RowKit Go.PlainAid
theorem spent_same (d : D) : d.spent.n = d.n ∧ d.spent.safe = d.safe ∧ d.spent.late = d.late := by
  unfold D.spent
  split
  · exact ⟨rfl, rfl, rfl⟩
  · split <;> exact ⟨rfl, rfl, rfl⟩
def writeE (d : D) (k : Int) (s : ByteArray) : Int := if reachE d k = 0 then (if 256 < s.size then 21 else spendE d) else reachE d k
def D.write (d : D) (k : Int) (s : ByteArray) : D :=
  if reachE d k = 0 then (if 256 < s.size then d else if spendE d = 0 then { d.spent with late := d.spent.late ++ [(k.toNat, filled s)] } else d.spent) else d
def Moves (F : Foot) (d' : D) (w w' : World) : Prop := ∃ F', Dk w' F' d' ∧ F'.p = F.p ∧ (∀ k, F'.own k → F.own k ∨ w.heap.size ≤ k) ∧ Keeps F.own w w'
theorem info_write : (Tryz.prog.info? 197).map (fun i => (i.zero, i.size, i.bytes)) = some (some (.agg (#[.int .i64 0] ++ Array.replicate 256 (.int .u8 0))), 257, 264) := by kernel_rfl
theorem loadS_write (v : Value) : Instr.loadAt 197 v = loadS 197 v := rfl
theorem loadS_block (v : Value) : Instr.loadAt 195 v = loadS 195 v := rfl
theorem storeS_write (p v : Value) : Instr.storeAt 197 p v = storeS 197 p v := rfl
theorem storeS_block (p v : Value) : Instr.storeAt 195 p v = storeS 195 p v := rfl
theorem buildS_write (n : Nat) (l : Array (Nat × Value)) : Instr.buildSlice 132 n l = buildS 132 n l := rfl
theorem buildS_one (m : Int) (s : ByteArray) (w : World) : (buildS 132 1 #[(0, .agg (writeCells m s))]).run Tryz.prog w = .ok (.slice (some ⟨w.heap.size, 0, none⟩) 1 1) (w.alloc (.cells (writeCells m s) 197)) := by
  obtain ⟨i, i1, i2, i3, _⟩ := info_parts info_write
  exact run_buildOne (P := Tryz.prog) w 132 197 (writeCells m s) i _ Tryz.underlying132 i1 i2 (by rw [i3, writeCells_size]) (by omega) (by omega)
attribute [local go_sem ↓ high] loadS_write loadS_block storeS_write storeS_block buildS_write
theorem wrote_own {F : Foot} {g n cap H k : Nat} (h : F.lv.ownBlock = some g ∨ H ≤ g) (hk : Foot.own { F with lv := .slice (some ⟨g, 0, none⟩) n cap } k) : F.own k ∨ H ≤ k := by
  rcases hk with hk | hk | hk | hk
  · exact .inl (.inl hk)
  · exact .inl (.inr (.inl hk))
  · exact .inl (.inr (.inr (.inl hk)))
  · have e : g = k := by simpa [Value.ownBlock] using hk
    subst e
    rcases h with h | h
    · exact .inl (.inr (.inr (.inr h)))
    · exact .inr h
theorem zero_write (w : World) : (zeroValue 197).run Tryz.prog w = .ok (.agg emptyWrite) w := (zero_of_info (P := Tryz.prog) (t := 197) (v := .agg emptyWrite) (n := 257) (by kernel_rfl)).1 w
theorem size_write : (Tryz.prog.info? 197).map (·.size) = some 257 := by kernel_rfl
theorem write_same (k : Int) : emptyWrite.size = (emptyWrite.setIfInBounds 0 (.int .i64 k)).size := Array.size_setIfInBounds.symm
theorem write_size (k : Int) : (Tryz.prog.info? 197).map (·.size) = some (emptyWrite.setIfInBounds 0 (.int .i64 k)).size := by
  rw [← write_same, size_write]
  simp [emptyWrite]
theorem write_one (k : Int) : (emptyWrite.setIfInBounds 0 (.int .i64 k)).all (·.oneCell') = true := by
  rw [Array.all_eq_true]
  intro i hi
  have := emptyWrite_get i k
  rw [Array.getElem?_eq_getElem hi] at this
  rcases i with _ | i
  · rw [if_pos rfl, Option.some.injEq] at this
    rw [this]
    rfl
  · rw [if_neg (by omega), if_pos (by have := write_same k; simp [emptyWrite] at this hi; omega), Option.some.injEq] at this
    rw [this]
    rfl
theorem size_block : (Tryz.prog.info? 195).map (·.size) = some 256 := by kernel_rfl
theorem WritePost_no {F : Foot} {d : D} {w : World} (h : Dk w F d) : Moves F d w w := ⟨F, h, rfl, fun _ hk => .inl hk, Keeps.refl _ _⟩
theorem append_base {W : World} {B : Nat} {o : Obj} (h : B ≤ W.heap.size) : B ≤ (W.drew.alloc o).heap.size := by
  rw [World.size_alloc]
  exact Nat.le_succ_of_le h
theorem write_facts {w w1 W w4 : World} {F : Foot} {d : D} {m : Nat} {g cap : Nat} (hd1 : Dk w1 F d) (hdW : Dk W F d) (hkW : Keeps F.own w W) (hsW : W.heap.size = w1.heap.size + 1) (s : ByteArray)
    (hW0 : W.heap[w1.heap.size]? = some (.cells (writeCells m s) 197 (0, 0))) (hlt : m < d.n)
    (hown : w4.ownsRow F.B 197 257 (.slice (some ⟨g, 0, none⟩) (d.late.length + 1) cap) (d.late.length + 1) (lateCells d.late ++ (writeCells m s).toList)) (hgrow : (W.drew.alloc (.cells (writeCells m s) 197)).grownBy w4 F.lv.ownBlock)
    (hat : F.lv.ownBlock = some g ∨ g = (W.drew.alloc (.cells (writeCells m s) 197)).heap.size) :
    Keeps F.own w w4 ∧ Hid (Dk ((w4.setCell ⟨F.p, 2, none⟩ (.slice (some ⟨g, 0, none⟩) (d.late.length + 1) cap)).drew.setCells F.L (m * 256) (textCells 256 s)) { F with lv := .slice (some ⟨g, 0, none⟩) (d.late.length + 1) cap } { d with late := d.late ++ [(m, filled s)] }) ∧
      Hid (w4.heap[w1.heap.size]? = some (.cells (writeCells m s) 197 (0, 0))) ∧ Hid (F.lv.ownBlock = some g ∨ w.heap.size ≤ g) ∧
      w4.frozen? ⟨F.p, 2, none⟩ = false ∧ w4.cell? ⟨F.p, 2, none⟩ = some F.lv ∧ Hid (∀ k, k = F.p ∨ k = F.S ∨ k = F.L → w4.heap[k]? = W.heap[k]?) := by
  have hk4 : Keeps F.own w w4 := (hkW.drew.alloc _).grown hgrow fun k hk => .inl (.inr (.inr (.inr hk)))
  have hsz4 : W.heap.size ≤ w4.heap.size := Nat.le_trans (by rw [World.size_alloc]; exact Nat.le_succ _) hgrow.size
  have heq4 : ∀ k, k < W.heap.size → F.lv.ownBlock ≠ some k → w4.heap[k]? = W.heap[k]? := fun k hk hne =>
    (hgrow.block k (by rw [World.size_alloc]; exact Nat.lt_succ_of_lt hk) (fun e => hne e.symm)).trans (Below.heap_alloc W.drew _ k hk)
  have heqF : ∀ k, k = F.p ∨ k = F.S ∨ k = F.L → w4.heap[k]? = W.heap[k]? := fun k hk => by
    refine heq4 k (hdW.own_lt (by rcases hk with h | h | h; exact .inl h; exact .inr (.inl h); exact .inr (.inr (.inl h)))) fun e => ?_
    obtain ⟨n1, n2, n3, _⟩ := hdW.own_ne e
    omega
  refine ⟨hk4, hdW.wrote m hlt s g cap hsz4 heqF hown, (heq4 _ (by rw [hsW]; exact Nat.lt_succ_self _) (fun e => ?_)).trans hW0, ?_, ?_, ?_, heqF⟩
  · have := DiskAt.own_lt hd1 (.inr (.inr (.inr e)))
    omega
  · rcases hat with c | c
    · exact .inl c
    · right
      rw [c, World.size_alloc]
      exact Nat.le_succ_of_le hkW.size
  · exact frozen_of_row _ _ _ _ _ ((heqF _ (.inl rfl)).trans hdW.head)
  · rw [cell_of_row _ _ _ _ _ _ ((heqF _ (.inl rfl)).trans hdW.head)]
    rfl
set_option maxHeartbeats 400000 in
theorem write_any (w : World) (F : Foot) (d : D) (k : Int) (s : ByteArray) (h : Dk w F d) (h0 : -9223372036854775808 ≤ k) (h1 : k ≤ 9223372036854775807) (hl : d.late.length < 4294967296) :
    Calls Tryz.prog 81 #[.pointer (some ⟨F.p, 0, none⟩), .int .i64 k, .string s] w fun e w' => e = .returned (.int .i64 (writeE d k s)) ∧ Moves F (d.write k s) w w' := by
  have hE : writeE d k s = if reachE d k = 0 then (if 256 < s.size then 21 else spendE d) else reachE d k := rfl
  have hD : d.write k s = if reachE d k = 0 then (if 256 < s.size then d else if spendE d = 0 then { d.spent with late := d.spent.late ++ [(k.toNat, filled s)] } else d.spent) else d := rfl
  have HE := Lib.hid hE
  have HD := Lib.hid hD
  clear hE hD
  rcases reachE_cases d k with ⟨a, hk, hn, _⟩ | ⟨a, _⟩ | ⟨a, _⟩
  · have hr := Lib.hid a
    clear a
    by_cases hbig : 256 < s.size
    · have hb : decide (256 < s.size) = true := by simpa using hbig
      go_enter Tryz.func81, Tryz.ntmps81
      go_wp2_with fail
      refine (reach_any _ F d _ h h0 h1).mono ?_
      rintro e _ ⟨rfl, rfl⟩
      rw [hr.out]
      go_wp2
      go_returns
      exact ⟨ret_i (by rw [HE.out, hr.out, if_pos rfl, if_pos hbig]), by rw [HD.out, hr.out, if_pos rfl, if_pos hbig]; exact WritePost_no h⟩
    · have hb : decide (256 < s.size) = false := by simpa using hbig
      have hsp : spendE d = 11 ∨ spendE d = 0 := by unfold spendE; split <;> simp
      rcases hsp with a | a
      · have hs := Lib.hid a
        clear a
        go_enter Tryz.func81, Tryz.ntmps81
        go_wp2_with fail
        refine (reach_any _ F d _ h h0 h1).mono ?_
        rintro e _ ⟨rfl, rfl⟩
        rw [hr.out]
        go_wp2_with fail
        refine (spend_any _ F d h).mono ?_
        rintro e w1 ⟨rfl, hd1, hk1⟩
        rw [hs.out]
        go_wp2
        go_returns
        exact ⟨ret_i (by rw [HE.out, hr.out, if_pos rfl, if_neg hbig, hs.out]), by
          rw [HD.out, hr.out, if_pos rfl, if_neg hbig, if_neg (by rw [hs.out]; decide)]
          exact ⟨F, hd1, rfl, fun _ hk => .inl hk, hk1.mono fun i hi => .inl (.inl hi)⟩⟩
      · have hs := Lib.hid a
        clear a
        obtain ⟨m, rfl⟩ := Int.eq_ofNat_of_zero_le hk
        rw [Int.toNat_natCast] at HD
        have hlt : m < d.spent.n := by rw [(spent_same d).1]; omega
        have hlen : d.spent.late.length < 4294967296 := by rw [(spent_same d).2.2]; exact hl
        go_enter Tryz.func81, Tryz.ntmps81
        go_wp2_with fail
        refine (reach_any _ F d _ h h0 h1).mono ?_
        rintro e _ ⟨rfl, rfl⟩
        rw [hr.out]
        go_wp2_with fail
        refine (spend_any _ F d h).mono ?_
        rintro e w1 ⟨rfl, hd1, hk1⟩
        rw [hs.out]
        have hzero := zero_write
        have hne := emptyWrite_ne
        have hcopy := copy_write (P := Tryz.prog) w1 160 9 3 5 197 m s Tryz.underlying160 (by kernel_rfl) (by omega)
        go_wp2_with (with_reducible refine wpList_store_new rfl 197 (.tmp 9) (.tmp 25) rfl emptyWrite (emptyWrite.setIfInBounds 0 (.int .i64 m)) _ rfl rfl (write_size m) (write_same m) (write_one m) ?_)
        have hW0 : (w1.alloc (.cells (writeCells m s) 197)).heap[w1.heap.size]? = some (.cells (writeCells m s) 197 (0, 0)) := heap_alloc_new _ _
        have hdW : Dk (w1.alloc (.cells (writeCells m s) 197)) F d.spent := DiskAt.below hd1 (by go_grown)
        have hkW : Keeps F.own w (w1.alloc (.cells (writeCells m s) 197)) := (hk1.mono fun i hi => .inl (.inl hi)).alloc _
        have hsW : (w1.alloc (.cells (writeCells m s) 197)).heap.size = w1.heap.size + 1 := World.size_alloc ..
        generalize w1.alloc (.cells (writeCells m s) 197) = W at *
        clear hcopy hzero hne
        have HsW := Lib.hid hsW
        have HW0 := Lib.hid hW0
        have hlw : loadMany Tryz.prog 197 W.drew w1.heap.size 0 = .ok (.agg (writeCells m s)) W.drew := loadMany_range (writeCells m s).toList _ (rangeAt_whole hW0) Tryz.underlying197 rfl (by rw [size_write, Array.length_toList, writeCells_size])
        obtain ⟨e0, e1, e2, e3, e4⟩ := DiskAt.cells hdW
        clear hW0 hsW
        have hlv : (loadS 197 (.pointer (some ⟨w1.heap.size, 0, none⟩))).run Tryz.prog W.drew = .ok (.agg (writeCells m s)) W.drew := hlw
        have hbv := buildS_one m s
        have hpW : F.p < W.heap.size := DiskAt.own_lt hdW (.inl rfl)
        obtain ⟨i0, hi, hz0, hz1, hz2⟩ := info_parts info_write
        have HI := Lib.hid (And.intro hi (And.intro hz0 (And.intro hz1 hz2)))
        clear hlw hi hz0 hz1 hz2
        go_region_law (refine step_append_lies _ rfl (.tmp 34) (.tmp 36) 132 rfl F.B 197 i0 _ 257 264 Tryz.underlying132 HI.out.1 HI.out.2.1 HI.out.2.2.1 HI.out.2.2.2 (by simp [Value.cells]) (by decide) F.lv _ _ rfl (World.ownsRow.alloc hdW.late _) _ 1 1 (writeCells m s).toList rfl (by rw [Array.length_toList, writeCells_size]) (World.news_of_block (heap_alloc_new _ _)) (writeCells_one m s) (by decide) (Nat.le_trans (Nat.succ_le_succ (Nat.le_of_lt hlen)) (by decide)) (by omega) (append_base hdW.base) _ rfl ?_; intro g cap w4 hown hgrow hat hlt4; obtain ⟨hk4, Hfin, HH4, Hg4, f4, c4, HqF⟩ := write_facts hd1 hdW hkW HsW.out s HW0.out hlt hown hgrow hat; clear hown hgrow hat)
        all_goals
          go_wp2_with fail
          have hp5 := heap_setCell_same w4 F.p 2 _ _ (.slice (some ⟨g, 0, none⟩) (d.spent.late.length + 1) cap) ((HqF.out _ (.inl rfl)).trans hdW.head)
          have hL5 : Rows 195 (w4.setCell ⟨F.p, 2, none⟩ (.slice (some ⟨g, 0, none⟩) (d.spent.late.length + 1) cap)).drew F.L d.spent.n d.spent.last :=
            Rows.keep hdW.last ((heap_setCell_other _ _ _ _ hdW.pL.symm).trans (HqF.out _ (.inr (.inr rfl))))
          have hne : w1.heap.size ≠ F.p := fun e => by
            have := DiskAt.own_lt hd1 (.inl rfl)
            omega
          have hw5 : (w4.setCell ⟨F.p, 2, none⟩ (.slice (some ⟨g, 0, none⟩) (d.spent.late.length + 1) cap)).drew.heap[w1.heap.size]? = some (.cells (writeCells m s) 197 (0, 0)) :=
            (heap_setCell_other _ _ _ _ hne).trans HH4.out
          have hk5 : Keeps F.own w (w4.setCell ⟨F.p, 2, none⟩ (.slice (some ⟨g, 0, none⟩) (d.spent.late.length + 1) cap)) := hk4.setCell (.inl (.inl rfl)) _
          have Hfin2 : DiskAt _ _ _ _ _ _ := Hfin.out
          generalize w4.setCell ⟨F.p, 2, none⟩ (.slice (some ⟨g, 0, none⟩) (d.spent.late.length + 1) cap) = w5 at *
          have hr5 : w5.drew.rangeAt w1.heap.size 1 (textCells 256 s) := fun j v hv => by
            rw [cell_of_row _ _ _ _ _ _ hw5]
            have e : (writeCells m s)[1 + j]? = (textCells 256 s)[j]? := by
              rw [Nat.add_comm]
              simp [writeCells]
            rw [e, hv]
          have hload : loadMany Tryz.prog 195 w5.drew w1.heap.size 1 = .ok (.agg (textCells 256 s).toArray) w5.drew := loadMany_range _ _ hr5 Tryz.underlying195 rfl (by rw [size_block, length_textCells])
          have hstore : storeMany Tryz.prog 195 w5.drew F.L (m * 256) (.agg (textCells 256 s).toArray) = .ok () (w5.drew.setCells F.L (m * 256) (textCells 256 s)) :=
            storeMany_range _ (by rw [length_textCells]; exact hL5.there hlt) (by rw [size_block, length_textCells]) (textCells_one _ _)
          have c5 : w5.cell? ⟨F.p, 1, none⟩ = some (.slice (some ⟨F.L, 0, none⟩) d.spent.n d.spent.n) := by rw [cell_of_row _ _ _ _ _ _ hp5]; rfl
          have Hfin3 := Lib.hid Hfin2
          clear Hfin Hfin2 hr5 hw5 hL5 hp5 HH4 c4 f4 HqF
          refine wp_region_still_tail 8 (by kernel_rfl) (by kernel_rfl) ?_
          simp only [List.take_succ_cons, List.take_zero, List.drop_succ_cons, List.drop_zero]
          change wpStill _ _ w5.drew _ _ _
          still_step
          still_step
          still_step
          still_step
          still_step
          still_step
          refine wpStill_loadMany rfl 195 (.tmp 45) rfl w1.heap.size 1 rfl _ hload ?_
          still_step
          refine wpStill_nil ?_
          refine wpList_storeMany rfl 195 (.tmp 47) (.tmp 46) rfl F.L (m * 256) _ rfl rfl hstore ?_
          go_wp2_with fail
          go_returns
          refine ⟨?_, ?_⟩
          · rw [HE.out, hr.out, if_pos rfl, if_neg hbig, hs.out]
            rfl
          · rw [HD.out, hr.out, if_pos rfl, if_neg hbig, hs.out, if_pos rfl]
            exact ⟨_, Hfin3.out, rfl, fun k hk => wrote_own Hg4.out hk, hk5.drew.setCells (.inl (.inr (.inr (.inl rfl)))) _ _⟩
  all_goals
    have hr := Lib.hid a
    clear a
    go_enter Tryz.func81, Tryz.ntmps81
    go_wp2_with fail
    refine (reach_any _ F d _ h h0 h1).mono ?_
    rintro e _ ⟨rfl, rfl⟩
    rw [hr.out]
    go_wp2
    go_returns
    exact ⟨ret_i (by rw [HE.out, hr.out, if_neg (by decide)]), by rw [HD.out, hr.out, if_neg (by decide)]; exact WritePost_no h⟩
end Go.Proofs.YtcjfnfdinhbdlaaGreatDoor
namespace Go.Proofs.YtcjfnfdinhbdlaaGreatDoor
set_option maxRecDepth 100000
open Go.ChangeShapes Go.WideShapes Go.ChangeAt Go.RowKit Go.PlainAid
attribute [local go_sem ↓ high] loadS_write loadS_block storeS_write storeS_block buildS_write
theorem storeS_new (w : World) (i : Int) (s : ByteArray) : (storeS 197 (.pointer (some ⟨w.heap.size, 0, none⟩)) (.agg (writeCells i s))).run Tryz.prog (w.alloc (.cells emptyWrite 197)) = .ok () (w.alloc (.cells (writeCells i s) 197)) := by
  have h0 : emptyWrite.size = (writeCells i s).size := by rw [writeCells_size]; simp [emptyWrite]
  have hr := run_storeVar_row (P := Tryz.prog) (w.alloc (.cells emptyWrite 197)) w.heap.size 197 197 emptyWrite (writeCells i s) (heap_alloc_new w _) (by rw [size_write, writeCells_size]) h0
    (Array.all_eq_true_iff_forall_mem.2 fun v hv => writeCells_one i s v (by simpa using hv))
  rw [setRow_alloc] at hr
  show (Instr.storeAt 197 (.pointer (some ⟨w.heap.size, 0, none⟩)) (.agg (writeCells i s))).run Tryz.prog _ = _
  simp only [Instr.storeAt, Instr.sureAddr, Sem.run_bind, Sem.run_pure, Result.andThen_ok, hr]
theorem loadS_range {w : World} {g o : Nat} {i : Int} {s : ByteArray} (h : w.rangeAt g o (writeCells i s).toList) : (loadS 197 (.pointer (some ⟨g, o, none⟩))).run Tryz.prog w = .ok (.agg (writeCells i s)) w :=
  loadMany_range (writeCells i s).toList _ h Tryz.underlying197 rfl (by rw [size_write, Array.length_toList, writeCells_size])
theorem loadS_text {w : World} {g o : Nat} {s : ByteArray} (h : w.rangeAt g o (textCells 256 s)) : (loadS 195 (.pointer (some ⟨g, o, none⟩))).run Tryz.prog w = .ok (.agg (textCells 256 s).toArray) w :=
  loadMany_range _ _ h Tryz.underlying195 rfl (by rw [size_block, length_textCells])
theorem storeS_text {w : World} {g o : Nat} {s : ByteArray} (h : w.there g o 256) : (storeS 195 (.pointer (some ⟨g, o, none⟩)) (.agg (textCells 256 s).toArray)).run Tryz.prog w = .ok () (w.setCells g o (textCells 256 s)) :=
  storeMany_range _ (by rw [length_textCells]; exact h) (by rw [size_block, length_textCells]) (textCells_one _ _)
theorem range_data {w : World} {g : Nat} {i : Int} {s : ByteArray} {t : TypeId} {fr : Nat × Nat} (h : w.heap[g]? = some (.cells (writeCells i s) t fr)) : w.rangeAt g 1 (textCells 256 s) := fun j v hv => by
  rw [cell_of_row _ _ _ _ _ _ h]
  have e : (writeCells i s)[1 + j]? = (textCells 256 s)[j]? := by
    rw [Nat.add_comm]
    simp [writeCells]
  rw [e, hv]
def flushE (d : D) : Int := if readyE d = 0 then spendE d else readyE d
def D.flush (d : D) : D := if readyE d = 0 then (if spendE d = 0 then d.spent.flushed else d.spent) else d
theorem flushed_moves {w w1 wr : World} {F : Foot} {d : D} (hd1 : Dk w1 F d.spent) (hk1 : Keeps (fun k => k = F.p) w w1) (hkr : Keeps (fun j => j = F.S) w1 wr) (hr : Rows 195 wr F.S d.spent.n d.spent.last) :
    Moves F d.spent.flushed w (wr.setCell ⟨F.p, 2, none⟩ (.slice none 0 0)) := by
  refine ⟨_, DiskAt.flush hd1 hkr hr, rfl, fun k hk => .inl ?_, ?_⟩
  · rcases hk with hk | hk | hk | hk
    · exact .inl hk
    · exact .inr (.inl hk)
    · exact .inr (.inr (.inl hk))
    · cases hk
  · have a : Keeps F.own w w1 := hk1.mono fun i hi => .inl (.inl hi)
    have b : Keeps F.own w1 wr := hkr.mono fun i hi => .inl (.inr (.inl hi))
    exact (a.on b).setCell (.inl (.inl rfl)) _
set_option maxHeartbeats 400000 in
theorem flush_any (w : World) (F : Foot) (d : D) (h : Dk w F d) (hl : d.late.length < 4294967296) :
    Calls Tryz.prog 137 #[.pointer (some ⟨F.p, 0, none⟩)] w fun e w' => e = .returned (.int .i64 (flushE d)) ∧ Moves F d.flush w w' := by
  have hE : flushE d = if readyE d = 0 then spendE d else readyE d := rfl
  have hD : d.flush = if readyE d = 0 then (if spendE d = 0 then d.spent.flushed else d.spent) else d := rfl
  have HE := Lib.hid hE
  have HD := Lib.hid hD
  clear hE hD
  have hcases : readyE d = 11 ∨ readyE d = 0 := by unfold readyE; cases d.dark <;> simp
  rcases hcases with a | a
  · have hr := Lib.hid a
    clear a
    go_enter Tryz.func137, Tryz.ntmps137
    go_wp2_with fail
    refine (ready_any _ F d h).mono ?_
    rintro e _ ⟨rfl, rfl⟩
    rw [hr.out]
    go_wp2
    go_returns
    exact ⟨ret_i (by rw [HE.out, hr.out, if_neg (by decide)]), by rw [HD.out, hr.out, if_neg (by decide)]; exact WritePost_no h⟩
  · have hr := Lib.hid a
    clear a
    have hsp : spendE d = 11 ∨ spendE d = 0 := by unfold spendE; split <;> simp
    rcases hsp with a | a
    · have hs := Lib.hid a
      clear a
      go_enter Tryz.func137, Tryz.ntmps137
      go_wp2_with fail
      refine (ready_any _ F d h).mono ?_
      rintro e _ ⟨rfl, rfl⟩
      rw [hr.out]
      go_wp2_with fail
      refine (spend_any _ F d h).mono ?_
      rintro e w1 ⟨rfl, hd1, hk1⟩
      rw [hs.out]
      go_wp2
      go_returns
      exact ⟨ret_i (by rw [HE.out, hr.out, if_pos rfl, hs.out]), by
        rw [HD.out, hr.out, if_pos rfl, if_neg (by rw [hs.out]; decide)]
        exact ⟨F, hd1, rfl, fun _ hk => .inl hk, hk1.mono fun i hi => .inl (.inl hi)⟩⟩
    · have hs := Lib.hid a
      clear a
      have hlen : d.spent.late.length < 4294967296 := by rw [(spent_same d).2.2]; exact hl
      go_enter Tryz.func137, Tryz.ntmps137
      go_wp2_with fail
      refine (ready_any _ F d h).mono ?_
      rintro e _ ⟨rfl, rfl⟩
      rw [hr.out]
      go_wp2_with fail
      refine (spend_any _ F d h).mono ?_
      rintro e w1 ⟨rfl, hd1, hk1⟩
      rw [hs.out]
      have hzero := zero_write
      have hnew := storeS_new
      obtain ⟨c0, c1, c2, c3, c4⟩ := DiskAt.cells hd1
      rcases hd1.lates with ⟨hv, hnil⟩ | ⟨g, cap, hv, hB, hgl, hown, hrows⟩
      · rw [hv] at c2
        have HN := Lib.hid hnil
        have f2 := DiskAt.thaw hd1 2
        clear hv hnil
        go_wp2
        go_rounds 1
        go_returns
        refine ⟨?_, ?_⟩
        · rw [HE.out, hr.out, if_pos rfl, hs.out]
          rfl
        · rw [HD.out, hr.out, if_pos rfl, hs.out, if_pos rfl]
          refine flushed_moves hd1 hk1 (Keeps.refl _ _) ?_
          refine hd1.safe.congr fun k _ => ?_
          unfold D.last
          rw [HN.out]
          rfl
      · rw [hv] at c2
        have HV := Lib.hid hv
        have HO := Lib.hid hown
        have HR := Lib.hid hrows
        have hSB := hd1.SB
        clear hv hown hrows
        go_wp2
        go_loopw [22] (fun i wr => ∃ k : Nat, k ≤ d.spent.late.length ∧ i = .int .i64 k ∧ Keeps (fun j => j = F.S) w1 wr ∧ Rows 195 wr F.S d.spent.n (done d.spent.safe (d.spent.late.take k))) (fun i _ => d.spent.late.length - (intOf i).toNat)
        case atStart => exact ⟨0, Nat.zero_le _, rfl, Keeps.refl _ _, hd1.safe⟩
        case round =>
          obtain ⟨k, hk, rfl, hkr, hsr⟩ := hrel
          by_cases hlt : k < d.spent.late.length
          · obtain ⟨x, hx⟩ : ∃ x, d.spent.late[k]? = some x := ⟨_, List.getElem?_eq_getElem hlt⟩
            have hxw := hd1.wf.late x (List.mem_of_getElem? hx)
            have hx1 : x.1 < d.spent.n := hxw.1
            have hld := loadS_range (rangeAt_keep (HR.out k x hx) (hkr.block g hgl (by omega)))
            have hW0 : (wr.alloc (.cells (writeCells x.1 x.2) 197)).heap[wr.heap.size]? = some (.cells (writeCells x.1 x.2) 197 (0, 0)) := heap_alloc_new _ _
            have hkW : Keeps (fun j => j = F.S) w1 (wr.alloc (.cells (writeCells x.1 x.2) 197)) := hkr.alloc _
            have hsW : Rows 195 (wr.alloc (.cells (writeCells x.1 x.2) 197)) F.S d.spent.n (done d.spent.safe (d.spent.late.take k)) := hsr.keep (Below.heap_alloc _ _ _ hsr.lt)
            have hcW : (wr.alloc (.cells (writeCells x.1 x.2) 197)).cell? ⟨F.p, 0, none⟩ = some (.slice (some ⟨F.S, 0, none⟩) d.spent.n d.spent.n) :=
              (World.cell?_of_block (a := ⟨F.p, 0, none⟩) (hkW.block F.p (DiskAt.own_lt hd1 (.inl rfl)) hd1.pS)).trans c0
            have H1 := Lib.hid hW0
            have H2 := Lib.hid hsW
            have H3 := Lib.hid hx
            clear hW0 hsW hx hsr
            go_wp2_with fail
            generalize wr.alloc (.cells (writeCells x.1 x.2) 197) = W at *
            have hat : W.cell? ⟨wr.heap.size, 0, none⟩ = some (.int .i64 x.1) := by rw [cell_of_row _ _ _ _ _ _ H1.out]; rfl
            have hdt : (loadS 195 (.pointer (some ⟨wr.heap.size, 1, none⟩))).run Tryz.prog W.drew = .ok (.agg (textCells 256 x.2).toArray) W.drew := loadS_text (w := W.drew) (range_data H1.out)
            have hst : (storeS 195 (.pointer (some ⟨F.S, x.1 * 256, none⟩)) (.agg (textCells 256 x.2).toArray)).run Tryz.prog W.drew = .ok () (W.drew.setCells F.S (x.1 * 256) (textCells 256 x.2)) := storeS_text (H2.out.there hx1)
            have hsz : d.spent.late.length ≤ 4294967296 := Nat.le_of_lt hlen
            clear hld
            go_still_tail 9, (by kernel_rfl)
            go_wp2
            go_roundw
            case rel =>
              refine ⟨k + 1, by omega, by go_num, hkW.drew.setCells (.inl rfl) _ _, ?_⟩
              rw [done_take _ _ _ x H3.out]
              exact Rows.set (w := W.drew) H2.out hx1 x.2
            case measure => simp [intOf]; omega
          · have hk2 : k = d.spent.late.length := by omega
            subst hk2
            have hp2 := (World.cell?_of_block (a := ⟨F.p, 2, none⟩) (hkr.block F.p (DiskAt.own_lt hd1 (.inl rfl)) hd1.pS)).trans c2
            have hf2 : wr.frozen? ⟨F.p, 2, none⟩ = false := (World.frozen?_of_block (a := ⟨F.p, 2, none⟩) (hkr.block F.p (DiskAt.own_lt hd1 (.inl rfl)) hd1.pS)).trans (DiskAt.thaw hd1 2)
            have HS := Lib.hid hsr
            clear hsr
            go_wp2
            go_returns
            refine ⟨?_, ?_⟩
            · rw [HE.out, hr.out, if_pos rfl, hs.out]
              rfl
            · rw [HD.out, hr.out, if_pos rfl, hs.out, if_pos rfl]
              refine flushed_moves hd1 hk1 hkr ?_
              have := HS.out
              rw [List.take_length] at this
              exact this
end Go.Proofs.YtcjfnfdinhbdlaaGreatDoor
namespace Go.Proofs.YtcjfnfdinhbdlaaGreatDoor
set_option maxRecDepth 100000
open Go.ChangeShapes Go.WideShapes Go.ChangeAt Go.RowKit Go.PlainAid
def D.free (d : D) : Prop := d.limit = -1 ∧ d.dark = false
theorem free_ready {d : D} (h : d.free) : readyE d = 0 := by unfold readyE; rw [h.2]; rfl
theorem free_spend {d : D} (h : d.free) : spendE d = 0 := by unfold spendE; rw [h.1]; rfl
theorem free_spent {d : D} (h : d.free) : d.spent = d := by unfold D.spent; rw [h.1]; rfl
theorem free_reach {d : D} (h : d.free) {k : Int} (h0 : 0 ≤ k) (h1 : k < d.n) : reachE d k = 0 := by
  unfold reachE
  rw [h.2, if_neg (by decide), if_neg (by omega)]
theorem free_read {d : D} (h : d.free) {k : Int} (h0 : 0 ≤ k) (h1 : k < d.n) : readS d k = d.last k.toNat := by
  unfold readS
  rw [free_reach h h0 h1, if_pos rfl]
theorem free_writeE {d : D} (h : d.free) {k : Int} {s : ByteArray} (h0 : 0 ≤ k) (h1 : k < d.n) (hs : s.size ≤ 256) : writeE d k s = 0 := by
  unfold writeE
  rw [free_reach h h0 h1, if_pos rfl, if_neg (by omega), free_spend h]
theorem free_write {d : D} (h : d.free) {k : Int} {s : ByteArray} (h0 : 0 ≤ k) (h1 : k < d.n) (hs : s.size ≤ 256) : d.write k s = { d with late := d.late ++ [(k.toNat, filled s)] } := by
  unfold D.write
  rw [free_reach h h0 h1, if_pos rfl, if_neg (by omega), free_spend h, if_pos rfl, free_spent h]
theorem free_flushE {d : D} (h : d.free) : flushE d = 0 := by unfold flushE; rw [free_ready h, if_pos rfl, free_spend h]
theorem free_flush {d : D} (h : d.free) : d.flush = d.flushed := by unfold D.flush; rw [free_ready h, if_pos rfl, free_spend h, if_pos rfl, free_spent h]
def OwnAt (w : World) (p : Nat) (d : D) (w' : World) : Prop := ∃ F : Foot, F.p = p ∧ Dk w' F d ∧ Below w.heap.size w w' ∧ ∀ k, F.own k → w.heap.size ≤ k
theorem OwnAt.below {w w1 : World} {p : Nat} {d : D} (h : OwnAt w p d w1) : Below w.heap.size w w1 := by
  obtain ⟨F, hp, hd, hb, ho⟩ := h
  exact hb
theorem OwnAt.wf {w w1 : World} {p : Nat} {d : D} (h : OwnAt w p d w1) : d.Wf := by
  obtain ⟨F, hp, hd, hb, ho⟩ := h
  exact hd.wf
section
variable {w0 w : World} {p : Nat} {d : D}
theorem o_read (h : OwnAt w0 p d w) (k : Int) (h0 : -9223372036854775808 ≤ k) (h1 : k ≤ 9223372036854775807) :
    Calls Tryz.prog 79 #[.pointer (some ⟨p, 0, none⟩), .int .i64 k] w fun e w' => e = .returned (.tuple #[.string (readS d k), .int .i64 (reachE d k)]) ∧ w = w' := by
  obtain ⟨F, rfl, hd, hb, ho⟩ := h
  exact read_any w F d k hd h0 h1
end
end Go.Proofs.YtcjfnfdinhbdlaaGreatDoor
namespace Go.Proofs.YtcjfnfdinhbdlaaGreatDoor
open Go.ChangeShapes Go.WideShapes Go.ChangeAt Go.RowKit Go.PlainAid
def OwnL (w : World) (p : Nat) (d : D) (L : List (Nat × Obj)) (w' : World) : Prop :=
  ∃ F : Foot, F.p = p ∧ Dk w' F d ∧ Below w.heap.size w w' ∧ (∀ k, F.own k → w.heap.size ≤ k) ∧ ∀ x ∈ L, ¬ F.own x.1 ∧ w'.heap[x.1]? = some x.2
section
variable {w0 w w' : World} {p : Nat} {d d' : D} {L : List (Nat × Obj)}
theorem OwnAt.owns (h : OwnAt w0 p d w) : OwnL w0 p d [] w := by
  obtain ⟨F, h1, h2, h3, h4⟩ := h
  exact ⟨F, h1, h2, h3, h4, fun x hx => (by cases hx)⟩
theorem OwnL.at (h : OwnL w0 p d L w) : OwnAt w0 p d w := by
  obtain ⟨F, h1, h2, h3, h4, _⟩ := h
  exact ⟨F, h1, h2, h3, h4⟩
theorem OwnL.below (h : OwnL w0 p d L w) : Below w0.heap.size w0 w := h.at.below
theorem OwnL.wf (h : OwnL w0 p d L w) : d.Wf := h.at.wf
theorem OwnL.mem (h : OwnL w0 p d L w) {q : Nat} {o : Obj} (hq : (q, o) ∈ L) : w.heap[q]? = some o := by
  obtain ⟨F, _, _, _, _, h5⟩ := h
  exact (h5 _ hq).2
theorem heap_lt {w : World} {q : Nat} {o : Obj} (h : w.heap[q]? = some o) : q < w.heap.size := by
  rcases Nat.lt_or_ge q w.heap.size with c | c
  · exact c
  · rw [Array.getElem?_eq_none c] at h; cases h
theorem OwnL.moves {F : Foot} (hb : Below w0.heap.size w0 w) (ho : ∀ k, F.own k → w0.heap.size ≤ k) (hL : ∀ x ∈ L, ¬ F.own x.1 ∧ w.heap[x.1]? = some x.2) (m : Moves F d' w w') : OwnL w0 F.p d' L w' := by
  obtain ⟨F', hd, hp, hn, hk⟩ := m
  refine ⟨F', hp, hd, hb.trans (hk.below ho hb.size), fun k hk' => ?_, fun x hx => ?_⟩
  · rcases hn k hk' with c | c
    · exact ho k c
    · exact Nat.le_trans hb.size c
  · obtain ⟨h1, h2⟩ := hL x hx
    have hlt := heap_lt h2
    refine ⟨fun c => ?_, (hk.block x.1 hlt h1).trans h2⟩
    rcases hn x.1 c with c | c
    · exact h1 c
    · omega
theorem OwnL.on (h : OwnL w0 p d L w) (b : Below w.heap.size w w') : OwnL w0 p d L w' := by
  obtain ⟨F, hp, hd, hb, ho, hL⟩ := h
  exact ⟨F, hp, DiskAt.below hd b, hb.on b, ho, fun x hx => ⟨(hL x hx).1, (b.block x.1 (heap_lt (hL x hx).2)).trans (hL x hx).2⟩⟩
theorem OwnL.alloc (h : OwnL w0 p d L w) (o : Obj) : OwnL w0 p d ((w.heap.size, o) :: L) (w.alloc o) := by
  obtain ⟨F, hp, hd, hb, ho, hL⟩ := h
  have b : Below w.heap.size w (w.alloc o) := (Below.refl _ _).alloc (Nat.le_refl _) _
  refine ⟨F, hp, DiskAt.below hd b, hb.on b, ho, fun x hx => ?_⟩
  rcases List.mem_cons.1 hx with rfl | hx
  · exact ⟨fun c => Nat.lt_irrefl _ (DiskAt.own_lt hd c), heap_alloc_new w o⟩
  · exact ⟨(hL x hx).1, (b.block x.1 (heap_lt (hL x hx).2)).trans (hL x hx).2⟩
theorem OwnL.set (h : OwnL w0 p d L w) {q i : Nat} {v : Value} {cs : Array Value} {t : TypeId} (hq : (q, Obj.cells cs t (0, 0)) ∈ L) (h0 : w0.heap.size ≤ q) (L' : List (Nat × Obj))
    (hL' : ∀ x ∈ L', x = (q, Obj.cells (cs.setIfInBounds i v) t (0, 0)) ∨ (x ∈ L ∧ x.1 ≠ q)) : OwnL w0 p d L' (w.setCell ⟨q, i, none⟩ v) := by
  obtain ⟨F, hp, hd, hb, ho, hL⟩ := h
  have hn := (hL _ hq).1
  refine ⟨F, hp, DiskAt.keep hd (by rw [World.size_setCell]; exact Nat.le_refl _) (fun k hk => heap_setCell_other _ _ _ _ (fun e => ?_)), hb.setCell h0 v, ho, fun x hx => ?_⟩
  · subst e
    exact hn hk
  · rcases hL' x hx with rfl | ⟨hx1, hx2⟩
    · exact ⟨hn, heap_setCell_same _ _ _ _ _ _ (hL _ hq).2⟩
    · exact ⟨(hL x hx1).1, (heap_setCell_other _ _ _ _ hx2).trans (hL x hx1).2⟩
theorem OwnL.sub (h : OwnL w0 p d L w) (L' : List (Nat × Obj)) (hs : ∀ x ∈ L', x ∈ L) : OwnL w0 p d L' w := by
  obtain ⟨F, hp, hd, hb, ho, hL⟩ := h
  exact ⟨F, hp, hd, hb, ho, fun x hx => hL x (hs x hx)⟩
theorem q_write (h : OwnL w0 p d L w) (k : Int) (s : ByteArray) (h0 : -9223372036854775808 ≤ k) (h1 : k ≤ 9223372036854775807) (hl : d.late.length < 4294967296) :
    Calls Tryz.prog 81 #[.pointer (some ⟨p, 0, none⟩), .int .i64 k, .string s] w fun e w' => e = .returned (.int .i64 (writeE d k s)) ∧ OwnL w0 p (d.write k s) L w' := by
  obtain ⟨F, rfl, hd, hb, ho, hL⟩ := h
  exact (write_any w F d k s hd h0 h1 hl).mono fun e w' ⟨he, m⟩ => ⟨he, OwnL.moves hb ho hL m⟩
theorem q_flush (h : OwnL w0 p d L w) (hl : d.late.length < 4294967296) :
    Calls Tryz.prog 137 #[.pointer (some ⟨p, 0, none⟩)] w fun e w' => e = .returned (.int .i64 (flushE d)) ∧ OwnL w0 p d.flush L w' := by
  obtain ⟨F, rfl, hd, hb, ho, hL⟩ := h
  exact (flush_any w F d hd hl).mono fun e w' ⟨he, m⟩ => ⟨he, OwnL.moves hb ho hL m⟩
theorem q_read (h : OwnL w0 p d L w) (k : Int) (h0 : -9223372036854775808 ≤ k) (h1 : k ≤ 9223372036854775807) :
    Calls Tryz.prog 79 #[.pointer (some ⟨p, 0, none⟩), .int .i64 k] w fun e w' => e = .returned (.tuple #[.string (readS d k), .int .i64 (reachE d k)]) ∧ w = w' := o_read h.at k h0 h1
end
end Go.Proofs.YtcjfnfdinhbdlaaGreatDoor
namespace Go.Proofs.YtcjfnfdinhbdlaaGreatDoor
set_option maxRecDepth 100000
open Go.ChangeShapes Go.WideShapes Go.ChangeAt Go.RowKit Go.PlainAid
attribute [local go_sem ↓ high] store_r
theorem heap_inO {w : World} {k : Nat} {o : Obj} (h : w.heap[k]? = some o) : k < w.heap.size := (Array.getElem?_eq_some_iff.1 h).1
def OpAt (w : World) (b : Nat) (o : OpV) : Prop := w.heap[b]? = some (.cells #[Value.int .i64 o.id, Value.int .i64 o.proc, Value.int .i64 o.obj, Value.int .i64 o.kind, Value.int .i64 o.meth, Value.int .i64 o.arg, Value.int .i64 o.sec, Value.bool o.done, Value.int .i64 o.res, Value.int .i64 o.inv, Value.int .i64 o.ret] 32 (0, 0))
theorem OpAt.cell {w : World} {b : Nat} {o : OpV} (h : OpAt w b o) : w.cell? ⟨b, 0, none⟩ = some (.int .i64 o.id) ∧ w.cell? ⟨b, 1, none⟩ = some (.int .i64 o.proc) ∧ w.cell? ⟨b, 2, none⟩ = some (.int .i64 o.obj) ∧ w.cell? ⟨b, 3, none⟩ = some (.int .i64 o.kind) ∧ w.cell? ⟨b, 4, none⟩ = some (.int .i64 o.meth) ∧
    w.cell? ⟨b, 5, none⟩ = some (.int .i64 o.arg) ∧ w.cell? ⟨b, 6, none⟩ = some (.int .i64 o.sec) ∧ w.cell? ⟨b, 7, none⟩ = some (.bool o.done) ∧ w.cell? ⟨b, 8, none⟩ = some (.int .i64 o.res) ∧ w.cell? ⟨b, 9, none⟩ = some (.int .i64 o.inv) ∧ w.cell? ⟨b, 10, none⟩ = some (.int .i64 o.ret) := by
  unfold OpAt at h
  refine ⟨?_, ?_, ?_, ?_, ?_, ?_, ?_, ?_, ?_, ?_, ?_⟩ <;> (rw [cell_of_row _ _ _ _ _ _ h]; rfl)
theorem OpAt.on {w w' : World} {b : Nat} {o : OpV} (h : OpAt w b o) (hb : Below w.heap.size w w') : OpAt w' b o := (hb.block b (heap_inO h)).trans h
theorem OpAt.box (w : World) (o : OpV) : OpAt (w.alloc (.cells #[Value.int .i64 o.id, Value.int .i64 o.proc, Value.int .i64 o.obj, Value.int .i64 o.kind, Value.int .i64 o.meth, Value.int .i64 o.arg, Value.int .i64 o.sec, Value.bool o.done, Value.int .i64 o.res, Value.int .i64 o.inv, Value.int .i64 o.ret] 32)) w.heap.size o := heap_alloc_new _ _
theorem resB_no {o : OpV} (h : o.done = false) (low high : Int) : resB o low high = (o.res == 0) := by unfold resB; rw [h]; rfl
theorem resB_yes {o : OpV} (h : o.done = true) (low high : Int) : resB o low high = inB o.res low high := by unfold resB; rw [h]; rfl
set_option maxHeartbeats 2000000 in
theorem ruled_any (o : OpV) (w : World) (hR : RulesAt w) : Calls Tryz.prog 131 #[Value.agg #[Value.int .i64 o.id, Value.int .i64 o.proc, Value.int .i64 o.obj, Value.int .i64 o.kind, Value.int .i64 o.meth, Value.int .i64 o.arg, Value.int .i64 o.sec, Value.bool o.done, Value.int .i64 o.res, Value.int .i64 o.inv, Value.int .i64 o.ret]] w fun e w' => e = .returned (.bool (ruledB o)) ∧ Below w.heap.size w w' := by
  have HB := Lib.hid (show Below w.heap.size w (w.alloc (.cells #[Value.int .i64 o.id, Value.int .i64 o.proc, Value.int .i64 o.obj, Value.int .i64 o.kind, Value.int .i64 o.meth, Value.int .i64 o.arg, Value.int .i64 o.sec, Value.bool o.done, Value.int .i64 o.res, Value.int .i64 o.inv, Value.int .i64 o.ret] 32)) by go_grown)
  have HR := Lib.hid (hR.on HB.out)
  clear hR
  cases hr : ruleOf o.kind o.meth with
  | none =>
    have hn := Lib.hid (ruled_none hr)
    have HF := Lib.hid (show foundV (ruleOf o.kind o.meth) = .tuple #[.agg #[.int .i64 0, .int .i64 0, .int .i64 0, .int .i64 0, .int .i64 0], .bool false] by rw [hr]; rfl)
    clear hr
    go_enter Tryz.func131, Tryz.ntmps131
    go_wp2_with fail
    refine (ofind_any o.kind o.meth _ HR.out).mono ?_
    rintro _ w2 ⟨rfl, hb⟩
    rw [HF.out]
    have hs := store_rule_new w2 #[.int .i64 0, .int .i64 0, .int .i64 0, .int .i64 0, .int .i64 0] rfl 0 0 0 0 0
    have HB2 := Lib.hid (HB.out.on hb)
    clear hb
    go_wp2_with fail
    go_returns
    exact ⟨by rw [hn.out]; rfl, HB2.out.alloc HB2.out.size _⟩
  | some r =>
    have hn := Lib.hid (ruled_some hr)
    have HF := Lib.hid (show foundV (ruleOf o.kind o.meth) = .tuple #[.agg #[.int .i64 r.kind, .int .i64 r.meth, .int .i64 r.needs, .int .i64 r.low, .int .i64 r.high], .bool true] by rw [hr]; rfl)
    clear hr
    obtain ⟨g1, hg1⟩ : ∃ b, decide (1 ≤ r.needs) = b := ⟨_, rfl⟩
    obtain ⟨g2, hg2⟩ : ∃ b, decide (2 ≤ r.needs) = b := ⟨_, rfl⟩
    obtain ⟨b1, h1⟩ : ∃ b, argB o.arg g1 = b := ⟨_, rfl⟩
    obtain ⟨b2, h2⟩ : ∃ b, argB o.sec g2 = b := ⟨_, rfl⟩
    have HM := Lib.hid (show fitB o r = (b1 && b2 && resB o r.low r.high) by unfold fitB; rw [hg1, hg2, h1, h2])
    have H1 := Lib.hid h1
    have H2 := Lib.hid h2
    clear h1 h2
    go_enter Tryz.func131, Tryz.ntmps131
    go_wp2_with fail
    refine (ofind_any o.kind o.meth _ HR.out).mono ?_
    rintro _ w2 ⟨rfl, hb⟩
    rw [HF.out]
    have hs := store_rule_new w2 #[.int .i64 0, .int .i64 0, .int .i64 0, .int .i64 0, .int .i64 0] rfl r.kind r.meth r.needs r.low r.high
    have hq := heap_alloc_new w2 (.cells #[.int .i64 r.kind, .int .i64 r.meth, .int .i64 r.needs, .int .i64 r.low, .int .i64 r.high] 248)
    have hb3 := hb.alloc hb.size (.cells #[.int .i64 r.kind, .int .i64 r.meth, .int .i64 r.needs, .int .i64 r.low, .int .i64 r.high] 248)
    obtain ⟨W3, hW3⟩ : ∃ W3, w2.alloc (.cells #[.int .i64 r.kind, .int .i64 r.meth, .int .i64 r.needs, .int .i64 r.low, .int .i64 r.high] 248) = W3 := ⟨_, rfl⟩
    rw [hW3] at hs hq hb3
    have HB3 := Lib.hid (HB.out.on hb3)
    obtain ⟨_, _, _, _, _, k5, k6, k7, k8, _, _⟩ := ((OpAt.box w o).on hb3).cell
    have r2 : W3.cell? ⟨w2.heap.size, 2, none⟩ = some (.int .i64 r.needs) := by rw [cell_of_row _ _ _ _ _ _ hq]; rfl
    have r3 : W3.cell? ⟨w2.heap.size, 3, none⟩ = some (.int .i64 r.low) := by rw [cell_of_row _ _ _ _ _ _ hq]; rfl
    have r4 : W3.cell? ⟨w2.heap.size, 4, none⟩ = some (.int .i64 r.high) := by rw [cell_of_row _ _ _ _ _ _ hq]; rfl
    clear hb hq hb3 hW3
    go_wp2_with fail
    refine (argument_any _ _ _).mono ?_
    rintro _ _ ⟨rfl, rfl⟩
    rw [H1.out]
    cases b1
    · go_wp2_with fail
      go_returns
      exact ⟨by rw [hn.out, HM.out]; rfl, HB3.out⟩
    · go_wp2_with fail
      refine (argument_any _ _ _).mono ?_
      rintro _ _ ⟨rfl, rfl⟩
      rw [H2.out]
      cases b2
      · go_wp2_with fail
        go_returns
        exact ⟨by rw [hn.out, HM.out]; rfl, HB3.out⟩
      · cases hd : o.done
        · have HN := Lib.hid (resB_no hd r.low r.high)
          rw [hd] at k7
          clear hd
          go_wp2_with fail
          go_returns
          exact ⟨by rw [hn.out, HM.out, HN.out]; rfl, HB3.out⟩
        · have HN := Lib.hid (resB_yes hd r.low r.high)
          rw [hd] at k7
          clear hd
          go_wp2_with fail
          refine (within_any _ _ _ _).mono ?_
          rintro _ _ ⟨rfl, rfl⟩
          go_wp2_with fail
          go_returns
          exact ⟨by rw [hn.out, HM.out, HN.out]; rfl, HB3.out⟩
end Go.Proofs.YtcjfnfdinhbdlaaGreatDoor
