/- Contracts of package block: Write. -/
import Derived.Test.YtfcicpcpdklceaaBlkB
import Derived.Deep.RegionLaw
import Derived.StillTailTactics
namespace Go.Proofs.Ytfcicpcpdklceaa
set_option maxRecDepth 100000
open Go.ChangeShapes Go.WideShapes Go.ChangeAt Go.RowKit Go.PlainAid

theorem spent_same (d : D) : d.spent.n = d.n ∧ d.spent.safe = d.safe ∧ d.spent.late = d.late := by
  unfold D.spent
  split
  · exact ⟨rfl, rfl, rfl⟩
  · split <;> exact ⟨rfl, rfl, rfl⟩
theorem spent_last (d : D) : d.spent.last = d.last := by
  obtain ⟨_, h2, h3⟩ := spent_same d
  unfold D.last
  rw [h2, h3]
/-- The error of a Write. -/
def writeE (d : D) (k : Int) (s : ByteArray) : Int := if reachE d k = 0 then (if 256 < s.size then 21 else spendE d) else reachE d k
/-- A disk behind a Write. -/
def D.write (d : D) (k : Int) (s : ByteArray) : D :=
  if reachE d k = 0 then (if 256 < s.size then d else if spendE d = 0 then { d.spent with late := d.spent.late ++ [(k.toNat, filled s)] } else d.spent) else d
/-- What a call that writes leaves of the disk's blocks. -/
def Moves (F : Foot) (d' : D) (w w' : World) : Prop := ∃ F', Dk w' F' d' ∧ F'.p = F.p ∧ (∀ k, F'.own k → F.own k ∨ w.heap.size ≤ k) ∧ Keeps F.own w w'

theorem info_write : (Try.prog.info? 77).map (fun i => (i.zero, i.size, i.bytes)) = some (some (.agg (#[.int .i64 0] ++ Array.replicate 256 (.int .u8 0))), 257, 264) := by kernel_rfl
theorem loadS_write (v : Value) : Instr.loadAt 77 v = loadS 77 v := rfl
theorem loadS_block (v : Value) : Instr.loadAt 75 v = loadS 75 v := rfl
theorem storeS_write (p v : Value) : Instr.storeAt 77 p v = storeS 77 p v := rfl
theorem storeS_block (p v : Value) : Instr.storeAt 75 p v = storeS 75 p v := rfl
theorem buildS_write (n : Nat) (l : Array (Nat × Value)) : Instr.buildSlice 71 n l = buildS 71 n l := rfl
theorem buildS_one (m : Int) (s : ByteArray) (w : World) : (buildS 71 1 #[(0, .agg (writeCells m s))]).run Try.prog w = .ok (.slice (some ⟨w.heap.size, 0, none⟩) 1 1) (w.alloc (.cells (writeCells m s) 77)) := by
  obtain ⟨i, i1, i2, i3, _⟩ := info_parts info_write
  exact run_buildOne (P := Try.prog) w 71 77 (writeCells m s) i _ Try.underlying71 i1 i2 (by rw [i3, writeCells_size]) (by omega) (by omega)
attribute [local go_sem ↓ high] loadS_write loadS_block storeS_write storeS_block buildS_write
theorem wrote_own {F : Foot} {g n cap H k : Nat} (h : F.lv.ownBlock = some g ∨ H ≤ g) (hk : Foot.own { F with lv := .slice (some ⟨g, 0, none⟩) n cap } k) : F.own k ∨ H ≤ k := by
  rcases hk with hk | hk | hk | hk
  · exact .inl (.inl hk)
  · exact .inl (.inr (.inl hk))
  · exact .inl (.inr (.inr (.inl hk)))
  · have e : g = k := by simpa [Value.ownBlock] using hk
    subst e
    rcases h with h | h
    · exact .inl (.inr (.inr (.inr h)))
    · exact .inr h
theorem zero_write (w : World) : (zeroValue 77).run Try.prog w = .ok (.agg emptyWrite) w := (zero_of_info (P := Try.prog) (t := 77) (v := .agg emptyWrite) (n := 257) (by kernel_rfl)).1 w
theorem size_write : (Try.prog.info? 77).map (·.size) = some 257 := by kernel_rfl
theorem write_same (k : Int) : emptyWrite.size = (emptyWrite.setIfInBounds 0 (.int .i64 k)).size := Array.size_setIfInBounds.symm
theorem write_size (k : Int) : (Try.prog.info? 77).map (·.size) = some (emptyWrite.setIfInBounds 0 (.int .i64 k)).size := by
  rw [← write_same, size_write]
  simp [emptyWrite]
theorem write_one (k : Int) : (emptyWrite.setIfInBounds 0 (.int .i64 k)).all (·.oneCell') = true := by
  rw [Array.all_eq_true]
  intro i hi
  have := emptyWrite_get i k
  rw [Array.getElem?_eq_getElem hi] at this
  rcases i with _ | i
  · rw [if_pos rfl, Option.some.injEq] at this
    rw [this]
    rfl
  · rw [if_neg (by omega), if_pos (by have := write_same k; simp [emptyWrite] at this hi; omega), Option.some.injEq] at this
    rw [this]
    rfl
theorem size_block : (Try.prog.info? 75).map (·.size) = some 256 := by kernel_rfl
theorem WritePost_no {F : Foot} {d : D} {w : World} (h : Dk w F d) : Moves F d w w := ⟨F, h, rfl, fun _ hk => .inl hk, Keeps.refl _ _⟩
theorem append_base {W : World} {B : Nat} {o : Obj} (h : B ≤ W.heap.size) : B ≤ (W.drew.alloc o).heap.size := by
  rw [World.size_alloc]
  exact Nat.le_succ_of_le h
theorem write_facts {w w1 W w4 : World} {F : Foot} {d : D} {m : Nat} {g cap : Nat} (hd1 : Dk w1 F d) (hdW : Dk W F d) (hkW : Keeps F.own w W) (hsW : W.heap.size = w1.heap.size + 1) (s : ByteArray)
    (hW0 : W.heap[w1.heap.size]? = some (.cells (writeCells m s) 77 (0, 0))) (hlt : m < d.n)
    (hown : w4.ownsRow F.B 77 257 (.slice (some ⟨g, 0, none⟩) (d.late.length + 1) cap) (d.late.length + 1) (lateCells d.late ++ (writeCells m s).toList)) (hgrow : (W.drew.alloc (.cells (writeCells m s) 77)).grownBy w4 F.lv.ownBlock)
    (hat : F.lv.ownBlock = some g ∨ g = (W.drew.alloc (.cells (writeCells m s) 77)).heap.size) :
    Keeps F.own w w4 ∧ Hid (Dk ((w4.setCell ⟨F.p, 2, none⟩ (.slice (some ⟨g, 0, none⟩) (d.late.length + 1) cap)).drew.setCells F.L (m * 256) (textCells 256 s)) { F with lv := .slice (some ⟨g, 0, none⟩) (d.late.length + 1) cap } { d with late := d.late ++ [(m, filled s)] }) ∧
      Hid (w4.heap[w1.heap.size]? = some (.cells (writeCells m s) 77 (0, 0))) ∧ Hid (F.lv.ownBlock = some g ∨ w.heap.size ≤ g) ∧
      w4.frozen? ⟨F.p, 2, none⟩ = false ∧ w4.cell? ⟨F.p, 2, none⟩ = some F.lv ∧ Hid (∀ k, k = F.p ∨ k = F.S ∨ k = F.L → w4.heap[k]? = W.heap[k]?) := by
  have hk4 : Keeps F.own w w4 := (hkW.drew.alloc _).grown hgrow fun k hk => .inl (.inr (.inr (.inr hk)))
  have hsz4 : W.heap.size ≤ w4.heap.size := Nat.le_trans (by rw [World.size_alloc]; exact Nat.le_succ _) hgrow.size
  have heq4 : ∀ k, k < W.heap.size → F.lv.ownBlock ≠ some k → w4.heap[k]? = W.heap[k]? := fun k hk hne =>
    (hgrow.block k (by rw [World.size_alloc]; exact Nat.lt_succ_of_lt hk) (fun e => hne e.symm)).trans (Below.heap_alloc W.drew _ k hk)
  have heqF : ∀ k, k = F.p ∨ k = F.S ∨ k = F.L → w4.heap[k]? = W.heap[k]? := fun k hk => by
    refine heq4 k (hdW.own_lt (by rcases hk with h | h | h; exact .inl h; exact .inr (.inl h); exact .inr (.inr (.inl h)))) fun e => ?_
    obtain ⟨n1, n2, n3, _⟩ := hdW.own_ne e
    omega
  refine ⟨hk4, hdW.wrote m hlt s g cap hsz4 heqF hown, (heq4 _ (by rw [hsW]; exact Nat.lt_succ_self _) (fun e => ?_)).trans hW0, ?_, ?_, ?_, heqF⟩
  · have := DiskAt.own_lt hd1 (.inr (.inr (.inr e)))
    omega
  · rcases hat with c | c
    · exact .inl c
    · right
      rw [c, World.size_alloc]
      exact Nat.le_succ_of_le hkW.size
  · exact frozen_of_row _ _ _ _ _ ((heqF _ (.inl rfl)).trans hdW.head)
  · rw [cell_of_row _ _ _ _ _ _ ((heqF _ (.inl rfl)).trans hdW.head)]
    rfl
set_option maxHeartbeats 400000 in
theorem write_any (w : World) (F : Foot) (d : D) (k : Int) (s : ByteArray) (h : Dk w F d) (h0 : -9223372036854775808 ≤ k) (h1 : k ≤ 9223372036854775807) (hl : d.late.length < 4294967296) :
    Calls Try.prog 38 #[.pointer (some ⟨F.p, 0, none⟩), .int .i64 k, .string s] w fun e w' => e = .returned (.int .i64 (writeE d k s)) ∧ Moves F (d.write k s) w w' := by
  have hE : writeE d k s = if reachE d k = 0 then (if 256 < s.size then 21 else spendE d) else reachE d k := rfl
  have hD : d.write k s = if reachE d k = 0 then (if 256 < s.size then d else if spendE d = 0 then { d.spent with late := d.spent.late ++ [(k.toNat, filled s)] } else d.spent) else d := rfl
  have HE := Lib.hid hE
  have HD := Lib.hid hD
  clear hE hD
  rcases reachE_cases d k with ⟨a, hk, hn, _⟩ | ⟨a, _⟩ | ⟨a, _⟩
  · have hr := Lib.hid a
    clear a
    by_cases hbig : 256 < s.size
    · have hb : decide (256 < s.size) = true := by simpa using hbig
      go_enter Try.func38, Try.ntmps38
      go_wp2_with fail
      refine (reach_any _ F d _ h h0 h1).mono ?_
      rintro e _ ⟨rfl, rfl⟩
      rw [hr.out]
      go_wp2
      go_returns
      exact ⟨ret_i (by rw [HE.out, hr.out, if_pos rfl, if_pos hbig]), by rw [HD.out, hr.out, if_pos rfl, if_pos hbig]; exact WritePost_no h⟩
    · have hb : decide (256 < s.size) = false := by simpa using hbig
      have hsp : spendE d = 11 ∨ spendE d = 0 := by unfold spendE; split <;> simp
      rcases hsp with a | a
      · have hs := Lib.hid a
        clear a
        go_enter Try.func38, Try.ntmps38
        go_wp2_with fail
        refine (reach_any _ F d _ h h0 h1).mono ?_
        rintro e _ ⟨rfl, rfl⟩
        rw [hr.out]
        go_wp2_with fail
        refine (spend_any _ F d h).mono ?_
        rintro e w1 ⟨rfl, hd1, hk1⟩
        rw [hs.out]
        go_wp2
        go_returns
        exact ⟨ret_i (by rw [HE.out, hr.out, if_pos rfl, if_neg hbig, hs.out]), by
          rw [HD.out, hr.out, if_pos rfl, if_neg hbig, if_neg (by rw [hs.out]; decide)]
          exact ⟨F, hd1, rfl, fun _ hk => .inl hk, hk1.mono fun i hi => .inl (.inl hi)⟩⟩
      · have hs := Lib.hid a
        clear a
        obtain ⟨m, rfl⟩ := Int.eq_ofNat_of_zero_le hk
        rw [Int.toNat_natCast] at HD
        have hlt : m < d.spent.n := by rw [(spent_same d).1]; omega
        have hlen : d.spent.late.length < 4294967296 := by rw [(spent_same d).2.2]; exact hl
        go_enter Try.func38, Try.ntmps38
        go_wp2_with fail
        refine (reach_any _ F d _ h h0 h1).mono ?_
        rintro e _ ⟨rfl, rfl⟩
        rw [hr.out]
        go_wp2_with fail
        refine (spend_any _ F d h).mono ?_
        rintro e w1 ⟨rfl, hd1, hk1⟩
        rw [hs.out]
        have hzero := zero_write
        have hne := emptyWrite_ne
        have hcopy := copy_write (P := Try.prog) w1 78 9 3 5 77 m s Try.underlying78 (by kernel_rfl) (by omega)
        go_wp2_with (with_reducible refine wpList_store_new rfl 77 (.tmp 9) (.tmp 25) rfl emptyWrite (emptyWrite.setIfInBounds 0 (.int .i64 m)) _ rfl rfl (write_size m) (write_same m) (write_one m) ?_)
        have hW0 : (w1.alloc (.cells (writeCells m s) 77)).heap[w1.heap.size]? = some (.cells (writeCells m s) 77 (0, 0)) := heap_alloc_new _ _
        have hdW : Dk (w1.alloc (.cells (writeCells m s) 77)) F d.spent := DiskAt.below hd1 (by go_grown)
        have hkW : Keeps F.own w (w1.alloc (.cells (writeCells m s) 77)) := (hk1.mono fun i hi => .inl (.inl hi)).alloc _
        have hsW : (w1.alloc (.cells (writeCells m s) 77)).heap.size = w1.heap.size + 1 := World.size_alloc ..
        generalize w1.alloc (.cells (writeCells m s) 77) = W at *
        clear hcopy hzero hne
        have HsW := Lib.hid hsW
        have HW0 := Lib.hid hW0
        have hlw : loadMany Try.prog 77 W.drew w1.heap.size 0 = .ok (.agg (writeCells m s)) W.drew := loadMany_range (writeCells m s).toList _ (rangeAt_whole hW0) Try.underlying77 rfl (by rw [size_write, Array.length_toList, writeCells_size])
        obtain ⟨e0, e1, e2, e3, e4⟩ := DiskAt.cells hdW
        clear hW0 hsW
        have hlv : (loadS 77 (.pointer (some ⟨w1.heap.size, 0, none⟩))).run Try.prog W.drew = .ok (.agg (writeCells m s)) W.drew := hlw
        have hbv := buildS_one m s
        have hpW : F.p < W.heap.size := DiskAt.own_lt hdW (.inl rfl)
        obtain ⟨i0, hi, hz0, hz1, hz2⟩ := info_parts info_write
        have HI := Lib.hid (And.intro hi (And.intro hz0 (And.intro hz1 hz2)))
        clear hlw hi hz0 hz1 hz2
        go_region_law (refine step_append_lies _ rfl (.tmp 34) (.tmp 36) 71 rfl F.B 77 i0 _ 257 264 Try.underlying71 HI.out.1 HI.out.2.1 HI.out.2.2.1 HI.out.2.2.2 (by simp [Value.cells]) (by decide) F.lv _ _ rfl (World.ownsRow.alloc hdW.late _) _ 1 1 (writeCells m s).toList rfl (by rw [Array.length_toList, writeCells_size]) (World.news_of_block (heap_alloc_new _ _)) (writeCells_one m s) (by decide) (Nat.le_trans (Nat.succ_le_succ (Nat.le_of_lt hlen)) (by decide)) (by omega) (append_base hdW.base) _ rfl ?_; intro g cap w4 hown hgrow hat hlt4; obtain ⟨hk4, Hfin, HH4, Hg4, f4, c4, HqF⟩ := write_facts hd1 hdW hkW HsW.out s HW0.out hlt hown hgrow hat; clear hown hgrow hat)
        all_goals
          go_wp2_with fail
          have hp5 := heap_setCell_same w4 F.p 2 _ _ (.slice (some ⟨g, 0, none⟩) (d.spent.late.length + 1) cap) ((HqF.out _ (.inl rfl)).trans hdW.head)
          have hL5 : Rows 75 (w4.setCell ⟨F.p, 2, none⟩ (.slice (some ⟨g, 0, none⟩) (d.spent.late.length + 1) cap)).drew F.L d.spent.n d.spent.last :=
            Rows.keep hdW.last ((heap_setCell_other _ _ _ _ hdW.pL.symm).trans (HqF.out _ (.inr (.inr rfl))))
          have hne : w1.heap.size ≠ F.p := fun e => by
            have := DiskAt.own_lt hd1 (.inl rfl)
            omega
          have hw5 : (w4.setCell ⟨F.p, 2, none⟩ (.slice (some ⟨g, 0, none⟩) (d.spent.late.length + 1) cap)).drew.heap[w1.heap.size]? = some (.cells (writeCells m s) 77 (0, 0)) :=
            (heap_setCell_other _ _ _ _ hne).trans HH4.out
          have hk5 : Keeps F.own w (w4.setCell ⟨F.p, 2, none⟩ (.slice (some ⟨g, 0, none⟩) (d.spent.late.length + 1) cap)) := hk4.setCell (.inl (.inl rfl)) _
          have Hfin2 : DiskAt _ _ _ _ _ _ := Hfin.out
          generalize w4.setCell ⟨F.p, 2, none⟩ (.slice (some ⟨g, 0, none⟩) (d.spent.late.length + 1) cap) = w5 at *
          have hr5 : w5.drew.rangeAt w1.heap.size 1 (textCells 256 s) := fun j v hv => by
            rw [cell_of_row _ _ _ _ _ _ hw5]
            have e : (writeCells m s)[1 + j]? = (textCells 256 s)[j]? := by
              rw [Nat.add_comm]
              simp [writeCells]
            rw [e, hv]
          have hload : loadMany Try.prog 75 w5.drew w1.heap.size 1 = .ok (.agg (textCells 256 s).toArray) w5.drew := loadMany_range _ _ hr5 Try.underlying75 rfl (by rw [size_block, length_textCells])
          have hstore : storeMany Try.prog 75 w5.drew F.L (m * 256) (.agg (textCells 256 s).toArray) = .ok () (w5.drew.setCells F.L (m * 256) (textCells 256 s)) :=
            storeMany_range _ (by rw [length_textCells]; exact hL5.there hlt) (by rw [size_block, length_textCells]) (textCells_one _ _)
          have c5 : w5.cell? ⟨F.p, 1, none⟩ = some (.slice (some ⟨F.L, 0, none⟩) d.spent.n d.spent.n) := by rw [cell_of_row _ _ _ _ _ _ hp5]; rfl
          have Hfin3 := Lib.hid Hfin2
          clear Hfin Hfin2 hr5 hw5 hL5 hp5 HH4 c4 f4 HqF
          refine wp_region_still_tail 8 (by kernel_rfl) (by kernel_rfl) ?_
          simp only [List.take_succ_cons, List.take_zero, List.drop_succ_cons, List.drop_zero]
          change wpStill _ _ w5.drew _ _ _
          still_step
          still_step
          still_step
          still_step
          still_step
          still_step
          refine wpStill_loadMany rfl 75 (.tmp 45) rfl w1.heap.size 1 rfl _ hload ?_
          still_step
          refine wpStill_nil ?_
          refine wpList_storeMany rfl 75 (.tmp 47) (.tmp 46) rfl F.L (m * 256) _ rfl rfl hstore ?_
          go_wp2_with fail
          go_returns
          refine ⟨?_, ?_⟩
          · rw [HE.out, hr.out, if_pos rfl, if_neg hbig, hs.out]
            rfl
          · rw [HD.out, hr.out, if_pos rfl, if_neg hbig, hs.out, if_pos rfl]
            exact ⟨_, Hfin3.out, rfl, fun k hk => wrote_own Hg4.out hk, hk5.drew.setCells (.inl (.inr (.inr (.inl rfl)))) _ _⟩
  all_goals
    have hr := Lib.hid a
    clear a
    go_enter Try.func38, Try.ntmps38
    go_wp2_with fail
    refine (reach_any _ F d _ h h0 h1).mono ?_
    rintro e _ ⟨rfl, rfl⟩
    rw [hr.out]
    go_wp2
    go_returns
    exact ⟨ret_i (by rw [HE.out, hr.out, if_neg (by decide)]), by rw [HD.out, hr.out, if_neg (by decide)]; exact WritePost_no h⟩
end Go.Proofs.Ytfcicpcpdklceaa
