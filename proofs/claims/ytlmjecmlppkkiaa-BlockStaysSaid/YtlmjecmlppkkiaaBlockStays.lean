/- What was flushed stays through every crash, in each block that was not written since, and a crash behind a crash changes nothing; and the chapter's example holds: for all lists of acts and both crashes. Conditions: none. -/
import Derived.Test.YtlmjecmlppkkiaaBlkH
import Derived.Test.YtlmjecmlppkkiaaActs
import Derived.Test.YtlmjecmlppkkiaaLaw
import Derived.BigQuiet
import Derived.Deep.QuietTactic
import Derived.Lib.QuietBelow
import Derived.Deep.DeepCutAuto
import Derived.Deep.CutBlock
namespace Go.Proofs.Ytlmjecmlppkkiaa.blockStays
open Go.ChangeShapes Go.WideShapes Go.ChangeAt Go.RowKit Go.PlainAid
open Go.ChangeMaps (open_string)
open Go.Sort (grow)

theorem own : ownKnob Try.prog.godebug = none := by kernel_rfl
theorem laidOut : laidOutB Try.prog = true := by kernel_rfl
theorem cellsAt {W : World} {b : Nat} {cs : List Value} {t : TypeId} {fr : Nat × Nat} (h : W.heap[b]? = some (.cells cs.toArray t fr)) (i : Nat) (v : Value) (hv : cs[i]? = some v) : W.cell? ⟨b, i, none⟩ = some v := by
  rw [cell_of_row _ _ _ _ _ _ h]
  simpa using hv
/-- Six bools, as cells. -/
def sixB (f : Nat → Bool) : Array Value := #[.bool (f 0), .bool (f 1), .bool (f 2), .bool (f 3), .bool (f 4), .bool (f 5)]
theorem sixB_get (f : Nat → Bool) {j : Nat} (h : j < 6) : (sixB f)[j]? = some (.bool (f j)) := by
  match j, h with
  | 0, _ => rfl | 1, _ => rfl | 2, _ => rfl | 3, _ => rfl | 4, _ => rfl | 5, _ => rfl
def updB (f : Nat → Bool) (k : Nat) (b : Bool) : Nat → Bool := fun i => if i = k then b else f i
theorem sixB_set (f : Nat → Bool) (b : Bool) {j : Nat} (h : j < 6) : (sixB f).setIfInBounds j (.bool b) = sixB (updB f j b) := by
  match j, h with
  | 0, _ => rfl | 1, _ => rfl | 2, _ => rfl | 3, _ => rfl | 4, _ => rfl | 5, _ => rfl
structure LInv (k : Nat) (d : D) : Prop where
  six : d.n = 6
  free : d.free
  late : d.late.length ≤ k
/-- Behind k late writes: what is safe is as it was, and whatever was written is marked. -/
structure StayInv (s0 : Nat → ByteArray) (tb : Nat → Bool) (k : Nat) (d : D) : Prop where
  six : d.n = 6
  free : d.free
  late : d.late.length ≤ k
  safe : d.safe = s0
  mark : ∀ x ∈ d.late, tb x.1 = true
theorem write_two {d : D} (hf : d.free) (h6 : d.n = 6) (a : Int) (s : ByteArray) :
    (d.write a s = d ∧ (writeE d a s = 10 ∨ writeE d a s = 21)) ∨ (∃ j : Nat, j < 6 ∧ a = (j : Int) ∧ writeE d a s = 0 ∧ d.write a s = { d with late := d.late ++ [(j, filled s)] }) := by
  by_cases c : (0 ≤ a ∧ a < 6) ∧ s.size ≤ 256
  · obtain ⟨⟨c1, c2⟩, c3⟩ := c
    obtain ⟨j, rfl⟩ := Int.eq_ofNat_of_zero_le c1
    have hn : (j : Int) < (d.n : Int) := by rw [h6]; exact c2
    refine .inr ⟨j, by omega, rfl, free_writeE hf c1 hn c3, ?_⟩
    have := free_write hf c1 hn c3
    rwa [Int.toNat_natCast] at this
  · exact .inl (free_write_no hf (by rw [h6]; omega))
theorem l_write {k : Nat} {d : D} (h : LInv k d) (a : Int) (s : ByteArray) : LInv (k + 1) (d.write a s) := by
  rcases write_two h.free h.six a s with ⟨e, _⟩ | ⟨j, _, _, _, e⟩
  · rw [e]
    exact ⟨h.six, h.free, Nat.le_succ_of_le h.late⟩
  · rw [e]
    refine ⟨h.six, h.free, ?_⟩
    show (d.late ++ [(j, filled s)]).length ≤ k + 1
    rw [List.length_append]
    exact Nat.succ_le_succ h.late
theorem stay_good {s0 : Nat → ByteArray} {tb : Nat → Bool} {k : Nat} {d : D} (h : StayInv s0 tb k d) (j : Nat) (s : ByteArray) : StayInv s0 (updB tb j true) (k + 1) { d with late := d.late ++ [(j, filled s)] } := by
  refine ⟨h.six, h.free, ?_, h.safe, fun x hx => ?_⟩
  · show (d.late ++ [(j, filled s)]).length ≤ k + 1
    rw [List.length_append]
    exact Nat.succ_le_succ h.late
  · rcases List.mem_append.1 hx with hx | hx
    · unfold updB
      split
      · rfl
      · exact h.mark x hx
    · rw [List.mem_singleton] at hx
      subst hx
      exact if_pos rfl
theorem stay_bad {s0 : Nat → ByteArray} {tb : Nat → Bool} {k : Nat} {d : D} (h : StayInv s0 tb k d) : StayInv s0 tb (k + 1) d := ⟨h.six, h.free, Nat.le_succ_of_le h.late, h.safe, h.mark⟩
theorem stay_crash {s0 : Nat → ByteArray} {tb : Nat → Bool} {k : Nat} {d : D} (h : StayInv s0 tb k d) (m t c : Int) (j : Nat) (hj : tb j = false) : (d.crash m t c).last j = s0 j := by
  show d.crashTo m t c d.late.length j = s0 j
  rw [D.crashTo_off m t c j (fun x hx e => by have := h.mark x hx; rw [e, hj] at this; cases this), h.safe]
theorem crash_twice (d : D) (m t c m' t' c' : Int) : ((d.crash m t c).crash m' t' c').last = (d.crash m t c).last := rfl
set_option maxRecDepth 100000 in
set_option maxHeartbeats 4000000 in
theorem walk (w : World) (v0 : Value) (l0 : List ActV) (h0 : ActsIn w v0 l0) (v1 : Value) (l1 : List ActV) (h1 : ActsIn w v1 l1) (a2 : ActV) (w2 : a2.Wf) (a3 : ActV) (w3 : a3.Wf) :
    Calls Try.prog 5 #[v0, v1, .agg a2.cells.toArray, .agg a3.cells.toArray] w fun e w' => e = .returned (.bool true) ∧ Below w.heap.size w w' := by
  obtain ⟨⟨bk2, ck2⟩, ⟨ba2, ca2⟩, sd2, ⟨bm2, cm2⟩, ⟨bt2, ct2⟩, ⟨bc2, cc2⟩⟩ := w2
  obtain ⟨⟨bk3, ck3⟩, ⟨ba3, ca3⟩, sd3, ⟨bm3, cm3⟩, ⟨bt3, ct3⟩, ⟨bc3, cc3⟩⟩ := w3
  have hv : ∃ ao cap, v0 = .slice ao l0.length cap := by
    rcases h0 with ⟨rfl, ao, cap, rfl⟩ | ⟨b, o, cap, rfl, _⟩
    · exact ⟨_, _, rfl⟩
    · exact ⟨_, _, rfl⟩
  obtain ⟨ao, cap, rfl⟩ := hv
  have hlen : (l0.length : Int) ≤ 9223372036854775807 := by
    rcases h0 with ⟨rfl, _⟩ | ⟨_, _, _, _, _, _, hm, _⟩
    · decide
    · exact hm
  have hv' : ∃ ao cap, v1 = .slice ao l1.length cap := by
    rcases h1 with ⟨rfl, ao, cap, rfl⟩ | ⟨b, o, cap, rfl, _⟩
    · exact ⟨_, _, rfl⟩
    · exact ⟨_, _, rfl⟩
  obtain ⟨ao', cap', rfl⟩ := hv'
  have hlen' : (l1.length : Int) ≤ 9223372036854775807 := by
    rcases h1 with ⟨rfl, _⟩ | ⟨_, _, _, _, _, _, hm, _⟩
    · decide
    · exact hm
  have hb0 : Below w.heap.size w ((w.alloc (.cells a2.cells.toArray 39)).alloc (.cells a3.cells.toArray 39)) := by go_grown
  have q2 := heap_alloc2_old w (.cells a2.cells.toArray 39) (.cells a3.cells.toArray 39)
  have q3 := heap_alloc2_new w (.cells a2.cells.toArray 39) (.cells a3.cells.toArray 39)
  have HQ2 := Lib.hid q2
  have HQ3 := Lib.hid q3
  have H0 := Lib.hid (h0.on hb0)
  have H0' := Lib.hid (h1.on hb0)
  clear h0 h1 q2 q3
  go_enter Try.func5, Try.ntmps5
  go_wp2_with fail
  generalize (w.alloc (.cells a2.cells.toArray 39)).alloc (.cells a3.cells.toArray 39) = W at *
  refine (some_any _).mono ?_
  rintro e w1 ⟨p, rfl, H1⟩
  go_upto_block 0 with (fail)
  go_cut [10] (fun s10 w' => ∃ d, OwnL W p d [] w' ∧ LInv 60 d)
  case first =>
    go_wp2_with fail
    go_loopw [10] (fun i wr => ∃ (k : Nat) (d : D), k ≤ l0.length ∧ k ≤ 60 ∧ i = .int .i64 k ∧ OwnL W p d [] wr ∧ LInv k d) (fun i _ => l0.length - (intOf i).toNat)
    case atStart => exact ⟨0, newD 6, Nat.zero_le _, by omega, rfl, H1.owns, ⟨rfl, newD_free 6, Nat.le_refl _⟩⟩
    case round =>
      obtain ⟨k, d, hk, hk60, rfl, Hd, hinv⟩ := hrel
      have HI := Lib.hid hinv
      have hl2 : d.late.length < 4294967295 := by have := hinv.late; omega
      clear hinv
      by_cases hlt : k < l0.length ∧ k < 60
      · obtain ⟨hlt1, hlt2⟩ := hlt
        obtain ⟨x, hx⟩ : ∃ x, l0[k]? = some x := ⟨_, List.getElem?_eq_getElem hlt1⟩
        rcases H0.out with ⟨rfl, _⟩ | ⟨b, o, cap', hvv, hbl, _, _, hr⟩
        · simp at hlt1
        · cases hvv
          obtain ⟨hxw, hxr⟩ := hr k x hx
          obtain ⟨_, ⟨ba0, ca0⟩, sd0, _, _, _⟩ := hxw
          have hxr2 := rangeAt_keep hxr (Hd.below.block b hbl)
          have e1 := hxr2 1 _ rfl
          have e2 := hxr2 2 _ rfl
          clear hr hxr hxr2 hx
          obtain ⟨xk, xa, xd, xm, xt, xc⟩ := x
          simp only at *
          go_wp2_with fail
          go_still_tail 11, (by kernel_rfl)
          go_wp2_with fail
          refine (q_write (Hd.on (by go_grown)) xa xd (by omega) (by omega) (by omega)).mono ?_
          rintro e w3 ⟨rfl, H3⟩
          have HI2 := Lib.hid (l_write HI.out xa xd)
          generalize writeE d xa xd = we at *
          go_wp2
          go_roundw
          case rel => exact ⟨k + 1, _, by omega, by omega, by go_num, H3, HI2.out⟩
          case measure => simp [intOf]; omega
      · by_cases hlt1 : k < l0.length
        · have hlt2 : ¬ k < 60 := by omega
          have hb3 : decide ((k : Int) < 60) = false := by simp; omega
          go_wp2
          go_meet
          case rel => exact ⟨d, Hd, HI.out.six, HI.out.free, Nat.le_trans HI.out.late hk60⟩
        · go_wp2
          go_meet
          case rel => exact ⟨d, Hd, HI.out.six, HI.out.free, Nat.le_trans HI.out.late hk60⟩
  case rest =>
    obtain ⟨d, Hd, hinv⟩ := hcut
    go_wp2_with fail
    refine (qf_flush Hd hinv.free (Nat.lt_of_le_of_lt hinv.late (by decide))).mono ?_
    rintro e w2 ⟨rfl, H2⟩
    obtain ⟨s0, hs0⟩ : ∃ s0, s0 = d.last := ⟨_, rfl⟩
    obtain ⟨d1, hd1⟩ : ∃ d1, d1 = d.flushed := ⟨_, rfl⟩
    have hone : d1.n = 6 ∧ d1.free ∧ d1.late = [] ∧ d1.safe = s0 ∧ d1.last = s0 := by
      subst hd1 hs0
      exact ⟨hinv.six, hinv.free, rfl, rfl, rfl⟩
    rw [← hd1] at H2
    have HO := Lib.hid hone
    clear hone hd1 hs0 hinv Hd
    have HS := H2.alloc (.cells (six fun _ => ⟨#[]⟩) 46 (0, 0))
    have hqs : W.heap.size ≤ w2.heap.size := H2.below.size
    have HqS := Lib.hid hqs
    go_wp2_with fail
    change Code.wp _ _ _ _ (w2.alloc (.cells (six fun _ => ⟨#[]⟩) 46))
    generalize w2.alloc (.cells (six fun _ => ⟨#[]⟩) 46) = w3 at *
    clear H2 hqs
    generalize w2.heap.size = S at *
    go_loopw [12] (fun i wr => ∃ (m : Nat) (g : Nat → ByteArray), m ≤ 6 ∧ i = .int .i64 m ∧ OwnL W p d1 [(S, .cells (six g) 46 (0, 0))] wr ∧ ∀ j, j < m → g j = s0 j) (fun i _ => 6 - (intOf i).toNat)
    case atStart => exact ⟨0, _, Nat.zero_le _, rfl, HS, fun j hj => absurd hj (Nat.not_lt_zero _)⟩
    case round =>
      obtain ⟨m, g, hm, rfl, Hm, hg⟩ := hrel
      have HG := Lib.hid hg
      clear hg
      by_cases hm6 : m < 6
      · have hq3 := Hm.mem (List.mem_cons_self)
        have hc3 : wr.cell? ⟨S, m, none⟩ = some (.string (g m)) := by rw [cell_of_row _ _ _ _ _ _ hq3]; exact six_get g hm6
        have hf3 : wr.frozen? ⟨S, m, none⟩ = false := frozen_of_row _ _ _ _ _ hq3
        have hn : (m : Int) < (d1.n : Int) := by rw [HO.out.1]; omega
        have HN := Lib.hid hn
        clear hq3 hn
        go_wp2_with fail
        refine (qf_read Hm HO.out.2.1 (m : Int) (by omega) HN.out).mono ?_
        rintro e _ ⟨rfl, rfl⟩
        rw [Int.toNat_natCast, HO.out.2.2.2.2]
        have H4 : OwnL W p d1 [(S, .cells (six (upd g m (s0 m))) 46 (0, 0))] (wr.setCell ⟨S, m, none⟩ (.string (s0 m))) :=
          Hm.set (List.mem_cons_self) HqS.out _ (fun y hy => .inl (by rw [List.mem_singleton] at hy; rw [hy, six_set g _ hm6]))
        go_wp2
        go_roundw
        case rel =>
          refine ⟨m + 1, _, by omega, by go_num, H4, fun j hj => ?_⟩
          by_cases e : j = m
          · rw [e, upd_same]
          · rw [upd_other _ _ e]; exact HG.out j (by omega)
        case measure => simp [intOf]; omega
      · have hm7 : m = 6 := by omega
        subst hm7
        rw [show ((6 : Nat) : Int) = 6 from rfl]
        have HT := Hm.alloc (.cells (sixB fun _ => false) 51 (0, 0))
        have hqt : W.heap.size ≤ wr.heap.size := Hm.below.size
        have HqT := Lib.hid hqt
        have hST : S < wr.heap.size := heap_lt (Hm.mem (List.mem_cons_self))
        have HST := Lib.hid hST
        clear hST hqt
        go_upto_block 4 with (fail)
        change Code.wp _ _ _ _ (wr.alloc (.cells (sixB fun _ => false) 51))
        generalize wr.alloc (.cells (sixB fun _ => false) 51) = w4 at *
        clear Hm
        generalize wr.heap.size = T at *
        go_cut [16] (fun s16 w' => ∃ d tb, OwnL W p d [(T, .cells (sixB tb) 51 (0, 0)), (S, .cells (six g) 46 (0, 0))] w' ∧ StayInv s0 tb 60 d)
        case first =>
          go_wp2_with fail
          go_loopw [16] (fun i wr => ∃ (k : Nat) (d : D) (tb : Nat → Bool), k ≤ l1.length ∧ k ≤ 60 ∧ i = .int .i64 k ∧ OwnL W p d [(T, .cells (sixB tb) 51 (0, 0)), (S, .cells (six g) 46 (0, 0))] wr ∧ StayInv s0 tb k d) (fun i _ => l1.length - (intOf i).toNat)
          case atStart => exact ⟨0, d1, _, Nat.zero_le _, by omega, rfl, HT, HO.out.1, HO.out.2.1, by rw [HO.out.2.2.1]; exact Nat.le_refl _, HO.out.2.2.2.1, fun x hx => by rw [HO.out.2.2.1] at hx; cases hx⟩
          case round =>
            obtain ⟨k, d, tb, hk, hk60, rfl, Hd, hinv⟩ := hrel
            have HI := Lib.hid hinv
            have hl2 : d.late.length < 4294967295 := by have := hinv.late; omega
            clear hinv
            by_cases hlt : k < l1.length ∧ k < 60
            · obtain ⟨hlt1, hlt2⟩ := hlt
              obtain ⟨x, hx⟩ : ∃ x, l1[k]? = some x := ⟨_, List.getElem?_eq_getElem hlt1⟩
              rcases H0'.out with ⟨rfl, _⟩ | ⟨b, o, cap', hvv, hbl, _, _, hr⟩
              · simp at hlt1
              · cases hvv
                obtain ⟨hxw, hxr⟩ := hr k x hx
                obtain ⟨_, ⟨ba0, ca0⟩, sd0, _, _, _⟩ := hxw
                have hxr2 := rangeAt_keep hxr (Hd.below.block b hbl)
                have e1 := hxr2 1 _ rfl
                have e2 := hxr2 2 _ rfl
                clear hr hxr2 hx
                obtain ⟨xk, xa, xd, xm, xt, xc⟩ := x
                simp only at *
                rcases write_two HI.out.free HI.out.six xa xd with hw | ⟨j, hj, rfl, hw1, hw2⟩
                · have HB := Lib.hid hw.1
                  rcases hw.2 with hE | hE
                  · have HE := Lib.hid hE
                    clear hE hw
                    go_wp2_with fail
                    go_still_tail 11, (by kernel_rfl)
                    go_wp2_with fail
                    refine (q_write (Hd.on (by go_grown)) xa xd (by omega) (by omega) (by omega)).mono ?_
                    rintro e w3 ⟨rfl, H3⟩
                    rw [HB.out] at H3
                    rw [HE.out]
                    go_wp2
                    go_roundw
                    case rel => exact ⟨k + 1, _, _, by omega, by omega, by go_num, H3, stay_bad HI.out⟩
                    case measure => simp [intOf]; omega
                  · have HE := Lib.hid hE
                    clear hE hw
                    go_wp2_with fail
                    go_still_tail 11, (by kernel_rfl)
                    go_wp2_with fail
                    refine (q_write (Hd.on (by go_grown)) xa xd (by omega) (by omega) (by omega)).mono ?_
                    rintro e w3 ⟨rfl, H3⟩
                    rw [HB.out] at H3
                    rw [HE.out]
                    go_wp2
                    go_roundw
                    case rel => exact ⟨k + 1, _, _, by omega, by omega, by go_num, H3, stay_bad HI.out⟩
                    case measure => simp [intOf]; omega
                · have HE := Lib.hid hw1
                  have HB := Lib.hid hw2
                  clear hw1 hw2
                  go_wp2_with fail
                  go_still_tail 11, (by kernel_rfl)
                  go_wp2_with fail
                  refine (q_write (Hd.on (by go_grown)) (j : Int) xd (by omega) (by omega) (by omega)).mono ?_
                  rintro e w3 ⟨rfl, H3⟩
                  rw [HB.out] at H3
                  rw [HE.out]
                  have f1 := rangeAt_keep hxr (H3.below.block b hbl) 1 _ rfl
                  have hqT := H3.mem (List.mem_cons_self)
                  have hcT : w3.cell? ⟨T, j, none⟩ = some (.bool (tb j)) := by rw [cell_of_row _ _ _ _ _ _ hqT]; exact sixB_get tb hj
                  have hfT : w3.frozen? ⟨T, j, none⟩ = false := frozen_of_row _ _ _ _ _ hqT
                  have H4 : OwnL W p { d with late := d.late ++ [(j, filled xd)] } [(T, .cells (sixB (updB tb j true)) 51 (0, 0)), (S, .cells (six g) 46 (0, 0))] (w3.setCell ⟨T, j, none⟩ (.bool true)) :=
                    H3.set (List.mem_cons_self) HqT.out _ (fun y hy => by
                      rcases List.mem_cons.1 hy with rfl | hy
                      · left; rw [sixB_set tb true hj]
                      · right; exact ⟨List.mem_cons_of_mem _ hy, by rw [List.mem_singleton] at hy; rw [hy]; exact Nat.ne_of_lt HST.out⟩)
                  have HI2 := Lib.hid (stay_good HI.out j xd)
                  clear hqT
                  go_wp2
                  go_roundw
                  case rel => exact ⟨k + 1, _, _, by omega, by omega, by go_num, H4, HI2.out⟩
                  case measure => simp [intOf]; omega
            · by_cases hlt1 : k < l1.length
              · have hlt2 : ¬ k < 60 := by omega
                have hb3 : decide ((k : Int) < 60) = false := by simp; omega
                go_wp2
                go_meet
                case rel => exact ⟨d, tb, Hd, HI.out.six, HI.out.free, Nat.le_trans HI.out.late hk60, HI.out.safe, HI.out.mark⟩
              · go_wp2
                go_meet
                case rel => exact ⟨d, tb, Hd, HI.out.six, HI.out.free, Nat.le_trans HI.out.late hk60, HI.out.safe, HI.out.mark⟩
        case rest =>
          obtain ⟨d, tb, Hd, hinv⟩ := hcut
          have hbW := Hd.below
          have mk0 := (hbW.cell (p := ⟨w.heap.size, 3, none⟩) (heap_lt HQ2.out)).trans (cellsAt HQ2.out 3 _ rfl)
          have mk1 := (hbW.cell (p := ⟨w.heap.size, 4, none⟩) (heap_lt HQ2.out)).trans (cellsAt HQ2.out 4 _ rfl)
          have mk2 := (hbW.cell (p := ⟨w.heap.size, 5, none⟩) (heap_lt HQ2.out)).trans (cellsAt HQ2.out 5 _ rfl)
          have HI := Lib.hid hinv
          clear hinv hbW
          go_wp2_with fail
          refine (q_crash Hd a2.mask a2.torn a2.cut (Nat.lt_of_le_of_lt HI.out.late (by decide)) bm2 cm2 bt2 ct2 bc2 cc2).mono ?_
          rintro e w5 ⟨rfl, H5⟩
          obtain ⟨d2, hd2⟩ : ∃ d2, d2 = d.crash a2.mask a2.torn a2.cut := ⟨_, rfl⟩
          have htwo : d2.n = 6 ∧ d2.free ∧ d2.late = [] ∧ (∀ j, tb j = false → d2.last j = s0 j) ∧ (∀ m t c, (d2.crash m t c).last = d2.last) := by
            subst hd2
            exact ⟨HI.out.six, ⟨rfl, rfl⟩, rfl, fun j hj => stay_crash HI.out _ _ _ j hj, fun m t c => crash_twice _ _ _ _ _ _ _⟩
          rw [← hd2] at H5
          have H2O := Lib.hid htwo
          clear htwo hd2 mk0 mk1 mk2 Hd HI
          have HN := H5.alloc (.cells (six fun _ => ⟨#[]⟩) 46 (0, 0))
          have hqn : W.heap.size ≤ w5.heap.size := H5.below.size
          have hSN : S < w5.heap.size := heap_lt (H5.mem (List.mem_cons_of_mem _ List.mem_cons_self))
          have hTN : T < w5.heap.size := heap_lt (H5.mem (List.mem_cons_self))
          have HqN := Lib.hid hqn
          have HSN := Lib.hid hSN
          have HTN := Lib.hid hTN
          clear hqn hSN hTN
          go_wp2_with fail
          change Code.wp _ _ _ _ (w5.alloc (.cells (six fun _ => ⟨#[]⟩) 46))
          generalize w5.alloc (.cells (six fun _ => ⟨#[]⟩) 46) = w6 at *
          clear H5
          generalize w5.heap.size = N at *
          go_loopw [18] (fun i wr => ∃ (m : Nat) (g2 : Nat → ByteArray), m ≤ 6 ∧ i = .int .i64 m ∧ OwnL W p d2 [(N, .cells (six g2) 46 (0, 0)), (T, .cells (sixB tb) 51 (0, 0)), (S, .cells (six g) 46 (0, 0))] wr ∧ ∀ j, j < m → g2 j = d2.last j) (fun i _ => 6 - (intOf i).toNat)
          case atStart => exact ⟨0, _, Nat.zero_le _, rfl, HN, fun j hj => absurd hj (Nat.not_lt_zero _)⟩
          case round =>
            obtain ⟨m, g2, hm, rfl, Hm, hg2⟩ := hrel
            have HG2 := Lib.hid hg2
            clear hg2
            by_cases hm6 : m < 6
            · have hq3 := Hm.mem (List.mem_cons_self)
              have hc3 : wr.cell? ⟨N, m, none⟩ = some (.string (g2 m)) := by rw [cell_of_row _ _ _ _ _ _ hq3]; exact six_get g2 hm6
              have hf3 : wr.frozen? ⟨N, m, none⟩ = false := frozen_of_row _ _ _ _ _ hq3
              have hn : (m : Int) < (d2.n : Int) := by rw [H2O.out.1]; omega
              have hszz : (d2.last m).size = 256 := Hm.wf.last m (by omega)
              have HN2 := Lib.hid hn
              have H4 : OwnL W p d2 [(N, .cells (six (upd g2 m (d2.last m))) 46 (0, 0)), (T, .cells (sixB tb) 51 (0, 0)), (S, .cells (six g) 46 (0, 0))] (wr.setCell ⟨N, m, none⟩ (.string (d2.last m))) :=
                Hm.set (List.mem_cons_self) HqN.out _ (fun y hy => by
                  rcases List.mem_cons.1 hy with rfl | hy
                  · left; rw [six_set g2 _ hm6]
                  · right
                    refine ⟨List.mem_cons_of_mem _ hy, ?_⟩
                    rcases List.mem_cons.1 hy with rfl | hy
                    · exact Nat.ne_of_lt HTN.out
                    · rw [List.mem_singleton] at hy
                      rw [hy]
                      exact Nat.ne_of_lt HSN.out)
              have hT4 := H4.mem (List.mem_cons_of_mem _ List.mem_cons_self)
              have hS4 := H4.mem (List.mem_cons_of_mem _ (List.mem_cons_of_mem _ List.mem_cons_self))
              have cT4 : (wr.setCell ⟨N, m, none⟩ (.string (d2.last m))).cell? ⟨T, m, none⟩ = some (.bool (tb m)) := by rw [cell_of_row _ _ _ _ _ _ hT4]; exact sixB_get tb hm6
              have cS4 : (wr.setCell ⟨N, m, none⟩ (.string (d2.last m))).cell? ⟨S, m, none⟩ = some (.string (g m)) := by rw [cell_of_row _ _ _ _ _ _ hS4]; exact six_get g hm6
              have bz : (((d2.last m).size : Int) != 256) = false := by rw [hszz]; rfl
              have CT := Lib.hid cT4
              have CS := Lib.hid cS4
              clear hq3 hn hT4 hS4 hszz cT4 cS4
              have hsame : Hid (tb m = false → ((d2.last m).toList == (g m).toList) = true) := fun hb => by
                rw [H2O.out.2.2.2.1 m hb, ← HG.out m hm6]
                simp
              go_wp2_with fail
              refine (qf_read Hm H2O.out.2.1 (m : Int) (by omega) HN2.out).mono ?_
              rintro e _ ⟨rfl, rfl⟩
              rw [Int.toNat_natCast]
              generalize hz : d2.last m = z at *
              have HZ := Lib.hid hz
              clear hz
              cases hb : tb m
              · have hsm := hsame.out hb
                have cT := CT.out
                have cS := CS.out
                rw [hb] at cT
                clear hb
                go_wp2
                go_roundw
                case rel =>
                  refine ⟨m + 1, _, by omega, by go_num, H4, fun j hj => ?_⟩
                  by_cases e : j = m
                  · rw [e, upd_same, HZ.out]
                  · rw [upd_other _ _ e]; exact HG2.out j (by omega)
                case measure => simp [intOf]; omega
              · have cT := CT.out
                have cS := CS.out
                rw [hb] at cT
                clear hb
                go_wp2
                go_roundw
                case rel =>
                  refine ⟨m + 1, _, by omega, by go_num, H4, fun j hj => ?_⟩
                  by_cases e : j = m
                  · rw [e, upd_same, HZ.out]
                  · rw [upd_other _ _ e]; exact HG2.out j (by omega)
                case measure => simp [intOf]; omega
            · have hm7 : m = 6 := by omega
              subst hm7
              rw [show ((6 : Nat) : Int) = 6 from rfl]
              have hbW := Hm.below
              have mk0 := (hbW.cell (p := ⟨w.heap.size + 1, 3, none⟩) (heap_lt HQ3.out)).trans (cellsAt HQ3.out 3 _ rfl)
              have mk1 := (hbW.cell (p := ⟨w.heap.size + 1, 4, none⟩) (heap_lt HQ3.out)).trans (cellsAt HQ3.out 4 _ rfl)
              have mk2 := (hbW.cell (p := ⟨w.heap.size + 1, 5, none⟩) (heap_lt HQ3.out)).trans (cellsAt HQ3.out 5 _ rfl)
              clear hbW
              go_wp2_with fail
              refine (q_crash Hm a3.mask a3.torn a3.cut (by rw [H2O.out.2.2.1]; decide) bm3 cm3 bt3 ct3 bc3 cc3).mono ?_
              rintro e w7 ⟨rfl, H7⟩
              obtain ⟨d3, hd3⟩ : ∃ d3, d3 = d2.crash a3.mask a3.torn a3.cut := ⟨_, rfl⟩
              have hthree : d3.n = 6 ∧ d3.free ∧ d3.last = d2.last := by
                subst hd3
                exact ⟨H2O.out.1, ⟨rfl, rfl⟩, H2O.out.2.2.2.2 _ _ _⟩
              rw [← hd3] at H7
              have H3O := Lib.hid hthree
              clear hthree hd3 mk0 mk1 mk2 Hm
              go_wp2_with fail
              go_loopw [21] (fun i wr => ∃ (m : Nat), m ≤ 6 ∧ i = .int .i64 m ∧ OwnL W p d3 [(N, .cells (six g2) 46 (0, 0)), (T, .cells (sixB tb) 51 (0, 0)), (S, .cells (six g) 46 (0, 0))] wr) (fun i _ => 6 - (intOf i).toNat)
              case atStart => exact ⟨0, Nat.zero_le _, rfl, H7⟩
              case round =>
                obtain ⟨m, hm, rfl, Hm⟩ := hrel
                by_cases hm6 : m < 6
                · have hq3 := Hm.mem (List.mem_cons_self)
                  have hc3 : wr.cell? ⟨N, m, none⟩ = some (.string (g2 m)) := by rw [cell_of_row _ _ _ _ _ _ hq3]; exact six_get g2 hm6
                  have hn : (m : Int) < (d3.n : Int) := by rw [H3O.out.1]; omega
                  have HN3 := Lib.hid hn
                  have hl : d3.last m = g2 m := by rw [H3O.out.2.2, HG2.out m hm6]
                  have HL := Lib.hid hl
                  have hqq : ((g2 m).toList != (g2 m).toList) = false := by simp
                  clear hq3 hn hl
                  go_wp2_with fail
                  refine (qf_read Hm H3O.out.2.1 (m : Int) (by omega) HN3.out).mono ?_
                  rintro e _ ⟨rfl, rfl⟩
                  rw [Int.toNat_natCast, HL.out]
                  go_wp2
                  go_roundw
                  case rel => exact ⟨m + 1, by omega, by go_num, Hm⟩
                  case measure => simp [intOf]; omega
                · go_wp2_with fail
                  refine (awake_any _).mono ?_
                  rintro e w8 ⟨rfl, hb8⟩
                  go_wp2
                  go_returns
                  exact ⟨rfl, hb0.on (Hm.below.on hb8)⟩

set_option maxRecDepth 100000 in
theorem lifted (os : Os) (started : os.Started) (H : Type) (enc : TypeId × Value → H) :
    ReturnsInHanded {} Try.checked os 5 .any (Rows.blockStaysSpec.pre6 enc Try.prog Try.f5 Rows.blockStaysRow.domain false) (Rows.blockStaysSpec.post enc Try.prog Try.f5 false true false false) := by
  refine law_lift (C := Try.checked) own started (by kernel_rfl) Try.func5 laidOut (by kernel_rfl) rfl Try.underlying4 rfl
    (fun ds h => match ds, h with | [_, _, _, _], _ => rfl)
    (ChangeSpec.witness6 (enc := enc) (C := Try.checked) false ⟨#[], #[.slice none 0 0, .slice none 0 0, .agg (ActV.cells ⟨0, 0, ByteArray.empty, 0, 0, 0⟩).toArray, .agg (ActV.cells ⟨0, 0, ByteArray.empty, 0, 0, 0⟩).toArray], []⟩ 8 (by kernel_rfl) (by kernel_rfl) (by kernel_rfl) (by kernel_rfl)) ?_
  intro W base args ds ps hval hA hsz
  rw [Try.params5] at hA hval hsz
  obtain ⟨v0, vs0, d0, ds0, p0, q0, hargs, rfl, rfl, h0, r0⟩ := trodAll_cons hA
  obtain ⟨v1, vs1, d1, ds1, p1, q1, rfl, rfl, rfl, h1, r1⟩ := trodAll_cons r0
  obtain ⟨v2, vs2, d2, ds2, p2, q2, rfl, rfl, rfl, h2, r2⟩ := trodAll_cons r1
  obtain ⟨v3, vs3, d3, ds3, p3, q3, rfl, rfl, rfl, h3, r3⟩ := trodAll_cons r2
  obtain ⟨rfl, rfl, rfl⟩ := trodAll_nil r3
  obtain rfl : args = #[v0, v1, v2, v3] := by cases args; simp_all
  obtain ⟨l0, hl0⟩ := acts_open (hval 0 22 v0 rfl rfl) h0
  obtain ⟨l1, hl1⟩ := acts_open (hval 1 22 v1 rfl rfl) h1
  obtain ⟨a2, rfl, w2⟩ := act_open (hval 2 39 v2 rfl rfl) h2
  obtain ⟨a3, rfl, w3⟩ := act_open (hval 3 39 v3 rfl rfl) h3
  exact walk W v0 l0 hl0 v1 l1 hl1 a2 w2 a3 w3

theorem over : Rows.blockStaysRow.holds Try.pinned (OpenSpec.ofChange Rows.blockStaysSpec) :=
  OpenClaim.holds_of_wide 5 Try.f5 rfl rfl rfl rfl rfl rfl rfl ⟨rfl, rfl, rfl, rfl, rfl⟩ rfl rfl rfl rfl rfl (by kernel_rfl) Try.func5 (by kernel_rfl)
    (of_decide_eq_true (by kernel_rfl)) (by unfold Func.isWrapper; first | (rw [if_pos (by decide +kernel)]; kernel_rfl) | (rw [if_neg (by decide +kernel)]; exact ⟨rfl, rfl⟩))
    (fun os started H enc _ => lifted os started H enc)

theorem proved : Rows.BlockStaysSaid :=
  over
end Go.Proofs.Ytlmjecmlppkkiaa.blockStays
