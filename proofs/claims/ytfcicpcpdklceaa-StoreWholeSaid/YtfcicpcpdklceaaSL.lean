/- Package store: fits, last. -/
import Derived.Test.YtfcicpcpdklceaaSK
namespace Go.Proofs.Ytfcicpcpdklceaa
set_option maxRecDepth 100000
open Go.ChangeShapes Go.WideShapes Go.ChangeAt Go.RowKit Go.PlainAid Go.ChangeMaps Go.MapKept
open Go.Sort (grow)

/-- A head may stand in block k of a disk of n. -/
structure Fits (h : Hd) (k n : Nat) : Prop where
  seq : h.seq % 2 = k
  room : 1 ≤ h.room
  pages : 1 ≤ h.pages
  pages1 : h.pages ≤ 1024
  used : h.used ≤ h.room
  all : 2 + h.room + h.pages ≤ n
  seq1 : h.seq ≤ 1000000
set_option maxHeartbeats 1000000 in
theorem fits_yes (w : World) (h : Hd) (k n : Nat) (hf : Fits h k n) (hn : n ≤ 2048) :
    Calls Try.prog 45 #[headV h, .int .i64 k, .int .i64 n] w fun e w' => e = .returned (.bool true) ∧ Below w.heap.size w w' := by
  obtain ⟨f1, f2, f3, f4, f5, f6, f7⟩ := hf
  have e1 : (h.seq : Int).tmod 2 = (k : Int) := by rw [Int.tmod_eq_emod_of_nonneg (by omega)]; omega
  have e2 : IntKind.u64.wrap (k : Int) = (k : Int) := by rw [IntKind.wrap_u64]; omega
  have g1 : decide ((1 : Int) ≤ (h.room : Int)) = true := by simp; omega
  have g2 : decide ((1 : Int) ≤ (h.pages : Int)) = true := by simp; omega
  have g3 : decide ((h.pages : Int) ≤ 1024) = true := by simp; omega
  have g4 : decide (h.used ≤ h.room) = true := by simp; omega
  have g5 : decide ((2 : Int) + h.room + h.pages ≤ (n : Int)) = true := by simp; omega
  unfold headV
  go_enter Try.func45, Try.ntmps45
  go_wp2
  go_returns
  exact ⟨rfl, by go_grown⟩
/-- What a block of heads reads as. -/
def ReadsAs (b : ByteArray) (k n : Nat) (o : Option Hd) : Prop := match o with
  | none => ¬ headOk b
  | some h => headOk b ∧ fieldsV b = headV h ∧ Fits h k n
/-- Of two the one that was put last. -/
def pick (o r : Option Hd) : Option Hd := match r with
  | none => o
  | some h => match o with
    | none => some h
    | some b => if b.seq < h.seq then some h else some b
/-- The first k of two. -/
def picked (o0 o1 : Option Hd) (k : Nat) : Option Hd := if k = 0 then none else if k = 1 then pick none o0 else pick (pick none o0) o1
def optCells : Option Hd → Array Value
  | none => #[.int .u64 0, .int .i64 0, .int .i64 0, .int .i64 0]
  | some h => #[.int .u64 h.seq, .int .i64 h.used, .int .i64 h.room, .int .i64 h.pages]
/-- Two boxes of heads: the answer's, and the best one's. -/
def Two (w wr : World) (o : Option Hd) : Prop := Below w.heap.size w wr ∧ wr.heap[w.heap.size]? = some (.cells (optCells none) 55 (0, 0)) ∧ wr.heap[w.heap.size + 1]? = some (.cells (optCells o) 55 (0, 0))
theorem Two.below {w wr : World} {o : Option Hd} (h : Two w wr o) : Below w.heap.size w wr := h.1
theorem Two.on {w wr w' : World} {o : Option Hd} (h : Two w wr o) (b : Below wr.heap.size wr w') : Two w w' o := ⟨h.1.on b, (b.block _ (heap_lt' h.2.1)).trans h.2.1, (b.block _ (heap_lt' h.2.2)).trans h.2.2⟩
theorem Two.set {w wr : World} {o : Option Hd} (H : Two w wr o) (h : Hd) :
    Two w ((((wr.setCell ⟨w.heap.size + 1, 0, none⟩ (.int .u64 h.seq)).setCell ⟨w.heap.size + 1, 1, none⟩ (.int .i64 h.used)).setCell ⟨w.heap.size + 1, 2, none⟩ (.int .i64 h.room)).setCell ⟨w.heap.size + 1, 3, none⟩ (.int .i64 h.pages)) (some h) := by
  obtain ⟨hb, h0, h1⟩ := H
  have hle : w.heap.size ≤ w.heap.size + 1 := Nat.le_succ _
  have hne : w.heap.size ≠ w.heap.size + 1 := by omega
  refine ⟨(((hb.setCell hle _).setCell hle _).setCell hle _).setCell hle _, ?_, ?_⟩
  · rw [heap_setCell_other _ _ _ _ hne, heap_setCell_other _ _ _ _ hne, heap_setCell_other _ _ _ _ hne, heap_setCell_other _ _ _ _ hne]
    exact h0
  · cases o
    all_goals
      have e0 := heap_setCell_same wr (w.heap.size + 1) 0 _ _ (.int .u64 h.seq) h1
      have e1 := heap_setCell_same _ (w.heap.size + 1) 1 _ _ (.int .i64 h.used) e0
      have e2 := heap_setCell_same _ (w.heap.size + 1) 2 _ _ (.int .i64 h.room) e1
      exact heap_setCell_same _ (w.heap.size + 1) 3 _ _ (.int .i64 h.pages) e2
theorem Two.cells {w wr : World} {o : Option Hd} (H : Two w wr o) (i : Nat) : wr.cell? ⟨w.heap.size + 1, i, none⟩ = (optCells o)[i]? ∧ wr.frozen? ⟨w.heap.size + 1, i, none⟩ = false ∧ wr.cell? ⟨w.heap.size, i, none⟩ = (optCells none)[i]? ∧ wr.frozen? ⟨w.heap.size, i, none⟩ = false :=
  ⟨cell_of_row _ _ _ _ _ _ H.2.2, frozen_of_row _ _ _ _ _ H.2.2, cell_of_row _ _ _ _ _ _ H.2.1, frozen_of_row _ _ _ _ _ H.2.1⟩
theorem Two.cellsN {w wr : World} (H : Two w wr none) : wr.cell? ⟨w.heap.size + 1, 0, none⟩ = some (.int .u64 0) ∧ wr.cell? ⟨w.heap.size + 1, 1, none⟩ = some (.int .i64 0) ∧ wr.cell? ⟨w.heap.size + 1, 2, none⟩ = some (.int .i64 0) ∧ wr.cell? ⟨w.heap.size + 1, 3, none⟩ = some (.int .i64 0) ∧
    wr.frozen? ⟨w.heap.size + 1, 0, none⟩ = false ∧ wr.frozen? ⟨w.heap.size + 1, 1, none⟩ = false ∧ wr.frozen? ⟨w.heap.size + 1, 2, none⟩ = false ∧ wr.frozen? ⟨w.heap.size + 1, 3, none⟩ = false := cells4' H.2.2
theorem Two.cellsS {w wr : World} {b : Hd} (H : Two w wr (some b)) : wr.cell? ⟨w.heap.size + 1, 0, none⟩ = some (.int .u64 b.seq) ∧ wr.cell? ⟨w.heap.size + 1, 1, none⟩ = some (.int .i64 b.used) ∧ wr.cell? ⟨w.heap.size + 1, 2, none⟩ = some (.int .i64 b.room) ∧ wr.cell? ⟨w.heap.size + 1, 3, none⟩ = some (.int .i64 b.pages) ∧
    wr.frozen? ⟨w.heap.size + 1, 0, none⟩ = false ∧ wr.frozen? ⟨w.heap.size + 1, 1, none⟩ = false ∧ wr.frozen? ⟨w.heap.size + 1, 2, none⟩ = false ∧ wr.frozen? ⟨w.heap.size + 1, 3, none⟩ = false := cells4' H.2.2
theorem Two.cellsA {w wr : World} {o : Option Hd} (H : Two w wr o) : wr.cell? ⟨w.heap.size, 0, none⟩ = some (.int .u64 0) ∧ wr.cell? ⟨w.heap.size, 1, none⟩ = some (.int .i64 0) ∧ wr.cell? ⟨w.heap.size, 2, none⟩ = some (.int .i64 0) ∧ wr.cell? ⟨w.heap.size, 3, none⟩ = some (.int .i64 0) ∧
    wr.frozen? ⟨w.heap.size, 0, none⟩ = false ∧ wr.frozen? ⟨w.heap.size, 1, none⟩ = false ∧ wr.frozen? ⟨w.heap.size, 2, none⟩ = false ∧ wr.frozen? ⟨w.heap.size, 3, none⟩ = false := cells4' H.2.1
/-- What last answers. -/
def LastPost (w : World) (o : Option Hd) (e : Ending) (w' : World) : Prop := Below w.heap.size w w' ∧ e = .returned (.tuple #[.agg (optCells o), .int .i64 (if o.isSome then 0 else 14)])
theorem Two.boxA {w wr : World} {o : Option Hd} (H : Two w wr o) : wr.heap[w.heap.size]? = some (.cells (optCells none) 55 (0, 0)) := H.2.1
theorem Two.four {w wr : World} {o : Option Hd} (H : Two w wr o) (v0 v1 v2 v3 : Value) : Below w.heap.size w ((((wr.setCell ⟨w.heap.size, 0, none⟩ v0).setCell ⟨w.heap.size, 1, none⟩ v1).setCell ⟨w.heap.size, 2, none⟩ v2).setCell ⟨w.heap.size, 3, none⟩ v3) :=
  (((H.1.setCell (Nat.le_refl _) _).setCell (Nat.le_refl _) _).setCell (Nat.le_refl _) _).setCell (Nat.le_refl _) _
set_option maxHeartbeats 2000000 in
theorem last_any {w0 w : World} {p : Nat} {d : D} {L : List (Nat × Obj)} (H : OwnL w0 p d L w) (hd : d.dark = false) (hn : 2 ≤ d.n) (o0 o1 : Option Hd) (h0 : ReadsAs (d.last 0) 0 d.n o0) (h1 : ReadsAs (d.last 1) 1 d.n o1) :
    Calls Try.prog 31 #[.pointer (some ⟨p, 0, none⟩)] w (LastPost w (picked o0 o1 2)) := by
  have hnn := H.wf.hi
  have hsz := H.wf.last
  have HL := Lib.hid (fun (w1 : World) (b : Below w.heap.size w w1) => (show ∃ F : Foot, F.p = p ∧ Dk w1 F d from by
    obtain ⟨F, hp, hdk, _⟩ := H.on b
    exact ⟨F, hp, hdk⟩))
  have CL := Lib.hid (fun (w1 : World) (b : Below w.heap.size w w1) => (show Calls Try.prog 37 #[.pointer (some ⟨p, 0, none⟩)] w1 (fun e w' => e = .returned (.int .i64 d.n) ∧ w1 = w') from by
    obtain ⟨F, rfl, hdk⟩ := HL.out w1 b
    exact len_any w1 F d hdk))
  have CR := Lib.hid (fun (w1 : World) (b : Below w.heap.size w w1) (k : Nat) (hk : k < 2) => (show Calls Try.prog 35 #[.pointer (some ⟨p, 0, none⟩), .int .i64 k] w1 (fun e w' => e = .returned (.tuple #[.string (d.last k), .int .i64 0]) ∧ w1 = w') from by
    have hre : reachE d (k : Int) = 0 := by unfold reachE; rw [hd, if_neg (by decide), if_neg (by omega)]
    have hrs : readS d (k : Int) = d.last k := by unfold readS; rw [hre, if_pos rfl]; rfl
    have := q_read (H.on b) (k : Int) (by omega) (by omega)
    rwa [hre, hrs] at this))
  have HR0 := Lib.hid h0
  have HR1 := Lib.hid h1
  have HSZ := Lib.hid hsz
  clear H HL h0 h1 hsz
  have hm1 : min (2 : Int) (d.n : Int) = 2 := by omega
  have hm2 : max (1 : Int) 2 = 2 := by decide
  go_enter Try.func31, Try.ntmps31
  go_wp2_with fail
  have q1 := heap_alloc_new (w.alloc (.cells #[.int .u64 0, .int .i64 0, .int .i64 0, .int .i64 0] 55)) (.cells #[.int .u64 0, .int .i64 0, .int .i64 0, .int .i64 0] 55)
  have q0 := heap_alloc2_old w (.cells #[.int .u64 0, .int .i64 0, .int .i64 0, .int .i64 0] 55) (.cells #[.int .u64 0, .int .i64 0, .int .i64 0, .int .i64 0] 55)
  rw [show (w.alloc (.cells #[.int .u64 0, .int .i64 0, .int .i64 0, .int .i64 0] 55)).heap.size = w.heap.size + 1 by simp] at q1
  have hb2 : Below w.heap.size w ((w.alloc (.cells #[.int .u64 0, .int .i64 0, .int .i64 0, .int .i64 0] 55)).alloc (.cells #[.int .u64 0, .int .i64 0, .int .i64 0, .int .i64 0] 55)) := by go_grown
  generalize (w.alloc (.cells #[.int .u64 0, .int .i64 0, .int .i64 0, .int .i64 0] 55)).alloc (.cells #[.int .u64 0, .int .i64 0, .int .i64 0, .int .i64 0] 55) = W0 at *
  have HT : Hid (Two w W0 none) := Lib.hid ⟨hb2, q0, q1⟩
  clear q0 q1 hb2
  ((with_reducible refine (CL.out _ HT.out.below).mono ?_); rintro e _ ⟨rfl, rfl⟩)
  go_wp2_with fail
  go_loopw [5, 15] (fun f i wr => ∃ k : Nat, k ≤ 2 ∧ i = .int .i64 k ∧ f = .bool (picked o0 o1 k).isSome ∧ Two w wr (picked o0 o1 k)) (fun _ i _ => 2 - (intOf i).toNat)
  case atStart => exact ⟨0, by omega, rfl, rfl, HT.out⟩
  case round =>
    clear HT
    obtain ⟨k, hk, rfl, rfl, hT⟩ := hrel
    have HT := Lib.hid hT
    clear hT
    by_cases hlt : k < 2
    · have hrd : ∃ o, ReadsAs (d.last k) k d.n o ∧ picked o0 o1 (k + 1) = pick (picked o0 o1 k) o := by
        rcases k with _ | _ | k
        · exact ⟨o0, HR0.out, rfl⟩
        · exact ⟨o1, HR1.out, rfl⟩
        · omega
      obtain ⟨o, ho, hpk⟩ := hrd
      have HPK := Lib.hid hpk
      clear hpk
      generalize picked o0 o1 k = best at *
      have hbz : (d.last k).size ≤ maxLen := by rw [HSZ.out k (by omega)]; decide
      have HBZ := Lib.hid hbz
      clear hbz
      cases o with
      | none =>
        have HRN := Lib.hid (fun w1 => rhead_no (d.last k) w1 ho HBZ.out)
        clear ho
        go_wp2_with fail
        ((with_reducible refine (CR.out _ HT.out.below k hlt).mono ?_); rintro e _ ⟨rfl, rfl⟩)
        generalize d.last k = b at *
        go_wp2_with fail
        ((with_reducible refine (HRN.out _).mono ?_); rintro e w1 ⟨rfl, hb1⟩)
        unfold zeroHead
        have HT1 := Lib.hid (HT.out.on hb1)
        clear hb1
        go_wp2_with fail
        have HT2 := Lib.hid (HT1.out.on (show Below w1.heap.size w1 (w1.alloc (.cells #[.int .u64 0, .int .i64 0, .int .i64 0, .int .i64 0] 55)) by go_grown))
        generalize w1.alloc (.cells #[.int .u64 0, .int .i64 0, .int .i64 0, .int .i64 0] 55) = W2 at *
        refine wp_region_quiet_below (by kernel_rfl) (by kernel_rfl) ?_
        repeat (go_big_quiet_step (fail))
        refine wpQuiet_nil ?_
        intro _ hw'
        obtain ⟨⟨dq, osq⟩, hw''⟩ := hw'
        subst hw''
        have HT3 := Lib.hid (HT2.out.on (below_regrown W2 dq osq))
        generalize grow (redrawn W2 dq) osq = W3 at *
        clear HT2
        go_wp2
        go_roundw
        case rel => exact ⟨k + 1, by omega, by go_num, by rw [HPK.out]; rfl, by rw [HPK.out]; exact HT3.out⟩
        case measure => simp [intOf]; omega
      | some h =>
        obtain ⟨ho1, ho2, ho3⟩ := ho
        have hrv := fun w1 => rhead_val (d.last k) w1 ho1 HBZ.out
        rw [ho2] at hrv
        unfold headV at hrv
        have HRV := Lib.hid hrv
        have HFT := Lib.hid ho3
        clear hrv ho1 ho2 ho3
        go_wp2_with fail
        ((with_reducible refine (CR.out _ HT.out.below k hlt).mono ?_); rintro e _ ⟨rfl, rfl⟩)
        generalize d.last k = b at *
        go_wp2_with fail
        ((with_reducible refine (HRV.out _).mono ?_); rintro e w1 ⟨rfl, hb1⟩)
        have HT1 := Lib.hid (HT.out.on hb1)
        clear hb1
        go_wp2_with fail
        have HT2 := Lib.hid (HT1.out.on (show Below w1.heap.size w1 (w1.alloc (.cells #[.int .u64 h.seq, .int .i64 h.used, .int .i64 h.room, .int .i64 h.pages] 55)) by go_grown))
        have hq := heap_alloc_new w1 (.cells #[.int .u64 h.seq, .int .i64 h.used, .int .i64 h.room, .int .i64 h.pages] 55)
        generalize w1.alloc (.cells #[.int .u64 h.seq, .int .i64 h.used, .int .i64 h.room, .int .i64 h.pages] 55) = W2 at *
        generalize hqq : w1.heap.size = qq at *
        have HQ := Lib.hid hq
        obtain ⟨y0, y1, y2, y3, _⟩ := cells4' hq
        have x0 : ∀ d os, (grow (redrawn W2 d) os).cell? ⟨qq, 0, none⟩ = some (.int .u64 h.seq) := fun d os => cell_regrown y0 d os
        have x1 : ∀ d os, (grow (redrawn W2 d) os).cell? ⟨qq, 1, none⟩ = some (.int .i64 h.used) := fun d os => cell_regrown y1 d os
        have x2 : ∀ d os, (grow (redrawn W2 d) os).cell? ⟨qq, 2, none⟩ = some (.int .i64 h.room) := fun d os => cell_regrown y2 d os
        have x3 : ∀ d os, (grow (redrawn W2 d) os).cell? ⟨qq, 3, none⟩ = some (.int .i64 h.pages) := fun d os => cell_regrown y3 d os
        have cL : ∀ d' os, Calls Try.prog 37 #[.pointer (some ⟨p, 0, none⟩)] (grow (redrawn W2 d') os) fun e w'' => e = .returned (.int .i64 d.n) ∧ ∃ p : Regrown, w'' = grow (redrawn W2 p.d) p.os := fun d' os => Calls.regrown_of ((CL.out _ (HT2.out.below.on (below_regrown W2 d' os))).mono (by rintro e w' ⟨rfl, rfl⟩; exact ⟨rfl, Below.refl _ _⟩))
        have cF : ∀ d' os, Calls Try.prog 45 #[.agg #[.int .u64 h.seq, .int .i64 h.used, .int .i64 h.room, .int .i64 h.pages], .int .i64 k, .int .i64 d.n] (grow (redrawn W2 d') os) fun e w'' => e = .returned (.bool true) ∧ ∃ p : Regrown, w'' = grow (redrawn W2 p.d) p.os := fun d' os => Calls.regrown_of (fits_yes _ h k d.n HFT.out hnn)
        have C1 := Lib.hid cL
        have C2 := Lib.hid cF
        clear hq cL cF y0 y1 y2 y3 hqq HT1
        cases best with
        | none =>
          refine wp_region_quiet_below (by kernel_rfl) (by kernel_rfl) ?_
          repeat (go_big_quiet_step (first | (with_reducible exact C1.out _ _) | (with_reducible exact C2.out _ _)))
          refine wpQuiet_nil ?_
          intro _ hw'
          obtain ⟨⟨dq, osq⟩, hw''⟩ := hw'
          subst hw''
          have HT3 := Lib.hid (HT2.out.on (below_regrown W2 dq osq))
          have hq3 := ((below_regrown W2 dq osq).block qq (heap_lt' HQ.out)).trans HQ.out
          generalize grow (redrawn W2 dq) osq = W3 at *
          clear HT2 x0 x1 x2 x3 C1 C2 HQ
          obtain ⟨y0, y1, y2, y3, _⟩ := cells4' hq3
          obtain ⟨z0, z1, z2, z3, f0, f1, f2, f3⟩ := HT3.out.cellsN
          have HT4 := Lib.hid (HT3.out.set h)
          clear hq3
          go_wp2
          go_roundw
          case rel => exact ⟨k + 1, by omega, by go_num, by rw [HPK.out]; rfl, by rw [HPK.out]; exact HT4.out⟩
          case measure => simp [intOf]; omega
        | some b2 =>
          obtain ⟨z0, z1, z2, z3, f0, f1, f2, f3⟩ := HT2.out.cellsS
          have zz : ∀ d os, (grow (redrawn W2 d) os).cell? ⟨w.heap.size + 1, 0, none⟩ = some (.int .u64 b2.seq) := fun d os => cell_regrown z0 d os
          clear z0 z1 z2 z3 f0 f1 f2 f3
          by_cases hgt : b2.seq < h.seq
          · have hg2 : decide (b2.seq < h.seq) = true := by simpa using hgt
            have HPK2 : Hid (picked o0 o1 (k + 1) = some h) := Lib.hid (by rw [HPK.out]; show (if b2.seq < h.seq then some h else some b2) = _; rw [if_pos hgt])
            clear hgt
            refine wp_region_quiet_below (by kernel_rfl) (by kernel_rfl) ?_
            repeat (go_big_quiet_step (first | (with_reducible exact C1.out _ _) | (with_reducible exact C2.out _ _)))
            refine wpQuiet_nil ?_
            intro _ hw'
            obtain ⟨⟨dq, osq⟩, hw''⟩ := hw'
            subst hw''
            have HT3 := Lib.hid (HT2.out.on (below_regrown W2 dq osq))
            have hq3 := ((below_regrown W2 dq osq).block qq (heap_lt' HQ.out)).trans HQ.out
            generalize grow (redrawn W2 dq) osq = W3 at *
            clear HT2 x0 x1 x2 x3 zz C1 C2 HQ
            obtain ⟨y0, y1, y2, y3, _⟩ := cells4' hq3
            obtain ⟨z0, z1, z2, z3, f0, f1, f2, f3⟩ := HT3.out.cellsS
            have HT4 := Lib.hid (HT3.out.set h)
            clear hq3
            go_wp2
            go_roundw
            case rel => exact ⟨k + 1, by omega, by go_num, by rw [HPK2.out]; rfl, by rw [HPK2.out]; exact HT4.out⟩
            case measure => simp [intOf]; omega
          · have hg2 : decide (b2.seq < h.seq) = false := by simpa using hgt
            have HPK2 : Hid (picked o0 o1 (k + 1) = some b2) := Lib.hid (by rw [HPK.out]; show (if b2.seq < h.seq then some h else some b2) = _; rw [if_neg hgt])
            clear hgt
            refine wp_region_quiet_below (by kernel_rfl) (by kernel_rfl) ?_
            repeat (go_big_quiet_step (first | (with_reducible exact C1.out _ _) | (with_reducible exact C2.out _ _)))
            refine wpQuiet_nil ?_
            intro _ hw'
            obtain ⟨⟨dq, osq⟩, hw''⟩ := hw'
            subst hw''
            have HT3 := Lib.hid (HT2.out.on (below_regrown W2 dq osq))
            generalize grow (redrawn W2 dq) osq = W3 at *
            clear HT2 x0 x1 x2 x3 zz C1 C2 HQ
            go_wp2
            go_roundw
            case rel => exact ⟨k + 1, by omega, by go_num, by rw [HPK2.out], by rw [HPK2.out]; exact HT3.out⟩
            case measure => simp [intOf]; omega
    · obtain rfl : k = 2 := by omega
      generalize picked o0 o1 2 = o at *
      cases o with
      | none =>
        obtain ⟨z0, z1, z2, z3, f0, f1, f2, f3⟩ := HT.out.cellsA
        have hbl := HT.out.four (.int .u64 0) (.int .i64 0) (.int .i64 0) (.int .i64 0)
        obtain ⟨a0, a1, a2, a3⟩ := four_read HT.out.boxA (.int .u64 0) (.int .i64 0) (.int .i64 0) (.int .i64 0)
        have HA := Lib.hid (And.intro hbl (And.intro a0 (And.intro a1 (And.intro a2 a3))))
        clear hbl a0 a1 a2 a3
        go_wp2
        obtain ⟨hbl, a0, a1, a2, a3⟩ := HA.out
        generalize ((((wr.setCell ⟨w.heap.size, 0, none⟩ (.int .u64 0)).setCell ⟨w.heap.size, 1, none⟩ (.int .i64 0)).setCell ⟨w.heap.size, 2, none⟩ (.int .i64 0)).setCell ⟨w.heap.size, 3, none⟩ (.int .i64 0)) = W5 at *
        refine bodyPost_ret (v := .tuple #[.agg #[.int .u64 0, .int .i64 0, .int .i64 0, .int .i64 0], .int .i64 14]) (by simp [results, Try.results31, go_sem, a0, a1, a2, a3]) rfl ⟨hbl, rfl⟩
      | some h =>
        obtain ⟨z0, z1, z2, z3, f0, f1, f2, f3⟩ := HT.out.cellsA
        obtain ⟨y0, y1, y2, y3, g0, g1, g2, g3⟩ := HT.out.cellsS
        have hbl := HT.out.four (.int .u64 h.seq) (.int .i64 h.used) (.int .i64 h.room) (.int .i64 h.pages)
        obtain ⟨a0, a1, a2, a3⟩ := four_read HT.out.boxA (.int .u64 h.seq) (.int .i64 h.used) (.int .i64 h.room) (.int .i64 h.pages)
        have HA := Lib.hid (And.intro hbl (And.intro a0 (And.intro a1 (And.intro a2 a3))))
        clear hbl a0 a1 a2 a3
        go_wp2
        obtain ⟨hbl, a0, a1, a2, a3⟩ := HA.out
        generalize ((((wr.setCell ⟨w.heap.size, 0, none⟩ (.int .u64 h.seq)).setCell ⟨w.heap.size, 1, none⟩ (.int .i64 h.used)).setCell ⟨w.heap.size, 2, none⟩ (.int .i64 h.room)).setCell ⟨w.heap.size, 3, none⟩ (.int .i64 h.pages)) = W5 at *
        refine bodyPost_ret (v := .tuple #[.agg #[.int .u64 h.seq, .int .i64 h.used, .int .i64 h.room, .int .i64 h.pages], .int .i64 0]) (by simp [results, Try.results31, go_sem, a0, a1, a2, a3]) rfl ⟨hbl, rfl⟩
end Go.Proofs.Ytfcicpcpdklceaa
