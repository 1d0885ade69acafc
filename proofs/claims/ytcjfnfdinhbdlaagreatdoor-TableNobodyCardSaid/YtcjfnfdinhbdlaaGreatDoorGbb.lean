import Derived.Test.YtcjfnfdinhbdlaaGreatDoorGba
import Derived.Shelf.Sort.Plain
import Derived.Test.YtcjfnfdinhbdlaaGreatDoorRows
import Derived.Sort.OwnSortedInts
import Derived.Handy
import Derived.Laws.IdiomRangeMap
import Derived.Test.YtcjfnfdinhbdlaaGreatDoorGar
import Derived.Deep.RegionLaw
import Derived.Deep.QuietTactic
namespace Go.Proofs.YtcjfnfdinhbdlaaGreatDoor
set_option maxRecDepth 100000
open Go.ChangeShapes Go.WideShapes Go.ChangeAt Go.RowKit Go.PlainAid Go.ChangeMaps Go.MapKept
open Go.Sort (grow)
structure Fits (h : Hd) (k n : Nat) : Prop where
  seq : h.seq % 2 = k
  room : 1 ≤ h.room
  pages : 1 ≤ h.pages
  pages1 : h.pages ≤ 1024
  used : h.used ≤ h.room
  all : 2 + h.room + h.pages ≤ n
  seq1 : h.seq ≤ 1000000
set_option maxHeartbeats 1000000 in
theorem fits_yes (w : World) (h : Hd) (k n : Nat) (hf : Fits h k n) (hn : n ≤ 2048) :
    Calls Tryz.prog 139 #[headV h, .int .i64 k, .int .i64 n] w fun e w' => e = .returned (.bool true) ∧ Below w.heap.size w w' := by
  obtain ⟨f1, f2, f3, f4, f5, f6, f7⟩ := hf
  have e1 : (h.seq : Int).tmod 2 = (k : Int) := by rw [Int.tmod_eq_emod_of_nonneg (by omega)]; omega
  have e2 : IntKind.u64.wrap (k : Int) = (k : Int) := by rw [IntKind.wrap_u64]; omega
  have g1 : decide ((1 : Int) ≤ (h.room : Int)) = true := by simp; omega
  have g2 : decide ((1 : Int) ≤ (h.pages : Int)) = true := by simp; omega
  have g3 : decide ((h.pages : Int) ≤ 1024) = true := by simp; omega
  have g4 : decide (h.used ≤ h.room) = true := by simp; omega
  have g5 : decide ((2 : Int) + h.room + h.pages ≤ (n : Int)) = true := by simp; omega
  unfold headV
  go_enter Tryz.func139, Tryz.ntmps139
  go_wp2
  go_returns
  exact ⟨rfl, by go_grown⟩
def ReadsAs (b : ByteArray) (k n : Nat) (o : Option Hd) : Prop := match o with
  | none => ¬ headOk b
  | some h => headOk b ∧ fieldsV b = headV h ∧ Fits h k n
def pick (o r : Option Hd) : Option Hd := match r with
  | none => o
  | some h => match o with
    | none => some h
    | some b => if b.seq < h.seq then some h else some b
def picked (o0 o1 : Option Hd) (k : Nat) : Option Hd := if k = 0 then none else if k = 1 then pick none o0 else pick (pick none o0) o1
def optCells : Option Hd → Array Value
  | none => #[.int .u64 0, .int .i64 0, .int .i64 0, .int .i64 0]
  | some h => #[.int .u64 h.seq, .int .i64 h.used, .int .i64 h.room, .int .i64 h.pages]
def Two (w wr : World) (o : Option Hd) : Prop := Below w.heap.size w wr ∧ wr.heap[w.heap.size]? = some (.cells (optCells none) 139 (0, 0)) ∧ wr.heap[w.heap.size + 1]? = some (.cells (optCells o) 139 (0, 0))
theorem Two.below {w wr : World} {o : Option Hd} (h : Two w wr o) : Below w.heap.size w wr := h.1
theorem Two.on {w wr w' : World} {o : Option Hd} (h : Two w wr o) (b : Below wr.heap.size wr w') : Two w w' o := ⟨h.1.on b, (b.block _ (heap_lt' h.2.1)).trans h.2.1, (b.block _ (heap_lt' h.2.2)).trans h.2.2⟩
theorem Two.set {w wr : World} {o : Option Hd} (H : Two w wr o) (h : Hd) :
    Two w ((((wr.setCell ⟨w.heap.size + 1, 0, none⟩ (.int .u64 h.seq)).setCell ⟨w.heap.size + 1, 1, none⟩ (.int .i64 h.used)).setCell ⟨w.heap.size + 1, 2, none⟩ (.int .i64 h.room)).setCell ⟨w.heap.size + 1, 3, none⟩ (.int .i64 h.pages)) (some h) := by
  obtain ⟨hb, h0, h1⟩ := H
  have hle : w.heap.size ≤ w.heap.size + 1 := Nat.le_succ _
  have hne : w.heap.size ≠ w.heap.size + 1 := by omega
  refine ⟨(((hb.setCell hle _).setCell hle _).setCell hle _).setCell hle _, ?_, ?_⟩
  · rw [heap_setCell_other _ _ _ _ hne, heap_setCell_other _ _ _ _ hne, heap_setCell_other _ _ _ _ hne, heap_setCell_other _ _ _ _ hne]
    exact h0
  · cases o
    all_goals
      have e0 := heap_setCell_same wr (w.heap.size + 1) 0 _ _ (.int .u64 h.seq) h1
      have e1 := heap_setCell_same _ (w.heap.size + 1) 1 _ _ (.int .i64 h.used) e0
      have e2 := heap_setCell_same _ (w.heap.size + 1) 2 _ _ (.int .i64 h.room) e1
      exact heap_setCell_same _ (w.heap.size + 1) 3 _ _ (.int .i64 h.pages) e2
theorem Two.cellsN {w wr : World} (H : Two w wr none) : wr.cell? ⟨w.heap.size + 1, 0, none⟩ = some (.int .u64 0) ∧ wr.cell? ⟨w.heap.size + 1, 1, none⟩ = some (.int .i64 0) ∧ wr.cell? ⟨w.heap.size + 1, 2, none⟩ = some (.int .i64 0) ∧ wr.cell? ⟨w.heap.size + 1, 3, none⟩ = some (.int .i64 0) ∧
    wr.frozen? ⟨w.heap.size + 1, 0, none⟩ = false ∧ wr.frozen? ⟨w.heap.size + 1, 1, none⟩ = false ∧ wr.frozen? ⟨w.heap.size + 1, 2, none⟩ = false ∧ wr.frozen? ⟨w.heap.size + 1, 3, none⟩ = false := cells4' H.2.2
theorem Two.cellsS {w wr : World} {b : Hd} (H : Two w wr (some b)) : wr.cell? ⟨w.heap.size + 1, 0, none⟩ = some (.int .u64 b.seq) ∧ wr.cell? ⟨w.heap.size + 1, 1, none⟩ = some (.int .i64 b.used) ∧ wr.cell? ⟨w.heap.size + 1, 2, none⟩ = some (.int .i64 b.room) ∧ wr.cell? ⟨w.heap.size + 1, 3, none⟩ = some (.int .i64 b.pages) ∧
    wr.frozen? ⟨w.heap.size + 1, 0, none⟩ = false ∧ wr.frozen? ⟨w.heap.size + 1, 1, none⟩ = false ∧ wr.frozen? ⟨w.heap.size + 1, 2, none⟩ = false ∧ wr.frozen? ⟨w.heap.size + 1, 3, none⟩ = false := cells4' H.2.2
theorem Two.cellsA {w wr : World} {o : Option Hd} (H : Two w wr o) : wr.cell? ⟨w.heap.size, 0, none⟩ = some (.int .u64 0) ∧ wr.cell? ⟨w.heap.size, 1, none⟩ = some (.int .i64 0) ∧ wr.cell? ⟨w.heap.size, 2, none⟩ = some (.int .i64 0) ∧ wr.cell? ⟨w.heap.size, 3, none⟩ = some (.int .i64 0) ∧
    wr.frozen? ⟨w.heap.size, 0, none⟩ = false ∧ wr.frozen? ⟨w.heap.size, 1, none⟩ = false ∧ wr.frozen? ⟨w.heap.size, 2, none⟩ = false ∧ wr.frozen? ⟨w.heap.size, 3, none⟩ = false := cells4' H.2.1
def LastPost (w : World) (o : Option Hd) (e : Ending) (w' : World) : Prop := Below w.heap.size w w' ∧ e = .returned (.tuple #[.agg (optCells o), .int .i64 (if o.isSome then 0 else 14)])
theorem Two.boxA {w wr : World} {o : Option Hd} (H : Two w wr o) : wr.heap[w.heap.size]? = some (.cells (optCells none) 139 (0, 0)) := H.2.1
theorem Two.four {w wr : World} {o : Option Hd} (H : Two w wr o) (v0 v1 v2 v3 : Value) : Below w.heap.size w ((((wr.setCell ⟨w.heap.size, 0, none⟩ v0).setCell ⟨w.heap.size, 1, none⟩ v1).setCell ⟨w.heap.size, 2, none⟩ v2).setCell ⟨w.heap.size, 3, none⟩ v3) :=
  (((H.1.setCell (Nat.le_refl _) _).setCell (Nat.le_refl _) _).setCell (Nat.le_refl _) _).setCell (Nat.le_refl _) _
set_option maxHeartbeats 2000000 in
theorem last_any {w0 w : World} {p : Nat} {d : D} {L : List (Nat × Obj)} (H : OwnL w0 p d L w) (hd : d.dark = false) (hn : 2 ≤ d.n) (o0 o1 : Option Hd) (h0 : ReadsAs (d.last 0) 0 d.n o0) (h1 : ReadsAs (d.last 1) 1 d.n o1) :
    Calls Tryz.prog 83 #[.pointer (some ⟨p, 0, none⟩)] w (LastPost w (picked o0 o1 2)) := by
  have hnn := H.wf.hi
  have hsz := H.wf.last
  have HL := Lib.hid (fun (w1 : World) (b : Below w.heap.size w w1) => (show ∃ F : Foot, F.p = p ∧ Dk w1 F d from by
    obtain ⟨F, hp, hdk, _⟩ := H.on b
    exact ⟨F, hp, hdk⟩))
  have CL := Lib.hid (fun (w1 : World) (b : Below w.heap.size w w1) => (show Calls Tryz.prog 80 #[.pointer (some ⟨p, 0, none⟩)] w1 (fun e w' => e = .returned (.int .i64 d.n) ∧ w1 = w') from by
    obtain ⟨F, rfl, hdk⟩ := HL.out w1 b
    exact len_any w1 F d hdk))
  have CR := Lib.hid (fun (w1 : World) (b : Below w.heap.size w w1) (k : Nat) (hk : k < 2) => (show Calls Tryz.prog 79 #[.pointer (some ⟨p, 0, none⟩), .int .i64 k] w1 (fun e w' => e = .returned (.tuple #[.string (d.last k), .int .i64 0]) ∧ w1 = w') from by
    have hre : reachE d (k : Int) = 0 := by unfold reachE; rw [hd, if_neg (by decide), if_neg (by omega)]
    have hrs : readS d (k : Int) = d.last k := by unfold readS; rw [hre, if_pos rfl]; rfl
    have := q_read (H.on b) (k : Int) (by omega) (by omega)
    rwa [hre, hrs] at this))
  have HR0 := Lib.hid h0
  have HR1 := Lib.hid h1
  have HSZ := Lib.hid hsz
  clear H HL h0 h1 hsz
  have hm1 : min (2 : Int) (d.n : Int) = 2 := by omega
  have hm2 : max (1 : Int) 2 = 2 := by decide
  go_enter Tryz.func83, Tryz.ntmps83
  go_wp2_with fail
  have q1 := heap_alloc_new (w.alloc (.cells #[.int .u64 0, .int .i64 0, .int .i64 0, .int .i64 0] 139)) (.cells #[.int .u64 0, .int .i64 0, .int .i64 0, .int .i64 0] 139)
  have q0 := heap_alloc2_old w (.cells #[.int .u64 0, .int .i64 0, .int .i64 0, .int .i64 0] 139) (.cells #[.int .u64 0, .int .i64 0, .int .i64 0, .int .i64 0] 139)
  rw [show (w.alloc (.cells #[.int .u64 0, .int .i64 0, .int .i64 0, .int .i64 0] 139)).heap.size = w.heap.size + 1 by simp] at q1
  have hb2 : Below w.heap.size w ((w.alloc (.cells #[.int .u64 0, .int .i64 0, .int .i64 0, .int .i64 0] 139)).alloc (.cells #[.int .u64 0, .int .i64 0, .int .i64 0, .int .i64 0] 139)) := by go_grown
  generalize (w.alloc (.cells #[.int .u64 0, .int .i64 0, .int .i64 0, .int .i64 0] 139)).alloc (.cells #[.int .u64 0, .int .i64 0, .int .i64 0, .int .i64 0] 139) = W0 at *
  have HT : Hid (Two w W0 none) := Lib.hid ⟨hb2, q0, q1⟩
  clear q0 q1 hb2
  ((with_reducible refine (CL.out _ HT.out.below).mono ?_); rintro e _ ⟨rfl, rfl⟩)
  go_wp2_with fail
  go_loopw [5, 15] (fun f i wr => ∃ k : Nat, k ≤ 2 ∧ i = .int .i64 k ∧ f = .bool (picked o0 o1 k).isSome ∧ Two w wr (picked o0 o1 k)) (fun _ i _ => 2 - (intOf i).toNat)
  case atStart => exact ⟨0, by omega, rfl, rfl, HT.out⟩
  case round =>
    clear HT
    obtain ⟨k, hk, rfl, rfl, hT⟩ := hrel
    have HT := Lib.hid hT
    clear hT
    by_cases hlt : k < 2
    · have hrd : ∃ o, ReadsAs (d.last k) k d.n o ∧ picked o0 o1 (k + 1) = pick (picked o0 o1 k) o := by
        rcases k with _ | _ | k
        · exact ⟨o0, HR0.out, rfl⟩
        · exact ⟨o1, HR1.out, rfl⟩
        · omega
      obtain ⟨o, ho, hpk⟩ := hrd
      have HPK := Lib.hid hpk
      clear hpk
      generalize picked o0 o1 k = best at *
      have hbz : (d.last k).size ≤ maxLen := by rw [HSZ.out k (by omega)]; decide
      have HBZ := Lib.hid hbz
      clear hbz
      cases o with
      | none =>
        have HRN := Lib.hid (fun w1 => rhead_no (d.last k) w1 ho HBZ.out)
        clear ho
        go_wp2_with fail
        ((with_reducible refine (CR.out _ HT.out.below k hlt).mono ?_); rintro e _ ⟨rfl, rfl⟩)
        generalize d.last k = b at *
        go_wp2_with fail
        ((with_reducible refine (HRN.out _).mono ?_); rintro e w1 ⟨rfl, hb1⟩)
        unfold zeroHead
        have HT1 := Lib.hid (HT.out.on hb1)
        clear hb1
        go_wp2_with fail
        have HT2 := Lib.hid (HT1.out.on (show Below w1.heap.size w1 (w1.alloc (.cells #[.int .u64 0, .int .i64 0, .int .i64 0, .int .i64 0] 139)) by go_grown))
        generalize w1.alloc (.cells #[.int .u64 0, .int .i64 0, .int .i64 0, .int .i64 0] 139) = W2 at *
        refine wp_region_quiet_below (by kernel_rfl) (by kernel_rfl) ?_
        repeat (go_big_quiet_step (fail))
        refine wpQuiet_nil ?_
        intro _ hw'
        obtain ⟨⟨dq, osq⟩, hw''⟩ := hw'
        subst hw''
        have HT3 := Lib.hid (HT2.out.on (below_regrown W2 dq osq))
        generalize grow (redrawn W2 dq) osq = W3 at *
        clear HT2
        go_wp2
        go_roundw
        case rel => exact ⟨k + 1, by omega, by go_num, by rw [HPK.out]; rfl, by rw [HPK.out]; exact HT3.out⟩
        case measure => simp [intOf]; omega
      | some h =>
        obtain ⟨ho1, ho2, ho3⟩ := ho
        have hrv := fun w1 => rhead_val (d.last k) w1 ho1 HBZ.out
        rw [ho2] at hrv
        unfold headV at hrv
        have HRV := Lib.hid hrv
        have HFT := Lib.hid ho3
        clear hrv ho1 ho2 ho3
        go_wp2_with fail
        ((with_reducible refine (CR.out _ HT.out.below k hlt).mono ?_); rintro e _ ⟨rfl, rfl⟩)
        generalize d.last k = b at *
        go_wp2_with fail
        ((with_reducible refine (HRV.out _).mono ?_); rintro e w1 ⟨rfl, hb1⟩)
        have HT1 := Lib.hid (HT.out.on hb1)
        clear hb1
        go_wp2_with fail
        have HT2 := Lib.hid (HT1.out.on (show Below w1.heap.size w1 (w1.alloc (.cells #[.int .u64 h.seq, .int .i64 h.used, .int .i64 h.room, .int .i64 h.pages] 139)) by go_grown))
        have hq := heap_alloc_new w1 (.cells #[.int .u64 h.seq, .int .i64 h.used, .int .i64 h.room, .int .i64 h.pages] 139)
        generalize w1.alloc (.cells #[.int .u64 h.seq, .int .i64 h.used, .int .i64 h.room, .int .i64 h.pages] 139) = W2 at *
        generalize hqq : w1.heap.size = qq at *
        have HQ := Lib.hid hq
        obtain ⟨y0, y1, y2, y3, _⟩ := cells4' hq
        have x0 : ∀ d os, (grow (redrawn W2 d) os).cell? ⟨qq, 0, none⟩ = some (.int .u64 h.seq) := fun d os => cell_regrown y0 d os
        have x1 : ∀ d os, (grow (redrawn W2 d) os).cell? ⟨qq, 1, none⟩ = some (.int .i64 h.used) := fun d os => cell_regrown y1 d os
        have x2 : ∀ d os, (grow (redrawn W2 d) os).cell? ⟨qq, 2, none⟩ = some (.int .i64 h.room) := fun d os => cell_regrown y2 d os
        have x3 : ∀ d os, (grow (redrawn W2 d) os).cell? ⟨qq, 3, none⟩ = some (.int .i64 h.pages) := fun d os => cell_regrown y3 d os
        have cL : ∀ d' os, Calls Tryz.prog 80 #[.pointer (some ⟨p, 0, none⟩)] (grow (redrawn W2 d') os) fun e w'' => e = .returned (.int .i64 d.n) ∧ ∃ p : Regrown, w'' = grow (redrawn W2 p.d) p.os := fun d' os => Calls.regrown_of ((CL.out _ (HT2.out.below.on (below_regrown W2 d' os))).mono (by rintro e w' ⟨rfl, rfl⟩; exact ⟨rfl, Below.refl _ _⟩))
        have cF : ∀ d' os, Calls Tryz.prog 139 #[.agg #[.int .u64 h.seq, .int .i64 h.used, .int .i64 h.room, .int .i64 h.pages], .int .i64 k, .int .i64 d.n] (grow (redrawn W2 d') os) fun e w'' => e = .returned (.bool true) ∧ ∃ p : Regrown, w'' = grow (redrawn W2 p.d) p.os := fun d' os => Calls.regrown_of (fits_yes _ h k d.n HFT.out hnn)
        have C1 := Lib.hid cL
        have C2 := Lib.hid cF
        clear hq cL cF y0 y1 y2 y3 hqq HT1
        cases best with
        | none =>
          refine wp_region_quiet_below (by kernel_rfl) (by kernel_rfl) ?_
          repeat (go_big_quiet_step (first | (with_reducible exact C1.out _ _) | (with_reducible exact C2.out _ _)))
          refine wpQuiet_nil ?_
          intro _ hw'
          obtain ⟨⟨dq, osq⟩, hw''⟩ := hw'
          subst hw''
          have HT3 := Lib.hid (HT2.out.on (below_regrown W2 dq osq))
          have hq3 := ((below_regrown W2 dq osq).block qq (heap_lt' HQ.out)).trans HQ.out
          generalize grow (redrawn W2 dq) osq = W3 at *
          clear HT2 x0 x1 x2 x3 C1 C2 HQ
          obtain ⟨y0, y1, y2, y3, _⟩ := cells4' hq3
          obtain ⟨z0, z1, z2, z3, f0, f1, f2, f3⟩ := HT3.out.cellsN
          have HT4 := Lib.hid (HT3.out.set h)
          clear hq3
          go_wp2
          go_roundw
          case rel => exact ⟨k + 1, by omega, by go_num, by rw [HPK.out]; rfl, by rw [HPK.out]; exact HT4.out⟩
          case measure => simp [intOf]; omega
        | some b2 =>
          obtain ⟨z0, z1, z2, z3, f0, f1, f2, f3⟩ := HT2.out.cellsS
          have zz : ∀ d os, (grow (redrawn W2 d) os).cell? ⟨w.heap.size + 1, 0, none⟩ = some (.int .u64 b2.seq) := fun d os => cell_regrown z0 d os
          clear z0 z1 z2 z3 f0 f1 f2 f3
          by_cases hgt : b2.seq < h.seq
          · have hg2 : decide (b2.seq < h.seq) = true := by simpa using hgt
            have HPK2 : Hid (picked o0 o1 (k + 1) = some h) := Lib.hid (by rw [HPK.out]; show (if b2.seq < h.seq then some h else some b2) = _; rw [if_pos hgt])
            clear hgt
            refine wp_region_quiet_below (by kernel_rfl) (by kernel_rfl) ?_
            repeat (go_big_quiet_step (first | (with_reducible exact C1.out _ _) | (with_reducible exact C2.out _ _)))
            refine wpQuiet_nil ?_
            intro _ hw'
            obtain ⟨⟨dq, osq⟩, hw''⟩ := hw'
            subst hw''
            have HT3 := Lib.hid (HT2.out.on (below_regrown W2 dq osq))
            have hq3 := ((below_regrown W2 dq osq).block qq (heap_lt' HQ.out)).trans HQ.out
            generalize grow (redrawn W2 dq) osq = W3 at *
            clear HT2 x0 x1 x2 x3 zz C1 C2 HQ
            obtain ⟨y0, y1, y2, y3, _⟩ := cells4' hq3
            obtain ⟨z0, z1, z2, z3, f0, f1, f2, f3⟩ := HT3.out.cellsS
            have HT4 := Lib.hid (HT3.out.set h)
            clear hq3
            go_wp2
            go_roundw
            case rel => exact ⟨k + 1, by omega, by go_num, by rw [HPK2.out]; rfl, by rw [HPK2.out]; exact HT4.out⟩
            case measure => simp [intOf]; omega
          · have hg2 : decide (b2.seq < h.seq) = false := by simpa using hgt
            have HPK2 : Hid (picked o0 o1 (k + 1) = some b2) := Lib.hid (by rw [HPK.out]; show (if b2.seq < h.seq then some h else some b2) = _; rw [if_neg hgt])
            clear hgt
            refine wp_region_quiet_below (by kernel_rfl) (by kernel_rfl) ?_
            repeat (go_big_quiet_step (first | (with_reducible exact C1.out _ _) | (with_reducible exact C2.out _ _)))
            refine wpQuiet_nil ?_
            intro _ hw'
            obtain ⟨⟨dq, osq⟩, hw''⟩ := hw'
            subst hw''
            have HT3 := Lib.hid (HT2.out.on (below_regrown W2 dq osq))
            generalize grow (redrawn W2 dq) osq = W3 at *
            clear HT2 x0 x1 x2 x3 zz C1 C2 HQ
            go_wp2
            go_roundw
            case rel => exact ⟨k + 1, by omega, by go_num, by rw [HPK2.out], by rw [HPK2.out]; exact HT3.out⟩
            case measure => simp [intOf]; omega
    · obtain rfl : k = 2 := by omega
      generalize picked o0 o1 2 = o at *
      cases o with
      | none =>
        obtain ⟨z0, z1, z2, z3, f0, f1, f2, f3⟩ := HT.out.cellsA
        have hbl := HT.out.four (.int .u64 0) (.int .i64 0) (.int .i64 0) (.int .i64 0)
        obtain ⟨a0, a1, a2, a3⟩ := four_read HT.out.boxA (.int .u64 0) (.int .i64 0) (.int .i64 0) (.int .i64 0)
        have HA := Lib.hid (And.intro hbl (And.intro a0 (And.intro a1 (And.intro a2 a3))))
        clear hbl a0 a1 a2 a3
        go_wp2
        obtain ⟨hbl, a0, a1, a2, a3⟩ := HA.out
        generalize ((((wr.setCell ⟨w.heap.size, 0, none⟩ (.int .u64 0)).setCell ⟨w.heap.size, 1, none⟩ (.int .i64 0)).setCell ⟨w.heap.size, 2, none⟩ (.int .i64 0)).setCell ⟨w.heap.size, 3, none⟩ (.int .i64 0)) = W5 at *
        refine bodyPost_ret (v := .tuple #[.agg #[.int .u64 0, .int .i64 0, .int .i64 0, .int .i64 0], .int .i64 14]) (by simp [results, Tryz.results83, go_sem, a0, a1, a2, a3]) rfl ⟨hbl, rfl⟩
      | some h =>
        obtain ⟨z0, z1, z2, z3, f0, f1, f2, f3⟩ := HT.out.cellsA
        obtain ⟨y0, y1, y2, y3, g0, g1, g2, g3⟩ := HT.out.cellsS
        have hbl := HT.out.four (.int .u64 h.seq) (.int .i64 h.used) (.int .i64 h.room) (.int .i64 h.pages)
        obtain ⟨a0, a1, a2, a3⟩ := four_read HT.out.boxA (.int .u64 h.seq) (.int .i64 h.used) (.int .i64 h.room) (.int .i64 h.pages)
        have HA := Lib.hid (And.intro hbl (And.intro a0 (And.intro a1 (And.intro a2 a3))))
        clear hbl a0 a1 a2 a3
        go_wp2
        obtain ⟨hbl, a0, a1, a2, a3⟩ := HA.out
        generalize ((((wr.setCell ⟨w.heap.size, 0, none⟩ (.int .u64 h.seq)).setCell ⟨w.heap.size, 1, none⟩ (.int .i64 h.used)).setCell ⟨w.heap.size, 2, none⟩ (.int .i64 h.room)).setCell ⟨w.heap.size, 3, none⟩ (.int .i64 h.pages)) = W5 at *
        refine bodyPost_ret (v := .tuple #[.agg #[.int .u64 h.seq, .int .i64 h.used, .int .i64 h.room, .int .i64 h.pages], .int .i64 0]) (by simp [results, Tryz.results83, go_sem, a0, a1, a2, a3]) rfl ⟨hbl, rfl⟩
end Go.Proofs.YtcjfnfdinhbdlaaGreatDoor
namespace Go.Proofs.YtcjfnfdinhbdlaaGreatDoor
set_option maxRecDepth 100000
open Go.ChangeShapes Go.WideShapes Go.ChangeAt Go.RowKit Go.PlainAid Go.ChangeMaps Go.MapKept
open Go.Sort (grow)
def firstHd (n room : Nat) : Hd := ⟨2, 0, room, min (n - 2 - room) 1024⟩
def formatted (d : D) (room : Nat) : D := (d.write 1 ⟨#[]⟩).ops (putOps (firstHd d.n room))
theorem free_write_free {d : D} (h : d.free) {k : Int} {s : ByteArray} (h0 : 0 ≤ k) (h1 : k < d.n) (hs : s.size ≤ 256) : (d.write k s).free := by
  rw [free_write h h0 h1 hs]; exact h
theorem free_put {d : D} (h : d.free) {x : Hd} (hn : 2 ≤ d.n) : d.ops (putOps x) = D.flushed { d with late := d.late ++ [(x.seq % 2, filled x.text)] } ∧ opsE d (putOps x) = 0 := by
  have e : writeE d ((x.seq % 2 : Nat) : Int) x.text = 0 := free_writeE h (by omega) (by omega) (by rw [x.text_size]; omega)
  obtain ⟨a, b⟩ := putOps_ok e
  have hf := free_write_free h (k := ((x.seq % 2 : Nat) : Int)) (s := x.text) (by omega) (by omega) (by rw [x.text_size]; omega)
  rw [a, b, free_flush hf, free_flushE hf, free_write h (by omega) (by omega) (by rw [x.text_size]; omega)]
  exact ⟨rfl, rfl⟩
set_option maxHeartbeats 1000000 in
theorem format_any {w0 w : World} {p : Nat} {d : D} {L : List (Nat × Obj)} (H : OwnL w0 p d L w) (hf : d.free) (room : Nat) (h1 : 1 ≤ room) (h2 : room + 3 ≤ d.n) (hl : d.late.length < 100000) :
    Calls Tryz.prog 35 #[.pointer (some ⟨p, 0, none⟩), .int .i64 room] w fun e w' => e = .returned (.int .i64 0) ∧ OwnL w0 p (formatted d room) L w' := by
  have hn := H.wf.hi
  have hre : reachE d ((0 : Nat) : Int) = 0 := free_reach hf (by omega) (by omega)
  have hrs : readS d ((0 : Nat) : Int) = d.last 0 := free_read hf (by omega) (by omega)
  have CR := q_read H 0 (by omega) (by omega)
  rw [show (0 : Int) = ((0 : Nat) : Int) from rfl, hre, hrs] at CR
  have CR2 := Lib.hid CR
  have CW := Lib.hid (q_write H 1 ⟨#[]⟩ (by omega) (by omega) (by omega))
  have CL := Lib.hid (show Calls Tryz.prog 80 #[.pointer (some ⟨p, 0, none⟩)] w (fun e w' => e = .returned (.int .i64 d.n) ∧ w = w') from by
    obtain ⟨F, rfl, hdk, _⟩ := H
    exact len_any w F d hdk)
  have hwe : writeE d 1 ⟨#[]⟩ = 0 := free_writeE hf (by omega) (by omega) (by decide)
  have HWE := Lib.hid hwe
  have hwf : (firstHd d.n room).Wf := ⟨by show 2 ≤ _; omega, by show 0 ≤ _; omega, by show room ≤ _; omega, by show min _ _ ≤ _; omega⟩
  have hol := op_late d (.wr 1 ⟨#[]⟩)
  have hol2 : (d.write 1 ⟨#[]⟩).late.length ≤ d.late.length + 1 := hol
  have CP := Lib.hid (fun w1 (H1 : OwnL w0 p (d.write 1 ⟨#[]⟩) L w1) => put_any H1 (firstHd d.n room) hwf (by omega))
  have hf1 := free_write_free hf (k := 1) (s := ⟨#[]⟩) (by omega) (by omega) (by decide)
  have hn1 : (d.write 1 ⟨#[]⟩).n = d.n := op_n d (.wr 1 ⟨#[]⟩)
  have HPE := Lib.hid (free_put hf1 (x := firstHd d.n room) (by omega)).2
  have hmin : min ((d.n : Int) - 2 - room) 1024 = ((firstHd d.n room).pages : Int) := by show _ = ((min (d.n - 2 - room) 1024 : Nat) : Int); omega
  have hlt : decide ((d.n : Int) - 2 - room < 1) = false := by simp; omega
  have hv : Value.agg #[.int .u64 2, .int .i64 0, .int .i64 room, .int .i64 (firstHd d.n room).pages] = headV (firstHd d.n room) := rfl
  unfold headV at CP
  clear CR hre hrs hwe hol hol2 hf1 hn1 hwf H hf hv
  generalize hpg : (firstHd d.n room).pages = pg at *
  have HPG := Lib.hid hpg
  clear hpg
  go_enter Tryz.func35, Tryz.ntmps35
  go_wp2_with fail
  refine CR2.out.mono ?_
  rintro e _ ⟨rfl, rfl⟩
  go_wp2_with fail
  refine CL.out.mono ?_
  rintro e _ ⟨rfl, rfl⟩
  go_wp2_with fail
  refine CW.out.mono ?_
  rintro e w1 ⟨rfl, H1⟩
  rw [HWE.out]
  have HH1 := Lib.hid H1
  clear H1
  go_wp2_with fail
  refine (CP.out _ HH1.out).mono ?_
  rintro e w2 ⟨rfl, H2⟩
  rw [HPE.out]
  have HH2 := Lib.hid H2
  clear H2
  go_wp2
  go_returns
  exact ⟨rfl, HH2.out⟩
end Go.Proofs.YtcjfnfdinhbdlaaGreatDoor
namespace Go.Proofs.YtcjfnfdinhbdlaaGreatDoor
set_option maxRecDepth 100000
open Go.ChangeShapes Go.WideShapes Go.ChangeAt Go.RowKit Go.PlainAid Go.ChangeMaps Go.MapKept
open Go.Sort (grow)
theorem redo_zero (w : World) (q p bm : Nat) (h : Hd) (dead : Bool) (hq : w.heap[q]? = some (storeO p bm h dead)) (hu : h.used = 0) :
    Calls Tryz.prog 84 #[.pointer (some ⟨q, 0, none⟩)] w fun e w' => e = .returned (.int .i64 0) ∧ w = w' := by
  obtain ⟨c0, c1, c2, c3, c4, c5, c6⟩ := store_cells hq
  rw [hu] at c2
  clear hq hu c1 c3 c4 c5 c6 c0
  go_enter Tryz.func84, Tryz.ntmps84
  go_wp2
  go_returns
  exact ⟨rfl, rfl⟩
def OpenPost (w0 w : World) (p : Nat) (L : List (Nat × Obj)) (Rel : Int → D → Hd → Prop) (e : Ending) (w' : World) : Prop :=
  ∃ E d h, Rel E d h ∧ ((E = 0 ∧ ∃ q bm, e = .returned (.tuple #[.pointer (some ⟨q, 0, none⟩), .int .i64 0]) ∧ w.heap.size ≤ q ∧ w.heap.size ≤ bm ∧ StT w0 p q bm 0 d h noPages false L w') ∨ (E ≠ 0 ∧ e = .returned (.tuple #[.pointer none, .int .i64 E]) ∧ OwnL w0 p d L w'))
theorem stT_new {w0 w : World} {p : Nat} {d : D} {L : List (Nat × Obj)} {h : Hd} (H : OwnL w0 p d L w) : StT w0 p (w.heap.size + 1) w.heap.size 0 d h noPages false L ((w.alloc (.map #[] 0)).alloc (storeO p w.heap.size h false)) := by
  have h0 := H.below.size
  have hL : ∀ x ∈ L, x.1 < w.heap.size := fun x hx => heap_lt (H.mem (q := x.1) (o := x.2) hx)
  have e1 : (w.alloc (.map #[] 0)).heap.size = w.heap.size + 1 := by simp
  have H1 := H.alloc (.map #[] 0)
  have H2 := H1.alloc (storeO p w.heap.size h false)
  rw [e1] at H2
  refine ⟨⟨#[], 0, tx_empty 0 0, ⟨H2, by omega, fun x hx => ?_⟩⟩, h0, fun x hx => ?_⟩
  · rcases List.mem_cons.1 hx with rfl | hx
    · show w.heap.size ≠ _; omega
    · have := hL x hx; omega
  · have := hL x hx; omega
set_option maxHeartbeats 1000000 in
theorem open_via {w0 w : World} {p : Nat} {d : D} {L : List (Nat × Obj)} (H : OwnL w0 p d L w) (hd : d.dark = false) (hn : 2 ≤ d.n) (o0 o1 : Option Hd) (h0 : ReadsAs (d.last 0) 0 d.n o0) (h1 : ReadsAs (d.last 1) 1 d.n o1) (h : Hd) (hp : picked o0 o1 2 = some h) (Rel : Int → D → Hd → Prop)
    (HR : ∀ w1 q bm, StT w0 p q bm 0 d h noPages false L w1 → Calls Tryz.prog 84 #[.pointer (some ⟨q, 0, none⟩)] w1 fun e w' => ∃ E d' h', Rel E d' h' ∧ e = .returned (.int .i64 E) ∧ StT w0 p q bm 0 d' h' noPages false L w') :
    Calls Tryz.prog 36 #[.pointer (some ⟨p, 0, none⟩)] w (OpenPost w0 w p L Rel) := by
  have CL := last_any H hd hn o0 o1 h0 h1
  rw [hp] at CL
  have HL := Lib.hid CL
  have HH := Lib.hid H
  have HRR := Lib.hid HR
  have hmm := @run_makeMap Tryz.prog
  clear CL H h0 h1 hp HR
  go_enter Tryz.func36, Tryz.ntmps36
  go_wp2_with fail
  refine HL.out.mono ?_
  rintro e w1 ⟨hb1, rfl⟩
  have HH1 := HH.out.on (hb1.on (show Below w1.heap.size w1 (w1.alloc (.cells (optCells (some h)) 139)) by go_grown))
  have hsz := hb1.size
  have hsz1 : (w1.alloc (.cells (optCells (some h)) 139)).heap.size = w1.heap.size + 1 := by simp
  have HS := stT_new (h := h) HH1
  rw [hsz1] at HS
  have HST := Lib.hid HS
  clear hb1 HL HH HH1 HS hsz1
  unfold storeO at HST
  unfold optCells at *
  go_wp2_with fail
  generalize ((w1.alloc (.cells #[.int .u64 h.seq, .int .i64 h.used, .int .i64 h.room, .int .i64 h.pages] 139)).alloc (.map #[] 0)).alloc (.cells #[.pointer (some ⟨p, 0, none⟩), .int .u64 h.seq, .int .i64 h.used, .int .i64 h.room, .int .i64 h.pages, .map (some (w1.heap.size + 1)), .bool false] 144) = W3 at *
  ((with_reducible refine (HRR.out _ _ _ HST.out).mono ?_); rintro e w4 ⟨E, d', h', hrel, rfl, HS4⟩)
  have HR4 := Lib.hid hrel
  have HST4 := Lib.hid HS4
  clear hrel HS4 HRR HST hmm
  by_cases z : E = 0
  · subst z
    go_wp2
    go_returns
    exact ⟨0, d', h', HR4.out, .inl ⟨rfl, _, _, rfl, by omega, by omega, HST4.out⟩⟩
  · have hz : (E == 0) = false := by simpa using z
    have HZ := Lib.hid z
    clear z
    go_wp2
    go_returns
    exact ⟨E, d', h', HR4.out, .inr ⟨HZ.out, rfl, HST4.out.own⟩⟩
theorem open_zero {w0 w : World} {p : Nat} {d : D} {L : List (Nat × Obj)} (H : OwnL w0 p d L w) (hd : d.dark = false) (hn : 2 ≤ d.n) (o0 o1 : Option Hd) (h0 : ReadsAs (d.last 0) 0 d.n o0) (h1 : ReadsAs (d.last 1) 1 d.n o1) (h : Hd) (hp : picked o0 o1 2 = some h) (hu : h.used = 0) :
    Calls Tryz.prog 36 #[.pointer (some ⟨p, 0, none⟩)] w fun e w' => ∃ q bm, e = .returned (.tuple #[.pointer (some ⟨q, 0, none⟩), .int .i64 0]) ∧ w.heap.size ≤ q ∧ w.heap.size ≤ bm ∧ StT w0 p q bm 0 d h noPages false L w' :=
  (open_via H hd hn o0 o1 h0 h1 h hp (fun E d' h' => E = 0 ∧ d' = d ∧ h' = h) (fun w1 q bm HS => (redo_zero w1 q p bm h false HS.at hu).mono fun e w' ⟨he, hw⟩ => ⟨0, d, h, ⟨rfl, rfl, rfl⟩, he, hw ▸ HS⟩)).mono (by
    rintro e w' ⟨E, d', h', ⟨rfl, rfl, rfl⟩, hc⟩
    rcases hc with ⟨_, hc⟩ | ⟨hc, _⟩
    · exact hc
    · exact absurd rfl hc)
end Go.Proofs.YtcjfnfdinhbdlaaGreatDoor
namespace Go.Proofs.YtcjfnfdinhbdlaaGreatDoor
set_option maxRecDepth 100000
open Go.ChangeShapes Go.WideShapes Go.ChangeAt Go.RowKit Go.PlainAid Go.ChangeMaps Go.MapKept
open Go.Sort (grow)
theorem text_split (h : Hd) : filled h.text = headB h.seq h.used h.room h.pages ++ notS (headB h.seq h.used h.room h.pages) ++ zeroes (256 - h.text.size) := by
  rw [← filled_cat (by rw [h.text_size]; omega)]
  rfl
theorem head_fields (h : Hd) (h1 : h.seq ≤ 1000000) (h2 : h.used ≤ 2048) (h3 : h.room ≤ 2048) (h4 : h.pages ≤ 2048) : fieldsV (headB h.seq h.used h.room h.pages) = headV h := by
  rw [head_back _ _ _ _ (by omega) (by omega)]
  unfold headV uZ
  have e : ∀ x : Nat, x ≤ 2048 → (x : Int) % 18446744073709551616 % 4294967296 = x := fun x hx => by omega
  rw [e _ h2, e _ h3, e _ h4]
theorem reads_head {h : Hd} {k n : Nat} (hf : Fits h k n) (hn : n ≤ 2048) : ReadsAs (filled h.text) k n (some h) := by
  obtain ⟨f1, f2, f3, f4, f5, f6, f7⟩ := hf
  obtain ⟨a, b⟩ := written_ok (headB h.seq h.used h.room h.pages) (zeroes (256 - h.text.size)) (headB_size _ _ _ _)
  rw [text_split]
  refine ⟨a, ?_, ⟨f1, f2, f3, f4, f5, f6, f7⟩⟩
  rw [fields_of _ _ b]
  exact head_fields h f7 (by omega) (by omega) (by omega)
theorem reads_zero (k n : Nat) : ReadsAs zeroText k n none := by
  intro h
  have h2 := h.2
  have e1 : bt (notS (zeroText.extract 0 20)) 0 = 255 := by
    unfold notS
    rw [bt_strOfNums _ 0] <;> rw [notS_get _ _ (by rw [ByteArray.size_extract, zeroText_size]; decide)] <;> rw [bt_ext _ _ _ _ (by rw [zeroText_size]; decide) (by decide), zeroText_bt] <;> decide
  have e2 : bt (zeroText.extract 20 40) 0 = 0 := by
    rw [bt_ext _ _ _ _ (by rw [zeroText_size]; decide) (by decide), zeroText_bt]
  rw [h2, e2] at e1
  cases e1
end Go.Proofs.YtcjfnfdinhbdlaaGreatDoor
namespace Go.Proofs.YtcjfnfdinhbdlaaGreatDoor
set_option maxRecDepth 100000
open Go.ChangeShapes Go.WideShapes Go.ChangeAt Go.RowKit Go.PlainAid Go.ChangeMaps Go.MapKept
open Go.Sort (grow)
structure Settled (d : D) (h : Hd) (o : Option Hd) : Prop where
  free : d.free
  late : d.late = []
  n : 2 + h.room + h.pages ≤ d.n
  hi : d.n ≤ 2048
  used : h.used = 0
  cur : ReadsAs (d.last (h.seq % 2)) (h.seq % 2) d.n (some h)
  oth : ReadsAs (d.last ((h.seq + 1) % 2)) ((h.seq + 1) % 2) d.n o
  less : ∀ x, o = some x → x.seq < h.seq
theorem pick_cur {h : Hd} {o : Option Hd} (hl : ∀ x, o = some x → x.seq < h.seq) : pick (pick none (some h)) o = some h ∧ pick (pick none o) (some h) = some h := by
  cases o with
  | none => exact ⟨rfl, rfl⟩
  | some x =>
    have := hl x rfl
    constructor
    · show (if h.seq < x.seq then some x else some h) = _
      rw [if_neg (by omega)]
    · show (if x.seq < h.seq then some h else some x) = _
      rw [if_pos this]
theorem two_heads {d : D} {h : Hd} {o : Option Hd} (cur : ReadsAs (d.last (h.seq % 2)) (h.seq % 2) d.n (some h)) (oth : ReadsAs (d.last ((h.seq + 1) % 2)) ((h.seq + 1) % 2) d.n o) (hl : ∀ x, o = some x → x.seq < h.seq) :
    ∃ o0 o1, ReadsAs (d.last 0) 0 d.n o0 ∧ ReadsAs (d.last 1) 1 d.n o1 ∧ picked o0 o1 2 = some h := by
  obtain ⟨p1, p2⟩ := pick_cur hl
  rcases Nat.mod_two_eq_zero_or_one h.seq with e | e
  · have e2 : (h.seq + 1) % 2 = 1 := by omega
    rw [e] at cur
    rw [e2] at oth
    exact ⟨some h, o, cur, oth, p1⟩
  · have e2 : (h.seq + 1) % 2 = 0 := by omega
    rw [e] at cur
    rw [e2] at oth
    exact ⟨o, some h, oth, cur, p2⟩
theorem Settled.opens {d : D} {h : Hd} {o : Option Hd} (hS : Settled d h o) {w0 w : World} {p : Nat} {L : List (Nat × Obj)} (H : OwnL w0 p d L w) :
    Calls Tryz.prog 36 #[.pointer (some ⟨p, 0, none⟩)] w fun e w' => ∃ q bm, e = .returned (.tuple #[.pointer (some ⟨q, 0, none⟩), .int .i64 0]) ∧ w.heap.size ≤ q ∧ w.heap.size ≤ bm ∧ StT w0 p q bm 0 d h noPages false L w' := by
  obtain ⟨o0, o1, h0, h1, hp⟩ := two_heads hS.cur hS.oth hS.less
  exact open_zero H hS.free.2 (by have := hS.n; omega) o0 o1 h0 h1 h hp hS.used
theorem filled_empty : filled ⟨#[]⟩ = zeroText := by
  refine text_ext (by rw [filled_size, zeroText_size]) fun k hk => ?_
  rw [filled_size] at hk
  rw [filled_bt _ hk, zeroText_bt]
  exact bt_end _ (Nat.zero_le _)
theorem firstHd_seq (n room : Nat) : (firstHd n room).seq = 2 := rfl
def freshD (n room : Nat) : D := ⟨n, done (fun _ => zeroText) [(1, zeroText), (0, filled (firstHd n room).text)], [], -1, false⟩
theorem formatted_new (n room : Nat) (h0 : room + 3 ≤ n) : formatted (newD n) room = freshD n room := by
  unfold formatted
  have hf : (newD n).free := ⟨rfl, rfl⟩
  have hn : (newD n).n = n := rfl
  have hf1 := free_write_free hf (k := 1) (s := ⟨#[]⟩) (by omega) (by rw [hn]; omega) (by decide)
  have hn1 : ((newD n).write 1 ⟨#[]⟩).n = n := op_n (newD n) (.wr 1 ⟨#[]⟩)
  rw [hn, (free_put hf1 (x := firstHd n room) (by rw [hn1]; omega)).1, free_write hf (by omega) (by rw [hn]; omega) (by decide), filled_empty, firstHd_seq]
  rfl
theorem freshD_zero (n room : Nat) : (freshD n room).last 0 = filled (firstHd n room).text := rfl
theorem freshD_one (n room : Nat) : (freshD n room).last 1 = zeroText := rfl
theorem fits_first (n room : Nat) (h1 : 1 ≤ room) (h2 : room + 3 ≤ n) : Fits (firstHd n room) 0 n :=
  ⟨by rw [firstHd_seq], h1, by show 1 ≤ min _ _; omega, by show min _ _ ≤ _; omega, by show 0 ≤ _; omega, by show 2 + room + min _ _ ≤ _; omega, by rw [firstHd_seq]; omega⟩
theorem formatted_settled (n room : Nat) (h1 : 1 ≤ room) (h2 : room + 3 ≤ n) (h3 : n ≤ 2048) : Settled (formatted (newD n) room) (firstHd n room) none := by
  rw [formatted_new n room h2]
  refine ⟨⟨rfl, rfl⟩, rfl, ?_, h3, rfl, ?_, ?_, fun x hx => (by cases hx)⟩
  · show 2 + room + min _ _ ≤ n; omega
  · rw [firstHd_seq, show 2 % 2 = 0 from rfl, freshD_zero]
    exact reads_head (fits_first n room h1 h2) h3
  · rw [firstHd_seq, show (2 + 1) % 2 = 1 from rfl, freshD_one]
    exact reads_zero _ _
theorem formatted_n (n room : Nat) (h2 : room + 3 ≤ n) : (formatted (newD n) room).n = n := by rw [formatted_new n room h2]; rfl
end Go.Proofs.YtcjfnfdinhbdlaaGreatDoor
namespace Go.Proofs.YtcjfnfdinhbdlaaGreatDoor
set_option maxRecDepth 100000
open Go.ChangeShapes Go.WideShapes Go.ChangeAt Go.RowKit Go.PlainAid Go.ChangeMaps Go.MapKept
open Go.Sort (grow)
def TxOk (h : Hd) (T : Int → Option ByteArray) : Prop := ∀ k s, T k = some s → 0 ≤ k ∧ k < h.pages ∧ s.size = 256
theorem noPages_ok (h : Hd) : TxOk h noPages := fun k s e => by cases e
end Go.Proofs.YtcjfnfdinhbdlaaGreatDoor
namespace Go.Proofs.YtcjfnfdinhbdlaaGreatDoor
set_option maxRecDepth 100000
open Go.ChangeShapes Go.WideShapes Go.ChangeAt Go.RowKit Go.PlainAid
theorem filled_full {s : ByteArray} (h : s.size = 256) : filled s = s := text_ext (by rw [filled_size, h]) fun k hk => by rw [filled_size] at hk; exact filled_bt s hk
end Go.Proofs.YtcjfnfdinhbdlaaGreatDoor
namespace Go.Proofs.YtcjfnfdinhbdlaaGreatDoor
set_option maxRecDepth 100000
open Go.ChangeShapes Go.WideShapes Go.ChangeAt Go.RowKit Go.PlainAid
end Go.Proofs.YtcjfnfdinhbdlaaGreatDoor
