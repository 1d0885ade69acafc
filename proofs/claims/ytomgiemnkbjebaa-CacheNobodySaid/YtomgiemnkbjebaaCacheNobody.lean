/- No cache, and one that no New made, keep nothing; and the chapter's example holds: for every act. Conditions: none. -/
import Derived.Test.YtomgiemnkbjebaaCacQ
import Derived.Test.YtomgiemnkbjebaaCacH
import Derived.Test.YtomgiemnkbjebaaCActs
import Derived.Test.YtomgiemnkbjebaaLaw
import Derived.BigQuiet
import Derived.Deep.QuietTactic
import Derived.Lib.QuietBelow
import Derived.Deep.DeepCutAuto
import Derived.Deep.CutBlock
namespace Go.Proofs.Ytomgiemnkbjebaa.cacheNobody
open Go.ChangeShapes Go.WideShapes Go.ChangeAt Go.RowKit Go.PlainAid
open Go.ChangeMaps (open_string)
open Go.Sort (grow)

theorem own : ownKnob Try.prog.godebug = none := by kernel_rfl
theorem laidOut : laidOutB Try.prog = true := by kernel_rfl
set_option maxRecDepth 100000
section
variable {w0 : World} {p : Nat} {most : Int} {R : List (Nat × Obj)} {w : World}
theorem unpin_no (h : KA.CaT w0 p most [] R w) (k : Int) :
    Calls Try.prog 23 #[.pointer (some ⟨p, 0, none⟩), .int .i64 k] w fun e w' => e = .returned (.bool false) ∧ KA.CaT w0 p most [] R w' := KA.unpin_any h k (Nat.zero_le _) (fun e he => by cases he)
theorem drop_no (h : KA.CaT w0 p most [] R w) (k : Int) :
    Calls Try.prog 24 #[.pointer (some ⟨p, 0, none⟩), .int .i64 k] w fun e w' => e = .returned (.bool false) ∧ KA.CaT w0 p most [] R w' := KA.drop_any h k (Nat.zero_le _)
theorem pin_no (h : KA.CaT w0 p most [] R w) (k : Int) :
    Calls Try.prog 18 #[.pointer (some ⟨p, 0, none⟩), .int .i64 k] w fun e w' => e = .returned (.bool false) ∧ KA.CaT w0 p most [] R w' := KA.pin_any h k (Nat.zero_le _) (fun e he => by cases he)
theorem get_no (h : KA.CaT w0 p most [] R w) (k : Int) :
    Calls Try.prog 17 #[.pointer (some ⟨p, 0, none⟩), .int .i64 k] w fun e w' => e = .returned (.tuple #[.string ⟨#[]⟩, .bool false]) ∧ KA.CaT w0 p most [] R w' := KA.get_any h k (Nat.zero_le _)
theorem kept_no (h : KA.CaT w0 p most [] R w) :
    Calls Try.prog 14 #[.pointer (some ⟨p, 0, none⟩), .int .i64 9] w fun e w' => ∃ ao cap, e = .returned (.slice ao 0 cap) ∧ KA.CaT w0 p most [] R w' := by
  refine (KA.kept_any h 9 (Nat.zero_le _)).mono ?_
  rintro e w' ⟨v, rfl, hr, hb⟩
  obtain ⟨ao, cap, hv, _⟩ := KA.Reads.of_row hr
  exact ⟨ao, cap, by rw [hv]; rfl, h.on hb⟩
end
set_option maxRecDepth 100000 in
set_option maxHeartbeats 4000000 in
theorem walk (w : World) (a0 : ActV) (w0 : a0.Wf) :
    Calls Try.prog 8 #[.agg a0.cells.toArray] w fun e w' => e = .returned (.bool true) ∧ Below w.heap.size w w' := by
  obtain ⟨⟨bk0, ck0⟩, ⟨ba0, ca0⟩, sd0⟩ := w0
  have hb0 : Below w.heap.size w (w.alloc (.cells a0.cells.toArray 35)) := by go_grown
  have q0 := heap_alloc_new w (.cells a0.cells.toArray 35)
  have z0 : (w.alloc (.cells a0.cells.toArray 35)).heap.size = w.heap.size + 1 := by simp
  have HQ := Lib.hid q0
  have HB0 := Lib.hid hb0
  have HC0 : Hid (KA.CaT (w.alloc (.cells a0.cells.toArray 35)) (w.heap.size + 1) 0 [] [(w.heap.size + 1 + 1, .cells #[.pointer none, .pointer (some ⟨w.heap.size + 1, 0, none⟩)] 23 (0, 0))] (((w.alloc (.cells a0.cells.toArray 35)).alloc (.cells #[.int .i64 0, .slice none 0 0] 65)).alloc (.cells #[.pointer none, .pointer (some ⟨w.heap.size + 1, 0, none⟩)] 23))) := by
    have h1 := KA.new_cat (w.alloc (.cells a0.cells.toArray 35)) (w.alloc (.cells a0.cells.toArray 35)) 0 [] (Below.refl _ _) (fun _ _ h => by cases h)
    rw [z0] at h1
    have z1 : ((w.alloc (.cells a0.cells.toArray 35)).alloc (.cells #[.int .i64 0, .slice none 0 0] 65)).heap.size = w.heap.size + 1 + 1 := by simp
    refine Lib.hid (h1.add (by go_grown) (by rw [z1]; exact Nat.le_refl _) ?_)
    rw [← z1]
    exact heap_alloc_new _ _
  clear q0 hb0
  go_enter Try.func8, Try.ntmps8
  go_wp2_with fail
  generalize ((w.alloc (.cells a0.cells.toArray 35)).alloc (.cells #[.int .i64 0, .slice none 0 0] 65)).alloc (.cells #[.pointer none, .pointer (some ⟨w.heap.size + 1, 0, none⟩)] 23) = W at *
  generalize w.alloc (.cells a0.cells.toArray 35) = W0 at *
  go_loopw [14] (fun i wr => ∃ k : Nat, k ≤ 2 ∧ i = .int .i64 k ∧ KA.CaT W0 (w.heap.size + 1) 0 [] [(w.heap.size + 1 + 1, .cells #[.pointer none, .pointer (some ⟨w.heap.size + 1, 0, none⟩)] 23 (0, 0))] wr) (fun i _ => 2 - (intOf i).toNat)
  case atStart => exact ⟨0, by omega, rfl, HC0.out⟩
  case round =>
    obtain ⟨k, hk, rfl, hC⟩ := hrel
    have HC := Lib.hid hC
    have hx := (hC.below.block w.heap.size (by omega)).trans HQ.out
    have hp := hC.mem (x := (w.heap.size + 1 + 1, .cells #[.pointer none, .pointer (some ⟨w.heap.size + 1, 0, none⟩)] 23 (0, 0))) List.mem_cons_self
    have c1 : wr.cell? ⟨w.heap.size, 1, none⟩ = some (.int .i64 a0.key) := by rw [cell_of_row _ _ _ _ _ _ hx]; rfl
    have c2 : wr.cell? ⟨w.heap.size, 2, none⟩ = some (.string a0.val) := by rw [cell_of_row _ _ _ _ _ _ hx]; rfl
    have p0 : wr.cell? ⟨w.heap.size + 1 + 1, 0, none⟩ = some (.pointer none) := by rw [cell_of_row _ _ _ _ _ _ hp]; rfl
    have p1 : wr.cell? ⟨w.heap.size + 1 + 1, 1, none⟩ = some (.pointer (some ⟨w.heap.size + 1, 0, none⟩)) := by rw [cell_of_row _ _ _ _ _ _ hp]; rfl
    clear hx hp hC HC0
    have hk3 : k = 0 ∨ k = 1 ∨ k = 2 := by omega
    rcases hk3 with rfl | rfl | rfl
    · go_wp2_with fail
      refine (KA.get_nil a0.key _).mono ?_
      rintro e _ ⟨rfl, rfl⟩
      go_wp2_with fail
      refine (KA.put_nil a0.key a0.val _).mono ?_
      rintro e _ ⟨rfl, rfl⟩
      go_wp2_with fail
      refine (KA.pin_nil a0.key _).mono ?_
      rintro e _ ⟨rfl, rfl⟩
      go_wp2_with fail
      refine (KA.unpin_nil a0.key _).mono ?_
      rintro e _ ⟨rfl, rfl⟩
      go_wp2_with fail
      refine (KA.drop_nil a0.key _).mono ?_
      rintro e _ ⟨rfl, rfl⟩
      go_wp2_with fail
      refine (KA.len_nil _).mono ?_
      rintro e _ ⟨rfl, rfl⟩
      go_wp2_with fail
      refine (KA.kept_nil 9 (by omega) _).mono ?_
      rintro e w4 ⟨rfl, hb4⟩
      have H4 := Lib.hid (HC.out.on hb4)
      clear hb4 c1 c2 p0 p1 HC
      go_wp2_with fail
      go_roundw
      case rel => exact ⟨1, by omega, by go_num, H4.out⟩
      case measure => simp [intOf]
    · go_wp2_with fail
      refine (get_no HC.out a0.key).mono ?_
      rintro e w3 ⟨rfl, h3⟩
      have d1 := (h3.below.block w.heap.size (by omega)).trans HQ.out
      have e1 : w3.cell? ⟨w.heap.size, 1, none⟩ = some (.int .i64 a0.key) := by rw [cell_of_row _ _ _ _ _ _ d1]; rfl
      have e2 : w3.cell? ⟨w.heap.size, 2, none⟩ = some (.string a0.val) := by rw [cell_of_row _ _ _ _ _ _ d1]; rfl
      obtain ⟨v3, hp3, _⟩ := h3.row
      have HP := Lib.hid (KA.put_zero_most a0.key a0.val hp3)
      have H3 := Lib.hid h3
      clear d1 h3 hp3 c1 c2 p0 p1 HC
      go_wp2_with fail
      refine HP.out.mono ?_
      rintro e _ ⟨rfl, rfl⟩
      clear HP
      go_wp2_with fail
      refine (pin_no H3.out a0.key).mono ?_
      rintro e w4 ⟨rfl, h4⟩
      have d1 := (h4.below.block w.heap.size (by omega)).trans HQ.out
      have f1 : w4.cell? ⟨w.heap.size, 1, none⟩ = some (.int .i64 a0.key) := by rw [cell_of_row _ _ _ _ _ _ d1]; rfl
      have H4 := Lib.hid h4
      clear d1 h4 e1 e2 H3
      go_wp2_with fail
      refine (unpin_no H4.out a0.key).mono ?_
      rintro e w5 ⟨rfl, h5⟩
      have d1 := (h5.below.block w.heap.size (by omega)).trans HQ.out
      have g1 : w5.cell? ⟨w.heap.size, 1, none⟩ = some (.int .i64 a0.key) := by rw [cell_of_row _ _ _ _ _ _ d1]; rfl
      have H5 := Lib.hid h5
      clear d1 h5 f1 H4
      go_wp2_with fail
      refine (drop_no H5.out a0.key).mono ?_
      rintro e w6 ⟨rfl, h6⟩
      have H6 := Lib.hid h6
      clear h6 g1 H5
      go_wp2_with fail
      refine (KA.len_any H6.out).mono ?_
      rintro e _ ⟨rfl, rfl⟩
      go_wp2_with fail
      refine (kept_no H6.out).mono ?_
      rintro e w7 ⟨ao, cap, rfl, h7⟩
      have H7 := Lib.hid h7
      clear h7 H6
      go_wp2_with fail
      go_roundw
      case rel => exact ⟨2, by omega, by go_num, H7.out⟩
      case measure => simp [intOf]
    · go_wp2_with fail
      refine (KA.awake_any _).mono ?_
      rintro e w6 ⟨rfl, hb6⟩
      have HB6 := Lib.hid (HB0.out.on (HC.out.below.on hb6))
      clear hb6
      go_wp2
      go_returns
      exact ⟨rfl, HB6.out⟩

set_option maxRecDepth 100000 in
theorem lifted (os : Os) (started : os.Started) (H : Type) (enc : TypeId × Value → H) :
    ReturnsInHanded {} Try.checked os 8 .any (Rows.cacheNobodySpec.pre6 enc Try.prog Try.f8 Rows.cacheNobodyRow.domain false) (Rows.cacheNobodySpec.post enc Try.prog Try.f8 false true false false) := by
  refine law_lift (C := Try.checked) own started (by kernel_rfl) Try.func8 laidOut (by kernel_rfl) rfl Try.underlying4 rfl
    (fun ds h => match ds, h with | [_], _ => rfl)
    (ChangeSpec.witness6 (enc := enc) (C := Try.checked) false ⟨#[], #[.agg (ActV.cells ⟨0, 0, ByteArray.empty⟩).toArray], []⟩ 8 (by kernel_rfl) (by kernel_rfl) (by kernel_rfl) (by kernel_rfl)) ?_
  intro W base args ds ps hval hA hsz
  rw [Try.params8] at hA hval hsz
  obtain ⟨v0, vs0, d0, ds0, p0, q0, hargs, rfl, rfl, h0, r0⟩ := trodAll_cons hA
  obtain ⟨rfl, rfl, rfl⟩ := trodAll_nil r0
  obtain rfl : args = #[v0] := by cases args; simp_all
  obtain ⟨a0, rfl, w0⟩ := act_open (hval 0 35 v0 rfl rfl) h0
  exact walk W a0 w0

theorem over : Rows.cacheNobodyRow.holds Try.pinned (OpenSpec.ofChange Rows.cacheNobodySpec) :=
  OpenClaim.holds_of_wide 8 Try.f8 rfl rfl rfl rfl rfl rfl rfl ⟨rfl, rfl, rfl, rfl, rfl⟩ rfl rfl rfl rfl rfl (by kernel_rfl) Try.func8 (by kernel_rfl)
    (of_decide_eq_true (by kernel_rfl)) (by unfold Func.isWrapper; first | (rw [if_pos (by decide +kernel)]; kernel_rfl) | (rw [if_neg (by decide +kernel)]; exact ⟨rfl, rfl⟩))
    (fun os started H enc _ => lifted os started H enc)

theorem proved : Rows.CacheNobodySaid :=
  over
end Go.Proofs.Ytomgiemnkbjebaa.cacheNobody
