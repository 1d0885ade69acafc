/- Package pager: Root, SetRoot, New, Format. Package bitmap: Each, in a range statement. Package pager: Room. Package pager: plain facts of sets and roots. Package pager: its calls over the pages as they are; the law's begun and awake. Package pager: the law's awake. -/
import Derived.Test.YtkdhlofcdcnjgaaGreatGP
import Derived.Test.YtkdhlofcdcnjgaaGreatGN
import Derived.Test.YtkdhlofcdcnjgaaGreatGH
import Derived.RangeFuncNested
import Derived.RangeFuncBound
import Derived.RangeFuncCalls
import Derived.RangeFuncLeaves
import Derived.Shelf.Abstract
import Derived.Shelf.RegionOpen
import Derived.OwnWalkIn
import Derived.TacticsInMore
import Derived.LoopNIn
import Derived.LoopIn
namespace Go.Proofs.YtkdhlofcdcnjgaaGreat
set_option maxRecDepth 100000
open Go.ChangeShapes Go.WideShapes Go.ChangeAt Go.RowKit Go.PlainAid
open Go.Sort (grow)

section
variable {w0 w w' : World} {pp c : Nat} {S : Sto} {R : List (Nat × Obj)}
/-- A root, as the page of roots has it. -/
def rootZ (s : ByteArray) (i : Int) : Int := unfixZ ((s.extract (4 * i).toNat 256).extract 0 4)
theorem root_bounds (s : ByteArray) (i : Int) : 0 ≤ rootZ s i ∧ rootZ s i ≤ 4294967295 := by
  unfold rootZ unfixZ
  generalize hx : (s.extract (4 * i).toNat 256).extract 0 4 = x
  have hs : x.size ≤ 4 := by rw [← hx, ByteArray.size_extract]; omega
  rw [bt_end x (k := 4) (by omega), bt_end x (k := 5) (by omega), bt_end x (k := 6) (by omega), bt_end x (k := 7) (by omega)]
  have h0 := bt_b x 0
  have h1 := bt_b x 1
  have h2 := bt_b x 2
  have h3 := bt_b x 3
  unfold n8
  omega
theorem fixS_size4 (k : Int) : (fixS k 4).size = 4 := by
  unfold fixS
  rw [strOfNums_size, List.length_take]
  show min 4 8 = 4
  rfl
set_option maxHeartbeats 1000000 in
theorem proot_no (H : Pag w0 pp S c R w) (i : Int) (hi : i < 0 ∨ 16 ≤ i) :
    Calls Tryz.prog 45 #[.pointer (some ⟨pp, 0, none⟩), .int .i64 i] w fun e w' => e = .returned (.tuple #[.int .i64 0, .int .i64 1]) ∧ Pag w0 pp S c R w' := by
  have HT := Lib.hid (ptree_any H.at i)
  rw [show treeE i = 1 by unfold treeE; rw [if_pos hi]] at HT
  have H' := Lib.hid H
  clear H hi
  go_enter Tryz.func45, Tryz.ntmps45
  go_wp2_with fail
  refine HT.out.mono ?_
  rintro e _ ⟨rfl, rfl⟩
  go_wp2
  go_returns
  exact ⟨rfl, H'.out⟩
set_option maxHeartbeats 1000000 in
theorem proot_yes (H : Pag w0 pp S c R w) (i : Int) (hi : 0 ≤ i ∧ i < 16) (hp : 1 < S.h.pages) :
    Calls Tryz.prog 45 #[.pointer (some ⟨pp, 0, none⟩), .int .i64 i] w fun e w' => e = .returned (.tuple #[.int .i64 (rootZ (S.at 1) i), .int .i64 0]) ∧ Pag w0 pp S c R w' := by
  have HT := Lib.hid (ptree_any H.at i)
  rw [show treeE i = 0 by unfold treeE; rw [if_neg (by omega)]] at HT
  have HR := Lib.hid (pread_any H 1 (by omega) (by omega))
  have hsz := H.size (k := 1) (by omega) (by omega)
  obtain ⟨i0, i1⟩ := hi
  clear H
  go_enter Tryz.func45, Tryz.ntmps45
  go_wp2_with fail
  refine HT.out.mono ?_
  rintro e _ ⟨rfl, rfl⟩
  go_wp2_with fail
  refine HR.out.mono ?_
  rintro e w4 ⟨rfl, H4⟩
  have H4' := Lib.hid H4
  clear H4 HR HT
  go_wp2_with fail
  refine (unfixed_any _ _).mono ?_
  rintro e w5 ⟨rfl, hb5⟩
  have H5' := Lib.hid (H4'.out.on hb5)
  clear hb5 H4'
  have hb := root_bounds (S.at 1) i
  rw [show unfixZ (((S.at 1).extract (4 * i).toNat 256).extract 0 4) = rootZ (S.at 1) i from rfl]
  obtain ⟨hb0, hb1⟩ := hb
  go_wp2
  go_returns
  exact ⟨rfl, H5'.out⟩
/-- The page of roots, with a root. -/
def setRoot (s : ByteArray) (i k : Int) : ByteArray := s.extract 0 (4 * i).toNat ++ fixS k 4 ++ s.extract (4 * (i + 1)).toNat 256
theorem setRoot_size {s : ByteArray} {i k : Int} (hs : s.size = 256) (h0 : 0 ≤ i) (h1 : i < 16) : (setRoot s i k).size = 256 := by
  unfold setRoot
  rw [ByteArray.size_append, ByteArray.size_append, ByteArray.size_extract, ByteArray.size_extract, fixS_size4]
  omega
set_option maxHeartbeats 2000000 in
theorem psetroot_yes (H : Pag w0 pp S c R w) (i k : Int) (hi : 0 ≤ i ∧ i < 16) (hp : 1 < S.h.pages) (hc : c < 1000000) (hk : k ≠ 0 → outB S.h.pages (S.at 0) k = true) (b0 : -9223372036854775808 ≤ k) (b1 : k ≤ 9223372036854775807) :
    Calls Tryz.prog 62 #[.pointer (some ⟨pp, 0, none⟩), .int .i64 i, .int .i64 k] w fun e w' => e = .returned (.int .i64 0) ∧ Pag w0 pp (S.put 1 (setRoot (S.at 1) i k)) (c + 1) R w' := by
  have HT := Lib.hid (ptree_any H.at i)
  rw [show treeE i = 0 by unfold treeE; rw [if_neg (by omega)]] at HT
  have hsz := H.size (k := 1) (by omega) (by omega)
  have hpg := H.ok.wf.pages
  obtain ⟨i0, i1⟩ := hi
  have hk0 : 0 ≤ k ∧ k < 1024 := by
    by_cases z : k = 0
    · omega
    · have := hk z
      unfold outB at this
      simp only [Bool.and_eq_true, decide_eq_true_eq] at this
      omega
  have hsr : (setRoot (S.at 1) i k).size = 256 := setRoot_size hsz i0 i1
  have HSR := Lib.hid hsr
  have HFX := Lib.hid (fun (w : World) => fixed_any k 4 w (by omega) (by omega) (by omega) (by omega))
  have hfs := fixS_size4 k
  by_cases z : k = 0
  · subst z
    have HR := Lib.hid (pread_any H 1 (by omega) (by omega))
    clear H hk hsr
    go_enter Tryz.func62, Tryz.ntmps62
    go_wp2_with fail
    refine HT.out.mono ?_
    rintro e _ ⟨rfl, rfl⟩
    go_wp2_with fail
    refine HR.out.mono ?_
    rintro e w4 ⟨rfl, H4⟩
    have H4' := Lib.hid H4
    clear H4 HR HT
    go_wp2_with fail
    refine (HFX.out _).mono ?_
    rintro e w5 ⟨rfl, hb5⟩
    have HW := Lib.hid fun (w1 : World) (b : Below w5.heap.size w5 w1) => pwrite_any ((H4'.out.on hb5).on b) 1 (setRoot (S.at 1) i 0) (by omega) (by omega) (Nat.le_of_eq HSR.out) hc
    rw [filled_full HSR.out] at HW
    unfold setRoot at HW
    clear hb5 HFX H4'
    have k1 : IntKind.i64.wrap (4 * i) = 4 * i := IntWalk.i64_in _ (by omega)
    have k2 : IntKind.i64.wrap (i + 1) = i + 1 := IntWalk.i64_in _ (by omega)
    have k3 : IntKind.i64.wrap (4 * (i + 1)) = 4 * (i + 1) := IntWalk.i64_in _ (by omega)
    have n0 : 0 ≤ 4 * i := by omega
    have n1 : 4 * i ≤ 256 := by omega
    have n2 : (4 * i).toNat ≤ 256 := by omega
    have n3 : 0 ≤ 4 * (i + 1) := by omega
    have n4 : 4 * (i + 1) ≤ 256 := by omega
    have n5 : (4 * (i + 1)).toNat ≤ 256 := by omega
    have z1 : ((S.at 1).extract 0 (4 * i).toNat).size ≤ 256 := by rw [ByteArray.size_extract]; omega
    have z2 : (fixS 0 4).size ≤ 4 := by rw [fixS_size4]; exact Nat.le_refl _
    have z3 : ((S.at 1).extract (4 * (i + 1)).toNat 256).size ≤ 256 := by rw [ByteArray.size_extract]; omega
    have z4 : ((S.at 1).extract 0 (4 * i).toNat ++ fixS 0 4).size ≤ 260 := by rw [ByteArray.size_append]; omega
    go_wp2_with fail
    have y1 : (9223372036854775807 < (4 * i).toNat + 4) = False := by simp; omega
    have y2 : (9223372036854775807 < (4 * i).toNat + 4 + (256 - (4 * (i + 1)).toNat)) = False := by simp; omega
    go_region_law (first
      | (go_simp; (with_reducible refine (HW.out _ (by go_grown)).mono ?_); rintro e w6 ⟨rfl, H6⟩; have H6' := Lib.hid H6; clear H6)
      | fail)
    all_goals
      clear HW y1 y2
      go_wp2
      go_returns
      exact ⟨rfl, H6'.out⟩
  · have HO := Lib.hid (pout_yes H k b0 b1 (by omega) (hk z))
    have hz : (k == 0) = false := by simpa using z
    clear H hk hsr
    go_enter Tryz.func62, Tryz.ntmps62
    go_wp2_with fail
    refine HT.out.mono ?_
    rintro e _ ⟨rfl, rfl⟩
    go_wp2_with fail
    refine HO.out.mono ?_
    rintro e w3 ⟨rfl, H3⟩
    have HR := Lib.hid (pread_any H3 1 (by omega) (by omega))
    clear H3 HO HT
    go_wp2_with fail
    refine HR.out.mono ?_
    rintro e w4 ⟨rfl, H4⟩
    have H4' := Lib.hid H4
    clear H4 HR
    go_wp2_with fail
    refine (HFX.out _).mono ?_
    rintro e w5 ⟨rfl, hb5⟩
    have HW := Lib.hid fun (w1 : World) (b : Below w5.heap.size w5 w1) => pwrite_any ((H4'.out.on hb5).on b) 1 (setRoot (S.at 1) i k) (by omega) (by omega) (Nat.le_of_eq HSR.out) hc
    rw [filled_full HSR.out] at HW
    unfold setRoot at HW
    clear hb5 HFX H4'
    have k1 : IntKind.i64.wrap (4 * i) = 4 * i := IntWalk.i64_in _ (by omega)
    have k2 : IntKind.i64.wrap (i + 1) = i + 1 := IntWalk.i64_in _ (by omega)
    have k3 : IntKind.i64.wrap (4 * (i + 1)) = 4 * (i + 1) := IntWalk.i64_in _ (by omega)
    have n0 : 0 ≤ 4 * i := by omega
    have n1 : 4 * i ≤ 256 := by omega
    have n2 : (4 * i).toNat ≤ 256 := by omega
    have n3 : 0 ≤ 4 * (i + 1) := by omega
    have n4 : 4 * (i + 1) ≤ 256 := by omega
    have n5 : (4 * (i + 1)).toNat ≤ 256 := by omega
    have z1 : ((S.at 1).extract 0 (4 * i).toNat).size ≤ 256 := by rw [ByteArray.size_extract]; omega
    have z2 : (fixS k 4).size ≤ 4 := by rw [fixS_size4]; exact Nat.le_refl _
    have z3 : ((S.at 1).extract (4 * (i + 1)).toNat 256).size ≤ 256 := by rw [ByteArray.size_extract]; omega
    have z4 : ((S.at 1).extract 0 (4 * i).toNat ++ fixS k 4).size ≤ 260 := by rw [ByteArray.size_append]; omega
    go_wp2_with fail
    have y1 : (9223372036854775807 < (4 * i).toNat + 4) = False := by simp; omega
    have y2 : (9223372036854775807 < (4 * i).toNat + 4 + (256 - (4 * (i + 1)).toNat)) = False := by simp; omega
    go_region_law (first
      | (go_simp; (with_reducible refine (HW.out _ (by go_grown)).mono ?_); rintro e w6 ⟨rfl, H6⟩; have H6' := Lib.hid H6; clear H6)
      | fail)
    all_goals
      clear HW y1 y2
      go_wp2
      go_returns
      exact ⟨rfl, H6'.out⟩
theorem psetroot_arg (H : Pag w0 pp S c R w) (i k : Int) (hi : i < 0 ∨ 16 ≤ i) :
    Calls Tryz.prog 62 #[.pointer (some ⟨pp, 0, none⟩), .int .i64 i, .int .i64 k] w fun e w' => e = .returned (.int .i64 1) ∧ Pag w0 pp S c R w' := by
  have HT := Lib.hid (ptree_any H.at i)
  rw [show treeE i = 1 by unfold treeE; rw [if_pos hi]] at HT
  have H' := Lib.hid H
  clear H hi
  go_enter Tryz.func62, Tryz.ntmps62
  go_wp2_with fail
  refine HT.out.mono ?_
  rintro e _ ⟨rfl, rfl⟩
  go_wp2
  go_returns
  exact ⟨rfl, H'.out⟩
theorem psetroot_none (H : Pag w0 pp S c R w) (i k : Int) (hi : 0 ≤ i ∧ i < 16) (hp : 0 < S.h.pages) (z : k ≠ 0) (hk : outB S.h.pages (S.at 0) k = false) (b0 : -9223372036854775808 ≤ k) (b1 : k ≤ 9223372036854775807) :
    Calls Tryz.prog 62 #[.pointer (some ⟨pp, 0, none⟩), .int .i64 i, .int .i64 k] w fun e w' => e = .returned (.int .i64 6) ∧ Pag w0 pp S c R w' := by
  have HT := Lib.hid (ptree_any H.at i)
  rw [show treeE i = 0 by unfold treeE; rw [if_neg (by omega)]] at HT
  have HO := Lib.hid (pout_no H k b0 b1 (by omega) hk)
  have hz : (k == 0) = false := by simpa using z
  clear H hk
  go_enter Tryz.func62, Tryz.ntmps62
  go_wp2_with fail
  refine HT.out.mono ?_
  rintro e _ ⟨rfl, rfl⟩
  go_wp2_with fail
  refine HO.out.mono ?_
  rintro e w3 ⟨rfl, H3⟩
  have H' := Lib.hid H3
  clear H3 HO HT
  go_wp2
  go_returns
  exact ⟨rfl, H'.out⟩
/-- A new pager. -/
theorem pag_new {p q bm : Nat} {d : D} {h : Hd} {T : Int → Option ByteArray} (H : StT w0 p q bm c d h T false R w) (hO : (⟨p, q, bm, 0, d, h, T⟩ : Sto).Ok) (m : Int) (hm : m = 32) :
    Pag w0 (w.heap.size + 1) ⟨p, q, bm, w.heap.size, d, h, T⟩ c R ((w.alloc (.cells #[.int .i64 m, .slice none 0 0] 161)).alloc (.cells #[.pointer (some ⟨q, 0, none⟩), .pointer (some ⟨w.heap.size, 0, none⟩)] 113)) := by
  subst hm
  have z1 : (w.alloc (.cells #[.int .i64 32, .slice none 0 0] 161)).heap.size = w.heap.size + 1 := by simp
  have H1 := H.add (w' := w.alloc (.cells #[.int .i64 32, .slice none 0 0] 161)) (by go_grown) (Nat.le_refl _) (heap_alloc_new w _)
  have q2 := heap_alloc_new (w.alloc (.cells #[.int .i64 32, .slice none 0 0] 161)) (.cells #[.pointer (some ⟨q, 0, none⟩), .pointer (some ⟨w.heap.size, 0, none⟩)] 113)
  rw [z1] at q2
  have H2 := H1.add (w' := (w.alloc (.cells #[.int .i64 32, .slice none 0 0] 161)).alloc (.cells #[.pointer (some ⟨q, 0, none⟩), .pointer (some ⟨w.heap.size, 0, none⟩)] 113)) (by go_grown) (by rw [z1]; exact Nat.le_refl _) q2
  have hlo := H.below.size
  have hlt : ∀ b o, (b, o) ∈ R → b < w.heap.size := fun b o hb => heap_lt (H.mem hb)
  refine ⟨⟨hO.wf, hO.lit, hO.fit, hO.tx⟩, [], Kept.nil _, ⟨[(w.heap.size, .cells #[.int .i64 32, .slice none 0 0] 161 (0, 0))], ⟨.slice none 0 0, List.mem_singleton.2 rfl, fun b o hb => ?_, by simp [Value.ownBlock], fun b hb => by simp [Value.ownBlock] at hb, hlo, fun w' _ => ⟨rfl, .inl ⟨rfl, rfl⟩⟩⟩, H2.sub _ fun x hx => ?_, fun b o o' hb hc => ?_⟩⟩
  · rw [List.mem_singleton] at hb
    cases hb
    exact .inl rfl
  · rcases List.mem_append.1 hx with hx | hx
    · rw [List.mem_singleton] at hx
      subst hx
      exact List.mem_cons_of_mem _ List.mem_cons_self
    · rcases List.mem_cons.1 hx with rfl | hx
      · exact List.mem_cons_self
      · exact List.mem_cons_of_mem _ (List.mem_cons_of_mem _ hx)
  · rw [List.mem_singleton] at hc
    cases hc
    rcases List.mem_cons.1 hb with hb | hb
    · injection hb with hb _
      omega
    · have := hlt _ _ hb
      omega
theorem pnew_any {p q bm : Nat} {d : D} {h : Hd} {T : Int → Option ByteArray} (H : StT w0 p q bm c d h T false R w) (hO : (⟨p, q, bm, 0, d, h, T⟩ : Sto).Ok) (hp : 0 < h.pages) :
    Calls Tryz.prog 23 #[.pointer (some ⟨q, 0, none⟩)] w fun e w' => ∃ pp hc, e = .returned (.tuple #[.pointer (some ⟨pp, 0, none⟩), .int .i64 0]) ∧ Pag w0 pp ⟨p, q, bm, hc, d, h, T⟩ c R w' := by
  have HR := Lib.hid (sread_any H 0 (by omega) (by omega) hO.wf hO.lit hO.fit)
  have HO := Lib.hid hO
  clear H hO
  go_enter Tryz.func23, Tryz.ntmps23
  go_wp2_with fail
  refine HR.out.mono ?_
  rintro e w1 ⟨rfl, H1, _⟩
  have H1' := Lib.hid H1
  clear H1 HR
  go_wp2_with fail
  refine (KA.new_ok 32 (by omega) (by omega) _).mono ?_
  rintro e w2 ⟨rfl, rfl⟩
  go_wp2
  go_returns
  exact ⟨_, _, rfl, pag_new H1'.out HO.out _ rfl⟩
def fmtS : Nat → ByteArray | 0 => zeroS (emptyZ 2) | k + 1 => withS (fmtS k) k true
theorem fmtS_size : ∀ k, (fmtS k).size = 1
  | 0 => by unfold fmtS; rw [zero_size]; rfl
  | k + 1 => by unfold fmtS; rw [with_size, fmtS_size k]
theorem fmtS_two : fmtS 2 = ⟨#[3]⟩ := by kernel_rfl
set_option maxHeartbeats 1000000 in
theorem pformat_any (H : Pag w0 pp S c R w) (hp : 2 < S.h.pages) (hc : c < 900000) :
    Calls Tryz.prog 24 #[.pointer (some ⟨pp, 0, none⟩)] w fun e w' => e = .returned (.int .i64 0) ∧ Pag w0 pp ((S.put 0 (filled ⟨#[3]⟩)).put 1 (filled ⟨#[]⟩)) (c + 2) R w' := by
  have hpg := H.ok.wf.pages
  have HM := Lib.hid (pmade_any H.at)
  have HL := Lib.hid (slenP H)
  obtain ⟨c0, c1⟩ := pager_cells H.at
  have H' := Lib.hid H
  have d1 : decide ((S.h.pages : Int) ≤ 2) = false := by simp; omega
  clear H
  go_enter Tryz.func24, Tryz.ntmps24
  go_wp2_with fail
  refine HM.out.mono ?_
  rintro e _ ⟨rfl, rfl⟩
  go_wp2_with fail
  refine HL.out.mono ?_
  rintro e _ ⟨rfl, rfl⟩
  go_wp2_with fail
  refine (empty_any 2 _ (by omega) (by omega)).mono ?_
  rintro e w1 ⟨rfl, hb1⟩
  have H1' := Lib.hid (H'.out.on hb1)
  rw [show zeroS (emptyZ 2) = fmtS 0 from rfl]
  clear hb1 HM HL H' c0 c1
  go_wp2_with fail
  go_loopw [3, 16] (fun s i wr => ∃ k : Nat, k ≤ 2 ∧ i = .int .i64 k ∧ s = .string (fmtS k) ∧ Pag w0 pp S c R wr) (fun _ i _ => 2 - (intOf i).toNat)
  case atStart => exact ⟨0, Nat.zero_le _, rfl, rfl, H1'.out⟩
  case round =>
    clear H1'
    obtain ⟨k, hk, rfl, rfl, hP⟩ := hrel
    have HP := Lib.hid hP
    clear hP
    by_cases hlt : k < 2
    · have d1 : decide ((k : Int) < 2) = true := by simp; omega
      have HW := Lib.hid (with_any (fmtS k) k true wr (by rw [fmtS_size]; omega) (by omega) (by omega))
      go_wp2_with fail
      refine HW.out.mono ?_
      rintro e w2 ⟨rfl, hb2⟩
      have H2' := Lib.hid (HP.out.on hb2)
      clear hb2 HP HW
      go_wp2
      go_roundw
      case rel => exact ⟨k + 1, by omega, by go_num, rfl, H2'.out⟩
      case measure => simp [intOf]; omega
    · obtain rfl : k = 2 := by omega
      rw [fmtS_two]
      have HW1 := Lib.hid (pwrite_any HP.out 0 ⟨#[3]⟩ (by omega) (by omega) (by decide) (by omega))
      clear HP
      go_wp2_with fail
      refine HW1.out.mono ?_
      rintro e w2 ⟨rfl, H2⟩
      have HW2 := Lib.hid (pwrite_any H2 1 ⟨#[]⟩ (by omega) (show (1 : Int) < S.h.pages by omega) (by decide) (by omega))
      clear H2 HW1
      go_wp2_with fail
      refine HW2.out.mono ?_
      rintro e w3 ⟨rfl, H3⟩
      have H3' := Lib.hid H3
      clear H3 HW2
      go_wp2
      go_returns
      exact ⟨rfl, H3'.out⟩
end
end Go.Proofs.YtkdhlofcdcnjgaaGreat
namespace Go.Proofs.YtkdhlofcdcnjgaaGreat
set_option maxRecDepth 100000
open Go.ChangeShapes Go.WideShapes Go.ChangeAt Go.RowKit Go.PlainAid Go.Shelf
attribute [local go_sem] Oper.semAt_some

/-- A block holds what it held. -/
def KpE (b : Nat) (W W' : World) : Prop := W'.heap[b]? = W.heap[b]?
def encI (x : Int) : Array Value := #[.int .i64 x]
set_option maxHeartbeats 2000000 in
theorem ieach_in (l bs : Nat) (s : ByteArray) (hs : s.size ≤ 1000) (J Jx : List Int → World → Prop)
    (hY : ∀ pre x W, J pre W → pre.length < (nums s s.size).length → YieldAt Fence.wide 7 Tryz.prog l (encI x) W fun e W' =>
      (e = .returned (.bool true) ∧ J (pre ++ [x]) W' ∧ KpE bs W W') ∨ (e = .returned (.bool false) ∧ Jx (pre ++ [x]) W'))
    (W : World) (hS : Boxed W bs 9 (.string s)) (h0 : J [] W) :
    CallsIn Fence.wide 8 Tryz.prog 112 #[.func (.yield l) #[] #[], .pointer (some ⟨bs, 0, none⟩)] W fun e W' => (∃ v, e = .returned v) ∧
      ((∃ ys, ys = nums s s.size ∧ J ys W') ∨ (∃ pre : List Int, True ∧ Jx pre W')) := by
  refine callsIn_of_wp Tryz.func112 rfl trivial ?_ rfl
  simp only [Tryz.ntmps112, List.size_toArray, List.length_cons, List.length_nil, Nat.reduceAdd, Nat.reduceSub, Array.replicate_succ, Array.replicate_zero, List.push_toArray, List.append_toArray, List.nil_append, List.cons_append]
  have gb := get_bt s
  have hc0 := hS.cell
  have hnil := eq_yield
  have HY := Lib.hid hY
  have H0 := Lib.hid h0
  have HS0 := Lib.hid hS
  clear hY h0 hS
  gi_wp2
  gi_loopw [9] (fun i wr => ∃ k : Nat, k ≤ s.size ∧ i = .int .i64 k ∧ J (nums s k) wr ∧ Boxed wr bs 9 (.string s)) (fun i _ => s.size - (intOf i).toNat)
  case atStart => exact ⟨0, Nat.zero_le _, rfl, H0.out, HS0.out⟩
  case round =>
    obtain ⟨k, hk, rfl, hE, hB⟩ := hrel
    have hcs := hB.cell
    have HE := Lib.hid hE
    have HB := Lib.hid hB
    clear hE hB hc0 H0 HS0
    by_cases hlt : k < s.size
    · have hc := And.intro (bt_nonneg s k) (bt_le s k)
      have HN := Lib.hid (show nums s (k + 1) = nums s k ++ (byteL (bt s k)).map fun b : Nat => (k : Int) * 8 + (b : Int) from rfl)
      have HP := Lib.hid (nums_part (s := s) (show k + 1 ≤ s.size by omega))
      gi_wp2
      gi_loopw [4] (fun x wy => ∃ (c : Int) (ys : List Int), 0 ≤ c ∧ c ≤ 255 ∧ x = .int .u8 c ∧ J (nums s k ++ ys) wy ∧ Boxed wy bs 9 (.string s) ∧
        ys ++ (byteL c).map (fun b : Nat => (k : Int) * 8 + (b : Int)) = (byteL (bt s k)).map (fun b : Nat => (k : Int) * 8 + (b : Int))) (fun x _ => (intOf x).toNat)
      case atStart => exact ⟨bt s k, [], hc.1, hc.2, rfl, by rw [List.append_nil]; exact HE.out, HB.out, rfl⟩
      case round =>
        clear HE HB hcs hc
        obtain ⟨c, ys, c0, c1, rfl, hE, hB, hys⟩ := hrel
        have HE := Lib.hid hE
        have HB := Lib.hid hB
        have HYS := Lib.hid hys
        clear hE hB hys
        by_cases hz : c = 0
        · subst hz
          gi_wp2
          go_roundw
          case rel =>
            have e : ys = (byteL (bt s k)).map (fun b : Nat => (k : Int) * 8 + (b : Int)) := by
              have := HYS.out
              rw [byteL_zero, List.map_nil, List.append_nil] at this
              exact this
            refine ⟨k + 1, by omega, by go_num, ?_, HB.out⟩
            rw [HN.out, ← e]; exact HE.out
          case measure => simp [intOf]; omega
        · have hz2 : (c == 0) = false := beq_eq_false_iff_ne.2 hz
          have hst : byteL c = Lib.trailingZeros8 c.toNat :: byteL (bits .and .u8 c (c - 1)) ∧ 0 ≤ bits .and .u8 c (c - 1) ∧ bits .and .u8 c (c - 1) < c := by
            obtain ⟨z, hzz⟩ := byte_fin c0 c1
            subst hzz
            exact byteL_step z (by omega)
          have ht : Lib.trailingZeros8 c.toNat ≤ 8 := by
            obtain ⟨z, hzz⟩ := byte_fin c0 c1
            subst hzz
            exact Lib.trailingZeros8_le8 z
          have HT := Lib.hid fun w => Calls.mono (sh_bits_TrailingZeros8 c w c0 c1) fun _ _ ⟨p, q⟩ => And.intro p q.symm
          have HST := Lib.hid hst.1
          have h4 := hst.2.1
          have h5 := hst.2.2
          clear hst hz
          generalize Lib.trailingZeros8 c.toNat = t at *
          have hE2 : nums s k ++ (ys ++ [(k : Int) * 8 + (t : Int)]) = (nums s k ++ ys) ++ [(k : Int) * 8 + (t : Int)] := (List.append_assoc _ _ _).symm
          have HE2 := Lib.hid hE2
          have HYS2 : Hid ((ys ++ [(k : Int) * 8 + (t : Int)]) ++ (byteL (bits .and .u8 c (c - 1))).map (fun b : Nat => (k : Int) * 8 + (b : Int)) = (byteL (bt s k)).map (fun b : Nat => (k : Int) * 8 + (b : Int))) := by
            refine Lib.hid ?_
            have := HYS.out
            rw [HST.out, List.map_cons] at this
            rw [List.append_assoc]
            exact this
          have hlen : (nums s k ++ ys).length < (nums s s.size).length := by
            have p1 : nums s k ++ (ys ++ [(k : Int) * 8 + (t : Int)]) <+: nums s (k + 1) := by
              rw [HN.out, ← HYS2.out]
              exact ⟨(byteL (bits .and .u8 c (c - 1))).map (fun b : Nat => (k : Int) * 8 + (b : Int)), by simp only [List.append_assoc]⟩
            have p2 := (p1.trans HP.out).length_le
            rw [hE2, List.length_append, List.length_singleton] at p2
            omega
          obtain ⟨fn, tmps, assign, body, hy, hR⟩ := HY.out (nums s k ++ ys) ((k : Int) * 8 + (t : Int)) _ HE.out hlen
          unfold encI at hy
          have HR := Lib.hid hR
          clear hE2 hlen hR
          gi_wp2_with fail
          refine ⟨trivial, (callsIn_wide.2 (HT.out _)).mono ?_⟩
          rintro e _ ⟨rfl, rfl⟩
          gi_wp2
          refine HR.out.mono ?_
          rintro e W3 (⟨rfl, hJ3, hk3⟩ | ⟨rfl, hJx3⟩)
          · have HJ3 := Lib.hid hJ3
            have HB3 : Hid (Boxed W3 bs 9 (.string s)) := Lib.hid (Eq.trans hk3 HB.out)
            clear hk3 hJ3
            gi_wp2
            go_roundw
            case rel => exact ⟨_, ys ++ [(k : Int) * 8 + (t : Int)], h4, by omega, rfl, by rw [HE2.out]; exact HJ3.out, HB3.out, HYS2.out⟩
            case measure => simp [intOf]; omega
          · have HJ3 := Lib.hid hJx3
            clear hJx3
            gi_wp2
            refine bodyPost_ret (results_none rfl _ _ _) rfl ?_
            exact ⟨⟨_, rfl⟩, .inr ⟨_, trivial, HJ3.out⟩⟩
    · obtain rfl : k = s.size := by omega
      gi_wp2
      go_end0
      exact ⟨⟨_, rfl⟩, .inl ⟨_, rfl, HE.out⟩⟩
theorem ieach_stops (bs : Nat) (s : ByteArray) (hs : s.size ≤ 1000) (w : World) (hS : Boxed w bs 9 (.string s)) :
    SeqStopsK Fence.wide 8 Tryz.prog 112 #[.pointer (some ⟨bs, 0, none⟩)] encI (KpE bs) (fun ys => ys = nums s s.size) (fun _ => True) (nums s s.size).length w := fun l J Jx W hW _ _ hY h0 =>
  ieach_in l bs s hs J Jx hY W ((hW.block bs hS.lt).trans hS) h0
end Go.Proofs.YtkdhlofcdcnjgaaGreat
namespace Go.Proofs.YtkdhlofcdcnjgaaGreat
set_option maxRecDepth 100000
open Go.ChangeShapes Go.WideShapes Go.ChangeAt Go.RowKit Go.PlainAid Go.Shelf
attribute [local go_sem] Oper.semAt_some

/-- How many of these numbers are of pages. -/
def ofPages (n : Nat) (l : List Int) : Nat := l.countP fun x => decide (x < (n : Int))
theorem ofPages_snoc (n : Nat) (l : List Int) (x : Int) : ofPages n (l ++ [x]) = ofPages n l + if x < (n : Int) then 1 else 0 := by
  unfold ofPages
  rw [List.countP_append, List.countP_singleton]
  by_cases h : x < (n : Int) <;> simp [h]
theorem ofPages_le (n : Nat) (l : List Int) : ofPages n l ≤ l.length := List.countP_le_length
/-- How many pages are not given out. -/
def roomZ (n : Nat) (s : ByteArray) : Int := (n : Int) - (ofPages n (nums s s.size) : Int)
/-- What stands at hand while pages are counted. -/
def Counts (n : Nat) (s : ByteArray) (w1 : World) (pre : List Int) (W : World) : Prop :=
  Boxed W w1.heap.size 3 (.int .i64 n) ∧ Boxed W (w1.heap.size + 1) 3 (.int .i64 ((n : Int) - (ofPages n pre : Int))) ∧ Boxed W (w1.heap.size + 1 + 1) 9 (.string s) ∧ Below w1.heap.size w1 W
section
variable {w0 w w' : World} {pp c : Nat} {S : Sto} {R : List (Nat × Obj)}
set_option maxHeartbeats 2000000 in
theorem proom_any (H : Pag w0 pp S c R w) (hp : 0 < S.h.pages) :
    Calls Tryz.prog 29 #[.pointer (some ⟨pp, 0, none⟩)] w fun e w' => e = .returned (.int .i64 (roomZ S.h.pages (S.at 0))) ∧ Pag w0 pp S c R w' := by
  have HR := Lib.hid (pread_any H 0 (by omega) (by omega))
  have hsz := H.size (k := 0) (by omega) (by omega)
  have hpg := H.ok.wf.pages
  clear H
  refine (callsIn_wide (n := 10)).1 ?_
  refine callsIn_of_wp_marks Tryz.func29 rfl trivial ?_ rfl
  simp only [Tryz.ntmps29, List.size_toArray, List.length_cons, List.length_nil, Nat.reduceAdd, Nat.reduceSub, Array.replicate_succ, Array.replicate_zero, List.push_toArray, List.append_toArray, List.nil_append, List.cons_append]
  refine wpIn_wide.2 ?_
  go_wp2_with fail
  refine HR.out.mono ?_
  rintro e w1 ⟨rfl, H1⟩
  obtain ⟨c0, c1⟩ := pager_cells (Pag.at H1)
  have HL := Lib.hid (slenP H1)
  have H1' := Lib.hid H1
  clear H1 HR
  go_wp2_with fail
  refine HL.out.mono ?_
  rintro e _ ⟨rfl, rfl⟩
  clear HL c0 c1
  go_wp2_with fail
  refine (mk_each _ _).mono ?_
  rintro e _ ⟨rfl, rfl⟩
  go_wp2_with fail
  have hS0 : Counts S.h.pages (S.at 0) w1 [] (((w1.alloc (.cells #[.int .i64 S.h.pages] 3)).alloc (.cells #[.int .i64 S.h.pages] 3)).alloc (.cells #[.string (S.at 0)] 9)) := by
    have z1 : (w1.alloc (.cells #[.int .i64 S.h.pages] 3)).heap.size = w1.heap.size + 1 := by simp
    have z2 : ((w1.alloc (.cells #[.int .i64 S.h.pages] 3)).alloc (.cells #[.int .i64 S.h.pages] 3)).heap.size = w1.heap.size + 1 + 1 := by simp
    have q0 := Boxed.new w1 3 (.int .i64 S.h.pages)
    have q1 := Boxed.new (w1.alloc (.cells #[.int .i64 S.h.pages] 3)) 3 (.int .i64 S.h.pages)
    have q2 := Boxed.new ((w1.alloc (.cells #[.int .i64 S.h.pages] 3)).alloc (.cells #[.int .i64 S.h.pages] 3)) 9 (.string (S.at 0))
    rw [z1] at q1
    rw [z2] at q2
    refine ⟨(q0.alloc _).alloc _, ?_, q2, by go_grown⟩
    rw [show ((S.h.pages : Int) - (ofPages S.h.pages [] : Int)) = S.h.pages by show _ - ((0 : Nat) : Int) = _; omega]
    exact q1.alloc _
  have hz0 : (((w1.alloc (.cells #[.int .i64 S.h.pages] 3)).alloc (.cells #[.int .i64 S.h.pages] 3)).alloc (.cells #[.string (S.at 0)] 9)).heap.size = w1.heap.size + 3 := by simp
  generalize ((w1.alloc (.cells #[.int .i64 S.h.pages] 3)).alloc (.cells #[.int .i64 S.h.pages] 3)).alloc (.cells #[.string (S.at 0)] 9) = W0 at *
  generalize hn : S.h.pages = n at *
  generalize hs : S.at 0 = s at *
  have HC0 := Lib.hid hS0
  have HSZ := Lib.hid hsz
  clear hS0 hsz
  refine (wpIn_wide (n := 9)).1 ?_
  refine wpIn_rangeFunc_ownH (w0 := W0) rfl (by decide) (gf := 112) (lb := #[.pointer (some ⟨w1.heap.size + 1 + 1, 0, none⟩)]) rfl trivial (enters_of Tryz.func112 (by kernel_rfl) rfl)
    (ieach_stops (w1.heap.size + 1 + 1) s (by rw [HSZ.out]; omega) W0 HC0.out.2.2.1) (fun h k => Eq.trans k h)
    (fun W l o o' hl' _ _ _ => World.putObj_heap_other (by omega)) (Below.refl _ _) (fun _ => rfl)
    (fun pre W => Counts n s w1 pre W) (fun c pre W => False)
    ?own ?ownx HC0.out
    (fun x a' W => a' = {
      tmps := #[Value.pointer (some { block := pp, off := 0 }), undef, Value.int IntKind.i64 0, Value.string s, Value.int IntKind.i64 0, Value.pointer (some { block := w1.heap.size, off := 0 }), Value.pointer (some { block := w1.heap.size + 1, off := 0 }), .int .i64 x,
          Value.tuple #[Value.string s, Value.int IntKind.i64 0], Value.pointer (some { block := pp, off := 0 }),
          Value.tuple #[Value.string s, Value.int IntKind.i64 0], Value.string s, Value.int IntKind.i64 0,
          Value.int IntKind.i64 0, Value.bool false, Value.pointer (some { block := pp, off := 0 }),
          Value.pointer (some { block := pp, off := 0 }), Value.pointer (some { block := pp, off := 0 }),
          Value.pointer (some { block := S.q, off := 0 }), Value.int IntKind.i64 n, Value.int IntKind.i64 n, Value.string s,
          Value.func (Fn.func 112) #[] #[Value.pointer (some { block := w1.heap.size + 1 + 1, off := 0 })], .int .i64 x, undef, undef, undef, undef, undef, undef], defers := [] }) ?ownA ?assign ?body ?done ?stop
  case own =>
    rintro pre X Y row ⟨h1, h2, h3, h4⟩ hgr hr
    have hk : ∀ k, k < W0.heap.size → k < X.heap.size → Y.heap[k]? = X.heap[k]? := fun k hk hx => hgr.block k hx fun e => by have := (hr k e.symm).1; omega
    exact ⟨(hk _ (by omega) h1.lt).trans h1, (hk _ (by omega) h2.lt).trans h2, (hk _ (by omega) h3.lt).trans h3, h4.grown hgr h4.size (fun k e => by have := (hr k e).1; omega)⟩
  case ownx =>
    rintro c pre X Y row h hgr hr
    exact h
  case ownA =>
    rintro x a' _ X Y row h hgr hr
    exact h
  case assign =>
    rintro l pre x W K h1 hK
    have H1 := Lib.hid h1
    unfold encI
    clear h1
    gi_wp2
    exact hK _ _ (KeepsFrom.refl _ _) rfl H1.out rfl
  case body =>
    rintro l pre x _ W hl' _ ⟨h1, h2, h3, h4⟩ rfl hlt
    have m1 := h1.cell
    have m2 := h2.cell
    have f2 := h2.frozen
    have hle := ofPages_le n pre
    have hll : (nums s s.size).length ≤ 100000 := by
      rw [nums_len]
      have := cnt_le s s.size
      rw [HSZ.out] at this ⊢
      omega
    have HB := Lib.hid (And.intro h1 (And.intro h2 (And.intro h3 h4)))
    have hsn := ofPages_snoc n pre x
    by_cases hx : x < (n : Int)
    · have hd : decide (x < (n : Int)) = true := by simpa using hx
      rw [if_pos hx] at hsn
      have b1 := h1.other (B' := w1.heap.size + 1) (by omega) (.int .i64 ((n : Int) - (ofPages n pre : Int) - 1))
      have b2 := h2.set (.int .i64 ((n : Int) - (ofPages n pre : Int) - 1))
      have b3 := h3.other (B' := w1.heap.size + 1) (by omega) (.int .i64 ((n : Int) - (ofPages n pre : Int) - 1))
      have b4 : Below w1.heap.size w1 (W.setCell ⟨w1.heap.size + 1, 0, none⟩ (.int .i64 ((n : Int) - (ofPages n pre : Int) - 1))) := h4.setCell (Nat.le_succ _) _
      have HI : Hid (Counts n s w1 (pre ++ [x]) (W.setCell ⟨w1.heap.size + 1, 0, none⟩ (.int .i64 ((n : Int) - (ofPages n pre : Int) - 1)))) := by
        refine Lib.hid ⟨b1, ?_, b3, b4⟩
        rw [hsn, show (n : Int) - ((ofPages n pre + 1 : Nat) : Int) = (n : Int) - (ofPages n pre : Int) - 1 by omega]
        exact b2
      clear b1 b2 b3 b4 h1 h2 h3 h4 hsn HB
      gi_wp2
      exact ⟨(KeepsOthers.setCell W _ _).from _, heap_setCell_other _ _ _ _ (by show w1.heap.size + 1 + 1 ≠ w1.heap.size + 1; omega), HI.out⟩
    · have hd : decide (x < (n : Int)) = false := by simpa using hx
      rw [if_neg hx] at hsn
      have HSN := Lib.hid hsn
      clear hx hsn h1 h2 h3 h4
      gi_wp2
      refine ⟨KeepsFrom.refl _ _, rfl, ?_⟩
      show Counts n s w1 (pre ++ [x]) W
      unfold Counts
      rw [HSN.out, Nat.add_zero]
      exact HB.out
  case done =>
    rintro D ys W hD rfl ⟨h1, h2, h3, h4⟩ hK
    have m2 := h2.cell
    have HB := Lib.hid h4
    have HD := Lib.hid (show w1.heap.size ≤ D by omega)
    have HK := Lib.hid hK
    clear h1 h2 h3 h4 hK
    go_wp2_with fail
    refine ⟨by simp, .inl ⟨_, _, rfl, run_takeDeferred HK.out, ?_⟩⟩
    exact ⟨.int .i64 (roomZ n s), by simp [results, Tryz.results29, go_sem, roomZ], by rw [hn, hs], H1'.out.on (below_putC HB.out HD.out HK.out rfl rfl)⟩
  case stop =>
    rintro D c pre W hD hSp h hK
    exact h.elim
end
end Go.Proofs.YtkdhlofcdcnjgaaGreat
namespace Go.Proofs.YtkdhlofcdcnjgaaGreat
set_option maxRecDepth 100000
open Go.ChangeShapes Go.WideShapes Go.ChangeAt Go.RowKit Go.PlainAid

/-- How many numbers below a bound are in a set. -/
def usedN (s : ByteArray) : Nat → Nat | 0 => 0 | k + 1 => usedN s k + (hasB s (k : Int)).toNat
theorem usedN_le (s : ByteArray) : ∀ n, usedN s n ≤ n
  | 0 => Nat.le_refl _
  | n + 1 => by have := usedN_le s n; have := Bool.toNat_le (hasB s (n : Int)); simp only [usedN]; omega
theorem pages_of_range (n : Nat) (s : ByteArray) : ∀ N, ofPages n (((List.range N).filter fun j : Nat => hasB s (j : Int)).map fun j : Nat => (j : Int)) = usedN s (min n N)
  | 0 => by rw [Nat.min_zero]; rfl
  | N + 1 => by
    have ih := pages_of_range n s N
    rw [List.range_succ, List.filter_append, List.map_append]
    by_cases h : hasB s (N : Int) = true
    · rw [show [N].filter (fun j : Nat => hasB s (j : Int)) = [N] by simp [h], List.map_cons, List.map_nil, ofPages_snoc, ih]
      by_cases c : N < n
      · rw [if_pos (by omega), Nat.min_eq_right (by omega), Nat.min_eq_right (by omega)]
        simp only [usedN]
        rw [h]
        rfl
      · rw [if_neg (by omega), Nat.min_eq_left (by omega), Nat.min_eq_left (by omega), Nat.add_zero]
    · rw [show [N].filter (fun j : Nat => hasB s (j : Int)) = [] by simp [h], List.map_nil, List.append_nil, ih]
      by_cases c : N < n
      · rw [Nat.min_eq_right (by omega), Nat.min_eq_right (by omega)]
        simp only [usedN]
        rw [show hasB s (N : Int) = false by simpa using h]
        rfl
      · rw [Nat.min_eq_left (by omega), Nat.min_eq_left (by omega)]
theorem nums_range (s : ByteArray) : ∀ k, k ≤ s.size → nums s k = ((List.range (8 * k)).filter fun j : Nat => hasB s (j : Int)).map fun j : Nat => (j : Int)
  | 0, _ => rfl
  | k + 1, h => by
    have ih := nums_range s k (by omega)
    show nums s k ++ (byteL (bt s k)).map (fun b : Nat => (k : Int) * 8 + (b : Int)) = _
    rw [show 8 * (k + 1) = 8 * k + 8 by omega, List.range_add, List.filter_append, List.map_append, ← ih]
    congr 1
    rw [List.filter_map, List.map_map]
    unfold byteL
    have e : (List.range 8).filter ((fun j : Nat => hasB s (j : Int)) ∘ fun x => 8 * k + x) = (List.range 8).filter (bitBM (bt s k)) := by
      refine List.filter_congr fun b hb => ?_
      have hb8 := List.mem_range.1 hb
      exact has_in (by omega) (by simp only; omega) (by simp only; omega)
    rw [e]
    refine List.map_congr_left fun b _ => ?_
    show (k : Int) * 8 + (b : Int) = ((8 * k + b : Nat) : Int)
    omega
theorem roomZ_used {s : ByteArray} {n : Nat} (h : n ≤ 8 * s.size) : roomZ n s = (n : Int) - (usedN s n : Int) := by
  unfold roomZ
  rw [nums_range s s.size (Nat.le_refl _), pages_of_range, Nat.min_eq_left h]
theorem used_with {s : ByteArray} {v : Int} (hr : roomB s v = true) (x : Bool) : ∀ n : Nat, usedN (withS s v x) n + (if 0 ≤ v ∧ v < (n : Int) then (hasB s v).toNat else 0) = usedN s n + (if 0 ≤ v ∧ v < (n : Int) then x.toNat else 0)
  | 0 => by
    have c0 : ¬ (0 ≤ v ∧ v < ((0 : Nat) : Int)) := by omega
    rw [if_neg c0, if_neg c0]
    rfl
  | n + 1 => by
    have ih := used_with hr x n
    simp only [usedN]
    rw [has_with s v n x hr]
    have c1 : (0 ≤ v ∧ v < ((n + 1 : Nat) : Int)) ↔ (n : Int) = v ∨ (0 ≤ v ∧ v < (n : Int)) := by omega
    by_cases e : (n : Int) = v
    · have c0 : ¬ (0 ≤ v ∧ v < (n : Int)) := by omega
      have c2 := c1.2 (.inl e)
      rw [if_neg c0, if_neg c0] at ih
      rw [if_pos e, if_pos c2, if_pos c2, e]
      omega
    · rw [if_neg e]
      by_cases c : 0 ≤ v ∧ v < (n : Int)
      · have c2 := c1.2 (.inr c)
        rw [if_pos c, if_pos c] at ih
        rw [if_pos c2, if_pos c2]
        omega
      · have c2 : ¬ (0 ≤ v ∧ v < ((n + 1 : Nat) : Int)) := fun h => (c1.1 h).elim e c
        rw [if_neg c, if_neg c] at ih
        rw [if_neg c2, if_neg c2]
        omega
/-- A set of all numbers below a bound, and no other page. -/
theorem used_first {s : ByteArray} {n i : Nat} (h : ∀ k : Int, 0 ≤ k → k < n → hasB s k = decide (k < (i : Int))) : ∀ m, m ≤ n → usedN s m = min i m
  | 0, _ => by rw [Nat.min_zero]; rfl
  | m + 1, hm => by
    have ih := used_first h m (by omega)
    simp only [usedN]
    rw [ih, h m (by omega) (by omega)]
    by_cases c : m < i
    · rw [decide_eq_true (by omega)]; show _ + 1 = _; omega
    · rw [decide_eq_false (by omega)]; show _ + 0 = _; omega
theorem room_page {s : ByteArray} (hs : s.size = 256) {k : Int} (h0 : 0 ≤ k) (h1 : k < 2048) : roomB s k = true := room_in h0 (by rw [hs]; omega)
theorem has_three {k : Int} (h0 : 0 ≤ k) (h1 : k < 2048) : hasB (filled ⟨#[3]⟩) k = decide (k < 2) := by
  obtain ⟨j, rfl⟩ := Int.eq_ofNat_of_zero_le h0
  have hsz := filled_size ⟨#[3]⟩
  have hj : j / 8 < 256 := by omega
  rw [has_in (s := filled ⟨#[3]⟩) (i := (j : Int)) (j := j / 8) (k := j % 8) (by rw [hsz]; exact hj) (by omega) (by omega), filled_bt _ hj]
  by_cases h8 : j < 8
  · have e : j / 8 = 0 := by omega
    rw [e, show bt ⟨#[3]⟩ 0 = 3 by kernel_rfl, show j % 8 = j by omega]
    have : ∀ z : Fin 8, bitBM 3 z.val = decide (z.val < 2) := by decide +kernel
    have h2 := this ⟨j, h8⟩
    simp only at h2
    rw [h2]
    by_cases c : j < 2
    · rw [decide_eq_true c, decide_eq_true (by omega)]
    · rw [decide_eq_false c, decide_eq_false (by omega)]
  · rw [bt_end _ (show (⟨#[3]⟩ : ByteArray).size ≤ j / 8 by show 1 ≤ j / 8; omega), decide_eq_false (by omega)]
    unfold bitBM
    rw [hv_zero]
    rfl
/-- The least one that is not given out. -/
theorem least_first {s : ByteArray} {n i : Nat} (hs : s.size = 256) (hn : n ≤ 1024) (h : ∀ k : Int, 0 ≤ k → k < n → hasB s k = decide (k < (i : Int))) (h2 : 2 ≤ i) (hi : i < n) : Least s 2 n i := by
  refine ⟨⟨by omega, by omega, by omega, by rw [hs]; omega, ?_⟩, fun l hl hc => ?_⟩
  · rw [h i (by omega) (by omega), decide_eq_false (by omega)]
  · obtain ⟨a, b, c, _, e⟩ := hc
    rw [h l b c, decide_eq_true (by omega)] at e
    cases e
theorem least_none {s : ByteArray} {n : Nat} (h : ∀ k : Int, 0 ≤ k → k < n → hasB s k = true) (l : Int) : ¬ LowP s 2 n l := fun ⟨_, b, c, _, e⟩ => by
  rw [h l b c] at e
  cases e

/-- Pages, with one otherwise. -/
def updV (V : Int → ByteArray) (k : Int) (s : ByteArray) : Int → ByteArray := fun j => if j = k then s else V j
theorem updV_same (V : Int → ByteArray) (k : Int) (s : ByteArray) : updV V k s k = s := if_pos rfl
theorem updV_other (V : Int → ByteArray) {k j : Int} (s : ByteArray) (h : j ≠ k) : updV V k s j = V j := if_neg h
theorem Sto.put_at (S : Sto) (k : Int) (s : ByteArray) : (S.put k s).at = updV S.at k s := funext fun j => S.at_put k s j
/-- Behind an Alloc. -/
def givenV (V : Int → ByteArray) (v : Int) : Int → ByteArray := updV (updV V v zeroText) 0 (withS (V 0) v true)
theorem Sto.given_at (S : Sto) (v : Int) : (S.given v).at = givenV S.at v := by
  unfold Sto.given givenV
  rw [Sto.put_at, Sto.put_at, filled_empty]
/-- Behind a Format. -/
def fmtV (V : Int → ByteArray) : Int → ByteArray := updV (updV V 0 (filled ⟨#[3]⟩)) 1 zeroText
theorem bt_setRoot {s : ByteArray} (hs : s.size = 256) {i : Nat} (hi : i < 16) (k : Int) {m : Nat} (hm : m < 256) : bt (setRoot s (i : Int) k) m = if 4 * i ≤ m ∧ m < 4 * i + 4 then bt (fixS k 4) (m - 4 * i) else bt s m := by
  unfold setRoot
  rw [show (4 * (i : Int)).toNat = 4 * i by omega, show (4 * ((i : Int) + 1)).toNat = 4 * i + 4 by omega, bt_append, bt_append, ByteArray.size_append, ByteArray.size_extract, fixS_size4, hs]
  by_cases a : m < 4 * i
  · rw [if_pos (by omega), if_pos (by omega), if_neg (by omega), bt_ext _ _ _ _ (by omega) (by omega), Nat.zero_add]
  · by_cases b : m < 4 * i + 4
    · rw [if_pos (by omega), if_neg (by omega), if_pos (by omega), show m - (min (4 * i) 256 - 0) = m - 4 * i by omega]
    · rw [if_neg (by omega), if_neg (by omega), bt_ext _ _ _ _ (by omega) (by omega)]
      congr 1
      omega
/-- A root that is set is told, and others stay. -/
theorem root_set {s : ByteArray} (hs : s.size = 256) {i j k : Int} (hi : 0 ≤ i ∧ i < 16) (hj : 0 ≤ j ∧ j < 16) (hk : 0 ≤ k ∧ k < 4294967296) : rootZ (setRoot s i k) j = if j = i then k else rootZ s j := by
  obtain ⟨i, rfl⟩ := Int.eq_ofNat_of_zero_le hi.1
  obtain ⟨j, rfl⟩ := Int.eq_ofNat_of_zero_le hj.1
  have hsz : (setRoot s (i : Int) k).size = 256 := setRoot_size hs (by omega) (by omega)
  unfold rootZ
  rw [show (4 * (j : Int)).toNat = 4 * j by omega]
  have hbt : ∀ t, t < 4 → bt (((setRoot s (i : Int) k).extract (4 * j) 256).extract 0 4) t = bt (setRoot s (i : Int) k) (4 * j + t) := fun t ht => by
    rw [ext_ext _ _ _ _ _ (by omega), bt_ext _ _ _ _ (by omega) (by omega), Nat.add_zero]
  have hbs : ∀ t, t < 4 → bt ((s.extract (4 * j) 256).extract 0 4) t = bt s (4 * j + t) := fun t ht => by
    rw [ext_ext _ _ _ _ _ (by omega), bt_ext _ _ _ _ (by omega) (by omega), Nat.add_zero]
  have z1 : (((setRoot s (i : Int) k).extract (4 * j) 256).extract 0 4).size = 4 := by rw [ByteArray.size_extract, ByteArray.size_extract]; omega
  have z2 : ((s.extract (4 * j) 256).extract 0 4).size = 4 := by rw [ByteArray.size_extract, ByteArray.size_extract]; omega
  by_cases e : (j : Int) = (i : Int)
  · have e' : j = i := by omega
    subst e'
    rw [if_pos rfl]
    have : ((setRoot s (j : Int) k).extract (4 * j) 256).extract 0 4 = fixS k 4 := text_ext (by rw [z1, fixS_size4]) fun t ht => by
      rw [z1] at ht
      rw [hbt t ht, bt_setRoot hs (by omega) k (by omega), if_pos (by omega), show 4 * j + t - 4 * j = t by omega]
    rw [this, back_fix4 _ hk.1 (by omega)]
    omega
  · rw [if_neg e]
    have : ((setRoot s (i : Int) k).extract (4 * j) 256).extract 0 4 = (s.extract (4 * j) 256).extract 0 4 := text_ext (by rw [z1, z2]) fun t ht => by
      rw [z1] at ht
      rw [hbt t ht, hbs t ht, bt_setRoot hs (by omega) k (by omega), if_neg (by omega)]
    rw [this]
theorem unfix_zero {x : ByteArray} (h : ∀ t, bt x t = 0) : unfixZ x = 0 := by
  unfold unfixZ n8
  rw [h, h, h, h, h, h, h, h]
  omega
theorem root_zero (j : Int) : rootZ zeroText j = 0 := by
  unfold rootZ
  refine unfix_zero fun t => ?_
  by_cases ht : t < ((zeroText.extract (4 * j).toNat 256).extract 0 4).size
  · have ht2 := ht
    rw [ByteArray.size_extract, ByteArray.size_extract, zeroText_size] at ht2
    rw [bt_ext _ _ _ _ (by rw [ByteArray.size_extract, zeroText_size]; omega) (by omega), bt_ext _ _ _ _ (by rw [zeroText_size]; omega) (by omega), zeroText_bt]
  · exact bt_end _ (by omega)
end Go.Proofs.YtkdhlofcdcnjgaaGreat
namespace Go.Proofs.YtkdhlofcdcnjgaaGreat
set_option maxRecDepth 100000
open Go.ChangeShapes Go.WideShapes Go.ChangeAt Go.RowKit Go.PlainAid
open Go.Sort (grow)

/-- A pager in memory, of so many pages, which are these. -/
def PV (w0 : World) (pp n c : Nat) (V : Int → ByteArray) (R : List (Nat × Obj)) (w : World) : Prop := ∃ S : Sto, Pag w0 pp S c R w ∧ S.h.pages = n ∧ S.at = V
section
variable {w0 w w' : World} {pp n c : Nat} {V : Int → ByteArray} {R : List (Nat × Obj)}
theorem PV.on (H : PV w0 pp n c V R w) (b : Below w.heap.size w w') : PV w0 pp n c V R w' := by
  obtain ⟨S, h1, h2, h3⟩ := H
  exact ⟨S, h1.on b, h2, h3⟩
theorem PV.below (H : PV w0 pp n c V R w) : Below w0.heap.size w0 w := by
  obtain ⟨S, h1, h2, h3⟩ := H
  exact h1.below
theorem PV.mono {c' : Nat} (H : PV w0 pp n c V R w) (hc : c ≤ c') : PV w0 pp n c' V R w := by
  obtain ⟨S, h1, h2, h3⟩ := H
  exact ⟨S, h1.mono hc, h2, h3⟩
theorem PV.mem (H : PV w0 pp n c V R w) {x : Nat × Obj} (hx : x ∈ R) : w.heap[x.1]? = some x.2 := by
  obtain ⟨S, h1, h2, h3⟩ := H
  exact h1.mem hx
theorem PV.pages (H : PV w0 pp n c V R w) : n ≤ 1024 := by
  obtain ⟨S, h1, h2, h3⟩ := H
  have := h1.ok.wf.pages
  omega
theorem PV.size (H : PV w0 pp n c V R w) {k : Int} (h0 : 0 ≤ k) (h1 : k < n) : (V k).size = 256 := by
  obtain ⟨S, h, rfl, rfl⟩ := H
  exact h.size h0 h1
theorem PV.alloc (H : PV w0 pp n c V R w) (hp : 0 < n) (hc : c < 900000) (v : Int) (hv : Least (V 0) 2 n v) :
    Calls Tryz.prog 60 #[.pointer (some ⟨pp, 0, none⟩)] w fun e w' => e = .returned (.tuple #[.int .i64 v, .int .i64 0]) ∧ PV w0 pp n (c + 2) (givenV V v) R w' := by
  obtain ⟨S, h, rfl, rfl⟩ := H
  exact (palloc_yes h hp hc v hv).mono fun e w' ⟨he, h'⟩ => ⟨he, _, h', rfl, S.given_at v⟩
theorem PV.alloc_no (H : PV w0 pp n c V R w) (hp : 0 < n) (hv : ∀ l, ¬ LowP (V 0) 2 n l) :
    Calls Tryz.prog 60 #[.pointer (some ⟨pp, 0, none⟩)] w fun e w' => e = .returned (.tuple #[.int .i64 0, .int .i64 13]) ∧ PV w0 pp n c V R w' := by
  obtain ⟨S, h, rfl, rfl⟩ := H
  exact (palloc_no h hp hv).mono fun e w' ⟨he, h'⟩ => ⟨he, _, h', rfl, rfl⟩
theorem PV.free (H : PV w0 pp n c V R w) (k : Int) (b0 : -9223372036854775808 ≤ k) (b1 : k ≤ 9223372036854775807) (hp : 0 < n) (hc : c < 1000000) (hk : outB n (V 0) k = true) :
    Calls Tryz.prog 124 #[.pointer (some ⟨pp, 0, none⟩), .int .i64 k] w fun e w' => e = .returned (.int .i64 0) ∧ PV w0 pp n (c + 1) (updV V 0 (withS (V 0) k false)) R w' := by
  obtain ⟨S, h, rfl, rfl⟩ := H
  exact (pfree_yes h k b0 b1 hp hc hk).mono fun e w' ⟨he, h'⟩ => ⟨he, _, h', rfl, S.put_at _ _⟩
theorem PV.free_no (H : PV w0 pp n c V R w) (k : Int) (b0 : -9223372036854775808 ≤ k) (b1 : k ≤ 9223372036854775807) (hp : 0 < n) (hk : outB n (V 0) k = false) :
    Calls Tryz.prog 124 #[.pointer (some ⟨pp, 0, none⟩), .int .i64 k] w fun e w' => e = .returned (.int .i64 6) ∧ PV w0 pp n c V R w' := by
  obtain ⟨S, h, rfl, rfl⟩ := H
  exact (pfree_no h k b0 b1 hp hk).mono fun e w' ⟨he, h'⟩ => ⟨he, _, h', rfl, rfl⟩
theorem PV.get (H : PV w0 pp n c V R w) (k : Int) (b0 : -9223372036854775808 ≤ k) (b1 : k ≤ 9223372036854775807) (hp : 0 < n) (hk : outB n (V 0) k = true) :
    Calls Tryz.prog 119 #[.pointer (some ⟨pp, 0, none⟩), .int .i64 k] w fun e w' => e = .returned (.tuple #[.string (V k), .int .i64 0]) ∧ PV w0 pp n c V R w' := by
  obtain ⟨S, h, rfl, rfl⟩ := H
  exact (pget_yes h k b0 b1 hp hk).mono fun e w' ⟨he, h'⟩ => ⟨he, _, h', rfl, rfl⟩
theorem PV.get_no (H : PV w0 pp n c V R w) (k : Int) (b0 : -9223372036854775808 ≤ k) (b1 : k ≤ 9223372036854775807) (hp : 0 < n) (hk : outB n (V 0) k = false) :
    Calls Tryz.prog 119 #[.pointer (some ⟨pp, 0, none⟩), .int .i64 k] w fun e w' => e = .returned (.tuple #[.string ⟨#[]⟩, .int .i64 6]) ∧ PV w0 pp n c V R w' := by
  obtain ⟨S, h, rfl, rfl⟩ := H
  exact (pget_no h k b0 b1 hp hk).mono fun e w' ⟨he, h'⟩ => ⟨he, _, h', rfl, rfl⟩
theorem PV.set (H : PV w0 pp n c V R w) (k : Int) (s : ByteArray) (b0 : -9223372036854775808 ≤ k) (b1 : k ≤ 9223372036854775807) (hp : 0 < n) (hs : s.size ≤ 256) (hc : c < 1000000) (hk : outB n (V 0) k = true) :
    Calls Tryz.prog 9 #[.pointer (some ⟨pp, 0, none⟩), .int .i64 k, .string s] w fun e w' => e = .returned (.int .i64 0) ∧ PV w0 pp n (c + 1) (updV V k (filled s)) R w' := by
  obtain ⟨S, h, rfl, rfl⟩ := H
  exact (pset_yes h k s b0 b1 hp hs hc hk).mono fun e w' ⟨he, h'⟩ => ⟨he, _, h', rfl, S.put_at _ _⟩
theorem PV.root_no (H : PV w0 pp n c V R w) (i : Int) (hi : i < 0 ∨ 16 ≤ i) :
    Calls Tryz.prog 45 #[.pointer (some ⟨pp, 0, none⟩), .int .i64 i] w fun e w' => e = .returned (.tuple #[.int .i64 0, .int .i64 1]) ∧ PV w0 pp n c V R w' := by
  obtain ⟨S, h, rfl, rfl⟩ := H
  exact (proot_no h i hi).mono fun e w' ⟨he, h'⟩ => ⟨he, _, h', rfl, rfl⟩
theorem PV.root (H : PV w0 pp n c V R w) (i : Int) (hi : 0 ≤ i ∧ i < 16) (hp : 1 < n) :
    Calls Tryz.prog 45 #[.pointer (some ⟨pp, 0, none⟩), .int .i64 i] w fun e w' => e = .returned (.tuple #[.int .i64 (rootZ (V 1) i), .int .i64 0]) ∧ PV w0 pp n c V R w' := by
  obtain ⟨S, h, rfl, rfl⟩ := H
  exact (proot_yes h i hi hp).mono fun e w' ⟨he, h'⟩ => ⟨he, _, h', rfl, rfl⟩
theorem PV.setRoot (H : PV w0 pp n c V R w) (i k : Int) (hi : 0 ≤ i ∧ i < 16) (hp : 1 < n) (hc : c < 1000000) (hk : k ≠ 0 → outB n (V 0) k = true) (b0 : -9223372036854775808 ≤ k) (b1 : k ≤ 9223372036854775807) :
    Calls Tryz.prog 62 #[.pointer (some ⟨pp, 0, none⟩), .int .i64 i, .int .i64 k] w fun e w' => e = .returned (.int .i64 0) ∧ PV w0 pp n (c + 1) (updV V 1 (setRoot (V 1) i k)) R w' := by
  obtain ⟨S, h, rfl, rfl⟩ := H
  exact (psetroot_yes h i k hi hp hc hk b0 b1).mono fun e w' ⟨he, h'⟩ => ⟨he, _, h', rfl, S.put_at _ _⟩
theorem PV.setRoot_arg (H : PV w0 pp n c V R w) (i k : Int) (hi : i < 0 ∨ 16 ≤ i) :
    Calls Tryz.prog 62 #[.pointer (some ⟨pp, 0, none⟩), .int .i64 i, .int .i64 k] w fun e w' => e = .returned (.int .i64 1) ∧ PV w0 pp n c V R w' := by
  obtain ⟨S, h, rfl, rfl⟩ := H
  exact (psetroot_arg h i k hi).mono fun e w' ⟨he, h'⟩ => ⟨he, _, h', rfl, rfl⟩
theorem PV.setRoot_none (H : PV w0 pp n c V R w) (i k : Int) (hi : 0 ≤ i ∧ i < 16) (hp : 0 < n) (z : k ≠ 0) (hk : outB n (V 0) k = false) (b0 : -9223372036854775808 ≤ k) (b1 : k ≤ 9223372036854775807) :
    Calls Tryz.prog 62 #[.pointer (some ⟨pp, 0, none⟩), .int .i64 i, .int .i64 k] w fun e w' => e = .returned (.int .i64 6) ∧ PV w0 pp n c V R w' := by
  obtain ⟨S, h, rfl, rfl⟩ := H
  exact (psetroot_none h i k hi hp z hk b0 b1).mono fun e w' ⟨he, h'⟩ => ⟨he, _, h', rfl, rfl⟩
theorem PV.room (H : PV w0 pp n c V R w) (hp : 0 < n) (z : Int) (hz : (n : Int) - (usedN (V 0) n : Int) = z) :
    Calls Tryz.prog 29 #[.pointer (some ⟨pp, 0, none⟩)] w fun e w' => e = .returned (.int .i64 z) ∧ PV w0 pp n c V R w' := by
  have hs := H.size (k := 0) (by omega) (by omega)
  have hn := H.pages
  obtain ⟨S, h, rfl, rfl⟩ := H
  have := proom_any h hp
  rw [roomZ_used (by rw [hs]; omega), hz] at this
  exact this.mono fun e w' ⟨he, h'⟩ => ⟨he, _, h', rfl, rfl⟩
theorem PV.format (H : PV w0 pp n c V R w) (hp : 2 < n) (hc : c < 900000) :
    Calls Tryz.prog 24 #[.pointer (some ⟨pp, 0, none⟩)] w fun e w' => e = .returned (.int .i64 0) ∧ PV w0 pp n (c + 2) (fmtV V) R w' := by
  obtain ⟨S, h, rfl, rfl⟩ := H
  exact (pformat_any h hp hc).mono fun e w' ⟨he, h'⟩ => ⟨he, _, h', rfl, by rw [Sto.put_at, Sto.put_at, filled_empty]; rfl⟩
end
/-- The set of pages behind a Format. -/
theorem fmt_has {V : Int → ByteArray} {k : Int} (h0 : 0 ≤ k) (h1 : k < 2048) : hasB (fmtV V 0) k = decide (k < 2) := by
  unfold fmtV
  rw [updV_other _ _ (by decide), updV_same]
  exact has_three h0 h1
theorem given_zero (V : Int → ByteArray) (v : Int) : givenV V v 0 = withS (V 0) v true := updV_same _ _ _
theorem given_has {V : Int → ByteArray} {v k : Int} (hs : (V 0).size = 256) (h0 : 0 ≤ v) (h1 : v < 2048) : hasB (givenV V v 0) k = if k = v then true else hasB (V 0) k := by
  rw [given_zero]
  exact has_with _ _ _ _ (room_page hs h0 h1)
/-- As many numbers as there are from the least one on. -/
theorem given_first {V : Int → ByteArray} {n i : Nat} (hs : (V 0).size = 256) (hn : n ≤ 1024) (h : ∀ k : Int, 0 ≤ k → k < n → hasB (V 0) k = decide (k < (i : Int))) (hi : i < n) :
    ∀ k : Int, 0 ≤ k → k < n → hasB (givenV V i 0) k = decide (k < ((i + 1 : Nat) : Int)) := fun k h0 h1 => by
  rw [given_has hs (by omega) (by omega), h k h0 h1]
  by_cases e : k = (i : Int)
  · rw [if_pos e, decide_eq_true (by omega)]
  · rw [if_neg e]
    by_cases c : k < (i : Int)
    · rw [decide_eq_true c, decide_eq_true (by omega)]
    · rw [decide_eq_false c, decide_eq_false (by omega)]
end Go.Proofs.YtkdhlofcdcnjgaaGreat
namespace Go.Proofs.YtkdhlofcdcnjgaaGreat
set_option maxRecDepth 100000
open Go.ChangeShapes Go.WideShapes Go.ChangeAt Go.RowKit Go.PlainAid
open Go.Sort (grow)

theorem out_of {n : Nat} {s : ByteArray} {k : Int} (h0 : 2 ≤ k) (h1 : k < n) (h : hasB s k = true) : outB n s k = true := by
  unfold outB
  rw [decide_eq_true h0, decide_eq_true h1, h]
  rfl
theorem out_has {n : Nat} {s : ByteArray} {k : Int} (h : hasB s k = false) : outB n s k = false := by
  unfold outB
  rw [h, Bool.and_false]
/-- A set behind a Free. -/
theorem freed_has {V : Int → ByteArray} {v k : Int} (hs : (V 0).size = 256) (h0 : 0 ≤ v) (h1 : v < 2048) : hasB (updV V 0 (withS (V 0) v false) 0) k = if k = v then false else hasB (V 0) k := by
  rw [updV_same]
  exact has_with _ _ _ _ (room_page hs h0 h1)
end Go.Proofs.YtkdhlofcdcnjgaaGreat
