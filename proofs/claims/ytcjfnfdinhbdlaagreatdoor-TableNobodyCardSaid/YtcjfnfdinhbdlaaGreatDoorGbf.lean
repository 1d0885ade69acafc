import Derived.Test.YtcjfnfdinhbdlaaGreatDoorGbe
import Derived.Test.YtcjfnfdinhbdlaaGreatDoorGag
import Derived.Test.YtcjfnfdinhbdlaaGreatDoorGbb
namespace Go.Proofs.YtcjfnfdinhbdlaaGreatDoor
set_option maxRecDepth 100000
open Go.ChangeShapes Go.WideShapes Go.ChangeAt Go.RowKit Go.PlainAid
open Go.Sort (grow)
section
variable {w0 w w' : World} {pp c : Nat} {S : Sto} {R : List (Nat × Obj)}
def rootZ (s : ByteArray) (i : Int) : Int := unfixZ ((s.extract (4 * i).toNat 256).extract 0 4)
theorem root_bounds (s : ByteArray) (i : Int) : 0 ≤ rootZ s i ∧ rootZ s i ≤ 4294967295 := by
  unfold rootZ unfixZ
  generalize hx : (s.extract (4 * i).toNat 256).extract 0 4 = x
  have hs : x.size ≤ 4 := by rw [← hx, ByteArray.size_extract]; omega
  rw [bt_end x (k := 4) (by omega), bt_end x (k := 5) (by omega), bt_end x (k := 6) (by omega), bt_end x (k := 7) (by omega)]
  have h0 := bt_b x 0
  have h1 := bt_b x 1
  have h2 := bt_b x 2
  have h3 := bt_b x 3
  unfold n8
  omega
theorem fixS_size4 (k : Int) : (fixS k 4).size = 4 := by
  unfold fixS
  rw [strOfNums_size, List.length_take]
  show min 4 8 = 4
  rfl
set_option maxHeartbeats 1000000 in
theorem proot_yes (H : Pag w0 pp S c R w) (i : Int) (hi : 0 ≤ i ∧ i < 16) (hp : 1 < S.h.pages) :
    Calls Tryz.prog 61 #[.pointer (some ⟨pp, 0, none⟩), .int .i64 i] w fun e w' => e = .returned (.tuple #[.int .i64 (rootZ (S.at 1) i), .int .i64 0]) ∧ Pag w0 pp S c R w' := by
  have HT := Lib.hid (ptree_any H.at i)
  rw [show treeE i = 0 by unfold treeE; rw [if_neg (by omega)]] at HT
  have HR := Lib.hid (pread_any H 1 (by omega) (by omega))
  have hsz := H.size (k := 1) (by omega) (by omega)
  obtain ⟨i0, i1⟩ := hi
  clear H
  go_enter Tryz.func61, Tryz.ntmps61
  go_wp2_with fail
  refine HT.out.mono ?_
  rintro e _ ⟨rfl, rfl⟩
  go_wp2_with fail
  refine HR.out.mono ?_
  rintro e w4 ⟨rfl, H4⟩
  have H4' := Lib.hid H4
  clear H4 HR HT
  go_wp2_with fail
  refine (unfixed_any _ _).mono ?_
  rintro e w5 ⟨rfl, hb5⟩
  have H5' := Lib.hid (H4'.out.on hb5)
  clear hb5 H4'
  have hb := root_bounds (S.at 1) i
  rw [show unfixZ (((S.at 1).extract (4 * i).toNat 256).extract 0 4) = rootZ (S.at 1) i from rfl]
  obtain ⟨hb0, hb1⟩ := hb
  go_wp2
  go_returns
  exact ⟨rfl, H5'.out⟩
def setRoot (s : ByteArray) (i k : Int) : ByteArray := s.extract 0 (4 * i).toNat ++ fixS k 4 ++ s.extract (4 * (i + 1)).toNat 256
theorem setRoot_size {s : ByteArray} {i k : Int} (hs : s.size = 256) (h0 : 0 ≤ i) (h1 : i < 16) : (setRoot s i k).size = 256 := by
  unfold setRoot
  rw [ByteArray.size_append, ByteArray.size_append, ByteArray.size_extract, ByteArray.size_extract, fixS_size4]
  omega
set_option maxHeartbeats 2000000 in
theorem psetroot_yes (H : Pag w0 pp S c R w) (i k : Int) (hi : 0 ≤ i ∧ i < 16) (hp : 1 < S.h.pages) (hc : c < 1000000) (hk : k ≠ 0 → outB S.h.pages (S.at 0) k = true) (b0 : -9223372036854775808 ≤ k) (b1 : k ≤ 9223372036854775807) :
    Calls Tryz.prog 122 #[.pointer (some ⟨pp, 0, none⟩), .int .i64 i, .int .i64 k] w fun e w' => e = .returned (.int .i64 0) ∧ Pag w0 pp (S.put 1 (setRoot (S.at 1) i k)) (c + 1) R w' := by
  have HT := Lib.hid (ptree_any H.at i)
  rw [show treeE i = 0 by unfold treeE; rw [if_neg (by omega)]] at HT
  have hsz := H.size (k := 1) (by omega) (by omega)
  have hpg := H.ok.wf.pages
  obtain ⟨i0, i1⟩ := hi
  have hk0 : 0 ≤ k ∧ k < 1024 := by
    by_cases z : k = 0
    · omega
    · have := hk z
      unfold outB at this
      simp only [Bool.and_eq_true, decide_eq_true_eq] at this
      omega
  have hsr : (setRoot (S.at 1) i k).size = 256 := setRoot_size hsz i0 i1
  have HSR := Lib.hid hsr
  have HFX := Lib.hid (fun (w : World) => fixed_any k 4 w (by omega) (by omega) (by omega) (by omega))
  have hfs := fixS_size4 k
  by_cases z : k = 0
  · subst z
    have HR := Lib.hid (pread_any H 1 (by omega) (by omega))
    clear H hk hsr
    go_enter Tryz.func122, Tryz.ntmps122
    go_wp2_with fail
    refine HT.out.mono ?_
    rintro e _ ⟨rfl, rfl⟩
    go_wp2_with fail
    refine HR.out.mono ?_
    rintro e w4 ⟨rfl, H4⟩
    have H4' := Lib.hid H4
    clear H4 HR HT
    go_wp2_with fail
    refine (HFX.out _).mono ?_
    rintro e w5 ⟨rfl, hb5⟩
    have HW := Lib.hid fun (w1 : World) (b : Below w5.heap.size w5 w1) => pwrite_any ((H4'.out.on hb5).on b) 1 (setRoot (S.at 1) i 0) (by omega) (by omega) (Nat.le_of_eq HSR.out) hc
    rw [filled_full HSR.out] at HW
    unfold setRoot at HW
    clear hb5 HFX H4'
    have k1 : IntKind.i64.wrap (4 * i) = 4 * i := IntWalk.i64_in _ (by omega)
    have k2 : IntKind.i64.wrap (i + 1) = i + 1 := IntWalk.i64_in _ (by omega)
    have k3 : IntKind.i64.wrap (4 * (i + 1)) = 4 * (i + 1) := IntWalk.i64_in _ (by omega)
    have n0 : 0 ≤ 4 * i := by omega
    have n1 : 4 * i ≤ 256 := by omega
    have n2 : (4 * i).toNat ≤ 256 := by omega
    have n3 : 0 ≤ 4 * (i + 1) := by omega
    have n4 : 4 * (i + 1) ≤ 256 := by omega
    have n5 : (4 * (i + 1)).toNat ≤ 256 := by omega
    have z1 : ((S.at 1).extract 0 (4 * i).toNat).size ≤ 256 := by rw [ByteArray.size_extract]; omega
    have z2 : (fixS 0 4).size ≤ 4 := by rw [fixS_size4]; exact Nat.le_refl _
    have z3 : ((S.at 1).extract (4 * (i + 1)).toNat 256).size ≤ 256 := by rw [ByteArray.size_extract]; omega
    have z4 : ((S.at 1).extract 0 (4 * i).toNat ++ fixS 0 4).size ≤ 260 := by rw [ByteArray.size_append]; omega
    go_wp2_with fail
    have y1 : (9223372036854775807 < (4 * i).toNat + 4) = False := by simp; omega
    have y2 : (9223372036854775807 < (4 * i).toNat + 4 + (256 - (4 * (i + 1)).toNat)) = False := by simp; omega
    go_region_law (first
      | (go_simp; (with_reducible refine (HW.out _ (by go_grown)).mono ?_); rintro e w6 ⟨rfl, H6⟩; have H6' := Lib.hid H6; clear H6)
      | fail)
    all_goals
      clear HW y1 y2
      go_wp2
      go_returns
      exact ⟨rfl, H6'.out⟩
  · have HO := Lib.hid (pout_yes H k b0 b1 (by omega) (hk z))
    have hz : (k == 0) = false := by simpa using z
    clear H hk hsr
    go_enter Tryz.func122, Tryz.ntmps122
    go_wp2_with fail
    refine HT.out.mono ?_
    rintro e _ ⟨rfl, rfl⟩
    go_wp2_with fail
    refine HO.out.mono ?_
    rintro e w3 ⟨rfl, H3⟩
    have HR := Lib.hid (pread_any H3 1 (by omega) (by omega))
    clear H3 HO HT
    go_wp2_with fail
    refine HR.out.mono ?_
    rintro e w4 ⟨rfl, H4⟩
    have H4' := Lib.hid H4
    clear H4 HR
    go_wp2_with fail
    refine (HFX.out _).mono ?_
    rintro e w5 ⟨rfl, hb5⟩
    have HW := Lib.hid fun (w1 : World) (b : Below w5.heap.size w5 w1) => pwrite_any ((H4'.out.on hb5).on b) 1 (setRoot (S.at 1) i k) (by omega) (by omega) (Nat.le_of_eq HSR.out) hc
    rw [filled_full HSR.out] at HW
    unfold setRoot at HW
    clear hb5 HFX H4'
    have k1 : IntKind.i64.wrap (4 * i) = 4 * i := IntWalk.i64_in _ (by omega)
    have k2 : IntKind.i64.wrap (i + 1) = i + 1 := IntWalk.i64_in _ (by omega)
    have k3 : IntKind.i64.wrap (4 * (i + 1)) = 4 * (i + 1) := IntWalk.i64_in _ (by omega)
    have n0 : 0 ≤ 4 * i := by omega
    have n1 : 4 * i ≤ 256 := by omega
    have n2 : (4 * i).toNat ≤ 256 := by omega
    have n3 : 0 ≤ 4 * (i + 1) := by omega
    have n4 : 4 * (i + 1) ≤ 256 := by omega
    have n5 : (4 * (i + 1)).toNat ≤ 256 := by omega
    have z1 : ((S.at 1).extract 0 (4 * i).toNat).size ≤ 256 := by rw [ByteArray.size_extract]; omega
    have z2 : (fixS k 4).size ≤ 4 := by rw [fixS_size4]; exact Nat.le_refl _
    have z3 : ((S.at 1).extract (4 * (i + 1)).toNat 256).size ≤ 256 := by rw [ByteArray.size_extract]; omega
    have z4 : ((S.at 1).extract 0 (4 * i).toNat ++ fixS k 4).size ≤ 260 := by rw [ByteArray.size_append]; omega
    go_wp2_with fail
    have y1 : (9223372036854775807 < (4 * i).toNat + 4) = False := by simp; omega
    have y2 : (9223372036854775807 < (4 * i).toNat + 4 + (256 - (4 * (i + 1)).toNat)) = False := by simp; omega
    go_region_law (first
      | (go_simp; (with_reducible refine (HW.out _ (by go_grown)).mono ?_); rintro e w6 ⟨rfl, H6⟩; have H6' := Lib.hid H6; clear H6)
      | fail)
    all_goals
      clear HW y1 y2
      go_wp2
      go_returns
      exact ⟨rfl, H6'.out⟩
theorem psetroot_none (H : Pag w0 pp S c R w) (i k : Int) (hi : 0 ≤ i ∧ i < 16) (hp : 0 < S.h.pages) (z : k ≠ 0) (hk : outB S.h.pages (S.at 0) k = false) (b0 : -9223372036854775808 ≤ k) (b1 : k ≤ 9223372036854775807) :
    Calls Tryz.prog 122 #[.pointer (some ⟨pp, 0, none⟩), .int .i64 i, .int .i64 k] w fun e w' => e = .returned (.int .i64 6) ∧ Pag w0 pp S c R w' := by
  have HT := Lib.hid (ptree_any H.at i)
  rw [show treeE i = 0 by unfold treeE; rw [if_neg (by omega)]] at HT
  have HO := Lib.hid (pout_no H k b0 b1 (by omega) hk)
  have hz : (k == 0) = false := by simpa using z
  clear H hk
  go_enter Tryz.func122, Tryz.ntmps122
  go_wp2_with fail
  refine HT.out.mono ?_
  rintro e _ ⟨rfl, rfl⟩
  go_wp2_with fail
  refine HO.out.mono ?_
  rintro e w3 ⟨rfl, H3⟩
  have H' := Lib.hid H3
  clear H3 HO HT
  go_wp2
  go_returns
  exact ⟨rfl, H'.out⟩
theorem pag_new {p q bm : Nat} {d : D} {h : Hd} {T : Int → Option ByteArray} (H : StT w0 p q bm c d h T false R w) (hO : (⟨p, q, bm, 0, d, h, T⟩ : Sto).Ok) (m : Int) (hm : m = 32) :
    Pag w0 (w.heap.size + 1) ⟨p, q, bm, w.heap.size, d, h, T⟩ c R ((w.alloc (.cells #[.int .i64 m, .slice none 0 0] 212)).alloc (.cells #[.pointer (some ⟨q, 0, none⟩), .pointer (some ⟨w.heap.size, 0, none⟩)] 101)) := by
  subst hm
  have z1 : (w.alloc (.cells #[.int .i64 32, .slice none 0 0] 212)).heap.size = w.heap.size + 1 := by simp
  have H1 := H.add (w' := w.alloc (.cells #[.int .i64 32, .slice none 0 0] 212)) (by go_grown) (Nat.le_refl _) (heap_alloc_new w _)
  have q2 := heap_alloc_new (w.alloc (.cells #[.int .i64 32, .slice none 0 0] 212)) (.cells #[.pointer (some ⟨q, 0, none⟩), .pointer (some ⟨w.heap.size, 0, none⟩)] 101)
  rw [z1] at q2
  have H2 := H1.add (w' := (w.alloc (.cells #[.int .i64 32, .slice none 0 0] 212)).alloc (.cells #[.pointer (some ⟨q, 0, none⟩), .pointer (some ⟨w.heap.size, 0, none⟩)] 101)) (by go_grown) (by rw [z1]; exact Nat.le_refl _) q2
  have hlo := H.below.size
  have hlt : ∀ b o, (b, o) ∈ R → b < w.heap.size := fun b o hb => heap_lt (H.mem hb)
  refine ⟨⟨hO.wf, hO.lit, hO.fit, hO.tx⟩, [], Kept.nil _, ⟨[(w.heap.size, .cells #[.int .i64 32, .slice none 0 0] 212 (0, 0))], ⟨.slice none 0 0, List.mem_singleton.2 rfl, fun b o hb => ?_, by simp [Value.ownBlock], fun b hb => by simp [Value.ownBlock] at hb, hlo, fun w' _ => ⟨rfl, .inl ⟨rfl, rfl⟩⟩⟩, H2.sub _ fun x hx => ?_, fun b o o' hb hc => ?_⟩⟩
  · rw [List.mem_singleton] at hb
    cases hb
    exact .inl rfl
  · rcases List.mem_append.1 hx with hx | hx
    · rw [List.mem_singleton] at hx
      subst hx
      exact List.mem_cons_of_mem _ List.mem_cons_self
    · rcases List.mem_cons.1 hx with rfl | hx
      · exact List.mem_cons_self
      · exact List.mem_cons_of_mem _ (List.mem_cons_of_mem _ hx)
  · rw [List.mem_singleton] at hc
    cases hc
    rcases List.mem_cons.1 hb with hb | hb
    · injection hb with hb _
      omega
    · have := hlt _ _ hb
      omega
theorem pnew_any {p q bm : Nat} {d : D} {h : Hd} {T : Int → Option ByteArray} (H : StT w0 p q bm c d h T false R w) (hO : (⟨p, q, bm, 0, d, h, T⟩ : Sto).Ok) (hp : 0 < h.pages) :
    Calls Tryz.prog 37 #[.pointer (some ⟨q, 0, none⟩)] w fun e w' => ∃ pp hc, e = .returned (.tuple #[.pointer (some ⟨pp, 0, none⟩), .int .i64 0]) ∧ Pag w0 pp ⟨p, q, bm, hc, d, h, T⟩ c R w' := by
  have HR := Lib.hid (sread_any H 0 (by omega) (by omega) hO.wf hO.lit hO.fit)
  have HO := Lib.hid hO
  clear H hO
  go_enter Tryz.func37, Tryz.ntmps37
  go_wp2_with fail
  refine HR.out.mono ?_
  rintro e w1 ⟨rfl, H1, _⟩
  have H1' := Lib.hid H1
  clear H1 HR
  go_wp2_with fail
  refine (KA.new_ok 32 (by omega) (by omega) _).mono ?_
  rintro e w2 ⟨rfl, rfl⟩
  go_wp2
  go_returns
  exact ⟨_, _, rfl, pag_new H1'.out HO.out _ rfl⟩
def fmtS : Nat → ByteArray | 0 => zeroS (emptyZ 2) | k + 1 => withS (fmtS k) k true
theorem fmtS_size : ∀ k, (fmtS k).size = 1
  | 0 => by unfold fmtS; rw [zero_size]; rfl
  | k + 1 => by unfold fmtS; rw [with_size, fmtS_size k]
theorem fmtS_two : fmtS 2 = ⟨#[3]⟩ := by kernel_rfl
set_option maxHeartbeats 1000000 in
theorem pformat_any (H : Pag w0 pp S c R w) (hp : 2 < S.h.pages) (hc : c < 900000) :
    Calls Tryz.prog 38 #[.pointer (some ⟨pp, 0, none⟩)] w fun e w' => e = .returned (.int .i64 0) ∧ Pag w0 pp ((S.put 0 (filled ⟨#[3]⟩)).put 1 (filled ⟨#[]⟩)) (c + 2) R w' := by
  have hpg := H.ok.wf.pages
  have HM := Lib.hid (pmade_any H.at)
  have HL := Lib.hid (slenP H)
  obtain ⟨c0, c1⟩ := pager_cells H.at
  have H' := Lib.hid H
  have d1 : decide ((S.h.pages : Int) ≤ 2) = false := by simp; omega
  clear H
  go_enter Tryz.func38, Tryz.ntmps38
  go_wp2_with fail
  refine HM.out.mono ?_
  rintro e _ ⟨rfl, rfl⟩
  go_wp2_with fail
  refine HL.out.mono ?_
  rintro e _ ⟨rfl, rfl⟩
  go_wp2_with fail
  refine (empty_any 2 _ (by omega) (by omega)).mono ?_
  rintro e w1 ⟨rfl, hb1⟩
  have H1' := Lib.hid (H'.out.on hb1)
  rw [show zeroS (emptyZ 2) = fmtS 0 from rfl]
  clear hb1 HM HL H' c0 c1
  go_wp2_with fail
  go_loopw [3, 16] (fun s i wr => ∃ k : Nat, k ≤ 2 ∧ i = .int .i64 k ∧ s = .string (fmtS k) ∧ Pag w0 pp S c R wr) (fun _ i _ => 2 - (intOf i).toNat)
  case atStart => exact ⟨0, Nat.zero_le _, rfl, rfl, H1'.out⟩
  case round =>
    clear H1'
    obtain ⟨k, hk, rfl, rfl, hP⟩ := hrel
    have HP := Lib.hid hP
    clear hP
    by_cases hlt : k < 2
    · have d1 : decide ((k : Int) < 2) = true := by simp; omega
      have HW := Lib.hid (with_any (fmtS k) k true wr (by rw [fmtS_size]; omega) (by omega) (by omega))
      go_wp2_with fail
      refine HW.out.mono ?_
      rintro e w2 ⟨rfl, hb2⟩
      have H2' := Lib.hid (HP.out.on hb2)
      clear hb2 HP HW
      go_wp2
      go_roundw
      case rel => exact ⟨k + 1, by omega, by go_num, rfl, H2'.out⟩
      case measure => simp [intOf]; omega
    · obtain rfl : k = 2 := by omega
      rw [fmtS_two]
      have HW1 := Lib.hid (pwrite_any HP.out 0 ⟨#[3]⟩ (by omega) (by omega) (by decide) (by omega))
      clear HP
      go_wp2_with fail
      refine HW1.out.mono ?_
      rintro e w2 ⟨rfl, H2⟩
      have HW2 := Lib.hid (pwrite_any H2 1 ⟨#[]⟩ (by omega) (show (1 : Int) < S.h.pages by omega) (by decide) (by omega))
      clear H2 HW1
      go_wp2_with fail
      refine HW2.out.mono ?_
      rintro e w3 ⟨rfl, H3⟩
      have H3' := Lib.hid H3
      clear H3 HW2
      go_wp2
      go_returns
      exact ⟨rfl, H3'.out⟩
end
end Go.Proofs.YtcjfnfdinhbdlaaGreatDoor
