/- Package store: Commit. -/
import Derived.Test.YtfcicpcpdklceaaSJ
namespace Go.Proofs.Ytfcicpcpdklceaa
set_option maxRecDepth 100000
open Go.ChangeShapes Go.WideShapes Go.ChangeAt Go.RowKit Go.PlainAid Go.ChangeMaps Go.MapKept
open Go.Sort (grow)

/-- What Commit answers, and what is behind it. -/
def CommitPost (w0 : World) (p q bm c : Nat) (d : D) (h : Hd) (T : Int → Option ByteArray) (R : List (Nat × Obj)) (e : Ending) (w' : World) : Prop :=
  ∃ ks, Keys T ks ∧ ks.length ≤ c ∧
    ((ks = [] ∧ e = .returned (.int .i64 0) ∧ StT w0 p q bm c d h noPages false R w') ∨
     (ks ≠ [] ∧ h.room < blocksN ks.length ∧ e = .returned (.int .i64 12) ∧ StT w0 p q bm c d h noPages false R w') ∨
     (ks ≠ [] ∧ blocksN ks.length ≤ h.room ∧ e = .returned (.int .i64 (opsE d (commitOps h (txPages T ks)))) ∧
      ∃ h', h'.room = h.room ∧ h'.pages = h.pages ∧ (opsE d (commitOps h (txPages T ks)) = 0 → h' = (h.next (packB (txPages T ks)).length).next 0) ∧
        StT w0 p q bm c (d.ops (commitOps h (txPages T ks))) h' noPages (opsE d (commitOps h (txPages T ks)) != 0) R w'))
theorem scommit_no (w : World) (v : Value) (h : NoStore w v) :
    Calls Try.prog 10 #[v] w fun e w' => e = .returned (.int .i64 3) ∧ w = w' := by
  go_enter Try.func10, Try.ntmps10
  go_wp2_with fail
  refine (sready_no _ v h).mono ?_
  rintro e _ ⟨rfl, rfl⟩
  go_wp2
  go_returns
  exact ⟨rfl, rfl⟩
theorem row_open2 {w : World} {base : Nat} {e : TypeId} {z : Nat} {v : Value} {n : Nat} {xs : List Value} (h : w.ownsRow base e z v n xs) (hn : 0 < n) : ∃ g cap cur, v = .slice (some ⟨g, 0, none⟩) n cap ∧ base ≤ g ∧ w.heap[g]? = some (.cells cur e (0, 0)) ∧ cur.toList.take (n * z) = xs := by
  obtain ⟨h1, h2⟩ := h
  rcases h2 with ⟨_, h2⟩ | ⟨g, cap, cur, hv, hb, hg, hn2, hc, hsz, ht⟩
  · omega
  · exact ⟨g, cap, cur, hv, hb, hg, ht⟩
theorem StT.toR {w0 w : World} {p q bm c : Nat} {d : D} {h : Hd} {T : Int → Option ByteArray} {dead : Bool} {R : List (Nat × Obj)} (H : StT w0 p q bm c d h T dead R w) : ∃ es clock, TxIs es clock c T ∧ StR w0 p q bm d h dead ((bm, .map es clock) :: R) w := H.ex
set_option maxHeartbeats 2000000 in
theorem scommit_any {w0 w : World} {p q bm c : Nat} {d : D} {h : Hd} {T : Int → Option ByteArray} {R : List (Nat × Obj)} (H : StT w0 p q bm c d h T false R w) (hc : c ≤ 1000) (hT : ∀ k s, T k = some s → 0 ≤ k ∧ k < h.pages ∧ s.size = 256)
    (hw : h.Wf) (hs : h.seq + 2 < 1000000) (hl : d.late.length < 100000) :
    Calls Try.prog 10 #[.pointer (some ⟨q, 0, none⟩)] w (CommitPost w0 p q bm c d h T R) := by
  have hpg := hw.pages
  have HRD := Lib.hid (sready_any w q p bm h false H.at)
  have HTR := Lib.hid (transaction_any H (by omega) (fun k hk => by
    obtain ⟨s, hs⟩ := Option.isSome_iff_exists.1 hk
    obtain ⟨a, b, _⟩ := hT k s hs
    omega))
  have HH := Lib.hid H
  have HT := Lib.hid hT
  have HW := Lib.hid hw
  clear H hT hw
  go_enter Try.func10, Try.ntmps10
  go_wp2_with fail
  refine HRD.out.mono ?_
  rintro e _ ⟨rfl, rfl⟩
  rw [show sreadyE false = 0 from rfl]
  go_wp2_with fail
  refine HTR.out.mono ?_
  rintro e w1 ⟨ks, v, rfl, hK, hkl, hrow, hb1⟩
  clear HRD HTR
  have hfit : Fit h (txPages T ks) := fun x hx => by
    obtain ⟨k, hk, rfl⟩ := List.mem_map.1 hx
    obtain ⟨s, hs⟩ := Option.isSome_iff_exists.1 ((hK.2 k).1 hk)
    obtain ⟨a, b, c⟩ := HT.out k s hs
    exact ⟨a, b, by show ((T k).getD _).size ≤ 256; rw [hs]; exact Nat.le_of_eq c⟩
  have HF := Lib.hid hfit
  have HK := Lib.hid hK
  have HB1 := Lib.hid hb1
  clear hfit hK HT
  rcases Nat.eq_zero_or_pos ks.length with hz | hz
  · obtain rfl := List.eq_nil_of_length_eq_zero hz
    have hv : v = .slice none 0 0 ∨ ∃ a cap, v = .slice a 0 cap := by
      rcases hrow.2 with ⟨rfl, _⟩ | ⟨g, cap, cur, hv, _⟩
      · exact .inl rfl
      · exact .inr ⟨_, _, hv⟩
    have hv2 : ∃ a cap, v = .slice a 0 cap := by rcases hv with rfl | hv; exact ⟨_, _, rfl⟩; exact hv
    obtain ⟨a, cap, rfl⟩ := hv2
    have HS1 := HH.out.on hb1
    obtain ⟨c0, c1, c2, c3, c4, c5, c6⟩ := store_cells HS1.at
    obtain ⟨⟨es, clock, hX, hS⟩, q1, q2⟩ := HS1
    have hbm : w1.heap[bm]? = some (.map es clock) := hS.mem (x := (bm, .map es clock)) List.mem_cons_self
    have hcl := fun ty => clear_map hbm ty
    have HN := Lib.hid (StT.newMap hS q1 q2 (tx_empty clock c))
    clear hX hS q1 q2 hbm hb1 hrow hz HB1 hv
    go_wp2
    go_returns
    exact ⟨[], HK.out, Nat.zero_le _, .inl ⟨rfl, rfl, HN.out⟩⟩
  · obtain ⟨g, cap, cur, rfl, hg, hgb, hcur⟩ := row_open2 hrow hz
    have HS1 := HH.out.add hb1 hg hgb
    obtain ⟨c0, c1, c2, c3, c4, c5, c6⟩ := store_cells HS1.at
    obtain ⟨⟨es, clock, hX, hS⟩, q1, q2⟩ := HS1
    have hbm : w1.heap[bm]? = some (.map es clock) := hS.mem (x := (bm, .map es clock)) List.mem_cons_self
    have hcl := fun ty => clear_map hbm ty
    have HN := Lib.hid (StT.newMap hS q1 q2 (tx_empty clock c))
    have hpr : PgR ((g, Obj.cells cur 49 (0, 0)) :: R) (.slice (some ⟨g, 0, none⟩) ks.length cap) (txPages T ks) := by
      refine .inr ⟨g, cap, cur, by rw [txPages_length], by simp, by rw [txPages_length]; exact hcur, by rw [txPages_length]; omega⟩
    have HP := Lib.hid hpr
    have hne : ((ks.length : Int) == 0) = false := by rw [beq_eq_false_iff_ne]; omega
    have hkne : ks ≠ [] := by rintro rfl; exact Nat.lt_irrefl _ hz
    have HKN := Lib.hid hkne
    clear hkne
    clear hX hS q1 q2 hbm hb1 hrow hg hgb hcur hpr HB1 HH
    generalize hW2 : setBlock w1 bm (.map #[] clock) = W2 at *
    go_wp2_with fail
    clear c0 c1 c2 c3 c4 c5 c6 hcl
    clear hW2
    have hsub : ∀ x ∈ R, x ∈ (g, Obj.cells cur 49 (0, 0)) :: R := fun x hx => List.mem_cons_of_mem _ hx
    have HSUB := Lib.hid hsub
    have HLK := Lib.hid (txPages_length T ks)
    clear hsub
    generalize (g, Obj.cells cur 49 (0, 0)) :: R = R2 at *
    obtain ⟨c0, c1, c2, c3, c4, c5, c6⟩ := store_cells HN.out.at
    have m3 : ∀ d os, (grow (redrawn W2 d) os).cell? ⟨q, 3, none⟩ = some (.int .i64 h.room) := fun d os => cell_regrown c3 d os
    have cL : ∀ d os, Calls Try.prog 28 #[.int .i64 (ks.length : Int)] (grow (redrawn W2 d) os) fun e w'' => e = .returned (.int .i64 (blocksN ks.length)) ∧ ∃ p : Regrown, w'' = grow (redrawn W2 p.d) p.os := fun d os => Calls.regrown_of ((blocks_any ks.length _ (by omega)).mono (by rintro e w' ⟨rfl, rfl⟩; exact ⟨rfl, Below.refl _ _⟩))
    have CL := Lib.hid cL
    clear cL c0 c1 c2 c3 c4 c5 c6
    generalize hbn : blocksN ks.length = bn at *
    have HBN := Lib.hid hbn
    clear hbn
    by_cases hroom : h.room < bn
    · have hr1 : decide ((h.room : Int) < (bn : Int)) = true := by simpa using hroom
      refine wp_region_quiet_below (by kernel_rfl) (by kernel_rfl) ?_
      repeat (go_big_quiet_step (with_reducible exact CL.out _ _))
      refine wpQuiet_nil ?_
      intro _ hw'
      obtain ⟨⟨dq, osq⟩, hw''⟩ := hw'
      subst hw''
      have HN2 := Lib.hid (HN.out.on (below_regrown W2 dq osq))
      generalize grow (redrawn W2 dq) osq = W3 at *
      clear CL m3
      go_wp2
      go_returns
      exact ⟨ks, HK.out, hkl, .inr (.inl ⟨HKN.out, by rw [HBN.out]; exact hroom, rfl, HN2.out.sub R HSUB.out⟩)⟩
    · have hr1 : decide ((h.room : Int) < (bn : Int)) = false := by simpa using hroom
      refine wp_region_quiet_below (by kernel_rfl) (by kernel_rfl) ?_
      repeat (go_big_quiet_step (with_reducible exact CL.out _ _))
      refine wpQuiet_nil ?_
      intro _ hw'
      obtain ⟨⟨dq, osq⟩, hw''⟩ := hw'
      subst hw''
      have HN2 := Lib.hid (HN.out.on (below_regrown W2 dq osq))
      generalize grow (redrawn W2 dq) osq = W3 at *
      clear CL m3
      obtain ⟨⟨es2, clock2, hX2, hS2⟩, q1, q2⟩ := HN2.out
      have HFN := Lib.hid (finish_any hS2 (HP.out.mono fun x hx => List.mem_cons_of_mem _ hx) HF.out HW.out hs (by rw [HLK.out]; omega) hl)
      have HX2 := Lib.hid hX2
      clear hX2 hS2
      go_wp2_with fail
      refine HFN.out.mono ?_
      rintro e w5 ⟨rfl, h', hh1, hh2, hh3, H5⟩
      have hst : StT w0 p q bm c (d.ops (commitOps h (txPages T ks))) h' noPages false R2 w5 := ⟨⟨es2, clock2, HX2.out, H5⟩, q1, q2⟩
      have t6 := store_thaw hst.at 6
      obtain ⟨c0, c1, c2, c3, c4, c5, c6⟩ := store_cells hst.at
      have HS5 := Lib.hid (hst.setDead (opsE d (commitOps h (txPages T ks)) != 0))
      have HH1 := Lib.hid hh1
      have HH2 := Lib.hid hh2
      have HH3 := Lib.hid hh3
      clear hst hh1 hh2 hh3 H5 HFN HN2
      go_wp2
      go_returns
      exact ⟨ks, HK.out, hkl, .inr (.inr ⟨HKN.out, by rw [HBN.out]; omega, rfl, h', HH1.out, HH2.out, HH3.out, HS5.out.sub R HSUB.out⟩)⟩
end Go.Proofs.Ytfcicpcpdklceaa
