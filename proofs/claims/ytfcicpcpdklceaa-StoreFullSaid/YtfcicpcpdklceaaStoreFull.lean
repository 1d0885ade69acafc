/- A transaction of a store is done just if the journal has room for it, and of one that it has no room for nothing is done; and the chapter's example holds: for every number and every list of pages. Conditions: none. -/
import Derived.Test.YtfcicpcpdklceaaSW
import Derived.Test.YtfcicpcpdklceaaSPages
import Derived.Test.YtfcicpcpdklceaaLaw
import Derived.BigQuiet
import Derived.Deep.QuietTactic
import Derived.Lib.QuietBelow
import Derived.Deep.DeepCutAuto
import Derived.Deep.CutBlock
namespace Go.Proofs.Ytfcicpcpdklceaa.storeFull
open Go.ChangeShapes Go.WideShapes Go.ChangeAt Go.RowKit Go.PlainAid
open Go.ChangeMaps (open_string)
open Go.Sort (grow)

theorem own : ownKnob Try.prog.godebug = none := by kernel_rfl
theorem laidOut : laidOutB Try.prog = true := by kernel_rfl
set_option maxRecDepth 100000
theorem pages_eq {d d' : D} {h h' : Hd} {T : Int → Option ByteArray} {n : Nat} (hr : h'.room = h.room) (hp : ∀ k : Nat, k < n → d'.last (2 + h.room + k) = pageS d h T k) : pages d' h' noPages n = pages d h T n := by
  unfold pages
  refine List.map_congr_left fun k hk => ?_
  rw [pageS_none, hr, hp k (List.mem_range.1 hk)]
theorem keys_nil {T : Int → Option ByteArray} (h : Keys T []) : T = noPages := by
  funext k
  cases hk : T k with
  | none => rfl
  | some s => exact absurd ((h.2 k).2 (by rw [hk]; rfl)) (by simp)
theorem nil_keys : Keys noPages [] := ⟨List.Pairwise.nil, fun x => by simp [noPages]⟩
set_option maxRecDepth 100000 in
set_option maxHeartbeats 4000000 in
theorem walk (w : World) (a0 : Int) (w0 : (Lit.int .u8 a0).wf = true) (v1 : Value) (l1 : List PageV) (h1 : PagesIn w v1 l1) (n1 : l1.length ≤ 1152921504606846976) :
    Calls Try.prog 5 #[.int .u8 a0, v1] w fun e w' => e = .returned (.bool true) ∧ Below w.heap.size w w' := by
  obtain ⟨b0, c0⟩ := bounds_u8 w0
  obtain ⟨k, hk1, hk2, hmod⟩ : ∃ k : Nat, 1 ≤ k ∧ k ≤ 12 ∧ a0 % 12 + 1 = (k : Int) := ⟨(a0 % 12 + 1).toNat, by omega, by omega, by omega⟩
  have hset := formatted_settled 40 k hk1 (by omega) (by omega)
  have hB := begun_any 40 k w hk1 (by omega) (by omega)
  have hroom : (firstHd 40 k).room = k := rfl
  have hpages : (firstHd 40 k).pages = 38 - k := by show min _ _ = _; omega
  have hseq : (firstHd 40 k).seq = 2 := rfl
  have hplain : Plain (firstHd 40 k) := ⟨by rw [hroom]; omega, by rw [hpages]; omega, by rw [hpages]; omega⟩
  have hwf : (firstHd 40 k).Wf := ⟨by rw [hseq]; omega, Nat.zero_le _, by rw [hroom]; omega, by rw [hpages]; omega⟩
  generalize formatted (newD 40) k = d at *
  generalize firstHd 40 k = h at *
  have hT : TxOk h (writesT h noPages (l1.take 30)) := writesT_ok _ (noPages_ok h)
  generalize hTT : writesT h noPages (l1.take 30) = T at *
  have HTT := Lib.hid hTT
  have HSet := Lib.hid hset
  have HB := Lib.hid hB
  have HR := Lib.hid hroom
  have HP := Lib.hid hpages
  have HSQ := Lib.hid hseq
  have HPL := Lib.hid hplain
  have HWF := Lib.hid hwf
  have HT := Lib.hid hT
  have HPI := Lib.hid h1
  have hdk := hset.free.2
  have HD := Lib.hid hdk
  have hnn := hset.n
  clear hset hB hroom hpages hseq hplain hwf hT h1 hTT hdk
  go_enter Try.func5, Try.ntmps5
  go_wp2_with fail
  refine HB.out.mono ?_
  rintro e w1 ⟨p, q, bm, rfl, H1⟩
  have H1' := Lib.hid H1
  clear H1
  go_wp2_with fail
  refine (all_any H1'.out HWF.out HPL.out.pages HD.out hnn).mono ?_
  rintro e w2 ⟨v2, x2, rfl, ht2, _, H2, _⟩
  have H2' := Lib.hid H2
  have HT2 := Lib.hid ht2
  clear H2 ht2
  go_wp2_with fail
  refine (writes_any H2'.out v1 l1 HPI.out (by omega) (by omega)).mono ?_
  rintro e w3 ⟨rfl, H3⟩
  rw [HTT.out] at H3
  have H3' := Lib.hid H3
  clear H3
  go_wp2_with fail
  refine (sdirty_any H3'.out (by omega)).mono ?_
  rintro e w4 ⟨ks, v4, rfl, hK, hkl, hrow, hb4⟩
  have HK := Lib.hid hK
  have hv4 : ∃ a cp, v4 = .slice a ks.length cp := by
    rcases hrow.2 with ⟨rfl, hn⟩ | ⟨g, cap, cur, hv, _⟩
    · exact ⟨none, 0, by rw [hn]⟩
    · exact ⟨_, _, hv⟩
  obtain ⟨a4, cp4, rfl⟩ := hv4
  have H4' := Lib.hid (H3'.out.on hb4)
  clear hK hrow hb4
  go_wp2_with fail
  refine (all_any H4'.out HWF.out HPL.out.pages HD.out hnn).mono ?_
  rintro e w5 ⟨v5, x5, rfl, ht5, _, H5, _⟩
  have H5' := Lib.hid H5
  have HT5 := Lib.hid ht5
  clear H5 ht5
  go_wp2_with fail
  refine (scommit_any H5'.out (by omega) HT.out HWF.out (by rw [HSQ.out]; omega) (by rw [HSet.out.late]; simp)).mono ?_
  rintro e w6 ⟨ks', hk', _, hc⟩
  obtain rfl := keys_eq HK.out hk'
  clear H1' H2' H3' H4' H5' hk' HB
  rcases hc with ⟨rfl, rfl, H6⟩ | ⟨hne, hroom, rfl, H6⟩ | ⟨hne, hroom, rfl, h', r1, r2, r3, H6⟩
  · have H6' := Lib.hid H6
    clear H6
    have hTn := keys_nil HK.out
    have HTn := Lib.hid hTn
    clear hTn
    go_wp2_with fail
    refine (all_any H6'.out HWF.out HPL.out.pages HD.out hnn).mono ?_
    rintro e w7 ⟨v7, x7, rfl, ht7, _, H7, _⟩
    have H7' := Lib.hid H7
    have HT7 := Lib.hid ht7
    clear H7 ht7
    rw [HTn.out] at HT5
    go_wp2_with fail
    refine (textsB_any (R := [x7, x5, x2]) (HT7.out.mono (by simp)) (HT5.out.mono (by simp)) (by simp only [pages_length]) (by simp only [pages_length]; have := HP.out; omega) w7 (fun y hy => H7'.out.mem hy)).mono ?_
    rintro e w8 ⟨rfl, hb8⟩
    have HB8 := Lib.hid (H7'.out.below.on hb8)
    clear hb8
    rw [decide_eq_true rfl]
    go_wp2_with fail
    refine (awake_any w8).mono ?_
    rintro e w9 ⟨rfl, hb9⟩
    have HB9 := Lib.hid (HB8.out.on hb9)
    clear hb9
    go_wp2
    go_returns
    exact ⟨rfl, HB9.out⟩
  · have H6' := Lib.hid H6
    clear H6
    have hpos : 0 < ks.length := List.length_pos_iff.2 hne
    have HRM := Lib.hid hroom
    have hdec : decide (k < blocksN ks.length) = true := by have := HR.out; simp; omega
    clear hroom hne
    go_wp2_with fail
    refine (rblocks_any ks.length w6 (by omega)).mono ?_
    rintro e _ ⟨rfl, rfl⟩
    generalize blocksN ks.length = bn at *
    go_wp2_with fail
    refine (all_any H6'.out HWF.out HPL.out.pages HD.out hnn).mono ?_
    rintro e w7 ⟨v7, x7, rfl, ht7, _, H7, _⟩
    have H7' := Lib.hid H7
    have HT7 := Lib.hid ht7
    clear H7 ht7
    go_wp2_with fail
    refine (textsB_any (R := [x7, x5, x2]) (HT7.out.mono (by simp)) (HT2.out.mono (by simp)) (by simp only [pages_length]) (by simp only [pages_length]; have := HP.out; omega) w7 (fun y hy => H7'.out.mem hy)).mono ?_
    rintro e w8 ⟨rfl, hb8⟩
    have H8' := Lib.hid (H7'.out.on hb8)
    clear hb8
    rw [decide_eq_true rfl]
    go_wp2_with fail
    refine (sdirty_any H8'.out (by omega)).mono ?_
    rintro e w9 ⟨ks2, v9, rfl, hK9, _, hrow9, hb9⟩
    obtain rfl := keys_eq hK9 nil_keys
    have hv9 : ∃ a cp, v9 = .slice a 0 cp := by
      rcases hrow9.2 with ⟨rfl, hn⟩ | ⟨g, cap, cur, hv, _⟩
      · exact ⟨none, 0, rfl⟩
      · exact ⟨_, _, hv⟩
    obtain ⟨a9, cp9, rfl⟩ := hv9
    have HB9 := Lib.hid (H8'.out.below.on hb9)
    clear hb9 hK9 hrow9
    go_wp2_with fail
    refine (awake_any w9).mono ?_
    rintro e w10 ⟨rfl, hb10⟩
    have HB10 := Lib.hid (HB9.out.on hb10)
    clear hb10
    go_wp2
    go_returns
    exact ⟨rfl, HB10.out⟩
  · have hpos : 0 < ks.length := List.length_pos_iff.2 hne
    have hdec : decide (k < blocksN ks.length) = false := by have := HR.out; simp; omega
    obtain ⟨ce, cs, cp⟩ := commit_settled HSet.out HPL.out HT.out HK.out hroom (by rw [HSQ.out]; omega)
    have hpe := pages_eq (h' := h') r1 (n := h.pages) cp
    have hr6 := r3 ce
    rw [ce] at H6
    have H6' : Hid (StT w p q bm (0 + 30) (d.ops (commitOps h (txPages T ks))) h' noPages false [x5, x2] w6) := Lib.hid H6
    have hd6 : (d.ops (commitOps h (txPages T ks))).dark = false := cs.free.2
    have hn6 : 2 + h'.room + h'.pages ≤ (d.ops (commitOps h (txPages T ks))).n := by rw [ops_n, r1, r2]; exact hnn
    have hwf6 : h'.Wf := ⟨by rw [hr6]; show h.seq + 1 + 1 ≤ _; rw [HSQ.out]; omega, by rw [hr6]; exact Nat.zero_le _, by rw [r1]; exact HWF.out.room, by rw [r2]; exact HWF.out.pages⟩
    have hp6 : 1 ≤ h'.pages := by rw [r2]; exact HPL.out.pages
    rw [← r2] at hpe
    have hpe2 : pages (d.ops (commitOps h (txPages T ks))) h' noPages h'.pages = pages d h T h.pages := by rw [hpe, r2]
    have HPE := Lib.hid hpe2
    have HWF6 := Lib.hid hwf6
    have HD6 := Lib.hid hd6
    rw [ce]
    clear ce cs cp r1 r2 r3 hr6 H6 hd6 hwf6 hpe hpe2 hroom hne
    generalize d.ops (commitOps h (txPages T ks)) = d6 at *
    go_wp2_with fail
    refine (rblocks_any ks.length w6 (by omega)).mono ?_
    rintro e _ ⟨rfl, rfl⟩
    generalize blocksN ks.length = bn at *
    go_wp2_with fail
    refine (all_any H6'.out HWF6.out hp6 HD6.out hn6).mono ?_
    rintro e w7 ⟨v7, x7, rfl, ht7, _, H7, _⟩
    rw [HPE.out] at ht7
    have H7' := Lib.hid H7
    have HT7 := Lib.hid ht7
    clear H7 ht7
    go_wp2_with fail
    refine (textsB_any (R := [x7, x5, x2]) (HT7.out.mono (by simp)) (HT5.out.mono (by simp)) (by simp only [pages_length]) (by simp only [pages_length]; have := HP.out; omega) w7 (fun y hy => H7'.out.mem hy)).mono ?_
    rintro e w8 ⟨rfl, hb8⟩
    have HB8 := Lib.hid (H7'.out.below.on hb8)
    clear hb8
    rw [decide_eq_true rfl]
    go_wp2_with fail
    refine (awake_any w8).mono ?_
    rintro e w9 ⟨rfl, hb9⟩
    have HB9 := Lib.hid (HB8.out.on hb9)
    clear hb9
    go_wp2
    go_returns
    exact ⟨rfl, HB9.out⟩

set_option maxRecDepth 100000 in
theorem lifted (os : Os) (started : os.Started) (H : Type) (enc : TypeId × Value → H) :
    ReturnsInHanded {} Try.checked os 5 .any (Rows.storeFullSpec.pre6 enc Try.prog Try.f5 Rows.storeFullRow.domain false) (Rows.storeFullSpec.post enc Try.prog Try.f5 false true false false) := by
  refine law_lift (C := Try.checked) own started (by kernel_rfl) Try.func5 laidOut (by kernel_rfl) rfl Try.underlying4 rfl
    (fun ds h => match ds, h with | [_, _], _ => rfl)
    (ChangeSpec.witness6 (enc := enc) (C := Try.checked) false ⟨#[], #[.int .u8 0, .slice none 0 0], []⟩ 8 (by kernel_rfl) (by kernel_rfl) (by kernel_rfl) (by kernel_rfl)) ?_
  intro W base args ds ps hval hA hsz
  rw [Try.params5] at hA hval hsz
  obtain ⟨v0, vs0, d0, ds0, p0, q0, hargs, rfl, rfl, h0, r0⟩ := trodAll_cons hA
  obtain ⟨v1, vs1, d1, ds1, p1, q1, rfl, rfl, rfl, h1, r1⟩ := trodAll_cons r0
  obtain ⟨rfl, rfl, rfl⟩ := trodAll_nil r1
  obtain rfl : args = #[v0, v1] := by cases args; simp_all
  obtain ⟨a0, rfl, rfl, rfl, w0⟩ := open_int Try.underlying5 (hval 0 5 v0 rfl rfl) h0
  obtain ⟨l1, hl1, hz1⟩ := pages_open (hval 1 22 v1 rfl rfl) h1
  have n1 : l1.length ≤ 1152921504606846976 := by
    rcases hz1 with rfl | ⟨el, rest, rfl, hel⟩
    · exact Nat.zero_le _
    · have this : (el.length + rest.length) * Try.prog.bytesOf 49 ≤ reachBytes := sized_slice hsz (j := 1) rfl rfl Try.underlying22
      have h24 : Try.prog.bytesOf 49 = 24 := by kernel_rfl
      rw [h24] at this
      simp only [reachBytes] at this
      omega
  exact walk W a0 w0 v1 l1 hl1 n1

theorem over : Rows.storeFullRow.holds Try.pinned (OpenSpec.ofChange Rows.storeFullSpec) :=
  OpenClaim.holds_of_wide 5 Try.f5 rfl rfl rfl rfl rfl rfl rfl ⟨rfl, rfl, rfl, rfl, rfl⟩ rfl rfl rfl rfl rfl (by kernel_rfl) Try.func5 (by kernel_rfl)
    (of_decide_eq_true (by kernel_rfl)) (by unfold Func.isWrapper; first | (rw [if_pos (by decide +kernel)]; kernel_rfl) | (rw [if_neg (by decide +kernel)]; exact ⟨rfl, rfl⟩))
    (fun os started H enc _ => lifted os started H enc)

theorem proved : Rows.StoreFullSaid :=
  over
end Go.Proofs.Ytfcicpcpdklceaa.storeFull
