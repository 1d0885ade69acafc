/- Every call answers as the document's disk does, and behind each all blocks read the same; and the chapter's example holds: for every number of blocks and every list of acts. Conditions: none. -/
import Derived.Test.YtcefljfocagcoaaDoesA
import Derived.Test.YtcefljfocagcoaaRefO
import Derived.Test.YtcefljfocagcoaaBlkD
import Derived.Test.YtcefljfocagcoaaBlkH
import Derived.Test.YtcefljfocagcoaaActs
import Derived.Test.YtcefljfocagcoaaLaw
import Derived.BigQuiet
import Derived.Deep.QuietTactic
import Derived.Lib.QuietBelow
import Derived.Deep.DeepCutAuto
import Derived.Deep.CutBlock
namespace Go.Proofs.Ytcefljfocagcoaa.blockPlays
open Go.ChangeShapes Go.WideShapes Go.ChangeAt Go.RowKit Go.PlainAid
open Go.ChangeMaps (open_string)
open Go.Sort (grow)

theorem own : ownKnob Try.prog.godebug = none := by kernel_rfl
theorem laidOut : laidOutB Try.prog = true := by kernel_rfl

set_option maxRecDepth 100000 in
set_option maxHeartbeats 6000000 in
theorem walk (w : World) (a0 : Int) (w0 : (Lit.int .i64 a0).wf = true) (v1 : Value) (l1 : List ActV) (h1 : ActsIn w v1 l1) :
    Calls Try.prog 3 #[.int .i64 a0, v1] w fun e w' => e = .returned (.bool true) ∧ Below w.heap.size w w' := by
  obtain ⟨b0, c0⟩ := bounds_i64 w0
  have hv : ∃ ao cap, v1 = .slice ao l1.length cap := by
    rcases h1 with ⟨rfl, ao, cap, rfl⟩ | ⟨b, o, cap, rfl, _⟩
    · exact ⟨_, _, rfl⟩
    · exact ⟨_, _, rfl⟩
  obtain ⟨ao, cap, rfl⟩ := hv
  have hlen : (l1.length : Int) ≤ 9223372036854775807 := by
    rcases h1 with ⟨rfl, _⟩ | ⟨_, _, _, _, _, _, hm, _⟩
    · decide
    · exact hm
  have H0 := Lib.hid h1
  clear h1
  by_cases hbig : 12 < a0 ∧ a0 ≤ 2048
  · have hb1 : decide (12 < a0) = true := decide_eq_true hbig.1
    have hb2 : decide (a0 ≤ 2048) = true := decide_eq_true hbig.2
    clear hbig
    go_enter Try.func3, Try.ntmps3
    go_wp2_with fail
    refine (awake_any _).mono ?_
    rintro e w1 ⟨rfl, hb⟩
    have HB := Lib.hid hb
    clear hb
    go_wp2
    go_returns
    exact ⟨rfl, (show Below w.heap.size w _ by go_grown).on HB.out⟩
  · by_cases hno : a0 < 1 ∨ 2048 < a0
    · have HN := Lib.hid hno
      clear hno
      have hdec : decide (12 < a0) = false ∨ (decide (12 < a0) = true ∧ decide (a0 ≤ 2048) = false) := by
        by_cases c : 12 < a0
        · exact .inr ⟨decide_eq_true c, decide_eq_false (by omega)⟩
        · exact .inl (decide_eq_false c)
      clear hbig
      rcases hdec with hb1 | ⟨hb1, hb2⟩
      all_goals
        go_enter Try.func3, Try.ntmps3
        go_wp2_with fail
        refine (new_no a0 _ HN.out).mono ?_
        rintro e w1 ⟨rfl, rfl⟩
        go_wp2_with fail
        refine (rnew_nil a0 _ HN.out).mono ?_
        rintro e w2 ⟨rfl, hb⟩
        go_wp2_with fail
        have hc := (cells4 (heap_alloc_new w2 (.cells #[.slice none 0 0, .slice none 0 0, .int .i64 0, .bool false] 31))).1
        have hbw : Below w.heap.size w (w2.alloc (.cells #[.slice none 0 0, .slice none 0 0, .int .i64 0, .bool false] 31)) := hb.alloc hb.size _
        generalize w2.alloc (.cells #[.slice none 0 0, .slice none 0 0, .int .i64 0, .bool false] 31) = W at *
        generalize w2.heap.size = q at *
        have HBW := Lib.hid hbw
        clear hb hbw
        have hcL : ∀ n, Calls Try.prog 7 #[.pointer none] (W.drewN n) fun e w' => e = .returned (.int .i64 0) ∧ w' = W.drewN n := fun n => (len_no _ _ (.inl rfl)).mono fun _ _ h => ⟨h.1, h.2.symm⟩
        have HCL := Lib.hid hcL
        clear hcL
        go_quiet (with_reducible exact Calls.quiet_of_same (HCL.out _))
        have HBQ : Hid (Below w.heap.size w (W.drewN nq)) := HBW.out.on ⟨rfl, rfl, rfl, Nat.le_refl _, fun _ _ => rfl⟩
        clear hc HBW
        go_wp2_with fail
        go_loopw [9] (fun i wr => i = .int .i64 0 ∧ Below w.heap.size w wr) (fun _ _ => 0)
        case atStart => exact ⟨rfl, HBQ.out⟩
        case round =>
          obtain ⟨rfl, hbr⟩ := hrel
          have HBR := Lib.hid hbr
          clear hbr
          go_wp2_with fail
          all_goals
            refine (awake_any _).mono ?_
            rintro e w1 ⟨rfl, hb⟩
            have HB := Lib.hid (HBR.out.on hb)
            clear hb
            go_wp2
            go_returns
            exact ⟨rfl, HB.out⟩
    · obtain ⟨hn1, hn2⟩ : 1 ≤ a0 ∧ a0 ≤ 12 := by omega
      have hb1 : decide (12 < a0) = false := decide_eq_false (by omega)
      have HN := Lib.hid (And.intro hn1 hn2)
      clear hn1 hn2 hno hbig
      go_enter Try.func3, Try.ntmps3
      go_wp2_with fail
      refine (new_any a0 _ HN.out.1 (by have := HN.out.2; omega)).mono ?_
      rintro e w1 ⟨F, rfl, hd, hbw, ho⟩
      go_wp2_with fail
      refine (rnew_any a0 _ HN.out.1 (by have := HN.out.2; omega)).mono ?_
      rintro e w2 ⟨v, rfl, hv2, hb2⟩
      obtain ⟨sa, la, sn, sc, ln, lc, lim, rfl, hrest⟩ := id hv2
      have hB := both_new hd hbw ho hv2 hb2
      clear hrest hv2 hd hbw ho hb2
      go_wp2_with fail
      generalize F.p = p at *
      generalize w2.alloc (.cells #[.slice sa sn sc, .slice la ln lc, .int .i64 lim, .bool (newD a0.toNat).dark] 31) = W at *
      generalize w2.heap.size = q at *
      have hdn : ((newD a0.toNat).n : Int) = a0 := by
        show ((a0.toNat : Nat) : Int) = a0
        have := HN.out.1
        omega
      have hd0 : (newD a0.toNat).late.length ≤ 0 := Nat.le_refl _
      generalize newD a0.toNat = d at *
      have HB := Lib.hid hB
      obtain ⟨sa', la', sn', sc', ln', lc', lim', hx, _, _, hsn⟩ := hB.open
      have hc : W.cell? ⟨q, 0, none⟩ = some (.slice sa' sn' sc') := (cells4 hx).1
      have hsn' : (sn' : Int) = a0 := by rw [hsn]; exact hdn
      have HD0 := Lib.hid hd0
      have HDN := Lib.hid hdn
      clear hx hsn hB hd0
      have hcL : ∀ n, Calls Try.prog 7 #[.pointer (some ⟨p, 0, none⟩)] (W.drewN n) fun e w' => e = .returned (.int .i64 a0) ∧ w' = W.drewN n := fun n => by
        rw [← HDN.out]
        have hbn : Below W.heap.size W (W.drewN n) := ⟨rfl, rfl, rfl, Nat.le_refl _, fun _ _ => rfl⟩
        exact (both_len (HB.out.on hbn)).mono fun _ _ h => ⟨h.1, h.2.symm⟩
      have HCL := Lib.hid hcL
      clear hcL
      go_quiet (with_reducible exact Calls.quiet_of_same (HCL.out _))
      have HBQ : Hid (Both w p q d (W.drewN nq)) := HB.out.on ⟨rfl, rfl, rfl, Nat.le_refl _, fun _ _ => rfl⟩
      have hbw : Below w.heap.size w (W.drewN nq) := by
        obtain ⟨F, c0, c1, c2, c3, _, _, hb, _⟩ := HBQ.out
        exact hb
      have HBW := Lib.hid hbw
      clear hc hbw HB HCL
      go_wp2_with fail
      go_loopw [9] (fun i wr => ∃ (k : Nat) (d : D), k ≤ l1.length ∧ k ≤ 80 ∧ i = .int .i64 k ∧ Both w p q d wr ∧ d.late.length ≤ k ∧ (d.n : Int) = a0) (fun i _ => l1.length - (intOf i).toNat)
      case atStart => exact ⟨0, d, Nat.zero_le _, by omega, rfl, HBQ.out, HD0.out, HDN.out⟩
      case round =>
        clear HBQ HD0 HDN HBW
        obtain ⟨k, d, hk, hk80, rfl, hB, hlate, hdn⟩ := hrel
        have HB := Lib.hid hB
        have HL := Lib.hid hlate
        have HDN := Lib.hid hdn
        clear hB hlate hdn
        by_cases hlt : k < l1.length ∧ k < 80
        · obtain ⟨hlt1, hlt2⟩ := hlt
          obtain ⟨x, hx⟩ : ∃ x, l1[k]? = some x := ⟨_, List.getElem?_eq_getElem hlt1⟩
          have hbr : Below w.heap.size w wr := by
            obtain ⟨F, c0, c1, c2, c3, _, _, hb, _⟩ := HB.out
            exact hb
          rcases H0.out with ⟨rfl, _⟩ | ⟨b, o, cap', hvv, hbl, _, _, hr⟩
          · simp at hlt1
          · cases hvv
            obtain ⟨hxw, hxr⟩ := hr k x hx
            have hxr2 := rangeAt_keep hxr (hbr.block b hbl)
            have HXW := Lib.hid hxw
            have e0 := hxr2 0 _ rfl
            have e1 := hxr2 1 _ rfl
            have e2 := hxr2 2 _ rfl
            have e3 := hxr2 3 _ rfl
            have e4 := hxr2 4 _ rfl
            have e5 := hxr2 5 _ rfl
            rw [Nat.add_zero] at e0
            clear hr hxr hxr2 hx hbr hxw
            go_wp2_with fail
            refine (does_any w wr p q d x HB.out HXW.out (by have := HL.out; omega)).mono ?_
            rintro e w3 ⟨rfl, H3⟩
            have HL3 := Lib.hid (Nat.le_trans (does_late d x) (Nat.succ_le_succ HL.out))
            have HDN3 := Lib.hid (show ((d.does x).n : Int) = a0 by rw [does_n]; exact HDN.out)
            generalize d.does x = d3 at *
            have H3' := Lib.hid H3
            clear H3 e0 e1 e2 e3 e4 e5
            go_wp2_with fail
            go_loopw [10] (fun j wr2 => ∃ z : Int, -1 ≤ z ∧ z ≤ a0 + 1 ∧ j = .int .i64 z ∧ Both w p q d3 wr2) (fun j _ => (a0 + 1 - intOf j).toNat)
            case atStart => exact ⟨-1, by omega, by have := HN.out.1; omega, rfl, H3'.out⟩
            case round =>
              clear H3'
              obtain ⟨z, hz1, hz2, rfl, hB4⟩ := hrel
              rename_i wr2 _
              by_cases hz : z ≤ a0
              · obtain ⟨sa4, la4, sn4, sc4, ln4, lc4, lim4, hx4, hs4, hl4, hsn4⟩ := hB4.open
                obtain ⟨y0, y1, y2, y3, y4, y5, y6, y7⟩ := cells4 hx4
                have HB4 := Lib.hid hB4
                have HS4 := Lib.hid hs4
                have HL4 := Lib.hid hl4
                clear hB4 hs4 hl4 hsn4 hx4
                have hz3 := HN.out
                have hl5 : d3.late.length < 4294967296 := by have := HL3.out; omega
                go_wp2_with fail
                refine (both_read HB4.out z (by omega) (by omega)).mono ?_
                rintro e _ ⟨rfl, rfl⟩
                generalize hS : readS d3 z = tS at *
                generalize hR : reachE d3 z = tR at *
                have HS := Lib.hid hS
                have HR := Lib.hid hR
                clear hS hR
                go_wp2_with fail
                refine (rread_any _ _ _ lim4 d3 z HS4.out HL4.out (by omega) (by omega) hl5).mono ?_
                rintro e w5 ⟨rfl, hb5⟩
                have HB5 := Lib.hid (HB4.out.on hb5)
                rw [HS.out, HR.out]
                clear hb5 y0 y1 y2 y3 y4 y5 y6 y7
                go_wp2_with fail
                go_roundw
                case rel => exact ⟨z + 1, by omega, by omega, by go_num, HB5.out⟩
                case measure => simp [intOf]; omega
              · go_wp2_with fail
                go_roundw
                case rel => exact ⟨k + 1, d3, by omega, by omega, by go_num, hB4, HL3.out, HDN3.out⟩
                case measure => simp [intOf]; omega
        · by_cases hlt1 : k < l1.length
          · have hk8 : k = 80 := by omega
            subst hk8
            go_wp2_with fail
            all_goals
              refine (awake_any _).mono ?_
              rintro e w9 ⟨rfl, hb9⟩
              have hbr : Below w.heap.size w wr := by
                obtain ⟨F, c0, c1, c2, c3, _, _, hb, _⟩ := HB.out
                exact hb
              have HB9 := Lib.hid (hbr.on hb9)
              clear hb9 hbr
              go_wp2
              go_returns
              exact ⟨rfl, HB9.out⟩
          · go_wp2_with fail
            all_goals
              refine (awake_any _).mono ?_
              rintro e w9 ⟨rfl, hb9⟩
              have hbr : Below w.heap.size w wr := by
                obtain ⟨F, c0, c1, c2, c3, _, _, hb, _⟩ := HB.out
                exact hb
              have HB9 := Lib.hid (hbr.on hb9)
              clear hb9 hbr
              go_wp2
              go_returns
              exact ⟨rfl, HB9.out⟩

set_option maxRecDepth 100000 in
theorem lifted (os : Os) (started : os.Started) (H : Type) (enc : TypeId × Value → H) :
    ReturnsInHanded {} Try.checked os 3 .any (Rows.blockPlaysSpec.pre6 enc Try.prog Try.f3 Rows.blockPlaysRow.domain false) (Rows.blockPlaysSpec.post enc Try.prog Try.f3 false true false false) := by
  refine law_lift (C := Try.checked) own started (by kernel_rfl) Try.func3 laidOut (by kernel_rfl) rfl Try.underlying4 rfl
    (fun ds h => match ds, h with | [_, _], _ => rfl)
    (ChangeSpec.witness6 (enc := enc) (C := Try.checked) false ⟨#[], #[.int .i64 0, .slice none 0 0], []⟩ 8 (by kernel_rfl) (by kernel_rfl) (by kernel_rfl) (by kernel_rfl)) ?_
  intro W base args ds ps hval hA hsz
  rw [Try.params3] at hA hval hsz
  obtain ⟨v0, vs0, d0, ds0, p0, q0, hargs, rfl, rfl, h0, r0⟩ := trodAll_cons hA
  obtain ⟨v1, vs1, d1, ds1, p1, q1, rfl, rfl, rfl, h1, r1⟩ := trodAll_cons r0
  obtain ⟨rfl, rfl, rfl⟩ := trodAll_nil r1
  obtain rfl : args = #[v0, v1] := by cases args; simp_all
  obtain ⟨a0, rfl, rfl, rfl, w0⟩ := open_int Try.underlying3 (hval 0 3 v0 rfl rfl) h0
  obtain ⟨l1, hl1⟩ := acts_open (hval 1 22 v1 rfl rfl) h1
  exact walk W a0 w0 v1 l1 hl1

theorem over : Rows.blockPlaysRow.holds Try.pinned (OpenSpec.ofChange Rows.blockPlaysSpec) :=
  OpenClaim.holds_of_wide 3 Try.f3 rfl rfl rfl rfl rfl rfl rfl ⟨rfl, rfl, rfl, rfl, rfl⟩ rfl rfl rfl rfl rfl (by kernel_rfl) Try.func3 (by kernel_rfl)
    (of_decide_eq_true (by kernel_rfl)) (by unfold Func.isWrapper; first | (rw [if_pos (by decide +kernel)]; kernel_rfl) | (rw [if_neg (by decide +kernel)]; exact ⟨rfl, rfl⟩))
    (fun os started H enc _ => lifted os started H enc)

theorem proved : Rows.BlockPlaysSaid :=
  over
end Go.Proofs.Ytcefljfocagcoaa.blockPlays
