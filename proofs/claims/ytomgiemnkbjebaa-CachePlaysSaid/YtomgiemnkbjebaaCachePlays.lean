/- Every call answers as the reference's does, and what is kept behind each is the same, as it was used; and the chapter's example holds: for every number and every list of acts. Conditions: none. -/
import Derived.Test.YtomgiemnkbjebaaCacDz
import Derived.Test.YtomgiemnkbjebaaLaw
import Derived.BigQuiet
import Derived.Deep.QuietTactic
import Derived.Lib.QuietBelow
import Derived.Deep.DeepCutAuto
import Derived.Deep.CutBlock
namespace Go.Proofs.Ytomgiemnkbjebaa.cachePlays
open Go.ChangeShapes Go.WideShapes Go.ChangeAt Go.RowKit Go.PlainAid
open Go.ChangeMaps (open_string)
open Go.Sort (grow)

theorem own : ownKnob Try.prog.godebug = none := by kernel_rfl
theorem laidOut : laidOutB Try.prog = true := by kernel_rfl
set_option maxRecDepth 100000
open Go.ChangeMaps
attribute [local go_sem ↓ high] KA.store_c
theorem eq_ptr (b : Nat) : ∀ w, (binOp .neq 23 (.pointer (some ⟨b, 0, none⟩)) (.pointer none)).run Try.prog w = .ok (.bool true) w := fun w => by kernel_rfl
theorem eq_none : ∀ w, (binOp .neq 23 (.pointer none) (.pointer none)).run Try.prog w = .ok (.bool false) w := fun w => by kernel_rfl
theorem drew_below5 (w : World) : Below w.heap.size w w.drew := ⟨rfl, rfl, rfl, Nat.le_refl _, fun _ _ => rfl⟩
set_option maxRecDepth 100000 in
set_option maxHeartbeats 6000000 in
theorem walk (w : World) (a0 : Int) (w0 : (Lit.int .i64 a0).wf = true) (v1 : Value) (l1 : List ActV) (h1 : ActsIn w v1 l1) :
    Calls Try.prog 3 #[.int .i64 a0, v1] w fun e w' => e = .returned (.bool true) ∧ Below w.heap.size w w' := by
  obtain ⟨b0, c0⟩ := bounds_i64 w0
  have hv : ∃ ao cap, v1 = .slice ao l1.length cap := by
    rcases h1 with ⟨rfl, ao, cap, rfl⟩ | ⟨b, o, cap, rfl, _⟩
    · exact ⟨_, _, rfl⟩
    · exact ⟨_, _, rfl⟩
  obtain ⟨ao, cap, rfl⟩ := hv
  have hlen : (l1.length : Int) ≤ 9223372036854775807 := by
    rcases h1 with ⟨rfl, _⟩ | ⟨_, _, _, _, _, _, hm, _⟩
    · decide
    · exact hm
  have H0 := Lib.hid h1
  clear h1
  have hep := eq_ptr
  have hen := eq_none
  by_cases hm : a0 < 1 ∨ 1024 < a0
  · have HN := Lib.hid (KA.new_no a0 hm)
    have HRN := Lib.hid (fun w => KA.rnew_no a0 w hm)
    clear hm
    go_enter Try.func3, Try.ntmps3
    go_wp2_with fail
    refine (HN.out _).mono ?_
    rintro e _ ⟨rfl, rfl⟩
    go_wp2_with fail
    refine (HRN.out _).mono ?_
    rintro e w2 ⟨rfl, hb2⟩
    have hb3 : Below w2.heap.size w2 (w2.alloc (.cells #[.int .i64 0, .slice none 0 0] 29)) := by go_grown
    have hq : KA.BoxC (w2.alloc (.cells #[.int .i64 0, .slice none 0 0] 29)) w2.heap.size 0 (.slice none 0 0) := heap_alloc_new w2 _
    obtain ⟨W3, hst, _, _, hbel, _⟩ := hq.store 0 (.slice none 0 0) rfl
    have HB := Lib.hid (hb2.on (hbel _ _ hb3 (Nat.le_refl _)))
    clear hb2 hb3 hq hbel
    go_wp2_with fail
    go_loopw [9] (fun i wr => i = .int .i64 0 ∧ Below w.heap.size w wr) (fun _ _ => 0)
    case atStart => exact ⟨rfl, HB.out⟩
    case round =>
      obtain ⟨rfl, hb⟩ := hrel
      have HB2 := Lib.hid hb
      clear hb HB
      by_cases hlt : 0 < l1.length
      · have hlti : (0 : Int) < (l1.length : Int) := by omega
        go_wp2_with fail
        refine (KA.awake_any _).mono ?_
        rintro e w6 ⟨rfl, hb6⟩
        have HB6 := Lib.hid (HB2.out.on hb6)
        clear hb6
        go_wp2
        go_returns
        exact ⟨rfl, HB6.out⟩
      · have hlti : ¬ (0 : Int) < (l1.length : Int) := by omega
        go_wp2_with fail
        refine (KA.awake_any _).mono ?_
        rintro e w6 ⟨rfl, hb6⟩
        have HB6 := Lib.hid (HB2.out.on hb6)
        clear hb6
        go_wp2
        go_returns
        exact ⟨rfl, HB6.out⟩
  · obtain ⟨n, rfl⟩ : ∃ n : Nat, a0 = (n : Int) := ⟨a0.toNat, by omega⟩
    have hn1 : 1 ≤ n := by omega
    have hn2 : n ≤ 1024 := by omega
    have HRN := Lib.hid (fun w => KA.rnew_yes (n : Int) w ⟨by omega, by omega⟩)
    clear hm
    go_enter Try.func3, Try.ntmps3
    go_wp2_with fail
    refine (KA.new_ok n hn1 hn2 _).mono ?_
    rintro e _ ⟨rfl, rfl⟩
    have H1 := Lib.hid (KA.new_cat w w (n : Int) [] (Below.refl _ _) (fun _ _ h => by cases h))
    have hb1 : Below w.heap.size w (w.alloc (.cells #[.int .i64 (n : Int), .slice none 0 0] 65)) := by go_grown
    have hs1 : (w.alloc (.cells #[.int .i64 (n : Int), .slice none 0 0] 65)).heap.size = w.heap.size + 1 := by simp
    generalize w.alloc (.cells #[.int .i64 (n : Int), .slice none 0 0] 65) = w1 at *
    go_wp2_with fail
    refine (HRN.out _).mono ?_
    rintro e w2 ⟨rfl, hb2⟩
    have hb3 : Below w2.heap.size w2 (w2.alloc (.cells #[.int .i64 0, .slice none 0 0] 29)) := by go_grown
    have hq : KA.BoxC (w2.alloc (.cells #[.int .i64 0, .slice none 0 0] 29)) w2.heap.size 0 (.slice none 0 0) := heap_alloc_new w2 _
    obtain ⟨W3, hst, hbx, _, hbel, _⟩ := hq.store (n : Int) (.slice none 0 0) rfl
    have hb4 := hbel _ _ hb3 (Nat.le_refl _)
    have HI0 : Hid (KA.PlayInv w w.heap.size w2.heap.size n 0 W3) := Lib.hid ⟨[], ⟨none, 0, 0, (H1.out.on hb2).add hb4 (Nat.le_refl _) hbx, rfl, .inl ⟨rfl, rfl⟩⟩, List.nodup_nil, Nat.zero_le _, fun e h => by cases h⟩
    have hqs : w.heap.size ≤ w2.heap.size := by
      have := hb2.size
      omega
    have HQS := Lib.hid hqs
    clear hb2 hb3 hq hbx hbel hb4 H1 hb1 hs1 hqs
    go_wp2_with fail
    clear hst
    generalize w2.heap.size = q at *
    go_loopw [9] (fun i wr => ∃ j : Nat, j ≤ l1.length ∧ j ≤ 100 ∧ i = .int .i64 j ∧ KA.PlayInv w w.heap.size q n j wr) (fun i _ => l1.length - (intOf i).toNat)
    case atStart => exact ⟨0, Nat.zero_le _, by omega, rfl, HI0.out⟩
    case round =>
      obtain ⟨j, hj, hj100, rfl, hP⟩ := hrel
      have HP := Lib.hid hP
      have hbel : Below w.heap.size w wr := by
        obtain ⟨L, ⟨_, _, _, hC, _⟩, _⟩ := hP
        exact hC.below
      clear hP HI0
      by_cases hlt : j < l1.length ∧ j < 100
      · obtain ⟨hlt1, hlt2⟩ := hlt
        obtain ⟨x, hx⟩ : ∃ x, l1[j]? = some x := ⟨_, List.getElem?_eq_getElem hlt1⟩
        rcases H0.out with ⟨rfl, _⟩ | ⟨b, o, cap', hvv, hbl, _, _, hr⟩
        · simp at hlt1
        · cases hvv
          obtain ⟨_, hxr⟩ := hr j x hx
          have hxr2 := rangeAt_keep hxr (hbel.block b hbl)
          have e0 := hxr2 0 _ rfl
          have e1 := hxr2 1 _ rfl
          have e2 := hxr2 2 _ rfl
          rw [Nat.add_zero] at e0
          have HPL : Hid (KA.PlayInv w w.heap.size q n j wr.drew) := Lib.hid (by
            obtain ⟨L, h1, h2⟩ := HP.out
            exact ⟨L, h1.on (drew_below5 wr), h2⟩)
          have HR := Lib.hid (KA.play_round HPL.out x HQS.out hn1 hn2 hj100)
          clear hr hxr hxr2 hx hbel HP HPL
          go_upto_region 8 with fail
          go_cut [66] (fun s66 wx => s66 = .bool false ∧ KA.PlayInv w w.heap.size q n (j + 1) wx)
          case first =>
            go_region_with (first
              | (go_at_call 11; (with_reducible refine HR.out.mono ?_); rintro e w3 ⟨ao3, nn3, cap3, rfl, qc3, HLEN, HKEPT⟩)
              | (go_at_call 12; (with_reducible refine HLEN.out.mono ?_); rintro e _ ⟨rfl, rfl⟩)
              | (go_at_call 14; (with_reducible refine HKEPT.out.mono ?_); rintro e w4 ⟨v4, rfl, qc4, HSAME⟩)
              | (go_at_call 13; (with_reducible refine HSAME.out.mono ?_); rintro e w5 ⟨rfl, HINV⟩))
            all_goals go_wp2_with fail
            all_goals go_simp
            all_goals go_meet
            all_goals exact ⟨rfl, HINV.out⟩
          case rest =>
            obtain ⟨rfl, hP⟩ := hcut
            have HP2 := Lib.hid hP
            clear hP HR e0 e1 e2
            go_wp2_with fail
            go_roundw
            case rel => exact ⟨j + 1, by omega, by omega, by go_num, HP2.out⟩
            case measure => simp [intOf]; omega
      · have hout : (j < l1.length ∧ j = 100) ∨ j = l1.length := by omega
        have HBE := Lib.hid hbel
        clear hbel
        rcases hout with ⟨hlt1, rfl⟩ | rfl
        all_goals
          go_wp2_with fail
          refine (KA.awake_any _).mono ?_
          rintro e w6 ⟨rfl, hb6⟩
          have HB6 := Lib.hid (HBE.out.on hb6)
          clear hb6
          go_wp2
          go_returns
          exact ⟨rfl, HB6.out⟩

set_option maxRecDepth 100000 in
theorem lifted (os : Os) (started : os.Started) (H : Type) (enc : TypeId × Value → H) :
    ReturnsInHanded {} Try.checked os 3 .any (Rows.cachePlaysSpec.pre6 enc Try.prog Try.f3 Rows.cachePlaysRow.domain false) (Rows.cachePlaysSpec.post enc Try.prog Try.f3 false true false false) := by
  refine law_lift (C := Try.checked) own started (by kernel_rfl) Try.func3 laidOut (by kernel_rfl) rfl Try.underlying4 rfl
    (fun ds h => match ds, h with | [_, _], _ => rfl)
    (ChangeSpec.witness6 (enc := enc) (C := Try.checked) false ⟨#[], #[.int .i64 0, .slice none 0 0], []⟩ 8 (by kernel_rfl) (by kernel_rfl) (by kernel_rfl) (by kernel_rfl)) ?_
  intro W base args ds ps hval hA hsz
  rw [Try.params3] at hA hval hsz
  obtain ⟨v0, vs0, d0, ds0, p0, q0, hargs, rfl, rfl, h0, r0⟩ := trodAll_cons hA
  obtain ⟨v1, vs1, d1, ds1, p1, q1, rfl, rfl, rfl, h1, r1⟩ := trodAll_cons r0
  obtain ⟨rfl, rfl, rfl⟩ := trodAll_nil r1
  obtain rfl : args = #[v0, v1] := by cases args; simp_all
  obtain ⟨a0, rfl, rfl, rfl, w0⟩ := open_int Try.underlying3 (hval 0 3 v0 rfl rfl) h0
  obtain ⟨l1, hl1⟩ := acts_open (hval 1 22 v1 rfl rfl) h1
  exact walk W a0 w0 v1 l1 hl1

theorem over : Rows.cachePlaysRow.holds Try.pinned (OpenSpec.ofChange Rows.cachePlaysSpec) :=
  OpenClaim.holds_of_wide 3 Try.f3 rfl rfl rfl rfl rfl rfl rfl ⟨rfl, rfl, rfl, rfl, rfl⟩ rfl rfl rfl rfl rfl (by kernel_rfl) Try.func3 (by kernel_rfl)
    (of_decide_eq_true (by kernel_rfl)) (by unfold Func.isWrapper; first | (rw [if_pos (by decide +kernel)]; kernel_rfl) | (rw [if_neg (by decide +kernel)]; exact ⟨rfl, rfl⟩))
    (fun os started H enc _ => lifted os started H enc)

theorem proved : Rows.CachePlaysSaid :=
  over
end Go.Proofs.Ytomgiemnkbjebaa.cachePlays
