/- What has a pin stays, whatever is put, and all puts are done while not all have one; and the chapter's example holds: for every two lists of numbers. Conditions: none. -/
import Derived.Test.YtomgiemnkbjebaaCacL
import Derived.Test.YtomgiemnkbjebaaCActs
import Derived.Test.YtomgiemnkbjebaaLaw
import Derived.BigQuiet
import Derived.Deep.QuietTactic
import Derived.Lib.QuietBelow
import Derived.Deep.DeepCutAuto
import Derived.Deep.CutBlock
namespace Go.Proofs.Ytomgiemnkbjebaa.cachePins
open Go.ChangeShapes Go.WideShapes Go.ChangeAt Go.RowKit Go.PlainAid
open Go.ChangeMaps (open_string)
open Go.Sort (grow)

theorem own : ownKnob Try.prog.godebug = none := by kernel_rfl
theorem laidOut : laidOutB Try.prog = true := by kernel_rfl
set_option maxRecDepth 100000
/-- The first k keys are kept, with a pin. -/
structure PinInv (w0 : World) (p most : Nat) (l : List Int) (k : Nat) (L : List KA.E) (w : World) : Prop where
  cat : KA.CaT w0 p most L [] w
  once : Once L
  held : ∀ j x, j < k → l[j]? = some x → ∃ e ∈ L, e.key = x ∧ e.val = ⟨#[112, 105, 110, 110, 101, 100]⟩ ∧ e.pins ≠ 0
theorem pin_head {m : Nat} {k : Int} {v : ByteArray} (M : List KA.E) : (if (true : Bool) = true then pinL (posK k (⟨k, v, m⟩ :: M)) 1 (⟨k, v, m⟩ :: M) else (⟨k, v, m⟩ :: M)) = (⟨k, v, ((m : Int) + 1).toNat⟩ : KA.E) :: M := by
  rw [if_pos rfl, show posK k (⟨k, v, m⟩ :: M) = 0 from posK_head (⟨k, v, m⟩ : KA.E) M]
  rfl
theorem pos_head {m : Nat} {k : Int} {v : ByteArray} (M : List KA.E) : decide (posK k (⟨k, v, m⟩ :: M) < ((⟨k, v, m⟩ : KA.E) :: M).length) = true := by
  rw [show posK k (⟨k, v, m⟩ :: M) = 0 from posK_head (⟨k, v, m⟩ : KA.E) M]
  exact decide_eq_true (by simp)
set_option maxRecDepth 100000 in
set_option maxHeartbeats 4000000 in
theorem walk (w : World) (v0 : Value) (l0 : List Int) (h0 : IntsOf w v0 l0) (v1 : Value) (l1 : List Int) (h1 : IntsOf w v1 l1) :
    Calls Try.prog 5 #[v0, v1] w fun e w' => e = .returned (.bool true) ∧ Below w.heap.size w w' := by
  have hv : ∃ ao cap, v0 = .slice ao l0.length cap := by
    rcases h0 with ⟨rfl, ao, cap, rfl⟩ | ⟨b, o, cap, rfl, _⟩
    · exact ⟨_, _, rfl⟩
    · exact ⟨_, _, rfl⟩
  obtain ⟨ao, cap, rfl⟩ := hv
  have hlen : (l0.length : Int) ≤ 9223372036854775807 := by
    rcases h0 with ⟨rfl, _⟩ | ⟨_, _, _, _, _, _, hm, _⟩
    · decide
    · exact hm
  have hv' : ∃ ao cap, v1 = .slice ao l1.length cap := by
    rcases h1 with ⟨rfl, ao, cap, rfl⟩ | ⟨b, o, cap, rfl, _⟩
    · exact ⟨_, _, rfl⟩
    · exact ⟨_, _, rfl⟩
  obtain ⟨ao', cap', rfl⟩ := hv'
  have hlen' : (l1.length : Int) ≤ 9223372036854775807 := by
    rcases h1 with ⟨rfl, _⟩ | ⟨_, _, _, _, _, _, hm, _⟩
    · decide
    · exact hm
  have H0 := Lib.hid h0
  have H1 := Lib.hid h1
  clear h0 h1
  have hways : l0.length < 1 ∨ (1 ≤ l0.length ∧ 12 < l0.length) ∨ (1 ≤ l0.length ∧ l0.length ≤ 12 ∧ 50 < l1.length) ∨ (1 ≤ l0.length ∧ l0.length ≤ 12 ∧ l1.length ≤ 50) := by omega
  rcases hways with hw | ⟨hw, hw2⟩ | ⟨hw, hw2, hw3⟩ | ⟨hw, hw2, hw3⟩
  iterate 3
    · go_enter Try.func5, Try.ntmps5
      go_wp2_with fail
      refine (KA.awake_any _).mono ?_
      rintro e w6 ⟨rfl, hb6⟩
      go_wp2
      go_returns
      exact ⟨rfl, hb6⟩
  obtain ⟨n, hn⟩ : ∃ n, n = l0.length + 1 := ⟨_, rfl⟩
  have hN : ((n : Nat) : Int) = (l0.length : Int) + 1 := by omega
  go_enter Try.func5, Try.ntmps5
  go_wp2_with fail
  rw [← hN]
  refine (KA.new_ok n (by omega) (by omega) _).mono ?_
  rintro e _ ⟨rfl, rfl⟩
  have H2 := Lib.hid (KA.new_cat w w (n : Int) [] (Below.refl _ _) (fun _ _ h => by cases h))
  generalize w.alloc (.cells #[.int .i64 (n : Int), .slice none 0 0] 65) = w1 at *
  go_wp2_with fail
  go_loopw [7] (fun i wr => ∃ (k : Nat) (L : List KA.E), k ≤ l0.length ∧ i = .int .i64 k ∧ PinInv w w.heap.size n l0 k L wr ∧ L.length ≤ k ∧ ∀ e ∈ L, e.pins ≤ k) (fun i _ => l0.length - (intOf i).toNat)
  case atStart => exact ⟨0, [], Nat.zero_le _, rfl, ⟨H2.out, List.nodup_nil, fun j x hj => absurd hj (Nat.not_lt_zero _)⟩, Nat.le_refl _, fun e h => absurd h List.not_mem_nil⟩
  case round =>
    obtain ⟨k, L, hk, rfl, ⟨hC, hO, hH⟩, hL, hP⟩ := hrel
    have HC := Lib.hid hC
    have HO := Lib.hid hO
    have HH := Lib.hid hH
    have HP := Lib.hid hP
    clear hC hO hH hP
    by_cases hlt : k < l0.length
    · obtain ⟨x, hx⟩ : ∃ x, l0[k]? = some x := ⟨_, List.getElem?_eq_getElem hlt⟩
      rcases H0.out with ⟨rfl, _⟩ | ⟨b, o, cap'', hvv, hbl, _, _, hr⟩
      · simp at hlt
      · cases hvv
        obtain ⟨hxw, hxc⟩ := hr k x hx
        have hxc1 := (HC.out.below.cell (p := ⟨b, o + k, none⟩) hbl).trans hxc
        have HXC := Lib.hid (And.intro hbl hxc)
        have HX := Lib.hid hx
        obtain ⟨hE, m, M, hM, hm, hML, hkeep, hold⟩ := put_room HO.out (show L.length < n by omega) x ⟨#[112, 105, 110, 110, 101, 100]⟩
        have HPE := Lib.hid hE
        have HM := Lib.hid hM
        have HKEEP := Lib.hid hkeep
        have HOLD := Lib.hid hold
        have HON := Lib.hid (once_put HO.out n x ⟨#[112, 105, 110, 110, 101, 100]⟩)
        rw [hM] at hML
        have hmk : m ≤ k := by
          rcases hm with rfl | ⟨y, hy, rfl⟩
          · exact Nat.zero_le _
          · exact HP.out y hy
        have HML := Lib.hid hML
        have hL1024 : L.length ≤ n := by omega
        clear hr hxc hx hE hM hkeep hold hm hML
        go_wp2_with fail
        refine (KA.put_any HC.out x ⟨#[112, 105, 110, 110, 101, 100]⟩ (by omega) (by omega) hL1024).mono ?_
        rintro e w3 ⟨rfl, h3⟩
        rw [HPE.out]
        rw [HM.out] at h3 HON
        generalize (putK n x L).getD 0 = gk at *
        generalize (putK n x L).isSome = gb at *
        have hxc3 := (h3.below.cell (p := ⟨b, o + k, none⟩) HXC.out.1).trans HXC.out.2
        have H3 := Lib.hid h3
        clear h3 HC hxc1
        go_wp2_with fail
        refine (KA.pin_is (by have := HML.out; omega) (fun e he => ?_) true (pos_head M) (pin_head M) _ H3.out).mono ?_
        · rcases List.mem_cons.1 he with rfl | he
          · show m ≤ _
            omega
          · exact Nat.le_trans (HP.out e (HOLD.out e he).1) (by omega)
        rintro e w4 ⟨rfl, h4⟩
        have H4 := Lib.hid h4
        clear h4 H3 hxc3
        go_wp2_with fail
        go_roundw
        case rel =>
          refine ⟨k + 1, ⟨x, ⟨#[112, 105, 110, 110, 101, 100]⟩, ((m : Int) + 1).toNat⟩ :: M, by omega, by go_num, ⟨H4.out, HON.out, fun j y hj hy => ?_⟩, ?_, fun e he => ?_⟩
          · by_cases e : y = x
            · subst e
              exact ⟨_, List.mem_cons_self, rfl, rfl, by show ((m : Int) + 1).toNat ≠ 0; omega⟩
            · have hjk : j ≠ k := fun e2 => by
                subst e2
                rw [HX.out] at hy
                cases hy
                exact e rfl
              obtain ⟨z, hz, hz1, hz2, hz3⟩ := HH.out j y (by omega) hy
              exact ⟨z, List.mem_cons_of_mem _ (HKEEP.out z hz (by rw [hz1]; exact e)), hz1, hz2, hz3⟩
          · have := HML.out
            simp only [List.length_cons] at this ⊢
            omega
          · rcases List.mem_cons.1 he with rfl | he
            · show ((m : Int) + 1).toNat ≤ _
              omega
            · exact Nat.le_trans (HP.out e (HOLD.out e he).1) (by omega)
        case measure => simp [intOf]; omega
    · obtain rfl : k = l0.length := by omega
      have HPN : Hid (pinned L < n) := Lib.hid (by have := pinned_le L; omega)
      have HLN : Hid (L.length ≤ n) := Lib.hid (by omega)
      clear hL HP
      go_wp2_with fail
      go_loopw [11] (fun i wr2 => ∃ (k : Nat) (L : List KA.E), k ≤ l1.length ∧ i = .int .i64 k ∧ PinInv w w.heap.size n l0 l0.length L wr2 ∧ L.length ≤ n ∧ pinned L < n) (fun i _ => l1.length - (intOf i).toNat)
      case atStart => exact ⟨0, L, Nat.zero_le _, rfl, ⟨HC.out, HO.out, HH.out⟩, HLN.out, HPN.out⟩
      case round =>
        clear HC HO HH HPN HLN
        obtain ⟨k, L, hk, rfl, ⟨hC, hO, hH⟩, hL, hpn⟩ := hrel
        rename_i wr2 _
        have HC := Lib.hid hC
        have HO := Lib.hid hO
        have HH := Lib.hid hH
        have HPN := Lib.hid hpn
        clear hC hO hH hpn
        by_cases hlt : k < l1.length
        · obtain ⟨x, hx⟩ : ∃ x, l1[k]? = some x := ⟨_, List.getElem?_eq_getElem hlt⟩
          rcases H1.out with ⟨rfl, _⟩ | ⟨b, o, cap'', hvv, hbl, _, _, hr⟩
          · simp at hlt
          · cases hvv
            obtain ⟨hxw, hxc⟩ := hr k x hx
            have hxc1 := (HC.out.below.cell (p := ⟨b, o + k, none⟩) hbl).trans hxc
            have HXC := Lib.hid (And.intro hbl hxc)
            clear hr hxc hx hbl
            go_wp2_with fail
            cases hg : getV x L with
            | some v =>
              refine (KA.get_is (Nat.le_trans hL (by omega)) v true (congrArg (fun y : Option ByteArray => y.getD ⟨#[]⟩) hg) (congrArg Option.isSome hg) rfl _ HC.out).mono ?_
              rintro e w5 ⟨rfl, h5⟩
              have H5 := Lib.hid h5
              have HG := Lib.hid (get_perm (k := x) (L := L))
              generalize getL x L = L3 at *
              clear h5 hg hxc1 HC
              go_wp2_with fail
              go_roundw
              case rel => exact ⟨k + 1, L3, by omega, by go_num, ⟨H5.out, once_perm HO.out HG.out, fun j y hj hy => by
                obtain ⟨z, hz, hz2⟩ := HH.out j y hj hy
                exact ⟨z, HG.out.mem_iff.2 hz, hz2⟩⟩, by rw [HG.out.length_eq]; exact hL, by rw [pinned_perm HG.out]; exact HPN.out⟩
              case measure => simp [intOf]; omega
            | none =>
              have hno := getV_none hg
              have hgl : getL x L = L := by unfold getL; rw [if_neg hno]
              refine (KA.get_is (Nat.le_trans hL (by omega)) ⟨#[]⟩ false (congrArg (fun y : Option ByteArray => y.getD ⟨#[]⟩) hg) (congrArg Option.isSome hg) hgl _ HC.out).mono ?_
              rintro e w5 ⟨rfl, h5⟩
              obtain ⟨hE, hkeep, hpin⟩ := put_new (most := n) hno HPN.out ⟨#[120]⟩
              have hxc5 := (h5.below.cell (p := ⟨b, o + k, none⟩) HXC.out.1).trans HXC.out.2
              have H5 := Lib.hid h5
              have HPE := Lib.hid hE
              have HKEEP := Lib.hid hkeep
              have HPIN := Lib.hid hpin
              have HPL := Lib.hid (put_len hL x ⟨#[120]⟩)
              have HON := Lib.hid (once_put HO.out n x ⟨#[120]⟩)
              clear h5 hg hxc1 HC hno hgl hE hkeep hpin
              go_wp2_with fail
              refine (KA.put_any H5.out x ⟨#[120]⟩ (by omega) (by omega) hL).mono ?_
              rintro e w6 ⟨rfl, h6⟩
              rw [HPE.out]
              generalize (putK n x L).getD 0 = gk at *
              generalize (putK n x L).isSome = gb at *
              generalize putL n x ⟨#[120]⟩ L = L3 at *
              have H6 := Lib.hid h6
              clear h6 hxc5 H5 HPE
              go_wp2_with fail
              go_roundw
              case rel => exact ⟨k + 1, L3, by omega, by go_num, ⟨H6.out, HON.out, fun j y hj hy => by
                obtain ⟨z, hz, hz1, hz2, hz3⟩ := HH.out j y hj hy
                exact ⟨z, HKEEP.out z hz hz3, hz1, hz2, hz3⟩⟩, HPL.out, Nat.lt_of_le_of_lt HPIN.out HPN.out⟩
              case measure => simp [intOf]; omega
        · obtain rfl : k = l1.length := by omega
          have HLN : Hid (L.length ≤ n) := Lib.hid hL
          clear hL HPN
          go_wp2_with fail
          go_loopw [17] (fun i wr3 => ∃ (k : Nat) (L : List KA.E), k ≤ l0.length ∧ i = .int .i64 k ∧ PinInv w w.heap.size n l0 l0.length L wr3 ∧ L.length ≤ n) (fun i _ => l0.length - (intOf i).toNat)
          case atStart => exact ⟨0, L, Nat.zero_le _, rfl, ⟨HC.out, HO.out, HH.out⟩, HLN.out⟩
          case round =>
            clear HC HO HH HLN
            obtain ⟨k, L, hk, rfl, ⟨hC, hO, hH⟩, hL⟩ := hrel
            rename_i wr3 _
            have HC := Lib.hid hC
            have HO := Lib.hid hO
            have HH := Lib.hid hH
            clear hC hO hH
            by_cases hlt : k < l0.length
            · obtain ⟨x, hx⟩ : ∃ x, l0[k]? = some x := ⟨_, List.getElem?_eq_getElem hlt⟩
              obtain ⟨z, hz, hz1, hz2, _⟩ := HH.out k x hlt hx
              have hg : getV x L = some ⟨#[112, 105, 110, 110, 101, 100]⟩ := by
                have := getV_of HO.out hz
                rw [hz1, hz2] at this
                exact this
              rcases H0.out with ⟨rfl, _⟩ | ⟨b, o, cap'', hvv, hbl, _, _, hr⟩
              · simp at hlt
              · cases hvv
                obtain ⟨hxw, hxc⟩ := hr k x hx
                have hxc1 := (HC.out.below.cell (p := ⟨b, o + k, none⟩) hbl).trans hxc
                have HGV := Lib.hid hg
                clear hr hxc hx hbl hz hz1 hz2 hg
                go_wp2_with fail
                refine (KA.get_is (Nat.le_trans hL (by omega)) ⟨#[112, 105, 110, 110, 101, 100]⟩ true (congrArg (fun y : Option ByteArray => y.getD ⟨#[]⟩) HGV.out) (congrArg Option.isSome HGV.out) rfl _ HC.out).mono ?_
                rintro e w5 ⟨rfl, h5⟩
                have H5 := Lib.hid h5
                have HG := Lib.hid (get_perm (k := x) (L := L))
                generalize getL x L = L3 at *
                clear h5 hxc1 HC HGV
                go_wp2_with fail
                go_roundw
                case rel => exact ⟨k + 1, L3, by omega, by go_num, ⟨H5.out, once_perm HO.out HG.out, fun j y hj hy => by
                  obtain ⟨z, hz, hz2⟩ := HH.out j y hj hy
                  exact ⟨z, HG.out.mem_iff.2 hz, hz2⟩⟩, by rw [HG.out.length_eq]; exact hL⟩
                case measure => simp [intOf]; omega
            · obtain rfl : k = l0.length := by omega
              go_wp2_with fail
              refine (KA.awake_any _).mono ?_
              rintro e w6 ⟨rfl, hb6⟩
              have HB6 := Lib.hid (HC.out.below.on hb6)
              clear hb6
              go_wp2
              go_returns
              exact ⟨rfl, HB6.out⟩

set_option maxRecDepth 100000 in
theorem lifted (os : Os) (started : os.Started) (H : Type) (enc : TypeId × Value → H) :
    ReturnsInHanded {} Try.checked os 5 .any (Rows.cachePinsSpec.pre6 enc Try.prog Try.f5 Rows.cachePinsRow.domain false) (Rows.cachePinsSpec.post enc Try.prog Try.f5 false true false false) := by
  refine law_lift (C := Try.checked) own started (by kernel_rfl) Try.func5 laidOut (by kernel_rfl) rfl Try.underlying4 rfl
    (fun ds h => match ds, h with | [_, _], _ => rfl)
    (ChangeSpec.witness6 (enc := enc) (C := Try.checked) false ⟨#[], #[.slice none 0 0, .slice none 0 0], []⟩ 8 (by kernel_rfl) (by kernel_rfl) (by kernel_rfl) (by kernel_rfl)) ?_
  intro W base args ds ps hval hA hsz
  rw [Try.params5] at hA hval hsz
  obtain ⟨v0, vs0, d0, ds0, p0, q0, hargs, rfl, rfl, h0, r0⟩ := trodAll_cons hA
  obtain ⟨v1, vs1, d1, ds1, p1, q1, rfl, rfl, rfl, h1, r1⟩ := trodAll_cons r0
  obtain ⟨rfl, rfl, rfl⟩ := trodAll_nil r1
  obtain rfl : args = #[v0, v1] := by cases args; simp_all
  obtain ⟨l0, hl0⟩ := ints_open (hval 0 47 v0 rfl rfl) h0
  obtain ⟨l1, hl1⟩ := ints_open (hval 1 47 v1 rfl rfl) h1
  exact walk W v0 l0 hl0 v1 l1 hl1

theorem over : Rows.cachePinsRow.holds Try.pinned (OpenSpec.ofChange Rows.cachePinsSpec) :=
  OpenClaim.holds_of_wide 5 Try.f5 rfl rfl rfl rfl rfl rfl rfl ⟨rfl, rfl, rfl, rfl, rfl⟩ rfl rfl rfl rfl rfl (by kernel_rfl) Try.func5 (by kernel_rfl)
    (of_decide_eq_true (by kernel_rfl)) (by unfold Func.isWrapper; first | (rw [if_pos (by decide +kernel)]; kernel_rfl) | (rw [if_neg (by decide +kernel)]; exact ⟨rfl, rfl⟩))
    (fun os started H enc _ => lifted os started H enc)

theorem proved : Rows.CachePinsSaid :=
  over
end Go.Proofs.Ytomgiemnkbjebaa.cachePins
