/- Of a history that may be, the segments of all objects are all operations, each once, and those of one object are its operations in order, of its kind, and the chapter's example holds: for every list of operations (longer ones than 64, and those that may not be, are let go). No conditions. -/
import Derived.Test.YtgedlfilhpbfaaaCuV
import Derived.Test.YtgedlfilhpbfaaaLaw
import Derived.BigQuiet
import Derived.Deep.QuietTactic
import Derived.Lib.QuietBelow
import Derived.Deep.DeepCutAuto
import Derived.Deep.CutBlock
namespace Go.Proofs.Ytgedlfilhpbfaaa.cutWhole
open Go.ChangeShapes Go.WideShapes Go.ChangeAt Go.RowKit Go.PlainAid
open Go.ChangeMaps (open_string)
open Go.Sort (grow)

theorem own : ownKnob Try.prog.godebug = none := by kernel_rfl
theorem laidOut : laidOutB Try.prog = true := by kernel_rfl
open Cu Go.Shelf Go.Sort
attribute [local go_sem ↓ high] load_op store_o load_s app_opO
theorem own_form {n₀ : Nat} {W : World} {v : Value} {L : List OpV} (h : OpsOwn n₀ W v L) : ∃ ao m cap, v = .slice ao m cap := by
  rcases h.2 with ⟨rfl, _⟩ | ⟨g, cap, cur, rfl, _⟩
  · exact ⟨_, _, _, rfl⟩
  · exact ⟨_, _, _, rfl⟩
def sumO (O : List SegV) (i : Nat) : Nat := ((O.take i).map fun s => s.ops.length).sum
set_option maxRecDepth 100000 in
set_option maxHeartbeats 8000000 in
theorem walk (w : World) (v0 : Value) (l0 : List OpV) (h0 : OpsOf w v0 l0) :
    Calls Try.prog 5 #[v0] w fun e w' => e = .returned (.bool true) ∧ Below w.heap.size w w' := by
  obtain ⟨ao, ac, rfl⟩ := h0.len
  have H := Lib.hid h0
  clear h0
  by_cases hl : 64 < l0.length
  · have q0 : decide ((l0.length : Int) > 64) = true := decide_eq_true (by omega)
    have q00 : ((64 : Int) < (l0.length : Int)) = True := eq_true (by omega)
    clear hl
    go_enter Try.func5, Try.ntmps5
    go_wp2_with fail
    refine (Cu.awake_any _).mono ?_
    rintro _ w2 ⟨rfl, hb2⟩
    go_wp2_with fail
    go_returns
    exact ⟨rfl, hb2⟩
  have q0 : decide ((l0.length : Int) > 64) = false := decide_eq_false (by omega)
  have q00 : ((64 : Int) < (l0.length : Int)) = False := eq_false (by omega)
  have HL0 := Lib.hid (show l0.length ≤ 64 by omega)
  clear hl
  obtain ⟨z, hz⟩ : ∃ z, Hs.checkL HL l0 = z := ⟨_, rfl⟩
  have HZ := Lib.hid hz
  clear hz
  by_cases hz0 : z = 0
  case neg =>
    have q5 : (z != 0) = true := bne_iff_ne.2 hz0
    clear hz0
    go_enter Try.func5, Try.ntmps5
    go_wp2_with fail
    refine (hrcheck_any H.out (by have := HL0.out; omega)).mono ?_
    rintro _ w2 ⟨rfl, hb2⟩
    rw [HZ.out]
    have HB2 := Lib.hid hb2
    clear hb2
    go_wp2_with fail
    refine (Cu.awake_any _).mono ?_
    rintro _ w3 ⟨rfl, hb3⟩
    have HB3 := Lib.hid (HB2.out.on hb3)
    clear hb3
    go_wp2_with fail
    go_returns
    exact ⟨rfl, HB3.out⟩
  subst hz0
  go_enter Try.func5, Try.ntmps5
  go_wp2_with fail
  refine (hrcheck_any H.out (by have := HL0.out; omega)).mono ?_
  rintro _ w2 ⟨rfl, hb2⟩
  rw [HZ.out]
  have H2 := Lib.hid (H.out.on hb2)
  have HB2 := Lib.hid hb2
  clear hb2
  go_wp2_with fail
  refine (objects_any H2.out (by have := HL0.out; omega)).mono ?_
  rintro _ w3 ⟨vO, ps, rfl, hm, hok⟩
  have HB3 := Lib.hid (HB2.out.on hm.below)
  have hsg := hm.segs
  obtain ⟨O, hO⟩ : ∃ O, ps.map Prod.fst = O := ⟨_, rfl⟩
  rw [hO] at hsg hok
  obtain ⟨aO, cO, rfl⟩ := hsg.len
  have HS := Lib.hid hsg
  have HOK := Lib.hid hok
  have HAL := Lib.hid (valid_alike HZ.out)
  have HH := Lib.hid ((H2.out.on hm.below))
  have hOl : O.length ≤ 64 := by have := hok.few; have := HL0.out; omega
  have HSUM := Lib.hid (show ∀ i, sumO O i ≤ 64 from fun i => by have h1 := sum_le (r := O) i; have h2 := hok.sum; have := HL0.out; unfold sumO; omega)
  have HSA := Lib.hid (show sumO O O.length = l0.length from by unfold sumO; rw [List.take_length]; exact hok.sum)
  have HS0 := Lib.hid (show sumO O 0 = 0 from rfl)
  clear hm hsg hok hO
  go_wp2_with fail
  go_loopw [3, 5] (fun s3 s5 wr => ∃ (i n : Nat), s5 = .int .i64 i ∧ s3 = .int .i64 n ∧ i ≤ O.length ∧ Hid (n = sumO O i ∧ Below w3.heap.size w3 wr)) (fun _ s5 _ => O.length - (intOf s5).toNat)
  case atStart => exact ⟨0, 0, rfl, rfl, Nat.zero_le _, Lib.hid ⟨HS0.out.symm, Below.refl _ _⟩⟩
  case round =>
    obtain ⟨i, n, rfl, rfl, hi, HI⟩ := hrel
    by_cases hil : i < O.length
    case neg =>
      obtain rfl : i = O.length := by omega
      have q1 : ¬ ((O.length : Int) < (O.length : Int)) := by omega
      obtain rfl : n = l0.length := by rw [HI.out.1, HSA.out]
      go_wp2_with fail
      refine (Cu.awake_any _).mono ?_
      rintro _ w4 ⟨rfl, hb4⟩
      have HB4 := Lib.hid (HB3.out.on (HI.out.2.on hb4))
      clear hb4
      go_wp2_with fail
      go_returns
      exact ⟨rfl, HB4.out⟩
    have q1 : (i : Int) < (O.length : Int) := by omega
    have q2 : IntKind.i64.wrap ((i : Int) + 1) = (i : Int) + 1 := IntWalk.i64_in _ (by omega)
    obtain ⟨s, hs⟩ : ∃ s, O[i]? = some s := ⟨_, List.getElem?_eq_getElem hil⟩
    obtain ⟨b, cb, u, hv, hlt, hu, hc⟩ := (HS.out.on HI.out.2).at hs
    obtain rfl : aO = some ⟨b, 0, none⟩ := by cases hv; rfl
    have l1 := load_seg (p := i * 3) hc
    have hmem := List.mem_of_getElem? hs
    have HMEM := Lib.hid hmem
    have hse := (HOK.out.each s hmem).1
    have HM := Lib.hid (HOK.out.mem hmem)
    have HP := Lib.hid hse.2
    have hsl : s.ops.length ≤ 64 := by
      have := hse.1.length_eq
      have h2 := List.length_filter_le (fun o => decide (o.obj = s.obj)) l0
      have := HL0.out
      omega
    have HC := Lib.hid (segments_any hu (by omega))
    have HSI := Lib.hid hs
    clear hv hlt hu hc hmem hse hs
    go_wp2_with fail
    (with_reducible refine HC.out.mono ?_)
    rintro _ w4 ⟨vT, rfl, ps2, S, hm2, hs2, hcut⟩
    obtain rfl : S = s.ops := again HAL.out (fun o ho => (HM.out o ho).1) HP.out hs2
    have HB4 := Lib.hid (HI.out.2.on hm2.below)
    have hsg := hm2.segs
    rw [hcut] at hsg
    obtain ⟨aT, cT, rfl⟩ := hsg.len
    have HT := Lib.hid hsg
    rw [List.length_map]
    obtain ⟨T, hT⟩ : ∃ T, cutL s.ops = T := ⟨_, rfl⟩
    have hTl : T.length ≤ 64 := by rw [← hT]; have := cut_few (P := s.ops); omega
    have HFL := Lib.hid (show T.flatten = s.ops from by rw [← hT]; exact (cutL_ok s.ops).flat)
    have HNE := Lib.hid (show ∀ c ∈ T, c ≠ [] from by rw [← hT]; exact (cutL_ok s.ops).ne)
    rw [hT]
    have HTE := Lib.hid hT
    have HOW0 := Lib.hid (show OpsOwn w4.heap.size w4 (.slice none 0 0) (T.take 0).flatten ∧ Below w4.heap.size w4 w4 from ⟨World.ownsRow_nil _ _ _ _, Below.refl _ _⟩)
    clear hm2 hs2 hcut hsg hT l1 HC
    go_wp2_with fail
    go_loopw [6, 8] (fun s6 s8 wr => ∃ (k : Nat) (aA : Option Addr) (nA cA : Nat), s6 = .slice aA nA cA ∧ s8 = .int .i64 k ∧ k ≤ T.length ∧ Hid (OpsOwn w4.heap.size wr (.slice aA nA cA) (T.take k).flatten ∧ Below w4.heap.size w4 wr)) (fun _ s8 _ => T.length - (intOf s8).toNat)
    case atStart => exact ⟨0, _, _, _, rfl, rfl, Nat.zero_le _, HOW0⟩
    case round =>
      clear HOW0
      obtain ⟨k, aA, nA, cA, rfl, rfl, hk, HK⟩ := hrel
      by_cases hkl : k < T.length
      case pos =>
        have q3 : (k : Int) < (T.length : Int) := by omega
        have q4 : IntKind.i64.wrap ((k : Int) + 1) = (k : Int) + 1 := IntWalk.i64_in _ (by omega)
        obtain ⟨c, hck⟩ : ∃ c, T[k]? = some c := ⟨_, List.getElem?_eq_getElem hkl⟩
        obtain ⟨bT, cbT, uk, hv, hlt, hu, hc⟩ := (HT.out.on HK.out.2).at (i := k) (s := mkS s c) (by rw [HTE.out, List.getElem?_map, hck]; rfl)
        obtain rfl : aT = some ⟨bT, 0, none⟩ := by cases hv; rfl
        obtain ⟨ak, ck, rfl⟩ := hu.len
        obtain ⟨bO, _, uO, hvO, hltO, huO, hcO⟩ := (HS.out.on (HB4.out.on HK.out.2)).at HSI.out
        obtain rfl : b = bO := by cases hvO; rfl
        have g0 : ∀ e os, (grow (redrawn wr e) os).cell? ⟨bT, k * 3, none⟩ = some (.int .i64 s.obj) := fun e os => ((below_regrown wr e os).cell (p := ⟨bT, k * 3 + 0, none⟩) hlt).trans (hc 0 _ rfl)
        have g1 : ∀ e os, (grow (redrawn wr e) os).cell? ⟨bT, k * 3 + 2, none⟩ = some (.slice ak c.length ck) := fun e os => ((below_regrown wr e os).cell (p := ⟨bT, k * 3 + 2, none⟩) hlt).trans (hc 2 _ rfl)
        have g2 : ∀ e os, (grow (redrawn wr e) os).cell? ⟨b, i * 3, none⟩ = some (.int .i64 s.obj) := fun e os => ((below_regrown wr e os).cell (p := ⟨b, i * 3 + 0, none⟩) hltO).trans (hcO 0 _ rfl)
        have hcne : ((c.length : Int) == 0) = false := by
          have := List.length_pos_iff.2 (HNE.out c (List.mem_of_getElem? hck))
          exact beq_eq_false_iff_ne.2 (by omega)
        have hcl : c.length ≤ 64 := by have := flat_le (S := s.ops) (k := s.ops.length) (c := c) (by rw [List.take_length, HTE.out]; exact List.mem_of_getElem? hck); omega
        have hfl : (T.take k).flatten.length ≤ 64 := by
          have h1 := HFL.out
          rw [← List.take_append_drop k T, List.flatten_append] at h1
          have := congrArg List.length h1
          rw [List.length_append] at this
          omega
        have HU := Lib.hid (show OpsOf wr (.slice ak c.length ck) c from hu)
        have HTK := Lib.hid (show (T.take (k + 1)).flatten = (T.take k).flatten ++ c from by rw [List.take_add_one, hck]; simp)
        clear hv hlt hu hc hck hvO hltO huO hcO
        go_wp2_with fail
        refine wp_region_quiet_below (by kernel_rfl) (by kernel_rfl) ?_
        repeat (go_big_quiet_step (fail))
        refine wpQuiet_nil ?_
        intro _ hw'
        obtain ⟨⟨dq, osq⟩, hw''⟩ := hw'
        subst hw''
        have c2 := g1 dq osq
        have hb5 := below_regrown wr dq osq
        obtain ⟨W5, hW5⟩ : ∃ W, grow (redrawn wr dq) osq = W := ⟨_, rfl⟩
        rw [hW5] at c2 hb5 ⊢
        obtain ⟨v6, W6, hrun, ho6, hb6⟩ := ops_app (HK.out.1.on hb5) (HU.out.on hb5) (by have := HK.out.2.size; have := hb5.size; omega) (by omega)
        obtain ⟨a6, n6, c6, rfl⟩ := own_form ho6
        have HE := Lib.hid (show OpsOwn w4.heap.size W6 (.slice a6 n6 c6) (T.take (k + 1)).flatten ∧ Below w4.heap.size w4 W6 from ⟨by rw [HTK.out]; exact ho6, (HK.out.2.on hb5).trans hb6⟩)
        clear g0 g1 g2 hW5 hb5 ho6 hb6
        go_wp2_with fail
        go_roundw
        case measure => simp [intOf] <;> omega
        case rel => exact ⟨k + 1, _, _, _, rfl, by simp, by omega, HE⟩
      case neg =>
        obtain rfl : k = T.length := by omega
        have q3 : ¬ ((T.length : Int) < (T.length : Int)) := by omega
        obtain ⟨hown, hbw⟩ := HK.out
        rw [List.take_length, HFL.out] at hown
        have hwf : ∀ o ∈ s.ops, o.Wf := fun o ho => H.out.2 o (HM.out o ho).1
        have HA := Lib.hid (hown.reads hwf)
        obtain ⟨_, _, hnA⟩ := HA.out.len
        obtain rfl : nA = s.ops.length := (Value.slice.inj hnA).2.1
        obtain ⟨bO, _, uO, hvO, hltO, huO, hcO⟩ := (HS.out.on (HB4.out.on hbw)).at HSI.out
        obtain rfl : b = bO := by cases hvO; rfl
        have g3 : ∀ e os, (grow (redrawn wr e) os).cell? ⟨b, i * 3 + 2, none⟩ = some uO := fun e os => ((below_regrown wr e os).cell (p := ⟨b, i * 3 + 2, none⟩) hltO).trans (hcO 2 _ rfl)
        have g4 : ∀ e os, (grow (redrawn wr e) os).cell? ⟨b, i * 3, none⟩ = some (.int .i64 s.obj) := fun e os => ((below_regrown wr e os).cell (p := ⟨b, i * 3 + 0, none⟩) hltO).trans (hcO 0 _ rfl)
        have k1 : ∀ e os, Calls Try.prog 15 #[.slice aA s.ops.length cA, uO] (grow (redrawn wr e) os) fun r w'' => r = .returned (.bool true) ∧ ∃ p : Regrown, w'' = grow (redrawn wr p.d) p.os := fun e os => Calls.regrown_of (rops_any (HA.out.on (below_regrown wr e os)) (huO.on (below_regrown wr e os)) (by omega))
        have K1 := Lib.hid k1
        have hn64 : n + s.ops.length ≤ 64 := by have h1 := HSUM.out (i + 1); have h2 := sum_take HSI.out; have h3 := HI.out.1; unfold sumO at h1 h3; omega
        have q5 : IntKind.i64.wrap ((n : Int) + (s.ops.length : Int)) = ((n + s.ops.length : Nat) : Int) := by rw [IntWalk.i64_in _ (by omega)]; omega
        by_cases hi0 : 0 < i
        case neg =>
          have q6 : decide ((i : Int) > 0) = false := decide_eq_false (by omega)
          clear hown hbw hwf hnA hvO hltO huO hcO k1
          go_wp2_with fail
          refine wp_region_quiet_below (by kernel_rfl) (by kernel_rfl) ?_
          repeat (go_big_quiet_step (first | (with_reducible exact K1.out _ _)))
          refine wpQuiet_nil ?_
          intro _ hw'
          obtain ⟨⟨dq, osq⟩, hw''⟩ := hw'
          subst hw''
          have HW8 := Lib.hid (HK.out.2.on (below_regrown wr dq osq))
          have HA8 := Lib.hid (HA.out.on (below_regrown wr dq osq))
          obtain ⟨W8, hW8⟩ : ∃ W, grow (redrawn wr dq) osq = W := ⟨_, rfl⟩
          rw [hW8] at HW8 HA8 ⊢
          clear hW8 g3 g4 K1
          go_wp2_with fail
          go_loopw [9] (fun s9 wr => ∃ k : Nat, s9 = .int .i64 k ∧ k ≤ s.ops.length ∧ Hid (Below W8.heap.size W8 wr)) (fun s9 _ => s.ops.length - (intOf s9).toNat)
          case atStart => exact ⟨0, rfl, Nat.zero_le _, Lib.hid (Below.refl _ _)⟩
          case round =>
            obtain ⟨k, rfl, hk, HR⟩ := hrel
            by_cases hkl : k < s.ops.length
            case neg =>
              obtain rfl : k = s.ops.length := by omega
              have q9 : ¬ ((s.ops.length : Int) < (s.ops.length : Int)) := by omega
              have HE := Lib.hid (show n + s.ops.length = sumO O (i + 1) ∧ Below w3.heap.size w3 wr from ⟨by rw [HI.out.1]; exact (sum_take HSI.out).symm, HB4.out.on (HW8.out.on HR.out)⟩)
              go_wp2_with fail
              go_roundw
              case measure => simp [intOf] <;> omega
              case rel => exact ⟨i + 1, n + s.ops.length, by simp, by simp, by omega, HE⟩
            have q9 : (k : Int) < (s.ops.length : Int) := by omega
            have q10 : IntKind.i64.wrap ((k : Int) + 1) = (k : Int) + 1 := IntWalk.i64_in _ (by omega)
            obtain ⟨o, hok⟩ : ∃ o, s.ops[k]? = some o := ⟨_, List.getElem?_eq_getElem hkl⟩
            have hom := List.mem_of_getElem? hok
            obtain ⟨bA, pA, _, hvA, hltA, _, hcA⟩ := OpsOf.at (HA8.out.on HR.out) hok
            obtain rfl : aA = some ⟨bA, pA, none⟩ := by cases hvA; rfl
            have c0 : wr.cell? ⟨bA, pA + k * 11, none⟩ = some (.int .i64 o.id) := hcA 0 _ rfl
            have hget : Hs.getL HL l0 o.id = some o := Hs.get_is HL ((Hs.check_ok HL).1 HZ.out).rise (HM.out o hom).1
            have HG := Lib.hid (rget_any o.id (HH.out.on (HB4.out.on (HW8.out.on HR.out))) (by have := HL0.out; omega) o (by rw [hget]; rfl))
            rw [hget] at HG
            have HOM := Lib.hid hom
            have HOK2 := Lib.hid hok
            clear hom hok hvA hltA hcA hget
            go_wp2_with fail
            (with_reducible refine HG.out.mono ?_)
            rintro _ w9 ⟨rfl, hb9⟩
            have s10 := store_op_new w9 (#[Value.int .i64 0, Value.int .i64 0, Value.int .i64 0, Value.int .i64 0, Value.int .i64 0, Value.int .i64 0, Value.int .i64 0, Value.bool false, Value.int .i64 0, Value.int .i64 0, Value.int .i64 0]) rfl o
            have hb10 : Below w9.heap.size w9 (w9.alloc (.cells #[Value.int .i64 o.id, Value.int .i64 o.proc, Value.int .i64 o.obj, Value.int .i64 o.kind, Value.int .i64 o.meth, Value.int .i64 o.arg, Value.int .i64 o.sec, Value.bool o.done, Value.int .i64 o.res, Value.int .i64 o.inv, Value.int .i64 o.ret] 35)) := by go_grown
            have ho10 := OpAt.box w9 o
            have hbr := hb9.on hb10
            obtain ⟨W10, hW10⟩ : ∃ W, w9.alloc (.cells #[Value.int .i64 o.id, Value.int .i64 o.proc, Value.int .i64 o.obj, Value.int .i64 o.kind, Value.int .i64 o.meth, Value.int .i64 o.arg, Value.int .i64 o.sec, Value.bool o.done, Value.int .i64 o.res, Value.int .i64 o.inv, Value.int .i64 o.ret] 35) = W := ⟨_, rfl⟩
            rw [hW10] at s10 hb10 ho10 hbr
            have HR10 := Lib.hid (HR.out.on hbr)
            obtain ⟨b9, hb9'⟩ : ∃ b, w9.heap.size = b := ⟨_, rfl⟩
            rw [hb9'] at s10 ho10
            obtain ⟨bA2, pA2, _, hvA, hltA, _, hcA⟩ := OpsOf.at (HA8.out.on HR10.out) HOK2.out
            obtain ⟨rfl, rfl⟩ : bA = bA2 ∧ pA = pA2 := by cases hvA; exact ⟨rfl, rfl⟩
            obtain ⟨bO, _, uO2, hvO, hltO, _, hcO⟩ := (HS.out.on (HB4.out.on (HW8.out.on HR10.out))).at HSI.out
            obtain rfl : b = bO := by cases hvO; rfl
            have hko := HOK.out.kind HZ.out HMEM.out HOM.out
            have hoo := (HM.out o HOM.out).2
            have m1 := fun e os => (ho10.on (below_regrown W10 e os)).load
            have m2 := fun e os => load_cellsO (w := grow (redrawn W10 e) os) (p := pA + k * 11) (fun t u ht => ((below_regrown W10 e os).cell (p := ⟨bA, pA + k * 11 + t, none⟩) hltA).trans (hcA t u ht))
            have m3 : ∀ e os, (grow (redrawn W10 e) os).cell? ⟨b9, 2, none⟩ = some (.int .i64 s.obj) := fun e os => by rw [← hoo]; exact cells11 (ho10.on (below_regrown W10 e os)) 2
            have m4 : ∀ e os, (grow (redrawn W10 e) os).cell? ⟨b9, 3, none⟩ = some (.int .i64 s.kind) := fun e os => by rw [← hko]; exact cells11 (ho10.on (below_regrown W10 e os)) 3
            have m5 : ∀ e os, (grow (redrawn W10 e) os).cell? ⟨b, i * 3, none⟩ = some (.int .i64 s.obj) := fun e os => ((below_regrown W10 e os).cell (p := ⟨b, i * 3 + 0, none⟩) hltO).trans (hcO 0 _ rfl)
            have m6 : ∀ e os, (grow (redrawn W10 e) os).cell? ⟨b, i * 3 + 1, none⟩ = some (.int .i64 s.kind) := fun e os => ((below_regrown W10 e os).cell (p := ⟨b, i * 3 + 1, none⟩) hltO).trans (hcO 1 _ rfl)
            clear hb9 hb10 ho10 hbr hvA hltA hcA hvO hltO hcO hko hoo HG
            go_wp2_with fail
            refine wp_region_quiet_below (by kernel_rfl) (by kernel_rfl) ?_
            repeat (go_big_quiet_step (fail))
            refine wpQuiet_nil ?_
            intro _ hw'
            obtain ⟨⟨dq, osq⟩, hw''⟩ := hw'
            subst hw''
            have HE := Lib.hid (HR10.out.on (below_regrown W10 dq osq))
            clear m1 m2 m3 m4 m5 m6 s10 hW10 hb9'
            go_wp2_with fail
            go_roundw
            case measure => simp [intOf] <;> omega
            case rel => exact ⟨k + 1, by simp, by omega, HE⟩
        case pos =>
          have q6 : decide ((i : Int) > 0) = true := decide_eq_true (by omega)
          have q7 : IntKind.i64.wrap ((i : Int) - 1) = ((i - 1 : Nat) : Int) := by rw [IntWalk.i64_in _ (by omega)]; omega
          have q8 : ((i - 1 : Nat) : Int) < (O.length : Int) := by omega
          obtain ⟨t, ht⟩ : ∃ t, O[i - 1]? = some t := ⟨_, List.getElem?_eq_getElem (by omega)⟩
          have htl : t.obj < s.obj := by
            obtain ⟨h1, rfl⟩ := List.getElem?_eq_some_iff.1 ht
            obtain ⟨h2, h3⟩ := List.getElem?_eq_some_iff.1 HSI.out
            rw [← h3]
            exact List.pairwise_iff_getElem.1 HOK.out.rise (i - 1) i h1 h2 (by omega)
          have q11 : decide (t.obj ≥ s.obj) = false := decide_eq_false (by omega)
          obtain ⟨bP, _, uP, hvP, _, _, hcP⟩ := (HS.out.on (HB4.out.on hbw)).at ht
          obtain rfl : b = bP := by cases hvP; rfl
          have g5 : ∀ e os, (grow (redrawn wr e) os).cell? ⟨b, (i - 1) * 3, none⟩ = some (.int .i64 t.obj) := fun e os => ((below_regrown wr e os).cell (p := ⟨b, (i - 1) * 3 + 0, none⟩) hltO).trans (hcP 0 _ rfl)
          clear hown hbw hwf hnA hvO hltO huO hcO k1 hvP hcP ht htl
          go_wp2_with fail
          refine wp_region_quiet_below (by kernel_rfl) (by kernel_rfl) ?_
          repeat (go_big_quiet_step (first | (with_reducible exact K1.out _ _)))
          refine wpQuiet_nil ?_
          intro _ hw'
          obtain ⟨⟨dq, osq⟩, hw''⟩ := hw'
          subst hw''
          have HW8 := Lib.hid (HK.out.2.on (below_regrown wr dq osq))
          have HA8 := Lib.hid (HA.out.on (below_regrown wr dq osq))
          obtain ⟨W8, hW8⟩ : ∃ W, grow (redrawn wr dq) osq = W := ⟨_, rfl⟩
          rw [hW8] at HW8 HA8 ⊢
          clear hW8 g3 g4 g5 K1
          go_wp2_with fail
          go_loopw [9] (fun s9 wr => ∃ k : Nat, s9 = .int .i64 k ∧ k ≤ s.ops.length ∧ Hid (Below W8.heap.size W8 wr)) (fun s9 _ => s.ops.length - (intOf s9).toNat)
          case atStart => exact ⟨0, rfl, Nat.zero_le _, Lib.hid (Below.refl _ _)⟩
          case round =>
            obtain ⟨k, rfl, hk, HR⟩ := hrel
            by_cases hkl : k < s.ops.length
            case neg =>
              obtain rfl : k = s.ops.length := by omega
              have q9 : ¬ ((s.ops.length : Int) < (s.ops.length : Int)) := by omega
              have HE := Lib.hid (show n + s.ops.length = sumO O (i + 1) ∧ Below w3.heap.size w3 wr from ⟨by rw [HI.out.1]; exact (sum_take HSI.out).symm, HB4.out.on (HW8.out.on HR.out)⟩)
              go_wp2_with fail
              go_roundw
              case measure => simp [intOf] <;> omega
              case rel => exact ⟨i + 1, n + s.ops.length, by simp, by simp, by omega, HE⟩
            have q9 : (k : Int) < (s.ops.length : Int) := by omega
            have q10 : IntKind.i64.wrap ((k : Int) + 1) = (k : Int) + 1 := IntWalk.i64_in _ (by omega)
            obtain ⟨o, hok⟩ : ∃ o, s.ops[k]? = some o := ⟨_, List.getElem?_eq_getElem hkl⟩
            have hom := List.mem_of_getElem? hok
            obtain ⟨bA, pA, _, hvA, hltA, _, hcA⟩ := OpsOf.at (HA8.out.on HR.out) hok
            obtain rfl : aA = some ⟨bA, pA, none⟩ := by cases hvA; rfl
            have c0 : wr.cell? ⟨bA, pA + k * 11, none⟩ = some (.int .i64 o.id) := hcA 0 _ rfl
            have hget : Hs.getL HL l0 o.id = some o := Hs.get_is HL ((Hs.check_ok HL).1 HZ.out).rise (HM.out o hom).1
            have HG := Lib.hid (rget_any o.id (HH.out.on (HB4.out.on (HW8.out.on HR.out))) (by have := HL0.out; omega) o (by rw [hget]; rfl))
            rw [hget] at HG
            have HOM := Lib.hid hom
            have HOK2 := Lib.hid hok
            clear hom hok hvA hltA hcA hget
            go_wp2_with fail
            (with_reducible refine HG.out.mono ?_)
            rintro _ w9 ⟨rfl, hb9⟩
            have s10 := store_op_new w9 (#[Value.int .i64 0, Value.int .i64 0, Value.int .i64 0, Value.int .i64 0, Value.int .i64 0, Value.int .i64 0, Value.int .i64 0, Value.bool false, Value.int .i64 0, Value.int .i64 0, Value.int .i64 0]) rfl o
            have hb10 : Below w9.heap.size w9 (w9.alloc (.cells #[Value.int .i64 o.id, Value.int .i64 o.proc, Value.int .i64 o.obj, Value.int .i64 o.kind, Value.int .i64 o.meth, Value.int .i64 o.arg, Value.int .i64 o.sec, Value.bool o.done, Value.int .i64 o.res, Value.int .i64 o.inv, Value.int .i64 o.ret] 35)) := by go_grown
            have ho10 := OpAt.box w9 o
            have hbr := hb9.on hb10
            obtain ⟨W10, hW10⟩ : ∃ W, w9.alloc (.cells #[Value.int .i64 o.id, Value.int .i64 o.proc, Value.int .i64 o.obj, Value.int .i64 o.kind, Value.int .i64 o.meth, Value.int .i64 o.arg, Value.int .i64 o.sec, Value.bool o.done, Value.int .i64 o.res, Value.int .i64 o.inv, Value.int .i64 o.ret] 35) = W := ⟨_, rfl⟩
            rw [hW10] at s10 hb10 ho10 hbr
            have HR10 := Lib.hid (HR.out.on hbr)
            obtain ⟨b9, hb9'⟩ : ∃ b, w9.heap.size = b := ⟨_, rfl⟩
            rw [hb9'] at s10 ho10
            obtain ⟨bA2, pA2, _, hvA, hltA, _, hcA⟩ := OpsOf.at (HA8.out.on HR10.out) HOK2.out
            obtain ⟨rfl, rfl⟩ : bA = bA2 ∧ pA = pA2 := by cases hvA; exact ⟨rfl, rfl⟩
            obtain ⟨bO, _, uO2, hvO, hltO, _, hcO⟩ := (HS.out.on (HB4.out.on (HW8.out.on HR10.out))).at HSI.out
            obtain rfl : b = bO := by cases hvO; rfl
            have hko := HOK.out.kind HZ.out HMEM.out HOM.out
            have hoo := (HM.out o HOM.out).2
            have m1 := fun e os => (ho10.on (below_regrown W10 e os)).load
            have m2 := fun e os => load_cellsO (w := grow (redrawn W10 e) os) (p := pA + k * 11) (fun t u ht => ((below_regrown W10 e os).cell (p := ⟨bA, pA + k * 11 + t, none⟩) hltA).trans (hcA t u ht))
            have m3 : ∀ e os, (grow (redrawn W10 e) os).cell? ⟨b9, 2, none⟩ = some (.int .i64 s.obj) := fun e os => by rw [← hoo]; exact cells11 (ho10.on (below_regrown W10 e os)) 2
            have m4 : ∀ e os, (grow (redrawn W10 e) os).cell? ⟨b9, 3, none⟩ = some (.int .i64 s.kind) := fun e os => by rw [← hko]; exact cells11 (ho10.on (below_regrown W10 e os)) 3
            have m5 : ∀ e os, (grow (redrawn W10 e) os).cell? ⟨b, i * 3, none⟩ = some (.int .i64 s.obj) := fun e os => ((below_regrown W10 e os).cell (p := ⟨b, i * 3 + 0, none⟩) hltO).trans (hcO 0 _ rfl)
            have m6 : ∀ e os, (grow (redrawn W10 e) os).cell? ⟨b, i * 3 + 1, none⟩ = some (.int .i64 s.kind) := fun e os => ((below_regrown W10 e os).cell (p := ⟨b, i * 3 + 1, none⟩) hltO).trans (hcO 1 _ rfl)
            clear hb9 hb10 ho10 hbr hvA hltA hcA hvO hltO hcO hko hoo HG
            go_wp2_with fail
            refine wp_region_quiet_below (by kernel_rfl) (by kernel_rfl) ?_
            repeat (go_big_quiet_step (fail))
            refine wpQuiet_nil ?_
            intro _ hw'
            obtain ⟨⟨dq, osq⟩, hw''⟩ := hw'
            subst hw''
            have HE := Lib.hid (HR10.out.on (below_regrown W10 dq osq))
            clear m1 m2 m3 m4 m5 m6 s10 hW10 hb9'
            go_wp2_with fail
            go_roundw
            case measure => simp [intOf] <;> omega
            case rel => exact ⟨k + 1, by simp, by omega, HE⟩

set_option maxRecDepth 100000 in
theorem lifted (os : Os) (started : os.Started) (H : Type) (enc : TypeId × Value → H) :
    ReturnsInHanded {} Try.checked os 5 .any (Rows.cutWholeSpec.pre6 enc Try.prog Try.f5 Rows.cutWholeRow.domain false) (Rows.cutWholeSpec.post enc Try.prog Try.f5 false true false false) := by
  refine law_lift (C := Try.checked) own started (by kernel_rfl) Try.func5 laidOut (by kernel_rfl) rfl Try.underlying4 rfl
    (fun ds h => match ds, h with | [_], _ => rfl)
    (ChangeSpec.witness6 (enc := enc) (C := Try.checked) false ⟨#[], #[.slice none 0 0], []⟩ 8 (by kernel_rfl) (by kernel_rfl) (by kernel_rfl) (by kernel_rfl)) ?_
  intro W base args ds ps hval hA hsz
  rw [Try.params5] at hA hval hsz
  obtain ⟨v0, vs0, d0, ds0, p0, q0, hargs, rfl, rfl, h0, r0⟩ := trodAll_cons hA
  obtain ⟨rfl, rfl, rfl⟩ := trodAll_nil r0
  obtain rfl : args = #[v0] := by cases args; simp_all
  obtain ⟨l0, hl0, _⟩ := ops_open (hval 0 22 v0 rfl rfl) h0
  exact walk W v0 l0 hl0

theorem over : Rows.cutWholeRow.holds Try.pinned (OpenSpec.ofChange Rows.cutWholeSpec) :=
  OpenClaim.holds_of_wide 5 Try.f5 rfl rfl rfl rfl rfl rfl rfl ⟨rfl, rfl, rfl, rfl, rfl⟩ rfl rfl rfl rfl rfl (by kernel_rfl) Try.func5 (by kernel_rfl)
    (of_decide_eq_true (by kernel_rfl)) (by unfold Func.isWrapper; first | (rw [if_pos (by decide +kernel)]; kernel_rfl) | (rw [if_neg (by decide +kernel)]; exact ⟨rfl, rfl⟩))
    (fun os started H enc _ => lifted os started H enc)

theorem proved : Rows.CutWholeSaid :=
  over
end Go.Proofs.Ytgedlfilhpbfaaa.cutWhole
