/- Of a history that may be, every operation of a segment is before every one of the next, no segment can be cut anew, and only the last one has operations without an answer, and the chapter's example holds: for every list of operations (longer ones than 64, and those that may not be, are let go). No conditions. -/
import Derived.Test.YtgedlfilhpbfaaaCuV
import Derived.Test.YtgedlfilhpbfaaaLaw
import Derived.BigQuiet
import Derived.Deep.QuietTactic
import Derived.Lib.QuietBelow
import Derived.Deep.DeepCutAuto
import Derived.Deep.CutBlock
namespace Go.Proofs.Ytgedlfilhpbfaaa.cutQuiet
open Go.ChangeShapes Go.WideShapes Go.ChangeAt Go.RowKit Go.PlainAid
open Go.ChangeMaps (open_string)
open Go.Sort (grow)

theorem own : ownKnob Try.prog.godebug = none := by kernel_rfl
theorem laidOut : laidOutB Try.prog = true := by kernel_rfl
open Cu Go.Shelf Go.Sort
attribute [local go_sem ↓ high] load_op store_o load_s
set_option maxRecDepth 100000 in
set_option maxHeartbeats 8000000 in
theorem walk (w : World) (v0 : Value) (l0 : List OpV) (h0 : OpsOf w v0 l0) :
    Calls Try.prog 6 #[v0] w fun e w' => e = .returned (.bool true) ∧ Below w.heap.size w w' := by
  obtain ⟨ao, ac, rfl⟩ := h0.len
  have H := Lib.hid h0
  clear h0
  by_cases hl : 64 < l0.length
  · have q0 : decide ((l0.length : Int) > 64) = true := decide_eq_true (by omega)
    have q00 : ((64 : Int) < (l0.length : Int)) = True := eq_true (by omega)
    clear hl
    go_enter Try.func6, Try.ntmps6
    go_wp2_with fail
    refine (Cu.awake_any _).mono ?_
    rintro _ w2 ⟨rfl, hb2⟩
    go_wp2_with fail
    go_returns
    exact ⟨rfl, hb2⟩
  have q0 : decide ((l0.length : Int) > 64) = false := decide_eq_false (by omega)
  have q00 : ((64 : Int) < (l0.length : Int)) = False := eq_false (by omega)
  have HL0 := Lib.hid (show l0.length ≤ 64 by omega)
  clear hl
  obtain ⟨z, hz⟩ : ∃ z, Hs.checkL HL l0 = z := ⟨_, rfl⟩
  have HZ := Lib.hid hz
  clear hz
  by_cases hz0 : z = 0
  case neg =>
    have q5 : (z != 0) = true := bne_iff_ne.2 hz0
    clear hz0
    go_enter Try.func6, Try.ntmps6
    go_wp2_with fail
    refine (hrcheck_any H.out (by have := HL0.out; omega)).mono ?_
    rintro _ w2 ⟨rfl, hb2⟩
    rw [HZ.out]
    have HB2 := Lib.hid hb2
    clear hb2
    go_wp2_with fail
    refine (Cu.awake_any _).mono ?_
    rintro _ w3 ⟨rfl, hb3⟩
    have HB3 := Lib.hid (HB2.out.on hb3)
    clear hb3
    go_wp2_with fail
    go_returns
    exact ⟨rfl, HB3.out⟩
  subst hz0
  go_enter Try.func6, Try.ntmps6
  go_wp2_with fail
  refine (hrcheck_any H.out (by have := HL0.out; omega)).mono ?_
  rintro _ w2 ⟨rfl, hb2⟩
  rw [HZ.out]
  have H2 := Lib.hid (H.out.on hb2)
  have HB2 := Lib.hid hb2
  clear hb2
  go_wp2_with fail
  refine (objects_any H2.out (by have := HL0.out; omega)).mono ?_
  rintro _ w3 ⟨vO, ps, rfl, hm, hok⟩
  have HB3 := Lib.hid (HB2.out.on hm.below)
  have hsg := hm.segs
  obtain ⟨O, hO⟩ : ∃ O, ps.map Prod.fst = O := ⟨_, rfl⟩
  rw [hO] at hsg hok
  obtain ⟨aO, cO, rfl⟩ := hsg.len
  have HS := Lib.hid hsg
  have HOK := Lib.hid hok
  have HAL := Lib.hid (valid_alike HZ.out)
  have hOl : O.length ≤ 65536 := by
    have hh : ∀ l : List SegV, l.Pairwise (fun a b => a.obj < b.obj) → (∀ s ∈ l, ∃ o ∈ l0, o.obj = s.obj) → l.length ≤ l0.length := fun l h1 h2 => by
      have hn : (l.map SegV.obj).Nodup := by
        rw [List.nodup_iff_pairwise_ne, List.pairwise_map]
        exact h1.imp fun h => Int.ne_of_lt h
      have hsub : ∀ x ∈ l.map SegV.obj, x ∈ l0.map OpV.obj := fun x hx => by
        obtain ⟨s, hs, rfl⟩ := List.mem_map.1 hx
        obtain ⟨o, ho, e⟩ := h2 s hs
        exact List.mem_map.2 ⟨o, ho, e⟩
      have := hn.length_le_of_subset hsub
      simpa using this
    have := hh O hok.rise fun s hs => by
      obtain ⟨_, o, ho, _⟩ := hok.each s hs
      exact ⟨o, (hok.mem hs o (List.mem_of_mem_head? ho)).1, (hok.mem hs o (List.mem_of_mem_head? ho)).2⟩
    have := HL0.out
    omega
  clear hm hsg hok hO
  go_wp2_with fail
  go_loopw [4] (fun s4 wr => ∃ i : Nat, s4 = .int .i64 i ∧ i ≤ O.length ∧ Hid (Below w3.heap.size w3 wr)) (fun s4 _ => O.length - (intOf s4).toNat)
  case atStart => exact ⟨0, rfl, Nat.zero_le _, Lib.hid (Below.refl _ _)⟩
  case round =>
    obtain ⟨i, rfl, hi, HI⟩ := hrel
    by_cases hil : i < O.length
    case neg =>
      obtain rfl : i = O.length := by omega
      have q1 : ¬ ((O.length : Int) < (O.length : Int)) := by omega
      go_wp2_with fail
      refine (Cu.awake_any _).mono ?_
      rintro _ w4 ⟨rfl, hb4⟩
      have HB4 := Lib.hid (HB3.out.on (HI.out.on hb4))
      clear hb4
      go_wp2_with fail
      go_returns
      exact ⟨rfl, HB4.out⟩
    have q1 : (i : Int) < (O.length : Int) := by omega
    have q2 : IntKind.i64.wrap ((i : Int) + 1) = (i : Int) + 1 := IntWalk.i64_in _ (by omega)
    obtain ⟨s, hs⟩ : ∃ s, O[i]? = some s := ⟨_, List.getElem?_eq_getElem hil⟩
    obtain ⟨b, cb, u, hv, hlt, hu, hc⟩ := (HS.out.on HI.out).at hs
    obtain rfl : aO = some ⟨b, 0, none⟩ := by cases hv; rfl
    have l1 := load_seg (p := i * 3) hc
    have hmem := List.mem_of_getElem? hs
    have hse := (HOK.out.each s hmem).1
    have HM := Lib.hid (HOK.out.mem hmem)
    have HP := Lib.hid hse.2
    have hsl : s.ops.length ≤ 64 := by
      have := hse.1.length_eq
      have h2 := List.length_filter_le (fun o => decide (o.obj = s.obj)) l0
      have := HL0.out
      omega
    have HC := Lib.hid (segments_any hu (by omega))
    clear hv hlt hu hc hmem hse hs
    go_wp2_with fail
    (with_reducible refine HC.out.mono ?_)
    rintro _ w4 ⟨vT, rfl, ps2, S, hm2, hs2, hcut⟩
    obtain rfl : S = s.ops := again HAL.out (fun o ho => (HM.out o ho).1) HP.out hs2
    have HB4 := Lib.hid (HI.out.on hm2.below)
    have hsg := hm2.segs
    rw [hcut] at hsg
    obtain ⟨aT, cT, rfl⟩ := hsg.len
    have HT := Lib.hid hsg
    rw [List.length_map]
    obtain ⟨T, hT⟩ : ∃ T, cutL s.ops = T := ⟨_, rfl⟩
    have hTl : T.length ≤ 64 := by rw [← hT]; have := cut_few (P := s.ops); omega
    rw [hT]
    have HTE := Lib.hid hT
    clear hm2 hs2 hcut hsg hT l1
    go_wp2_with fail
    go_loopw [6] (fun s6 wr => ∃ k : Nat, s6 = .int .i64 k ∧ k ≤ T.length ∧ Hid (Below w4.heap.size w4 wr)) (fun s6 _ => T.length - (intOf s6).toNat)
    case atStart => exact ⟨0, rfl, Nat.zero_le _, Lib.hid (Below.refl _ _)⟩
    case round =>
      obtain ⟨k, rfl, hk, HK⟩ := hrel
      by_cases hkl : k < T.length
      case neg =>
        obtain rfl : k = T.length := by omega
        have q3 : ¬ ((T.length : Int) < (T.length : Int)) := by omega
        have HB5 := Lib.hid (HB4.out.on HK.out)
        go_wp2_with fail
        go_roundw
        case measure => simp [intOf] <;> omega
        case rel => exact ⟨i + 1, by simp, by omega, HB5⟩
      have q3 : (k : Int) < (T.length : Int) := by omega
      have q4 : IntKind.i64.wrap ((k : Int) + 1) = (k : Int) + 1 := IntWalk.i64_in _ (by omega)
      obtain ⟨c, hck⟩ : ∃ c, T[k]? = some c := ⟨_, List.getElem?_eq_getElem hkl⟩
      obtain ⟨bT, cbT, uk, hv, hlt, hu, hc⟩ := (HT.out.on HK.out).at (i := k) (s := mkS s c) (by rw [HTE.out, List.getElem?_map, hck]; rfl)
      obtain rfl : aT = some ⟨bT, 0, none⟩ := by cases hv; rfl
      have l2 := load_seg (p := k * 3) hc
      have HCK := Lib.hid hck
      obtain ⟨hp1, hp2, hp3, _⟩ := piece HP.out (show c ∈ cutL s.ops by rw [HTE.out]; exact List.mem_of_getElem? hck)
      have hcl : c.length ≤ 64 := by have := flat_le (S := s.ops) (k := s.ops.length) (c := c) (by rw [List.take_length, HTE.out]; exact List.mem_of_getElem? hck); omega
      have HC2 := Lib.hid (segments_any (s := ⟨s.obj, s.kind, c⟩) hu (by simp only; omega))
      have HPC := Lib.hid (And.intro hp1 (And.intro hp2 hp3))
      dsimp only [mkS] at l2
      clear hv hlt hu hc hck hp1 hp2 hp3 HC
      go_wp2_with fail
      (with_reducible refine HC2.out.mono ?_)
      rintro _ w5 ⟨vU, rfl, ps3, S3, hm3, hs3, hcut3⟩
      obtain rfl : S3 = c := again HAL.out (fun o ho => (HM.out o (HPC.out.1 o ho)).1) HPC.out.2.1 hs3
      have hsg3 := hm3.segs
      rw [hcut3, HPC.out.2.2] at hsg3
      obtain ⟨aU, cU, rfl⟩ := hsg3.len
      rw [List.length_map, List.length_singleton]
      have HB5 := Lib.hid (HK.out.on hm3.below)
      clear hm3 hs3 hcut3 hsg3 l2 HC2
      go_wp2_with fail
      go_loopw [7] (fun s7 wr => ∃ j : Nat, s7 = .int .i64 j ∧ j ≤ S3.length ∧ Hid (Below w4.heap.size w4 wr)) (fun s7 _ => S3.length - (intOf s7).toNat)
      case atStart => exact ⟨0, rfl, Nat.zero_le _, HB5⟩
      case round =>
        obtain ⟨j, rfl, hj, HJ⟩ := hrel
        obtain ⟨bT', cbT', uj, hv, hlt, hu, hc⟩ := (HT.out.on HJ.out).at (i := k) (s := mkS s S3) (by rw [HTE.out, List.getElem?_map, HCK.out]; rfl)
        obtain rfl : bT = bT' := by cases hv; rfl
        obtain ⟨aj, cj, rfl⟩ := hu.len
        have c2 := hc 2 _ rfl
        by_cases hjl : j < S3.length
        case neg =>
          obtain rfl : j = S3.length := by omega
          have q5 : ¬ ((S3.length : Int) < (S3.length : Int)) := by omega
          dsimp only [mkS] at c2
          clear hv hlt hu hc
          go_wp2_with fail
          go_roundw
          case measure => simp [intOf] <;> omega
          case rel => exact ⟨k + 1, by simp, by omega, HJ⟩
        have q5 : (j : Int) < (S3.length : Int) := by omega
        have q6 : IntKind.i64.wrap ((j : Int) + 1) = (j : Int) + 1 := IntWalk.i64_in _ (by omega)
        dsimp only [mkS] at c2 hu
        by_cases hkt : k + 1 < T.length
        case neg =>
          have q7 : ((k : Int) + 1 == (T.length : Int)) = true := by simp; omega
          clear hv hlt hu hc
          go_wp2_with fail
          go_roundw
          case measure => simp [intOf] <;> omega
          case rel => exact ⟨j + 1, by simp, by omega, HJ⟩
        have q7 : ((k : Int) + 1 == (T.length : Int)) = false := by simp; omega
        obtain ⟨x, hx⟩ : ∃ x, S3[j]? = some x := ⟨_, List.getElem?_eq_getElem hjl⟩
        obtain ⟨d, hd⟩ : ∃ d, T[k + 1]? = some d := ⟨_, List.getElem?_eq_getElem hkt⟩
        have hq : ∀ y ∈ d, befB x y = true ∧ x.done = true := fun y hy => quiet_all HP.out (by rw [HTE.out]; exact HCK.out) (by rw [HTE.out]; exact hd) (List.mem_of_getElem? hx) hy
        have hxd : x.done = true := by
          obtain ⟨_, _, _, hne⟩ := piece HP.out (show d ∈ cutL s.ops by rw [HTE.out]; exact List.mem_of_getElem? hd)
          cases d with
          | nil => exact absurd rfl hne
          | cons y r => exact (hq y (by simp)).2
        have hdl : d.length ≤ 64 := by have := flat_le (S := s.ops) (k := s.ops.length) (c := d) (by rw [List.take_length, HTE.out]; exact List.mem_of_getElem? hd); omega
        obtain ⟨bj, pj, cj', hvj, hltj, hwx, hcx⟩ := OpsOf.at hu hx
        obtain rfl : aj = some ⟨bj, pj, none⟩ := by cases hvj; rfl
        have c7 : wr.cell? ⟨bj, pj + j * 11 + 7, none⟩ = some (.bool true) := by rw [← hxd]; exact hcx 7 _ rfl
        have HQ := Lib.hid hq
        have HD := Lib.hid hd
        have HX := Lib.hid hx
        clear hv hlt hu hc hq hxd hd hx hvj hltj hwx hcx
        go_wp2_with fail
        go_loopw [8] (fun s8 wr => ∃ n : Nat, s8 = .int .i64 n ∧ n ≤ d.length ∧ Hid (Below w4.heap.size w4 wr)) (fun s8 _ => d.length - (intOf s8).toNat)
        case atStart => exact ⟨0, rfl, Nat.zero_le _, HJ⟩
        case round =>
          obtain ⟨n, rfl, hn, HN⟩ := hrel
          clear c2 c7
          obtain ⟨bT2, _, ud, hv, hltd, hud, hcd⟩ := (HT.out.on HN.out).at (i := k + 1) (s := mkS s d) (by rw [HTE.out, List.getElem?_map, HD.out]; rfl)
          obtain rfl : bT = bT2 := by cases hv; rfl
          obtain ⟨ad, cd, rfl⟩ := hud.len
          obtain ⟨bT3, _, ux, hv3, _, hux, hcx⟩ := (HT.out.on HN.out).at (i := k) (s := mkS s S3) (by rw [HTE.out, List.getElem?_map, HCK.out]; rfl)
          obtain rfl : bT = bT3 := by cases hv3; rfl
          have e0 : ((k : Int) + 1).toNat = k + 1 := by omega
          have e1 : (0 : Int) ≤ (k : Int) + 1 := by omega
          have e2 : (k : Int) + 1 < (T.length : Int) := by omega
          have d2 := hcd 2 _ rfl
          dsimp only [mkS] at d2 hud hux
          by_cases hnl : n < d.length
          case neg =>
            obtain rfl : n = d.length := by omega
            have q8 : ¬ ((d.length : Int) < (d.length : Int)) := by omega
            clear hv hltd hud hcd hv3 hux hcx
            go_wp2_with fail
            go_roundw
            case measure => simp [intOf] <;> omega
            case rel => exact ⟨j + 1, by simp, by omega, HN⟩
          have q8 : (n : Int) < (d.length : Int) := by omega
          have q9 : IntKind.i64.wrap ((n : Int) + 1) = (n : Int) + 1 := IntWalk.i64_in _ (by omega)
          obtain ⟨y, hy⟩ : ∃ y, d[n]? = some y := ⟨_, List.getElem?_eq_getElem hnl⟩
          have hb := (HQ.out y (List.mem_of_getElem? hy)).1
          obtain ⟨by', py, cy, hvy, hlty, _, hcy⟩ := OpsOf.at hud hy
          obtain rfl : ad = some ⟨by', py, none⟩ := by cases hvy; rfl
          obtain ⟨bx, px, cx, rfl, hltx, _, hcxx⟩ := OpsOf.at hux HX.out
          have g1 : ∀ e os, (grow (redrawn wr e) os).cell? ⟨bT, k * 3 + 2, none⟩ = some (.slice (some ⟨bx, px, none⟩) S3.length cx) := fun e os => ((below_regrown wr e os).cell (p := ⟨bT, k * 3 + 2, none⟩) hltd).trans (hcx 2 _ rfl)
          have g2 : ∀ e os, (grow (redrawn wr e) os).cell? ⟨bT, (k + 1) * 3 + 2, none⟩ = some (.slice (some ⟨by', py, none⟩) d.length cd) := fun e os => ((below_regrown wr e os).cell (p := ⟨bT, (k + 1) * 3 + 2, none⟩) hltd).trans (hcd 2 _ rfl)
          have m1 := fun e os => load_cellsO (w := grow (redrawn wr e) os) (p := px + j * 11) (fun t u ht => ((below_regrown wr e os).cell (p := ⟨bx, px + j * 11 + t, none⟩) hltx).trans (hcxx t u ht))
          have m2 := fun e os => load_cellsO (w := grow (redrawn wr e) os) (p := py + n * 11) (fun t u ht => ((below_regrown wr e os).cell (p := ⟨by', py + n * 11 + t, none⟩) hlty).trans (hcy t u ht))
          have k1 : ∀ e os, Calls Try.prog 17 #[Value.agg #[Value.int .i64 x.id, Value.int .i64 x.proc, Value.int .i64 x.obj, Value.int .i64 x.kind, Value.int .i64 x.meth, Value.int .i64 x.arg, Value.int .i64 x.sec, Value.bool x.done, Value.int .i64 x.res, Value.int .i64 x.inv, Value.int .i64 x.ret], Value.agg #[Value.int .i64 y.id, Value.int .i64 y.proc, Value.int .i64 y.obj, Value.int .i64 y.kind, Value.int .i64 y.meth, Value.int .i64 y.arg, Value.int .i64 y.sec, Value.bool y.done, Value.int .i64 y.res, Value.int .i64 y.inv, Value.int .i64 y.ret]] (grow (redrawn wr e) os) fun r w'' => r = .returned (.bool true) ∧ ∃ p : Regrown, w'' = grow (redrawn wr p.d) p.os := fun e os => Calls.regrown_of (by rw [← hb]; exact rbefore_any x y _)
          have K1 := Lib.hid k1
          clear hv hltd hud hcd hv3 hux hcx hy hb hvy hlty hcy hltx hcxx k1
          go_wp2_with fail
          refine wp_region_quiet_below (by kernel_rfl) (by kernel_rfl) ?_
          repeat (go_big_quiet_step (first | (with_reducible exact K1.out _ _)))
          refine wpQuiet_nil ?_
          intro _ hw'
          obtain ⟨⟨dq, osq⟩, hw''⟩ := hw'
          subst hw''
          go_wp2_with fail
          go_roundw
          case measure => simp [intOf] <;> omega
          case rel => exact ⟨n + 1, by simp, by omega, Lib.hid (HN.out.on (below_regrown wr dq osq))⟩

set_option maxRecDepth 100000 in
theorem lifted (os : Os) (started : os.Started) (H : Type) (enc : TypeId × Value → H) :
    ReturnsInHanded {} Try.checked os 6 .any (Rows.cutQuietSpec.pre6 enc Try.prog Try.f6 Rows.cutQuietRow.domain false) (Rows.cutQuietSpec.post enc Try.prog Try.f6 false true false false) := by
  refine law_lift (C := Try.checked) own started (by kernel_rfl) Try.func6 laidOut (by kernel_rfl) rfl Try.underlying4 rfl
    (fun ds h => match ds, h with | [_], _ => rfl)
    (ChangeSpec.witness6 (enc := enc) (C := Try.checked) false ⟨#[], #[.slice none 0 0], []⟩ 8 (by kernel_rfl) (by kernel_rfl) (by kernel_rfl) (by kernel_rfl)) ?_
  intro W base args ds ps hval hA hsz
  rw [Try.params6] at hA hval hsz
  obtain ⟨v0, vs0, d0, ds0, p0, q0, hargs, rfl, rfl, h0, r0⟩ := trodAll_cons hA
  obtain ⟨rfl, rfl, rfl⟩ := trodAll_nil r0
  obtain rfl : args = #[v0] := by cases args; simp_all
  obtain ⟨l0, hl0, _⟩ := ops_open (hval 0 22 v0 rfl rfl) h0
  exact walk W v0 l0 hl0

theorem over : Rows.cutQuietRow.holds Try.pinned (OpenSpec.ofChange Rows.cutQuietSpec) :=
  OpenClaim.holds_of_wide 6 Try.f6 rfl rfl rfl rfl rfl rfl rfl ⟨rfl, rfl, rfl, rfl, rfl⟩ rfl rfl rfl rfl rfl (by kernel_rfl) Try.func6 (by kernel_rfl)
    (of_decide_eq_true (by kernel_rfl)) (by unfold Func.isWrapper; first | (rw [if_pos (by decide +kernel)]; kernel_rfl) | (rw [if_neg (by decide +kernel)]; exact ⟨rfl, rfl⟩))
    (fun os started H enc _ => lifted os started H enc)

theorem proved : Rows.CutQuietSaid :=
  over
end Go.Proofs.Ytgedlfilhpbfaaa.cutQuiet
