/- The document's helpers: Alike, Short, Same; small segments. The document's helpers: Same; small segments. -/
import Derived.Test.YtpooekmogfkkjaaSLnX
import Derived.Test.YtpooekmogfkkjaaSLnU
import Derived.Test.YtpooekmogfkkjaaSMoE
namespace Go.Proofs.Ytpooekmogfkkjaa
set_option maxRecDepth 100000
open Go.ChangeShapes Go.WideShapes Go.ChangeAt Go.RowKit Go.PlainAid Go.Deep
namespace Ln
/-- A truth that is told only if it is so. -/
def IfB (P : Prop) (w : World) (e : Ending) (w' : World) : Prop := ∃ b, e = .returned (.bool b) ∧ (b = true → P) ∧ Below w.heap.size w w'
set_option maxHeartbeats 4000000 in
theorem alike_any {obj kind : Int} {vo : Value} {l : List OpV} {w : World} (h : OpsOf w vo l) (hl : l.length ≤ 1000000000) : Calls Try.prog 26 #[.agg #[.int .i64 obj, .int .i64 kind, vo]] w (IfB (∀ o ∈ l, o.kind = kind) w) := by
  obtain ⟨ao, co, rfl⟩ := h.len
  have hbw : Below w.heap.size w (w.alloc (.cells #[.int .i64 obj, .int .i64 kind, .slice ao l.length co] 24)) := by go_grown
  have hbx := heap_alloc_new w (.cells #[.int .i64 obj, .int .i64 kind, .slice ao l.length co] 24)
  obtain ⟨W1, hW1⟩ : ∃ W, w.alloc (.cells #[.int .i64 obj, .int .i64 kind, .slice ao l.length co] 24) = W := ⟨_, rfl⟩
  rw [hW1] at hbw hbx
  have HB := Lib.hid hbw
  have HX := Lib.hid hbx
  have H := Lib.hid (h.on hbw)
  have HI0 := Lib.hid (show (∀ k o, k < 0 → l[k]? = some o → o.kind = kind) ∧ Below W1.heap.size W1 W1 from ⟨fun k o h => by omega, Below.refl _ _⟩)
  clear hbw hbx h
  go_enter Try.func26, Try.ntmps26
  go_wp2_with fail
  go_loopw [3] (fun s3 wr => ∃ i : Nat, s3 = .int .i64 i ∧ i ≤ l.length ∧ Hid ((∀ k o, k < i → l[k]? = some o → o.kind = kind) ∧ Below W1.heap.size W1 wr)) (fun s3 _ => l.length - (intOf s3).toNat)
  case atStart => exact ⟨0, rfl, Nat.zero_le _, HI0⟩
  case round =>
    clear HI0
    obtain ⟨i, rfl, hi, HI⟩ := hrel
    rename World => wq
    have hxq := (HI.out.2.block _ (heap_inO HX.out)).trans HX.out
    have g2 : wq.cell? ⟨w.heap.size, 2, none⟩ = some (.slice ao l.length co) := by rw [cell_of_row _ _ _ _ _ _ hxq]; rfl
    by_cases hil : i < l.length
    · have q1 : (i : Int) < (l.length : Int) := by omega
      have q2 : IntKind.i64.wrap ((i : Int) + 1) = (i : Int) + 1 := IntWalk.i64_in _ (by omega)
      have q3 : (0 : Int) ≤ i := by omega
      obtain ⟨o, ho⟩ : ∃ o, l[i]? = some o := ⟨_, List.getElem?_eq_getElem hil⟩
      have hbd := HI.out.2.on (Below.refl wq.heap.size wq).drew
      obtain ⟨b, p, cap, hv, _, _, hc⟩ := OpsOf.at (H.out.on hbd) ho
      obtain rfl : ao = some ⟨b, p, none⟩ := by cases hv; rfl
      have hxd := (hbd.block _ (heap_inO HX.out)).trans HX.out
      have d1 : wq.drew.cell? ⟨w.heap.size, 1, none⟩ = some (.int .i64 kind) := by rw [cell_of_row _ _ _ _ _ _ hxd]; rfl
      have d2 : wq.drew.cell? ⟨w.heap.size, 2, none⟩ = some (.slice (some ⟨b, p, none⟩) l.length co) := by rw [cell_of_row _ _ _ _ _ _ hxd]; rfl
      have d3 : wq.drew.cell? ⟨b, p + i * 11 + 3, none⟩ = some (.int .i64 o.kind) := hc 3 _ rfl
      have HBD := Lib.hid hbd
      have HO := Lib.hid ho
      clear hv hc ho hbd hxd hxq
      by_cases hk : o.kind = kind
      · have q5 : (o.kind != kind) = false := by rw [hk]; simp
        have HE := Lib.hid (show (∀ k o, k < i + 1 → l[k]? = some o → o.kind = kind) ∧ Below W1.heap.size W1 wq.drew from ⟨fun k x hx hlx => by
          by_cases c : k < i
          · exact HI.out.1 k x c hlx
          · obtain rfl : k = i := by omega
            rw [HO.out] at hlx
            rw [← Option.some.inj hlx]; exact hk, HBD.out⟩)
        clear hk
        go_wp2_with fail
        go_region
        go_wp2_with fail
        go_roundw
        case measure => simp [intOf] <;> omega
        case rel => exact ⟨i + 1, by simp, by omega, HE⟩
      · have q5 : (o.kind != kind) = true := bne_iff_ne.2 hk
        clear hk
        go_wp2_with fail
        go_region
        go_wp2_with fail
        go_returns
        exact ⟨false, rfl, fun h => (by cases h), HB.out.on HBD.out⟩
    · obtain rfl : i = l.length := by omega
      have q1 : ¬ ((l.length : Int) < (l.length : Int)) := by omega
      go_wp2_with fail
      go_returns
      exact ⟨true, rfl, fun _ o ho => by
        obtain ⟨k, hk⟩ := List.getElem?_of_mem ho
        exact HI.out.1 k o (List.getElem?_eq_some_iff.1 hk).1 hk, HB.out.on HI.out.2⟩
/-- States that are few and short, and rise where they must. -/
structure ShortP (kind : Int) (l : List (List Int)) : Prop where
  few : l.length ≤ 20
  sum : (l.map List.length).sum ≤ 200
  rise : kind = 5 → ∀ s ∈ l, risesB s = true
set_option maxHeartbeats 4000000 in
theorem short_any {kind : Int} {v : Value} {l : List (List Int)} {w : World} (h : Sts w v l) (hz : ∀ s ∈ l, s.length ≤ 17592186044416) : Calls Try.prog 27 #[.int .i64 kind, v] w (IfB (ShortP kind l) w) := by
  obtain ⟨al, cl, rfl⟩ := h.len
  have H := Lib.hid h
  have HZ := Lib.hid hz
  have HI0 := Lib.hid (show ((l.take 0).map List.length).sum ≤ 17592186044416 * 0 ∧ (∀ k s, k < 0 → l[k]? = some s → kind = 5 → risesB s = true) ∧ Below w.heap.size w w from ⟨by simp, fun k s h => by omega, Below.refl _ _⟩)
  clear h hz
  go_enter Try.func27, Try.ntmps27
  go_wp2_with fail
  go_loopw [5, 6] (fun s5 s6 wr => ∃ i : Nat, s6 = .int .i64 i ∧ s5 = .int .i64 (((l.take i).map List.length).sum : Nat) ∧ i ≤ l.length ∧ i ≤ 21 ∧ Hid (((l.take i).map List.length).sum ≤ 17592186044416 * i ∧ (∀ k s, k < i → l[k]? = some s → kind = 5 → risesB s = true) ∧ Below w.heap.size w wr)) (fun _ s6 _ => l.length - (intOf s6).toNat)
  case atStart => exact ⟨0, rfl, rfl, Nat.zero_le _, by omega, HI0⟩
  case round =>
    clear HI0
    obtain ⟨i, rfl, rfl, hi, hi2, HI⟩ := hrel
    rename World => wq
    by_cases hil : i < l.length
    case pos =>
      have q1 : (i : Int) < (l.length : Int) := by omega
      by_cases h20 : i ≤ 20
      case pos =>
        have q1b : (i : Int) ≤ 20 := by omega
        have q2 : IntKind.i64.wrap ((i : Int) + 1) = (i : Int) + 1 := IntWalk.i64_in _ (by omega)
        have q3 : (0 : Int) ≤ i := by omega
        obtain ⟨s, hs⟩ : ∃ s, l[i]? = some s := ⟨_, List.getElem?_eq_getElem hil⟩
        obtain ⟨b, p, cap, u, hveq, hlt, hc, hu⟩ := (H.out.on HI.out.2.2).at hs
        obtain rfl : al = some ⟨b, p, none⟩ := by cases hveq; rfl
        obtain ⟨au, cu, rfl, _⟩ := hu.parts
        have hnx : ((l.take (i + 1)).map List.length).sum = ((l.take i).map List.length).sum + s.length := by
          rw [take_succ hs, List.map_append, List.sum_append]
          simp
        have hsl := HZ.out s (List.mem_of_getElem? hs)
        have hsm := HI.out.1
        have HNX := Lib.hid hnx
        have HS := Lib.hid hs
        have HU := Lib.hid hu
        clear hnx hveq hs hlt hu
        generalize ((l.take i).map List.length).sum = n at hsm HNX ⊢
        have q4 : IntKind.i64.wrap ((n : Int) + (s.length : Int)) = (n : Int) + (s.length : Int) := IntWalk.i64_in _ (by omega)
        by_cases hk : kind = 5
        · subst hk
          cases hr : risesB s with
          | true =>
            have HR := Lib.hid hr
            go_wp2_with fail
            refine (rrising_any _ s _ HU.out).mono ?_
            rintro _ w3 ⟨rfl, hb3⟩
            rw [HR.out]
            have HE := Lib.hid (show ((l.take (i + 1)).map List.length).sum ≤ 17592186044416 * (i + 1) ∧ (∀ k s, k < i + 1 → l[k]? = some s → (5 : Int) = 5 → risesB s = true) ∧ Below w.heap.size w w3 from ⟨by rw [HNX.out]; omega, fun k x hk hx he => by
              by_cases c : k < i
              · exact HI.out.2.1 k x c hx (by first | exact he | trivial)
              · obtain rfl : k = i := by omega
                rw [HS.out] at hx
                rw [← Option.some.inj hx]; exact HR.out, HI.out.2.2.on hb3⟩)
            clear hb3
            go_wp2_with fail
            go_roundw
            case measure => simp [intOf] <;> omega
            case rel => exact ⟨i + 1, by simp, by rw [HNX.out]; simp, by omega, by omega, HE⟩
          | false =>
            have HR := Lib.hid hr
            go_wp2_with fail
            refine (rrising_any _ s _ HU.out).mono ?_
            rintro _ w3 ⟨rfl, hb3⟩
            rw [HR.out]
            have HB3 := Lib.hid (HI.out.2.2.on hb3)
            clear hb3
            go_wp2_with fail
            go_returns
            exact ⟨false, rfl, fun h => (by cases h), HB3.out⟩
        · have q5 : (kind == 5) = false := beq_eq_false_iff_ne.2 hk
          have HE := Lib.hid (show ((l.take (i + 1)).map List.length).sum ≤ 17592186044416 * (i + 1) ∧ (∀ k s, k < i + 1 → l[k]? = some s → kind = 5 → risesB s = true) ∧ Below w.heap.size w wq from ⟨by rw [HNX.out]; omega, fun k x _ _ he => absurd he hk, HI.out.2.2⟩)
          clear hk
          go_wp2_with fail
          go_roundw
          case measure => simp [intOf] <;> omega
          case rel => exact ⟨i + 1, by simp, by rw [HNX.out]; simp, by omega, by omega, HE⟩
      case neg =>
        have q1b : ¬ ((i : Int) ≤ 20) := by omega
        have q6 : ¬ ((l.length : Int) ≤ 20) := by omega
        have HB := Lib.hid HI.out.2.2
        generalize ((l.take i).map List.length).sum = n at HI ⊢
        go_wp2_with fail
        go_returns
        exact ⟨false, rfl, fun h => (by cases h), HB.out⟩
    case neg =>
      obtain rfl : i = l.length := by omega
      have q1 : ¬ ((l.length : Int) < (l.length : Int)) := by omega
      have hr := HI.out.2.1
      have HR := Lib.hid hr
      have HB := Lib.hid HI.out.2.2
      rw [List.take_length]
      clear hr HI
      by_cases h20 : l.length ≤ 20
      case neg =>
        have q6 : ¬ ((l.length : Int) ≤ 20) := by omega
        generalize (l.map List.length).sum = n
        go_wp2_with fail
        go_returns
        exact ⟨false, rfl, fun h => (by cases h), HB.out⟩
      case pos =>
        have q6 : (l.length : Int) ≤ 20 := by omega
        obtain ⟨n, hn⟩ : ∃ n, (l.map List.length).sum = n := ⟨_, rfl⟩
        rw [hn]
        have HN := Lib.hid hn
        clear hn
        by_cases h2 : n ≤ 200
        · have q7 : (n : Int) ≤ 200 := by omega
          go_wp2_with fail
          go_returns
          exact ⟨true, rfl, fun _ => ⟨h20, by rw [HN.out]; exact h2, fun he s hs => by
            obtain ⟨k, hk⟩ := List.getElem?_of_mem hs
            exact HR.out k s (List.getElem?_eq_some_iff.1 hk).1 hk he⟩, HB.out⟩
        · have q7 : ¬ ((n : Int) ≤ 200) := by omega
          go_wp2_with fail
          go_returns
          exact ⟨false, rfl, fun h => (by cases h), HB.out⟩
end Ln
end Go.Proofs.Ytpooekmogfkkjaa
namespace Go.Proofs.Ytpooekmogfkkjaa
set_option maxRecDepth 100000
open Go.ChangeShapes Go.WideShapes Go.ChangeAt Go.RowKit Go.PlainAid Go.Deep
namespace Ln
/-- A small segment, of one kind, with states that may be. -/
structure SmallP (kind : Int) (l : List OpV) (ents : List (List Int)) (most : Int) : Prop where
  few : (l.length : Int) ≤ most
  kinds : ∀ o ∈ l, o.kind = kind
  short : ShortP kind ents
set_option maxHeartbeats 4000000 in
theorem small_any {obj kind : Int} {vo v : Value} {l : List OpV} {ents : List (List Int)} {w : World} (most : Int) (h : OpsOf w vo l) (hE : Sts w v ents) (hz : ∀ s ∈ ents, s.length ≤ 17592186044416) (hmost : most ≤ 1000) : Calls Try.prog 12 #[.agg #[.int .i64 obj, .int .i64 kind, vo], v, .int .i64 most] w (IfB (SmallP kind l ents most) w) := by
  obtain ⟨ao, co, rfl⟩ := h.len
  have hbw : Below w.heap.size w (w.alloc (.cells #[.int .i64 obj, .int .i64 kind, .slice ao l.length co] 24)) := by go_grown
  have hbx := heap_alloc_new w (.cells #[.int .i64 obj, .int .i64 kind, .slice ao l.length co] 24)
  obtain ⟨W1, hW1⟩ : ∃ W, w.alloc (.cells #[.int .i64 obj, .int .i64 kind, .slice ao l.length co] 24) = W := ⟨_, rfl⟩
  rw [hW1] at hbw hbx
  have g0 : W1.cell? ⟨w.heap.size, 0, none⟩ = some (.int .i64 obj) := by rw [cell_of_row _ _ _ _ _ _ hbx]; rfl
  have g1 : W1.cell? ⟨w.heap.size, 1, none⟩ = some (.int .i64 kind) := by rw [cell_of_row _ _ _ _ _ _ hbx]; rfl
  have g2 : W1.cell? ⟨w.heap.size, 2, none⟩ = some (.slice ao l.length co) := by rw [cell_of_row _ _ _ _ _ _ hbx]; rfl
  have HB := Lib.hid hbw
  have HX := Lib.hid hbx
  have H := Lib.hid (h.on hbw)
  have HE := Lib.hid hE
  have HZ := Lib.hid hz
  clear hbw hbx h hE hz
  by_cases hm : (l.length : Int) ≤ most
  case neg =>
    have q1 : ¬ ((l.length : Int) ≤ most) := hm
    go_enter Try.func12, Try.ntmps12
    go_wp2_with fail
    go_returns
    exact ⟨false, rfl, fun h => (by cases h), HB.out⟩
  case pos =>
    go_enter Try.func12, Try.ntmps12
    go_wp2_with fail
    refine (alike_any H.out (by omega)).mono ?_
    rintro _ w2 ⟨b, rfl, hk, hb2⟩
    have HB2 := Lib.hid hb2
    have HK := Lib.hid hk
    have hx2 := (hb2.block _ (heap_inO HX.out)).trans HX.out
    have d1 : w2.cell? ⟨w.heap.size, 1, none⟩ = some (.int .i64 kind) := by rw [cell_of_row _ _ _ _ _ _ hx2]; rfl
    clear hb2 hk hx2 g0 g1 g2
    cases b with
    | false =>
      go_wp2_with fail
      go_returns
      exact ⟨false, rfl, fun h => (by cases h), HB.out.on HB2.out⟩
    | true =>
      have HSH := Lib.hid (short_any (kind := kind) (HE.out.on (HB.out.on HB2.out)) HZ.out)
      go_wp2_with fail
      refine HSH.out.mono ?_
      rintro _ w3 ⟨b3, rfl, hs, hb3⟩
      have HE3 := Lib.hid (show IfB (SmallP kind l ents most) w (.returned (.bool b3)) w3 from ⟨b3, rfl, fun h => ⟨hm, HK.out (by first | rfl | trivial), hs h⟩, HB.out.on (HB2.out.on hb3)⟩)
      clear hs hb3
      cases b3 with
      | false =>
        go_wp2_with fail
        go_returns
        exact HE3.out
      | true =>
        go_wp2_with fail
        go_returns
        exact HE3.out
set_option maxHeartbeats 4000000 in
theorem same_any {v1 v2 v3 v4 : Value} {P Q P2 Q2 : List (List Int)} {n n2 : Int} {w : World} (h1 : Sts w v1 P) (h2 : Sts w v2 Q) (h3 : Sts w v3 P2) (h4 : Sts w v4 Q2) (l1 : P.length ≤ 1000000000) (l2 : Q.length ≤ 1000000000) :
    Calls Try.prog 10 #[.agg #[v1, v2, .int .i64 n], .agg #[v3, v4, .int .i64 n2]] w fun e w' => e = .returned (.bool (decide (P = P2) && decide (Q = Q2) && decide (n = n2))) ∧ Below w.heap.size w w' := by
  obtain ⟨a1, c1, rfl⟩ := h1.len
  obtain ⟨a2, c2, rfl⟩ := h2.len
  obtain ⟨a3, c3, rfl⟩ := h3.len
  obtain ⟨a4, c4, rfl⟩ := h4.len
  have hbw : Below w.heap.size w ((w.alloc (.cells #[.slice a1 P.length c1, .slice a2 Q.length c2, .int .i64 n] 27)).alloc (.cells #[.slice a3 P2.length c3, .slice a4 Q2.length c4, .int .i64 n2] 27)) := by go_grown
  have hbx0 := heap_alloc_new w (.cells #[.slice a1 P.length c1, .slice a2 Q.length c2, .int .i64 n] 27)
  have hbx := (Below.heap_alloc (w.alloc (.cells #[.slice a1 P.length c1, .slice a2 Q.length c2, .int .i64 n] 27)) (.cells #[.slice a3 P2.length c3, .slice a4 Q2.length c4, .int .i64 n2] 27) w.heap.size (by rw [World.size_alloc]; omega)).trans hbx0
  have hby := heap_alloc_new (w.alloc (.cells #[.slice a1 P.length c1, .slice a2 Q.length c2, .int .i64 n] 27)) (.cells #[.slice a3 P2.length c3, .slice a4 Q2.length c4, .int .i64 n2] 27)
  rw [World.size_alloc] at hby
  obtain ⟨W1, hW1⟩ : ∃ W, (w.alloc (.cells #[.slice a1 P.length c1, .slice a2 Q.length c2, .int .i64 n] 27)).alloc (.cells #[.slice a3 P2.length c3, .slice a4 Q2.length c4, .int .i64 n2] 27) = W := ⟨_, rfl⟩
  rw [hW1] at hbw hbx hby
  have HC := Lib.hid (show ∀ W, Below W1.heap.size W1 W → W.cell? ⟨w.heap.size, 0, none⟩ = some (.slice a1 P.length c1) ∧ W.cell? ⟨w.heap.size, 1, none⟩ = some (.slice a2 Q.length c2) ∧ W.cell? ⟨w.heap.size, 2, none⟩ = some (.int .i64 n) ∧ W.cell? ⟨w.heap.size + 1, 0, none⟩ = some (.slice a3 P2.length c3) ∧ W.cell? ⟨w.heap.size + 1, 1, none⟩ = some (.slice a4 Q2.length c4) ∧ W.cell? ⟨w.heap.size + 1, 2, none⟩ = some (.int .i64 n2) from fun W hb => by
    have hx := (hb.block _ (heap_inO hbx)).trans hbx
    have hy := (hb.block _ (heap_inO hby)).trans hby
    refine ⟨?_, ?_, ?_, ?_, ?_, ?_⟩
    · rw [cell_of_row _ _ _ _ _ _ hx]; rfl
    · rw [cell_of_row _ _ _ _ _ _ hx]; rfl
    · rw [cell_of_row _ _ _ _ _ _ hx]; rfl
    · rw [cell_of_row _ _ _ _ _ _ hy]; rfl
    · rw [cell_of_row _ _ _ _ _ _ hy]; rfl
    · rw [cell_of_row _ _ _ _ _ _ hy]; rfl)
  have HB := Lib.hid hbw
  have HA := Lib.hid (states_any (h1.on hbw) (h3.on hbw) l1)
  have HQ := Lib.hid fun (W : World) (hb : Below W1.heap.size W1 W) => states_any ((h2.on hbw).on hb) ((h4.on hbw).on hb) l2
  obtain ⟨g0, g1, g2, g3, g4, g5⟩ := HC.out W1 (Below.refl _ _)
  clear hbw hbx0 hbx hby h1 h2 h3 h4
  go_enter Try.func10, Try.ntmps10
  go_wp2_with fail
  refine HA.out.mono ?_
  rintro _ w2 ⟨rfl, hb2⟩
  obtain ⟨d0, d1, d2, d3, d4, d5⟩ := HC.out w2 hb2
  have HB2 := Lib.hid hb2
  clear hb2 g0 g1 g2 g3 g4 g5 d0 d3
  by_cases e1 : P = P2
  case neg =>
    have HD := Lib.hid (show decide (P = P2) = false from decide_eq_false e1)
    rw [HD.out]
    clear e1
    go_wp2_with fail
    go_returns
    exact ⟨by rw [HD.out]; rfl, HB.out.on HB2.out⟩
  have HD := Lib.hid (show decide (P = P2) = true from decide_eq_true e1)
  rw [HD.out]
  clear e1
  go_wp2_with fail
  refine (HQ.out _ HB2.out).mono ?_
  rintro _ w3 ⟨rfl, hb3⟩
  obtain ⟨k0, k1, k2, k3, k4, k5⟩ := HC.out w3 (HB2.out.on hb3)
  have HB3 := Lib.hid (HB2.out.on hb3)
  clear hb3 k0 k1 k3 k4 d1 d2 d4 d5
  by_cases e2 : Q = Q2
  case neg =>
    have HD2 := Lib.hid (show decide (Q = Q2) = false from decide_eq_false e2)
    rw [HD2.out]
    clear e2
    go_wp2_with fail
    go_returns
    exact ⟨by rw [HD.out, HD2.out]; rfl, HB.out.on HB3.out⟩
  have HD2 := Lib.hid (show decide (Q = Q2) = true from decide_eq_true e2)
  rw [HD2.out]
  clear e2
  by_cases e3 : n = n2
  · have HD3 := Lib.hid (show decide (n = n2) = true from decide_eq_true e3)
    subst e3
    go_wp2_with fail
    go_returns
    exact ⟨by rw [HD.out, HD2.out]; simp, HB.out.on HB3.out⟩
  · have q : (n == n2) = false := beq_eq_false_iff_ne.2 e3
    have HD3 := Lib.hid (show decide (n = n2) = false from decide_eq_false e3)
    clear e3
    go_wp2_with fail
    go_returns
    exact ⟨by rw [HD.out, HD2.out, HD3.out]; simp, HB.out.on HB3.out⟩
end Ln
end Go.Proofs.Ytpooekmogfkkjaa
