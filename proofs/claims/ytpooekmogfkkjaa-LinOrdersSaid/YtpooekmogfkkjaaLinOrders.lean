/- A state is an exit just if an order of all operations with an answer, and of some others, leads to it from the entry, and none stands behind one that it was before; and the chapter's examples hold: for every segment of at most five operations and one small state of its kind (of others the examples alone are asked). Conditions: none. -/
import Derived.Test.YtpooekmogfkkjaaSLoA
import Derived.Test.YtpooekmogfkkjaaSLoB
import Derived.Test.YtpooekmogfkkjaaSLoE
import Derived.Test.YtpooekmogfkkjaaGP
import Derived.Test.YtpooekmogfkkjaaGN
import Derived.Test.YtpooekmogfkkjaaSLpV
import Derived.Test.YtpooekmogfkkjaaLaw
import Derived.BigQuiet
import Derived.Deep.QuietTactic
import Derived.Lib.QuietBelow
import Derived.Deep.DeepCutAuto
import Derived.Deep.CutBlock
namespace Go.Proofs.Ytpooekmogfkkjaa.linOrders
open Go.ChangeShapes Go.WideShapes Go.ChangeAt Go.RowKit Go.PlainAid
open Go.ChangeMaps (open_string)
open Go.Sort (grow)

theorem own : ownKnob Try.prog.godebug = none := by kernel_rfl
theorem laidOut : laidOutB Try.prog = true := by kernel_rfl
open Ln
attribute [local go_sem ↓ high] store_sum
theorem lie_of {W : World} {u : Value} {s : List Int} (h : IntsC W u s) : Lie W.heap.size W u s := by
  refine ⟨h, ?_⟩
  rcases h.ints with ⟨rfl, _⟩ | ⟨b, o, cap, rfl, hlt, _⟩
  · exact .inl rfl
  · exact .inr fun b' e => .inl (by obtain rfl : b = b' := Option.some.inj e; exact hlt)
theorem row_one {W : World} {u : Value} {s : List Int} (h : IntsC W u s) : Sts (W.alloc (.cells #[u] 36)) (.slice (some ⟨W.heap.size, 0, none⟩) 1 1) [s] := (Out.one (lie_of h)).sts
set_option maxRecDepth 100000 in
set_option maxHeartbeats 8000000 in
theorem walk (w : World) (s0 : Ln.SegP) (u0 : Value) (h0 : OpsOf w u0 s0.ops) (v1 : Value) (l1 : List Int) (h1 : IntsC w v1 l1) (n1 : l1.length ≤ 17592186043904) :
    Calls Try.prog 5 #[.agg #[.int .i64 s0.obj, .int .i64 s0.kind, u0], v1] w fun e w' => e = .returned (.bool true) ∧ Below w.heap.size w w' := by
  obtain ⟨ao, co, rfl⟩ := h0.len
  obtain ⟨ae, ce, rfl, _⟩ := h1.ints.parts
  have hbw : Below w.heap.size w (w.alloc (.cells #[.int .i64 s0.obj, .int .i64 s0.kind, .slice ao s0.ops.length co] 24)) := by go_grown
  have hbx := heap_alloc_new w (.cells #[.int .i64 s0.obj, .int .i64 s0.kind, .slice ao s0.ops.length co] 24)
  obtain ⟨W1, hW1⟩ : ∃ W, w.alloc (.cells #[.int .i64 s0.obj, .int .i64 s0.kind, .slice ao s0.ops.length co] 24) = W := ⟨_, rfl⟩
  rw [hW1] at hbw hbx
  have HB1 := Lib.hid hbw
  have HX1 := Lib.hid hbx
  have HO := Lib.hid (h0.on hbw)
  have HI1 := Lib.hid (h1.on hbw)
  have HZ1 := Lib.hid n1
  obtain ⟨g0, g1, g2⟩ := seg_cells hbx (Below.refl _ _)
  have hba : Below W1.heap.size W1 (W1.alloc (.cells #[.slice ae l1.length ce] 36)) := by go_grown
  have HBA := Lib.hid hba
  have HSM := Lib.hid (small_any (obj := s0.obj) (kind := s0.kind) 5 (HO.out.on hba) (row_one HI1.out) (fun s hs => by rw [List.mem_singleton.1 hs]; have := HZ1.out; omega) (by decide))
  clear hbw hbx h0 h1 n1 hba
  go_enter Try.func5, Try.ntmps5
  go_wp2_with fail
  refine HSM.out.mono ?_
  rintro _ w2 ⟨b2, rfl, hsm, hb2⟩
  have HB2 := Lib.hid (HBA.out.on hb2)
  have HS := Lib.hid hsm
  clear hb2 hsm g0 g1 g2
  cases b2 with
  | false =>
    go_wp2_with fail
    refine (Ln.awake_any _).mono ?_
    rintro _ w9 ⟨rfl, hb9⟩
    have HB9 := Lib.hid (HB2.out.on hb9)
    clear hb9
    go_wp2_with fail
    go_returns
    exact ⟨rfl, HB1.out.on HB9.out⟩
  | true =>
    have HSP := Lib.hid (HS.out (by first | rfl | trivial))
    have hl5 : s0.ops.length ≤ 5 := by have := HSP.out.few; omega
    have hsl : l1.length ≤ 200 := by have := HSP.out.short.sum; simpa using this
    obtain ⟨d0, d1, d2⟩ := seg_cells HX1.out HB2.out
    have hba2 : Below w2.heap.size w2 (w2.alloc (.cells #[.slice ae l1.length ce] 36)) := by go_grown
    have HUX := Lib.hid (us_exists (l := [l1]) (fun s hs => by rw [List.mem_singleton.1 hs]; exact ⟨HI1.out.ints.inI, by omega⟩))
    have HQ3 := Lib.hid (search_own (obj := s0.obj) (kind := s0.kind) (HO.out.on (HB2.out.on hba2)) (row_one (HI1.out.on HB2.out)) (fun s hs => by rw [List.mem_singleton.1 hs]; omega) (by simp) 32768 (by omega) 32768 (by decide))
    have HBA2 := Lib.hid (HB2.out.on hba2)
    clear hba2
    go_wp2_with fail
    refine HQ3.out.mono ?_
    rintro _ v3 ⟨ve3, vx3, n3, z3, rfl, P3, Q3, hA3, hP3', hQ3', hl3, hb3⟩
    have hP3 := hP3'.reads
    have hQ3 := hQ3'.reads
    obtain ⟨ae3, ce3, rfl⟩ := hP3.len
    obtain ⟨ax3, cx3, rfl⟩ := hQ3.len
    have hbx3 : Below v3.heap.size v3 (v3.alloc (.cells #[.slice ae3 P3.length ce3, .slice ax3 Q3.length cx3, .int .i64 n3] 27)) := by go_grown
    have hnx3 := heap_alloc_new v3 (.cells #[.slice ae3 P3.length ce3, .slice ax3 Q3.length cx3, .int .i64 n3] 27)
    have st3 := sum_new v3 (.slice ae3 P3.length ce3) (.slice ax3 Q3.length cx3) (.int .i64 n3)
    obtain ⟨W3, hW3⟩ : ∃ W, v3.alloc (.cells #[.slice ae3 P3.length ce3, .slice ax3 Q3.length cx3, .int .i64 n3] 27) = W := ⟨_, rfl⟩
    rw [hW3] at hbx3 hnx3 st3
    have HA3 := Lib.hid hA3
    have HR3 := Lib.hid (hQ3.on hbx3)
    have HX3 := Lib.hid hnx3
    have HB3 := Lib.hid ((HBA2.out.on hb3).on hbx3)
    obtain ⟨hz, hord⟩ := ans_orders HA3.out hl5 HUX.out
    have HORD := Lib.hid hord
    subst hz
    clear hA3 hP3 hQ3 hP3' hQ3' hb3 hbx3 hnx3 HQ3 hord hl3 d0 d1 d2
    have hd3 : Below W3.heap.size W3 W3.drew := (Below.refl W3.heap.size W3).drew
    have HC := Lib.hid fun (W : World) (hb : Below W3.heap.size W3 W) => (seg_cells HX1.out (HB3.out.on hb)).2.2
    have k0 := HC.out _ hd3
    have mk : (Instr.makeSlice 41 (.int .i64 (s0.ops.length : Int)) (.int .i64 (s0.ops.length : Int))).run Try.prog W3.drew = .ok (.slice (some ⟨W3.heap.size, 0, none⟩) s0.ops.length s0.ops.length) (W3.drew.alloc (boO (List.replicate s0.ops.length false))) := make_bool s0.ops.length (by omega) W3.drew
    have hm1 : Below W3.heap.size W3 (W3.alloc (boO (List.replicate s0.ops.length false))).drew := hd3.alloc hd3.size _
    have k1 := HC.out _ hm1
    have hown : (W3.alloc (boO (List.replicate s0.ops.length false))).drew.ownsRow W3.heap.size 4 1 (.slice (some ⟨W3.heap.size, 0, none⟩) s0.ops.length s0.ops.length) s0.ops.length ((List.replicate s0.ops.length false).map Value.bool) := ⟨by simp, .inr ⟨W3.heap.size, s0.ops.length, _, rfl, Nat.le_refl _, heap_alloc_new W3.drew _, Nat.le_refl _, by unfold maxLen; omega, by simp, by simp⟩⟩
    have hrd : Rd (W3.alloc (boO (List.replicate s0.ops.length false))).drew (.slice (some ⟨W3.heap.size, 0, none⟩) s0.ops.length s0.ops.length) 1 (List.replicate s0.ops.length false).length ((List.replicate s0.ops.length false).map Value.bool) := by
      rw [List.length_replicate]
      exact own_rd hown
    have HQ4 := Lib.hid (orders_any hl5 (fits_step HSP.out.kinds) s0.ops.length (List.replicate s0.ops.length false) l1 _ _ _ _ (by omega) (HO.out.on (HB3.out.on hm1)) hrd List.length_replicate (by unfold left; exact Nat.le_trans List.countP_le_length (by rw [List.length_replicate]; exact Nat.le_refl _)) ((lie_of (HI1.out.on HB3.out)).on hm1) hm1.size (by omega) (fun o ho h5 => HSP.out.short.rise (by rw [← HSP.out.kinds o ho]; exact h5) l1 (List.mem_singleton.2 rfl)))
    have HM1 := Lib.hid hm1
    have HS4 := Lib.hid fun (W : World) (v : Value) (h : Out W3.heap.size (W3.alloc (boO (List.replicate s0.ops.length false))).drew.heap.size W v (ordL s0.ops s0.ops.length (List.replicate s0.ops.length false) l1)) => rsorted_any h.sts (fun s hs => by have := ord_short _ _ _ s hs; omega) (Nat.le_trans (ord_len hl5 _ _ _) (Nat.le_trans (Nat.pow_le_pow_right (by decide) hl5) (by decide)))
    clear hrd hown
    go_wp2_with fail
    go_region_held3 (fun w' => w'.cell? ⟨w.heap.size, 2, none⟩ = some (.slice ao s0.ops.length co)) (first | (exact HC.out _ (by assumption)) | go_keep) (first
      | (go_at_call 17; (with_reducible refine HQ4.out.mono ?_); rintro _ w4 ⟨v4, rfl, h4, hb4⟩; have hb34 := HM1.out.on hb4; have H4 := Lib.hid (HS4.out _ _ h4))
      | (go_at_call 16; (with_reducible refine H4.out.mono ?_); rintro _ w5 ⟨v5, rfl, R5, h5, hu5, hb5⟩; have hb35 := hb34.on hb5)
      | fail)
    have hSW := h5.reads hb5
    have hq := HORD.out _ hu5
    obtain ⟨e0, e1, e2⟩ := sum_cells HX3.out hb35
    have HSS := Lib.hid (states_any (HR3.out.on hb35) hSW (by rw [hq]; exact Nat.le_trans hu5.len (Nat.le_trans (ord_len hl5 _ _ _) (Nat.le_trans (Nat.pow_le_pow_right (by decide) hl5) (by decide)))))
    have HQE := Lib.hid hq
    have HB5 := Lib.hid (HB3.out.on hb35)
    clear hSW hq h5 hu5 hb5 hb4 hb34 hb35 mk hm1 hd3 k0 k1
    go_wp2_with fail
    refine HSS.out.mono ?_
    rintro _ w6 ⟨rfl, hb6⟩
    rw [decide_eq_true HQE.out]
    have HB6 := Lib.hid (HB5.out.on hb6)
    clear hb6
    go_wp2_with fail
    refine (Ln.awake_any _).mono ?_
    rintro _ w9 ⟨rfl, hb9⟩
    have HB9 := Lib.hid (HB6.out.on hb9)
    clear hb9
    go_wp2_with fail
    go_returns
    exact ⟨rfl, HB1.out.on HB9.out⟩

set_option maxRecDepth 100000 in
theorem lifted (os : Os) (started : os.Started) (H : Type) (enc : TypeId × Value → H) :
    ReturnsInHanded {} Try.checked os 5 .any (Rows.linOrdersSpec.pre6 enc Try.prog Try.f5 Rows.linOrdersRow.domain false) (Rows.linOrdersSpec.post enc Try.prog Try.f5 false true false false) := by
  refine law_lift (C := Try.checked) own started (by kernel_rfl) Try.func5 laidOut (by kernel_rfl) rfl Try.underlying4 rfl
    (fun ds h => match ds, h with | [_, _], _ => rfl)
    (ChangeSpec.witness6 (enc := enc) (C := Try.checked) false ⟨#[], #[.agg #[.int .i64 0, .int .i64 0, .slice none 0 0], .slice none 0 0], []⟩ 8 (by kernel_rfl) (by kernel_rfl) (by kernel_rfl) (by kernel_rfl)) ?_
  intro W base args ds ps hval hA hsz
  rw [Try.params5] at hA hval hsz
  obtain ⟨v0, vs0, d0, ds0, p0, q0, hargs, rfl, rfl, h0, r0⟩ := trodAll_cons hA
  obtain ⟨v1, vs1, d1, ds1, p1, q1, rfl, rfl, rfl, h1, r1⟩ := trodAll_cons r0
  obtain ⟨rfl, rfl, rfl⟩ := trodAll_nil r1
  obtain rfl : args = #[v0, v1] := by cases args; simp_all
  obtain ⟨s0, u0, rfl, hl0⟩ := Ln.segp_open (hval 0 24 v0 rfl rfl) h0
  obtain ⟨l1, hl1, hc1, hz1⟩ := ints_openC (hval 1 36 v1 rfl rfl) h1
  have n1 : l1.length ≤ 17592186043904 := by
    rcases hz1 with rfl | ⟨el, rest, rfl, hel⟩
    · exact Nat.zero_le _
    · have this : (el.length + rest.length) * Try.prog.bytesOf 3 ≤ reachBytes := sized_slice hsz (j := 1) rfl rfl Try.underlying36
      have h8 : Try.prog.bytesOf 3 = 8 := by kernel_rfl
      rw [h8] at this
      simp only [reachBytes] at this
      omega
  exact walk W s0 u0 hl0 v1 l1 ⟨hl1, hc1⟩ n1

theorem over : Rows.linOrdersRow.holds Try.pinned (OpenSpec.ofChange Rows.linOrdersSpec) :=
  OpenClaim.holds_of_wide 5 Try.f5 rfl rfl rfl rfl rfl rfl rfl ⟨rfl, rfl, rfl, rfl, rfl⟩ rfl rfl rfl rfl rfl (by kernel_rfl) Try.func5 (by kernel_rfl)
    (of_decide_eq_true (by kernel_rfl)) (by unfold Func.isWrapper; first | (rw [if_pos (by decide +kernel)]; kernel_rfl) | (rw [if_neg (by decide +kernel)]; exact ⟨rfl, rfl⟩))
    (fun os started H enc _ => lifted os started H enc)

theorem proved : Rows.LinOrdersSaid :=
  over
end Go.Proofs.Ytpooekmogfkkjaa.linOrders
