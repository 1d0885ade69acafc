/- Texts of Ordered are in the order of their numbers, and the chapter's examples hold: for every two numbers. Conditions: none. -/
import Derived.Test.YthopcgphbajncaaAwake
import Derived.Test.YthopcgphbajncaaLaw
namespace Go.Proofs.Ythopcgphbajncaa.bitsRises
open Go.ChangeShapes Go.WideShapes Go.ChangeAt Go.RowKit Go.PlainAid
open Go.ChangeMaps (open_string)

theorem own : ownKnob Try.prog.godebug = none := by kernel_rfl
theorem laidOut : laidOutB Try.prog = true := by kernel_rfl
/-- A text as a number, its first byte the highest. -/
def bvU : List UInt8 → Nat | [] => 0 | x :: r => x.toNat * 256 ^ r.length + bvU r
theorem bvU_lt : ∀ l : List UInt8, bvU l < 256 ^ l.length
  | [] => by simp [bvU]
  | x :: r => by
    have h := bvU_lt r
    have hx := x.toNat_lt
    simp only [bvU, List.length_cons, Nat.pow_succ]
    have : x.toNat * 256 ^ r.length ≤ 255 * 256 ^ r.length := Nat.mul_le_mul_right _ (by omega)
    omega
theorem step_lt (a b M p q : Nat) (hp : p < M) (h : a < b) : a * M + p < b * M + q := by
  have : (a + 1) * M ≤ b * M := Nat.mul_le_mul_right _ h
  rw [Nat.add_mul] at this
  omega
theorem less_bvU : ∀ xs ys : List UInt8, xs.length = ys.length → Op.bytesLess xs ys = decide (bvU xs < bvU ys)
  | [], [], _ => rfl
  | x :: xs, y :: ys, h => by
    have hl : xs.length = ys.length := by simpa using h
    have ih := less_bvU xs ys hl
    have b1 := bvU_lt xs
    have b2 := bvU_lt ys
    rw [Op.bytesLess, ih]
    simp only [bvU, hl] at b1 ⊢
    rcases Nat.lt_trichotomy x.toNat y.toNat with c | c | c
    · have e : decide (x < y) = true := by simpa [UInt8.lt_iff_toNat_lt] using c
      rw [e, Bool.true_or]
      exact (decide_eq_true (step_lt _ _ _ _ _ b1 c)).symm
    · have e : x = y := UInt8.toNat_inj.1 c
      subst e
      have e1 : decide (x < x) = false := by simp
      rw [e1, Bool.false_or, beq_self_eq_true, Bool.true_and]
      congr 1
      exact propext ⟨fun h => by omega, fun h => by omega⟩
    · have e1 : decide (x < y) = false := by simp [UInt8.lt_iff_toNat_lt]; omega
      have e2 : (x == y) = false := by
        apply beq_eq_false_iff_ne.2
        intro e
        subst e
        omega
      rw [e1, e2]
      have := step_lt _ _ _ (bvU ys) (bvU xs) b2 c
      exact (decide_eq_false (by omega)).symm
theorem toN (x : Int) (h0 : 0 ≤ x) (h1 : x < 256) : (UInt8.ofNat x.toNat).toNat = x.toNat := by rw [UInt8.toNat_ofNat']; omega
theorem val8 (x0 x1 x2 x3 x4 x5 x6 x7 : Int) (h0 : 0 ≤ x0 ∧ x0 < 256) (h1 : 0 ≤ x1 ∧ x1 < 256) (h2 : 0 ≤ x2 ∧ x2 < 256) (h3 : 0 ≤ x3 ∧ x3 < 256) (h4 : 0 ≤ x4 ∧ x4 < 256) (h5 : 0 ≤ x5 ∧ x5 < 256) (h6 : 0 ≤ x6 ∧ x6 < 256) (h7 : 0 ≤ x7 ∧ x7 < 256) :
    (bvU ([x0, x1, x2, x3, x4, x5, x6, x7].map fun n => UInt8.ofNat n.toNat) : Int) = x0 * 72057594037927936 + x1 * 281474976710656 + x2 * 1099511627776 + x3 * 4294967296 + x4 * 16777216 + x5 * 65536 + x6 * 256 + x7 := by
  simp only [List.map_cons, List.map_nil, bvU, List.length_cons, List.length_nil, toN x0 h0.1 h0.2, toN x1 h1.1 h1.2, toN x2 h2.1 h2.2, toN x3 h3.1 h3.2, toN x4 h4.1 h4.2, toN x5 h5.1 h5.2, toN x6 h6.1 h6.2, toN x7 h7.1 h7.2, Nat.reduceAdd, Nat.reducePow]
  omega
theorem ord_list (n : Int) : (ordS n).toList = (h8 (n + 9223372036854775808)).map fun n => UInt8.ofNat n.toNat := by
  rw [ByteArray.toList_eq]; exact strOfNums_data _
theorem ord_len (n : Int) : (ordS n).toList.length = 8 := by rw [ord_list, List.length_map, h8_length]
theorem ord_val (n : Int) (h0 : -9223372036854775808 ≤ n) (h1 : n ≤ 9223372036854775807) : (bvU (ordS n).toList : Int) = n + 9223372036854775808 := by
  rw [ord_list]
  obtain ⟨u, hu⟩ : ∃ u, u = n + 9223372036854775808 := ⟨_, rfl⟩
  rw [← hu]
  unfold h8
  rw [val8 _ _ _ _ _ _ _ _ (by omega) (by omega) (by omega) (by omega) (by omega) (by omega) (by omega) (by omega)]
  omega
theorem ord_less (a b : Int) (h0 : -9223372036854775808 ≤ a) (h1 : a ≤ 9223372036854775807) (h2 : -9223372036854775808 ≤ b) (h3 : b ≤ 9223372036854775807) : Op.bytesLess (ordS a).toList (ordS b).toList = decide (a < b) := by
  have e1 := ord_val a h0 h1
  have e2 := ord_val b h2 h3
  have l1 := ord_len a
  have l2 := ord_len b
  rw [less_bvU _ _ (by rw [l1, l2])]
  congr 1
  exact propext ⟨fun h => by omega, fun h => by omega⟩
theorem ord_eq (a b : Int) (h0 : -9223372036854775808 ≤ a) (h1 : a ≤ 9223372036854775807) (h2 : -9223372036854775808 ≤ b) (h3 : b ≤ 9223372036854775807) : ((ordS a).toList == (ordS b).toList) = (a == b) := by
  by_cases c : a = b
  · subst c
    simp
  · have e1 := ord_val a h0 h1
    have e2 := ord_val b h2 h3
    rw [beq_eq_false_iff_ne.2 c]
    apply beq_eq_false_iff_ne.2
    intro h
    rw [h] at e1
    omega
set_option maxHeartbeats 400000 in
theorem walk (a0 : Int) (w0 : (Lit.int .i64 a0).wf = true) (a1 : Int) (w1 : (Lit.int .i64 a1).wf = true) (w : World) :
    Calls Try.prog 9 #[.int .i64 a0, .int .i64 a1] w fun e w' => e = .returned (.bool true) ∧ Below w.heap.size w w' := by
  obtain ⟨b0, c0⟩ := bounds_i64 w0
  obtain ⟨b1, c1⟩ := bounds_i64 w1
  have hl := ord_less a0 a1 b0 c0 b1 c1
  have he := ord_eq a0 a1 b0 c0 b1 c1
  go_enter Try.func9, Try.ntmps9
  go_wp2_with fail
  refine (ordered_any a0 _ (by omega) (by omega)).mono ?_
  rintro e w1 ⟨rfl, hb1⟩
  go_wp2_with fail
  refine (ordered_any a1 _ (by omega) (by omega)).mono ?_
  rintro e w2 ⟨rfl, hb2⟩
  go_wp2_with fail
  refine (awake_any _).mono ?_
  rintro e w3 ⟨rfl, hb3⟩
  go_wp2
  go_returns
  exact ⟨rfl, hb1.on (hb2.on hb3)⟩

set_option maxRecDepth 100000 in
theorem lifted (os : Os) (started : os.Started) (H : Type) (enc : TypeId × Value → H) :
    ReturnsInHanded {} Try.checked os 9 .any (Rows.bitsRisesSpec.pre6 enc Try.prog Try.f9 Rows.bitsRisesRow.domain false) (Rows.bitsRisesSpec.post enc Try.prog Try.f9 false true false false) := by
  refine law_lift (C := Try.checked) own started (by kernel_rfl) Try.func9 laidOut (by kernel_rfl) rfl Try.underlying4 rfl
    (fun ds h => match ds, h with | [_, _], _ => rfl)
    (ChangeSpec.witness6 (enc := enc) (C := Try.checked) false ⟨#[], #[.int .i64 0, .int .i64 0], []⟩ 8 (by kernel_rfl) (by kernel_rfl) (by kernel_rfl) (by kernel_rfl)) ?_
  intro W base args ds ps hval hA hsz
  rw [Try.params9] at hA hval hsz
  obtain ⟨v0, vs0, d0, ds0, p0, q0, hargs, rfl, rfl, h0, r0⟩ := trodAll_cons hA
  obtain ⟨v1, vs1, d1, ds1, p1, q1, rfl, rfl, rfl, h1, r1⟩ := trodAll_cons r0
  obtain ⟨rfl, rfl, rfl⟩ := trodAll_nil r1
  obtain rfl : args = #[v0, v1] := by cases args; simp_all
  obtain ⟨a0, rfl, rfl, rfl, w0⟩ := open_int Try.underlying3 (hval 0 3 v0 rfl rfl) h0
  obtain ⟨a1, rfl, rfl, rfl, w1⟩ := open_int Try.underlying3 (hval 1 3 v1 rfl rfl) h1
  exact walk a0 w0 a1 w1 W

theorem over : Rows.bitsRisesRow.holds Try.pinned (OpenSpec.ofChange Rows.bitsRisesSpec) :=
  OpenClaim.holds_of_wide 9 Try.f9 rfl rfl rfl rfl rfl rfl rfl ⟨rfl, rfl, rfl, rfl, rfl⟩ rfl rfl rfl rfl rfl (by kernel_rfl) Try.func9 (by kernel_rfl)
    (of_decide_eq_true (by kernel_rfl)) (by unfold Func.isWrapper; first | (rw [if_pos (by decide +kernel)]; kernel_rfl) | (rw [if_neg (by decide +kernel)]; exact ⟨rfl, rfl⟩))
    (fun os started H enc _ => lifted os started H enc)

theorem proved : Rows.BitsRisesSaid :=
  over
end Go.Proofs.Ythopcgphbajncaa.bitsRises
