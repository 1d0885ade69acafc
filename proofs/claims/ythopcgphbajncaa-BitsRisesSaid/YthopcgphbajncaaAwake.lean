/- Contract: the chapter's examples hold. -/
import Derived.Test.YthopcgphbajncaaBitsA
import Derived.Test.YthopcgphbajncaaBitsF
import Derived.Test.YthopcgphbajncaaBitsE
import Derived.Test.YthopcgphbajncaaBitsG
namespace Go.Proofs.Ythopcgphbajncaa
open Go.ChangeShapes Go.WideShapes Go.ChangeAt Go.RowKit Go.PlainAid

theorem ex_fix : fixS 258 4 = ⟨#[2, 1, 0, 0]⟩ := by kernel_rfl
theorem ex_var : varS 300 = ⟨#[172, 2]⟩ := by
  unfold varS
  rw [show (300 : Int).toNat = 300 from rfl, varL_ge (by omega), varL_lt (by omega)]
  kernel_rfl
theorem ex_fold : foldZ (-1) = 1 := by rfl
theorem ex_ord : ordS 0 = ⟨#[128, 0, 0, 0, 0, 0, 0, 0]⟩ := by kernel_rfl
theorem ex_sum : sumZ ⟨#[]⟩ = 1 := by kernel_rfl

set_option maxHeartbeats 400000 in
theorem awake_any (w : World) : Calls Try.prog 15 #[] w fun e w' => e = .returned (.bool true) ∧ Below w.heap.size w w' := by
  have h1 := ex_fix
  have h2 := ex_var
  have h3 := ex_fold
  have h4 := ex_ord
  have h5 := ex_sum
  have hm : (⟨#[]⟩ : ByteArray).size ≤ maxLen := by unfold maxLen; decide
  go_enter Try.func15, Try.ntmps15
  go_wp2_with fail
  refine (fixed_any 258 4 _ (by omega) (by omega) (by omega) (by omega)).mono ?_
  rintro e w1 ⟨rfl, hb1⟩
  go_wp2_with fail
  refine (var_any 300 (by omega) (by omega) _).mono ?_
  rintro e w2 ⟨rfl, hb2⟩
  go_wp2_with fail
  refine (fold_any (-1) _ (by omega) (by omega)).mono ?_
  rintro e _ ⟨rfl, rfl⟩
  go_wp2_with fail
  refine (ordered_any 0 _ (by omega) (by omega)).mono ?_
  rintro e w4 ⟨rfl, hb4⟩
  go_wp2_with fail
  refine (sum_any ⟨#[]⟩ _ hm).mono ?_
  rintro e _ ⟨rfl, rfl⟩
  go_wp2
  go_returns
  exact ⟨rfl, (hb1.trans (hb2.mono hb1.size)).trans (hb4.mono (Nat.le_trans hb1.size hb2.size))⟩
end Go.Proofs.Ythopcgphbajncaa
