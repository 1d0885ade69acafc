/- Package hist: place, Get; the reference's Get. -/
import Derived.Test.YtgedlfilhpbfaaaHtA
namespace Go.Proofs.Ytgedlfilhpbfaaa
set_option maxRecDepth 100000
open Go.ChangeShapes Go.WideShapes Go.ChangeAt Go.RowKit Go.PlainAid Go.Deep

attribute [local go_sem ↓ high] load_op store_o
theorem below_drewN (w : World) (q : Nat) : Below w.heap.size w (w.drewN q) := ⟨rfl, rfl, rfl, Nat.le_refl _, fun _ _ => rfl⟩
theorem cmp_lt {a b : Int} : cmpZ a b < 0 ↔ a < b := by unfold cmpZ; split <;> (try split) <;> omega
theorem cmp_eq {a b : Int} : cmpZ a b = 0 ↔ a = b := by unfold cmpZ; split <;> (try split) <;> omega
theorem rise_le {l : List OpV} (hr : RiseO l) {s t : Nat} {a b : OpV} (h : s ≤ t) (ha : l[s]? = some a) (hb : l[t]? = some b) : a.id ≤ b.id := by
  rcases Nat.lt_or_ge s t with c | c
  · obtain ⟨h1, rfl⟩ := List.getElem?_eq_some_iff.1 ha
    obtain ⟨h2, rfl⟩ := List.getElem?_eq_some_iff.1 hb
    exact Int.le_of_lt (List.pairwise_iff_getElem.1 hr s t h1 h2 c)
  · obtain rfl : s = t := by omega
    rw [ha] at hb
    rw [Option.some.inj hb]
    exact Int.le_refl _
end Go.Proofs.Ytgedlfilhpbfaaa
