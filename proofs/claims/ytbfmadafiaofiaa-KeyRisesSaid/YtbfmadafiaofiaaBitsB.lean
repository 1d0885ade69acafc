/- Contracts: lay, Fixed. -/
import Derived.Test.YtbfmadafiaofiaaRows
import Derived.Test.YtbfmadafiaofiaaAid
namespace Go.Proofs.Ytbfmadafiaofiaa
open Go.ChangeShapes Go.WideShapes Go.ChangeAt Go.RowKit Go.PlainAid

/-- The eight bytes of a number, the lowest first. -/
def l8 (n : Int) : List Int := [n % 256, n / 256 % 256, n / 65536 % 256, n / 16777216 % 256, n / 4294967296 % 256, n / 1099511627776 % 256, n / 281474976710656 % 256, n / 72057594037927936]
/-- The lowest k bytes of a number. -/
def fixS (n k : Int) : ByteArray := strOfNums ((l8 n).take (min (max k 0) 8).toNat)

set_option maxHeartbeats 400000 in
theorem lay_any (n : Int) (w : World) (h0 : 0 ≤ n) (h1 : n ≤ 18446744073709551615) :
    Calls Try.prog 23 #[.int .u64 n] w fun e w' => e = .returned (.agg #[.int .u8 (n % 256), .int .u8 (n / 256 % 256), .int .u8 (n / 65536 % 256), .int .u8 (n / 16777216 % 256), .int .u8 (n / 4294967296 % 256), .int .u8 (n / 1099511627776 % 256), .int .u8 (n / 281474976710656 % 256), .int .u8 (n / 72057594037927936)]) ∧ Below w.heap.size w w' := by
  go_enter Try.func23, Try.ntmps23
  go_wp2
  go_rounds 9
  go_returns
  exact ⟨rfl, by go_grown⟩

theorem l8_cells (n : Int) (k : Nat) (hk : k ≤ 8) : ∀ i, i < k → #[Value.int .u8 (n % 256), .int .u8 (n / 256 % 256), .int .u8 (n / 65536 % 256), .int .u8 (n / 16777216 % 256), .int .u8 (n / 4294967296 % 256), .int .u8 (n / 1099511627776 % 256), .int .u8 (n / 281474976710656 % 256), .int .u8 (n / 72057594037927936)][i]? = some (.int .u8 (((l8 n).take k).getD i 0)) := by
  intro i hi
  have e : ((l8 n).take k).getD i 0 = (l8 n).getD i 0 := by simp [hi]
  rw [e]
  have h8 : i < 8 := by omega
  match i, h8 with
  | 0, _ => rfl | 1, _ => rfl | 2, _ => rfl | 3, _ => rfl | 4, _ => rfl | 5, _ => rfl | 6, _ => rfl | 7, _ => rfl

theorem l8_length (n : Int) (k : Nat) (hk : k ≤ 8) : ((l8 n).take k).length = k := by rw [List.length_take]; show min k 8 = k; omega

end Go.Proofs.Ytbfmadafiaofiaa
