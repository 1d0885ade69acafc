/- Contracts: Reverse of eight bytes, Ordered. -/
import Derived.Test.YtfcicpcpdklceaaJBitsB
namespace Go.Proofs.Ytfcicpcpdklceaa
set_option maxRecDepth 100000
open Go.ChangeShapes Go.WideShapes Go.ChangeAt Go.RowKit Go.PlainAid

/-- The eight bytes of a number with a sign, the highest first, so that they stand in the numbers' order. -/
def h8 (n : Int) : List Int := [n / 72057594037927936, n / 281474976710656 % 256, n / 1099511627776 % 256, n / 4294967296 % 256, n / 16777216 % 256, n / 65536 % 256, n / 256 % 256, n % 256]
def ordS (n : Int) : ByteArray := strOfNums (h8 (n + 9223372036854775808))
theorem h8_length (n : Int) : (h8 n).length = 8 := rfl

end Go.Proofs.Ytfcicpcpdklceaa
