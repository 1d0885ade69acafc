/- Contracts of find, and of the reference's Rows and Find. -/
import Derived.Test.YtgedlfilhpbfaaaOpT
namespace Go.Proofs.Ytgedlfilhpbfaaa
set_option maxRecDepth 100000
open Go.ChangeShapes Go.WideShapes Go.ChangeAt Go.RowKit Go.PlainAid

def cells5 (a b c d e : Int) : Array Value := #[.int .i64 a, .int .i64 b, .int .i64 c, .int .i64 d, .int .i64 e]
theorem one5 (a b c d e : Int) : (cells5 a b c d e).all (·.oneCell') = true := by simp [cells5, Value.oneCell']
/-- What find tells. -/
def foundV : Option RowV → Value
  | none => .tuple #[.agg #[.int .i64 0, .int .i64 0, .int .i64 0, .int .i64 0, .int .i64 0], .bool false]
  | some r => .tuple #[.agg #[.int .i64 r.kind, .int .i64 r.meth, .int .i64 r.needs, .int .i64 r.low, .int .i64 r.high], .bool true]
end Go.Proofs.Ytgedlfilhpbfaaa
