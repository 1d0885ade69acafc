/-
  NARROWER THAN 'FOR EVERY INPUT', by the rows' own cells (each row's printed sentence says how): OpFits: laid · OpChecks: laid · OpCodes: laid · OpBack: laid · OpTimes: laid · OpOrders: laid.
  DERIVED. THE GIVEN ROWS OF THIS SEAT. 6 by the template 'for every input the law returns true; each argument reads behind the call as it read before'; 0 by the template 'total and deterministic' (their statements: YthgibogdbbebaaaDoorTotals.lean).
  GIVEN WITH THE SEED: the statements are not yours to turn. If you find one false, say at which input.
  Laid BY PROGRAM, IN A SANDBOX (cutbox-rows.mjs): the forced cells as the released guide's own fill.sh prints them over the translation c54303745d05dbac… (all of the seat's roots in one cut). By AI agents, Wed Nov 11 2026. No macro, syntax, notation, axiom, sorry.
-/
import Derived.Test.YthgibogdbbebaaaDoorChecked
import GoSem.Claim
import GoSem.ClaimJoined
import GoSem.ClaimMapViews
import Derived.JoinedTies
import Derived.KernelRfl
namespace Go.Proofs.YthgibogdbbebaaaDoor
/- THE CELL 'sum', in the pinned program and in every row, IS THE sha256 OF THE DUMP (.gsa) THAT YthgibogdbbebaaaDoorProg.lean LOADS. Nothing in Lean hashes anything: it is a label: what it is worth is what the hold of that sum in a sandbox is worth. -/
noncomputable def Tryd.pinned : Pinned := { name := "ythgibogdbbebaaadoor", sum := "c54303745d05dbac4cdafc995c3994bd06bbf1c7471e0dda27419c4edb351080", checked := Tryd.checked }
namespace Rows
def none {H : Type} : Left H := { results := [], args := [] }

/- WHAT THE LISTED PACKAGE-LEVEL VARIABLES READ AS WHEN THE CALL BEGINS. Each datum BY PROGRAM (the guide's laid-datum.mjs) off the statement by which the dump's own 'gosem.cut.vars' lays the variable. In a bare row this is a premise. The card (YthgibogdbbebaaaDoorCards.lean) ties it to the program's text. -/
def laid_annalist_op_rules {H : Type} : DataW H := .agg [.agg [.lit (.int .i64 1), .lit (.int .i64 1), .lit (.int .i64 0), .lit (.int .i64 0), .lit (.int .i64 1073741824)], .agg [.lit (.int .i64 1), .lit (.int .i64 2), .lit (.int .i64 1), .lit (.int .i64 0), .lit (.int .i64 0)], .agg [.lit (.int .i64 1), .lit (.int .i64 3), .lit (.int .i64 2), .lit (.int .i64 0), .lit (.int .i64 1)], .agg [.lit (.int .i64 2), .lit (.int .i64 1), .lit (.int .i64 0), .lit (.int .i64 (-1073741824)), .lit (.int .i64 1073741824)], .agg [.lit (.int .i64 2), .lit (.int .i64 4), .lit (.int .i64 0), .lit (.int .i64 0), .lit (.int .i64 0)], .agg [.lit (.int .i64 2), .lit (.int .i64 5), .lit (.int .i64 0), .lit (.int .i64 0), .lit (.int .i64 0)], .agg [.lit (.int .i64 3), .lit (.int .i64 6), .lit (.int .i64 1), .lit (.int .i64 0), .lit (.int .i64 0)], .agg [.lit (.int .i64 3), .lit (.int .i64 7), .lit (.int .i64 0), .lit (.int .i64 (-1)), .lit (.int .i64 1073741824)], .agg [.lit (.int .i64 4), .lit (.int .i64 8), .lit (.int .i64 1), .lit (.int .i64 0), .lit (.int .i64 0)], .agg [.lit (.int .i64 4), .lit (.int .i64 9), .lit (.int .i64 0), .lit (.int .i64 (-1)), .lit (.int .i64 1073741824)], .agg [.lit (.int .i64 5), .lit (.int .i64 10), .lit (.int .i64 1), .lit (.int .i64 0), .lit (.int .i64 1)], .agg [.lit (.int .i64 5), .lit (.int .i64 11), .lit (.int .i64 1), .lit (.int .i64 0), .lit (.int .i64 1)], .agg [.lit (.int .i64 5), .lit (.int .i64 12), .lit (.int .i64 1), .lit (.int .i64 0), .lit (.int .i64 1)], .agg [.lit (.int .i64 6), .lit (.int .i64 13), .lit (.int .i64 0), .lit (.int .i64 0), .lit (.int .i64 0)], .agg [.lit (.int .i64 6), .lit (.int .i64 14), .lit (.int .i64 0), .lit (.int .i64 0), .lit (.int .i64 0)]]

/-- 'annalistlaw10.OpFits': WHATEVER THE INPUT: true; the input reads as it did. -/
def opFitsSpec : ChangeSpec := { name := "opFits", fn := fun _ => fun
  | [d1, d2] => { results := [.lit (.bool true)], args := [d1, d2] }
  | _ => none }
def opFitsRow : OpenClaim := { program := "ythgibogdbbebaaadoor", sum := "c54303745d05dbac4cdafc995c3994bd06bbf1c7471e0dda27419c4edb351080", func := "annalist/annalistlaw10.OpFits", spec := "opFits", named := ["annalist/op.rules"], apart := false, laid := [("annalist/op.rules", laid_annalist_op_rules)] }
def OpFitsSaid : Prop := opFitsRow.holds Tryd.pinned (OpenSpec.ofChange opFitsSpec)

/-- ITS FALSE NEIGHBOUR: 'it returns false'. Refute it at one input. -/
def opFitsWrong : ChangeSpec := { name := "opFits", fn := fun _ => fun
  | [d1, d2] => { results := [.lit (.bool false)], args := [d1, d2] }
  | _ => none }
def OpFitsWrongFalsely : Prop := opFitsRow.holds Tryd.pinned (OpenSpec.ofChange opFitsWrong)

/-- 'annalistlaw10.OpChecks': WHATEVER THE INPUT: true; the input reads as it did. -/
def opChecksSpec : ChangeSpec := { name := "opChecks", fn := fun _ => fun
  | [d] => { results := [.lit (.bool true)], args := [d] }
  | _ => none }
def opChecksRow : OpenClaim := { program := "ythgibogdbbebaaadoor", sum := "c54303745d05dbac4cdafc995c3994bd06bbf1c7471e0dda27419c4edb351080", func := "annalist/annalistlaw10.OpChecks", spec := "opChecks", named := ["annalist/op.rules"], apart := false, laid := [("annalist/op.rules", laid_annalist_op_rules)] }
def OpChecksSaid : Prop := opChecksRow.holds Tryd.pinned (OpenSpec.ofChange opChecksSpec)

/-- ITS FALSE NEIGHBOUR: 'it returns false'. Refute it at one input. -/
def opChecksWrong : ChangeSpec := { name := "opChecks", fn := fun _ => fun
  | [d] => { results := [.lit (.bool false)], args := [d] }
  | _ => none }
def OpChecksWrongFalsely : Prop := opChecksRow.holds Tryd.pinned (OpenSpec.ofChange opChecksWrong)

/-- 'annalistlaw10.OpCodes': WHATEVER THE INPUT: true; the input reads as it did. -/
def opCodesSpec : ChangeSpec := { name := "opCodes", fn := fun _ => fun
  | [d1, d2] => { results := [.lit (.bool true)], args := [d1, d2] }
  | _ => none }
def opCodesRow : OpenClaim := { program := "ythgibogdbbebaaadoor", sum := "c54303745d05dbac4cdafc995c3994bd06bbf1c7471e0dda27419c4edb351080", func := "annalist/annalistlaw10.OpCodes", spec := "opCodes", recurses := true, named := ["annalist/op.rules"], apart := false, laid := [("annalist/op.rules", laid_annalist_op_rules)] }
def OpCodesSaid : Prop := opCodesRow.holds Tryd.pinned (OpenSpec.ofChange opCodesSpec)

/-- ITS FALSE NEIGHBOUR: 'it returns false'. Refute it at one input. -/
def opCodesWrong : ChangeSpec := { name := "opCodes", fn := fun _ => fun
  | [d1, d2] => { results := [.lit (.bool false)], args := [d1, d2] }
  | _ => none }
def OpCodesWrongFalsely : Prop := opCodesRow.holds Tryd.pinned (OpenSpec.ofChange opCodesWrong)

/-- 'annalistlaw10.OpBack': WHATEVER THE INPUT: true; the input reads as it did. -/
def opBackSpec : ChangeSpec := { name := "opBack", fn := fun _ => fun
  | [d1, d2] => { results := [.lit (.bool true)], args := [d1, d2] }
  | _ => none }
def opBackRow : OpenClaim := { program := "ythgibogdbbebaaadoor", sum := "c54303745d05dbac4cdafc995c3994bd06bbf1c7471e0dda27419c4edb351080", func := "annalist/annalistlaw10.OpBack", spec := "opBack", named := ["annalist/op.rules"], apart := false, laid := [("annalist/op.rules", laid_annalist_op_rules)] }
def OpBackSaid : Prop := opBackRow.holds Tryd.pinned (OpenSpec.ofChange opBackSpec)

/-- ITS FALSE NEIGHBOUR: 'it returns false'. Refute it at one input. -/
def opBackWrong : ChangeSpec := { name := "opBack", fn := fun _ => fun
  | [d1, d2] => { results := [.lit (.bool false)], args := [d1, d2] }
  | _ => none }
def OpBackWrongFalsely : Prop := opBackRow.holds Tryd.pinned (OpenSpec.ofChange opBackWrong)

/-- 'annalistlaw10.OpTimes': WHATEVER THE INPUT: true; the input reads as it did. -/
def opTimesSpec : ChangeSpec := { name := "opTimes", fn := fun _ => fun
  | [d1, d2] => { results := [.lit (.bool true)], args := [d1, d2] }
  | _ => none }
def opTimesRow : OpenClaim := { program := "ythgibogdbbebaaadoor", sum := "c54303745d05dbac4cdafc995c3994bd06bbf1c7471e0dda27419c4edb351080", func := "annalist/annalistlaw10.OpTimes", spec := "opTimes", named := ["annalist/op.rules"], apart := false, laid := [("annalist/op.rules", laid_annalist_op_rules)] }
def OpTimesSaid : Prop := opTimesRow.holds Tryd.pinned (OpenSpec.ofChange opTimesSpec)

/-- ITS FALSE NEIGHBOUR: 'it returns false'. Refute it at one input. -/
def opTimesWrong : ChangeSpec := { name := "opTimes", fn := fun _ => fun
  | [d1, d2] => { results := [.lit (.bool false)], args := [d1, d2] }
  | _ => none }
def OpTimesWrongFalsely : Prop := opTimesRow.holds Tryd.pinned (OpenSpec.ofChange opTimesWrong)

/-- 'annalistlaw10.OpOrders': WHATEVER THE INPUT: true; the input reads as it did. -/
def opOrdersSpec : ChangeSpec := { name := "opOrders", fn := fun _ => fun
  | [d1, d2, d3] => { results := [.lit (.bool true)], args := [d1, d2, d3] }
  | _ => none }
def opOrdersRow : OpenClaim := { program := "ythgibogdbbebaaadoor", sum := "c54303745d05dbac4cdafc995c3994bd06bbf1c7471e0dda27419c4edb351080", func := "annalist/annalistlaw10.OpOrders", spec := "opOrders", named := ["annalist/op.rules"], apart := false, laid := [("annalist/op.rules", laid_annalist_op_rules)] }
def OpOrdersSaid : Prop := opOrdersRow.holds Tryd.pinned (OpenSpec.ofChange opOrdersSpec)

/-- ITS FALSE NEIGHBOUR: 'it returns false'. Refute it at one input. -/
def opOrdersWrong : ChangeSpec := { name := "opOrders", fn := fun _ => fun
  | [d1, d2, d3] => { results := [.lit (.bool false)], args := [d1, d2, d3] }
  | _ => none }
def OpOrdersWrongFalsely : Prop := opOrdersRow.holds Tryd.pinned (OpenSpec.ofChange opOrdersWrong)

/- THE SECOND FORM. 'bulk': how many values and letters a reading holds, each counted each time it is reached (what is shared counts as often as it is met; a slice's spare places count too). A statement '..UptoSaid' is the law's where the arguments, and the package variables that the reading takes, are together of bulk at most 1048576: NARROWER than '..Said'. Prove '..Said' where nothing that the law and all that it calls make is longer than what came in: it says more and counts as full. Else prove '..UptoSaid'. A law counts once. -/
mutual
def uptoBulk {H : Type} : DataW H → Nat
  | .lit (.string bytes) => bytes.length + 1
  | .lit _ => 1
  | .nil => 1
  | .ptr d => uptoBulk d + 1
  | .slice elems spare => uptoBulkAll elems + uptoBulkAll spare + 1
  | .agg parts => uptoBulkAll parts + 1
  | .iface _ d => uptoBulk d + 1
  | .map entries => uptoBulkEntries entries + 1
  | .held _ => 1
def uptoBulkAll {H : Type} : List (DataW H) → Nat
  | [] => 0
  | d :: r => uptoBulk d + uptoBulkAll r
def uptoBulkEntries {H : Type} : List (Lit × DataW H) → Nat
  | [] => 0
  | x :: r => uptoBulkEntry x + uptoBulkEntries r
def uptoBulkEntry {H : Type} : Lit × DataW H → Nat
  | (.string bytes, d) => bytes.length + uptoBulk d + 1
  | (_, d) => uptoBulk d + 1
 end
def uptoSmall : (H : Type) → List (DataW H) → Bool := fun _ ds => decide (uptoBulkAll ds ≤ 1048576)
def OpenSpec.upto (s : _root_.Go.ChangeSpec) : _root_.Go.OpenSpec := { _root_.Go.OpenSpec.ofChange s with cond := some uptoSmall }

/-- 'annalistlaw10.OpFits', WHERE WHAT IT READS IS OF BULK AT MOST 1048576: true; the input reads as it did. -/
def opFitsUptoRow : OpenClaim := { program := "ythgibogdbbebaaadoor", sum := "c54303745d05dbac4cdafc995c3994bd06bbf1c7471e0dda27419c4edb351080", func := "annalist/annalistlaw10.OpFits", spec := "opFits", named := ["annalist/op.rules"], apart := false, laid := [("annalist/op.rules", laid_annalist_op_rules)], narrowed := true }
def OpFitsUptoSaid : Prop := opFitsUptoRow.holds Tryd.pinned (OpenSpec.upto opFitsSpec)

/-- 'annalistlaw10.OpChecks', WHERE WHAT IT READS IS OF BULK AT MOST 1048576: true; the input reads as it did. -/
def opChecksUptoRow : OpenClaim := { program := "ythgibogdbbebaaadoor", sum := "c54303745d05dbac4cdafc995c3994bd06bbf1c7471e0dda27419c4edb351080", func := "annalist/annalistlaw10.OpChecks", spec := "opChecks", named := ["annalist/op.rules"], apart := false, laid := [("annalist/op.rules", laid_annalist_op_rules)], narrowed := true }
def OpChecksUptoSaid : Prop := opChecksUptoRow.holds Tryd.pinned (OpenSpec.upto opChecksSpec)

/-- 'annalistlaw10.OpCodes', WHERE WHAT IT READS IS OF BULK AT MOST 1048576: true; the input reads as it did. -/
def opCodesUptoRow : OpenClaim := { program := "ythgibogdbbebaaadoor", sum := "c54303745d05dbac4cdafc995c3994bd06bbf1c7471e0dda27419c4edb351080", func := "annalist/annalistlaw10.OpCodes", spec := "opCodes", recurses := true, named := ["annalist/op.rules"], apart := false, laid := [("annalist/op.rules", laid_annalist_op_rules)], narrowed := true }
def OpCodesUptoSaid : Prop := opCodesUptoRow.holds Tryd.pinned (OpenSpec.upto opCodesSpec)

/-- 'annalistlaw10.OpBack', WHERE WHAT IT READS IS OF BULK AT MOST 1048576: true; the input reads as it did. -/
def opBackUptoRow : OpenClaim := { program := "ythgibogdbbebaaadoor", sum := "c54303745d05dbac4cdafc995c3994bd06bbf1c7471e0dda27419c4edb351080", func := "annalist/annalistlaw10.OpBack", spec := "opBack", named := ["annalist/op.rules"], apart := false, laid := [("annalist/op.rules", laid_annalist_op_rules)], narrowed := true }
def OpBackUptoSaid : Prop := opBackUptoRow.holds Tryd.pinned (OpenSpec.upto opBackSpec)

/-- 'annalistlaw10.OpTimes', WHERE WHAT IT READS IS OF BULK AT MOST 1048576: true; the input reads as it did. -/
def opTimesUptoRow : OpenClaim := { program := "ythgibogdbbebaaadoor", sum := "c54303745d05dbac4cdafc995c3994bd06bbf1c7471e0dda27419c4edb351080", func := "annalist/annalistlaw10.OpTimes", spec := "opTimes", named := ["annalist/op.rules"], apart := false, laid := [("annalist/op.rules", laid_annalist_op_rules)], narrowed := true }
def OpTimesUptoSaid : Prop := opTimesUptoRow.holds Tryd.pinned (OpenSpec.upto opTimesSpec)

/-- 'annalistlaw10.OpOrders', WHERE WHAT IT READS IS OF BULK AT MOST 1048576: true; the input reads as it did. -/
def opOrdersUptoRow : OpenClaim := { program := "ythgibogdbbebaaadoor", sum := "c54303745d05dbac4cdafc995c3994bd06bbf1c7471e0dda27419c4edb351080", func := "annalist/annalistlaw10.OpOrders", spec := "opOrders", named := ["annalist/op.rules"], apart := false, laid := [("annalist/op.rules", laid_annalist_op_rules)], narrowed := true }
def OpOrdersUptoSaid : Prop := opOrdersUptoRow.holds Tryd.pinned (OpenSpec.upto opOrdersSpec)

end Rows
end Go.Proofs.YthgibogdbbebaaaDoor
