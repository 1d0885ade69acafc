/-
  NARROWER THAN 'FOR EVERY INPUT', by the rows' own cells (each row's printed sentence says how): TablePlays: laid · TableFinds: laid · TableRanges: laid · TableWays: laid · TableSound: laid · TableTroubles: laid · TableNobody: laid.
  DERIVED. THE GIVEN ROWS OF THIS SEAT. 7 by the template 'for every input the law returns true; each argument reads behind the call as it read before'; 0 by the template 'total and deterministic' (their statements: YtcjfnfdinhbdlaaGreatDoorTotals.lean).
  GIVEN WITH THE SEED: the statements are not yours to turn. If you find one false, say at which input.
  Laid BY PROGRAM, IN A SANDBOX (cutbox-rows.mjs): the forced cells as the released guide's own fill.sh prints them over the translation c6f154682789ae13… (all of the seat's roots in one cut). By AI agents, Wed Nov 11 2026. No macro, syntax, notation, axiom, sorry.
-/
import Derived.Test.YtcjfnfdinhbdlaaGreatDoorChecked
import GoSem.Claim
import GoSem.ClaimJoined
import GoSem.ClaimMapViews
import Derived.JoinedTies
import Derived.KernelRfl
namespace Go.Proofs.YtcjfnfdinhbdlaaGreatDoor
/- THE CELL 'sum', in the pinned program and in every row, IS THE sha256 OF THE DUMP (.gsa) THAT YtcjfnfdinhbdlaaGreatDoorProg.lean LOADS. Nothing in Lean hashes anything: it is a label: what it is worth is what the hold of that sum in a sandbox is worth. -/
noncomputable def Tryz.pinned : Pinned := { name := "ytcjfnfdinhbdlaagreatdoor", sum := "c6f154682789ae135de5fdca39f28721460f67847ee56cf0c5a4b0ceb7c45456", checked := Tryz.checked }
namespace Rows
def none {H : Type} : Left H := { results := [], args := [] }

/- WHAT THE LISTED PACKAGE-LEVEL VARIABLES READ AS WHEN THE CALL BEGINS. Each datum BY PROGRAM (the guide's laid-datum.mjs) off the statement by which the dump's own 'gosem.cut.vars' lays the variable. In a bare row this is a premise. The card (YtcjfnfdinhbdlaaGreatDoorCards.lean) ties it to the program's text. -/
def laid_annalist_op_rules {H : Type} : DataW H := .agg [.agg [.lit (.int .i64 1), .lit (.int .i64 1), .lit (.int .i64 0), .lit (.int .i64 0), .lit (.int .i64 1073741824)], .agg [.lit (.int .i64 1), .lit (.int .i64 2), .lit (.int .i64 1), .lit (.int .i64 0), .lit (.int .i64 0)], .agg [.lit (.int .i64 1), .lit (.int .i64 3), .lit (.int .i64 2), .lit (.int .i64 0), .lit (.int .i64 1)], .agg [.lit (.int .i64 2), .lit (.int .i64 1), .lit (.int .i64 0), .lit (.int .i64 (-1073741824)), .lit (.int .i64 1073741824)], .agg [.lit (.int .i64 2), .lit (.int .i64 4), .lit (.int .i64 0), .lit (.int .i64 0), .lit (.int .i64 0)], .agg [.lit (.int .i64 2), .lit (.int .i64 5), .lit (.int .i64 0), .lit (.int .i64 0), .lit (.int .i64 0)], .agg [.lit (.int .i64 3), .lit (.int .i64 6), .lit (.int .i64 1), .lit (.int .i64 0), .lit (.int .i64 0)], .agg [.lit (.int .i64 3), .lit (.int .i64 7), .lit (.int .i64 0), .lit (.int .i64 (-1)), .lit (.int .i64 1073741824)], .agg [.lit (.int .i64 4), .lit (.int .i64 8), .lit (.int .i64 1), .lit (.int .i64 0), .lit (.int .i64 0)], .agg [.lit (.int .i64 4), .lit (.int .i64 9), .lit (.int .i64 0), .lit (.int .i64 (-1)), .lit (.int .i64 1073741824)], .agg [.lit (.int .i64 5), .lit (.int .i64 10), .lit (.int .i64 1), .lit (.int .i64 0), .lit (.int .i64 1)], .agg [.lit (.int .i64 5), .lit (.int .i64 11), .lit (.int .i64 1), .lit (.int .i64 0), .lit (.int .i64 1)], .agg [.lit (.int .i64 5), .lit (.int .i64 12), .lit (.int .i64 1), .lit (.int .i64 0), .lit (.int .i64 1)], .agg [.lit (.int .i64 6), .lit (.int .i64 13), .lit (.int .i64 0), .lit (.int .i64 0), .lit (.int .i64 0)], .agg [.lit (.int .i64 6), .lit (.int .i64 14), .lit (.int .i64 0), .lit (.int .i64 0), .lit (.int .i64 0)]]

/-- 'annalistlaw13.TablePlays': WHATEVER THE INPUT: true; the input reads as it did. -/
def tablePlaysSpec : ChangeSpec := { name := "tablePlays", fn := fun _ => fun
  | [d] => { results := [.lit (.bool true)], args := [d] }
  | _ => none }
def tablePlaysRow : OpenClaim := { program := "ytcjfnfdinhbdlaagreatdoor", sum := "c6f154682789ae135de5fdca39f28721460f67847ee56cf0c5a4b0ceb7c45456", func := "annalist/annalistlaw13.TablePlays", spec := "tablePlays", inPlace := ["internal/abi.NoEscape", "internal/bytealg.MakeNoZero", "internal/bytealg.abigen_runtime_cmpstring", "slices.overlaps[annalist/api.Pair]"], unfollowed := true, recurses := true, named := ["annalist/op.rules"], apart := false, laid := [("annalist/op.rules", laid_annalist_op_rules)] }
def TablePlaysSaid : Prop := tablePlaysRow.holds Tryz.pinned (OpenSpec.ofChange tablePlaysSpec)

/-- ITS FALSE NEIGHBOUR: 'it returns false'. Refute it at one input. -/
def tablePlaysWrong : ChangeSpec := { name := "tablePlays", fn := fun _ => fun
  | [d] => { results := [.lit (.bool false)], args := [d] }
  | _ => none }
def TablePlaysWrongFalsely : Prop := tablePlaysRow.holds Tryz.pinned (OpenSpec.ofChange tablePlaysWrong)

/-- 'annalistlaw13.TableFinds': WHATEVER THE INPUT: true; the input reads as it did. -/
def tableFindsSpec : ChangeSpec := { name := "tableFinds", fn := fun _ => fun
  | [d1, d2, d3, d4] => { results := [.lit (.bool true)], args := [d1, d2, d3, d4] }
  | _ => none }
def tableFindsRow : OpenClaim := { program := "ytcjfnfdinhbdlaagreatdoor", sum := "c6f154682789ae135de5fdca39f28721460f67847ee56cf0c5a4b0ceb7c45456", func := "annalist/annalistlaw13.TableFinds", spec := "tableFinds", inPlace := ["internal/abi.NoEscape", "internal/bytealg.MakeNoZero", "internal/bytealg.abigen_runtime_cmpstring", "slices.overlaps[annalist/api.Pair]"], unfollowed := true, recurses := true, named := ["annalist/op.rules"], apart := false, laid := [("annalist/op.rules", laid_annalist_op_rules)] }
def TableFindsSaid : Prop := tableFindsRow.holds Tryz.pinned (OpenSpec.ofChange tableFindsSpec)

/-- ITS FALSE NEIGHBOUR: 'it returns false'. Refute it at one input. -/
def tableFindsWrong : ChangeSpec := { name := "tableFinds", fn := fun _ => fun
  | [d1, d2, d3, d4] => { results := [.lit (.bool false)], args := [d1, d2, d3, d4] }
  | _ => none }
def TableFindsWrongFalsely : Prop := tableFindsRow.holds Tryz.pinned (OpenSpec.ofChange tableFindsWrong)

/-- 'annalistlaw13.TableRanges': WHATEVER THE INPUT: true; the input reads as it did. -/
def tableRangesSpec : ChangeSpec := { name := "tableRanges", fn := fun _ => fun
  | [d1, d2, d3, d4, d5] => { results := [.lit (.bool true)], args := [d1, d2, d3, d4, d5] }
  | _ => none }
def tableRangesRow : OpenClaim := { program := "ytcjfnfdinhbdlaagreatdoor", sum := "c6f154682789ae135de5fdca39f28721460f67847ee56cf0c5a4b0ceb7c45456", func := "annalist/annalistlaw13.TableRanges", spec := "tableRanges", inPlace := ["internal/abi.NoEscape", "internal/bytealg.MakeNoZero", "internal/bytealg.abigen_runtime_cmpstring", "slices.overlaps[annalist/api.Pair]"], unfollowed := true, recurses := true, named := ["annalist/op.rules"], apart := false, laid := [("annalist/op.rules", laid_annalist_op_rules)] }
def TableRangesSaid : Prop := tableRangesRow.holds Tryz.pinned (OpenSpec.ofChange tableRangesSpec)

/-- ITS FALSE NEIGHBOUR: 'it returns false'. Refute it at one input. -/
def tableRangesWrong : ChangeSpec := { name := "tableRanges", fn := fun _ => fun
  | [d1, d2, d3, d4, d5] => { results := [.lit (.bool false)], args := [d1, d2, d3, d4, d5] }
  | _ => none }
def TableRangesWrongFalsely : Prop := tableRangesRow.holds Tryz.pinned (OpenSpec.ofChange tableRangesWrong)

/-- 'annalistlaw13.TableWays': WHATEVER THE INPUT: true; the input reads as it did. -/
def tableWaysSpec : ChangeSpec := { name := "tableWays", fn := fun _ => fun
  | [d] => { results := [.lit (.bool true)], args := [d] }
  | _ => none }
def tableWaysRow : OpenClaim := { program := "ytcjfnfdinhbdlaagreatdoor", sum := "c6f154682789ae135de5fdca39f28721460f67847ee56cf0c5a4b0ceb7c45456", func := "annalist/annalistlaw13.TableWays", spec := "tableWays", inPlace := ["internal/abi.NoEscape", "internal/bytealg.MakeNoZero", "internal/bytealg.abigen_runtime_cmpstring", "slices.overlaps[annalist/api.Pair]"], unfollowed := true, recurses := true, named := ["annalist/op.rules"], apart := false, laid := [("annalist/op.rules", laid_annalist_op_rules)] }
def TableWaysSaid : Prop := tableWaysRow.holds Tryz.pinned (OpenSpec.ofChange tableWaysSpec)

/-- ITS FALSE NEIGHBOUR: 'it returns false'. Refute it at one input. -/
def tableWaysWrong : ChangeSpec := { name := "tableWays", fn := fun _ => fun
  | [d] => { results := [.lit (.bool false)], args := [d] }
  | _ => none }
def TableWaysWrongFalsely : Prop := tableWaysRow.holds Tryz.pinned (OpenSpec.ofChange tableWaysWrong)

/-- 'annalistlaw13.TableSound': WHATEVER THE INPUT: true; the input reads as it did. -/
def tableSoundSpec : ChangeSpec := { name := "tableSound", fn := fun _ => fun
  | [d] => { results := [.lit (.bool true)], args := [d] }
  | _ => none }
def tableSoundRow : OpenClaim := { program := "ytcjfnfdinhbdlaagreatdoor", sum := "c6f154682789ae135de5fdca39f28721460f67847ee56cf0c5a4b0ceb7c45456", func := "annalist/annalistlaw13.TableSound", spec := "tableSound", inPlace := ["internal/abi.NoEscape", "internal/bytealg.MakeNoZero", "internal/bytealg.abigen_runtime_cmpstring", "slices.overlaps[annalist/api.Pair]"], unfollowed := true, recurses := true, named := ["annalist/op.rules"], apart := false, laid := [("annalist/op.rules", laid_annalist_op_rules)] }
def TableSoundSaid : Prop := tableSoundRow.holds Tryz.pinned (OpenSpec.ofChange tableSoundSpec)

/-- ITS FALSE NEIGHBOUR: 'it returns false'. Refute it at one input. -/
def tableSoundWrong : ChangeSpec := { name := "tableSound", fn := fun _ => fun
  | [d] => { results := [.lit (.bool false)], args := [d] }
  | _ => none }
def TableSoundWrongFalsely : Prop := tableSoundRow.holds Tryz.pinned (OpenSpec.ofChange tableSoundWrong)

/-- 'annalistlaw13.TableTroubles': WHATEVER THE INPUT: true; the input reads as it did. -/
def tableTroublesSpec : ChangeSpec := { name := "tableTroubles", fn := fun _ => fun
  | [d1, d2, d3, d4, d5] => { results := [.lit (.bool true)], args := [d1, d2, d3, d4, d5] }
  | _ => none }
def tableTroublesRow : OpenClaim := { program := "ytcjfnfdinhbdlaagreatdoor", sum := "c6f154682789ae135de5fdca39f28721460f67847ee56cf0c5a4b0ceb7c45456", func := "annalist/annalistlaw13.TableTroubles", spec := "tableTroubles", inPlace := ["internal/abi.NoEscape", "internal/bytealg.MakeNoZero", "internal/bytealg.abigen_runtime_cmpstring", "slices.overlaps[annalist/api.Pair]"], unfollowed := true, recurses := true, named := ["annalist/op.rules"], apart := false, laid := [("annalist/op.rules", laid_annalist_op_rules)] }
def TableTroublesSaid : Prop := tableTroublesRow.holds Tryz.pinned (OpenSpec.ofChange tableTroublesSpec)

/-- ITS FALSE NEIGHBOUR: 'it returns false'. Refute it at one input. -/
def tableTroublesWrong : ChangeSpec := { name := "tableTroubles", fn := fun _ => fun
  | [d1, d2, d3, d4, d5] => { results := [.lit (.bool false)], args := [d1, d2, d3, d4, d5] }
  | _ => none }
def TableTroublesWrongFalsely : Prop := tableTroublesRow.holds Tryz.pinned (OpenSpec.ofChange tableTroublesWrong)

/-- 'annalistlaw13.TableNobody': WHATEVER THE INPUT: true; the input reads as it did. -/
def tableNobodySpec : ChangeSpec := { name := "tableNobody", fn := fun _ => fun
  | [d1, d2, d3] => { results := [.lit (.bool true)], args := [d1, d2, d3] }
  | _ => none }
def tableNobodyRow : OpenClaim := { program := "ytcjfnfdinhbdlaagreatdoor", sum := "c6f154682789ae135de5fdca39f28721460f67847ee56cf0c5a4b0ceb7c45456", func := "annalist/annalistlaw13.TableNobody", spec := "tableNobody", inPlace := ["internal/bytealg.abigen_runtime_cmpstring", "slices.overlaps[annalist/api.Pair]", "internal/abi.NoEscape", "internal/bytealg.MakeNoZero"], unfollowed := true, recurses := true, named := ["annalist/op.rules"], apart := false, laid := [("annalist/op.rules", laid_annalist_op_rules)] }
def TableNobodySaid : Prop := tableNobodyRow.holds Tryz.pinned (OpenSpec.ofChange tableNobodySpec)

/-- ITS FALSE NEIGHBOUR: 'it returns false'. Refute it at one input. -/
def tableNobodyWrong : ChangeSpec := { name := "tableNobody", fn := fun _ => fun
  | [d1, d2, d3] => { results := [.lit (.bool false)], args := [d1, d2, d3] }
  | _ => none }
def TableNobodyWrongFalsely : Prop := tableNobodyRow.holds Tryz.pinned (OpenSpec.ofChange tableNobodyWrong)

/- THE SECOND FORM. 'bulk': how many values and letters a reading holds, each counted each time it is reached (what is shared counts as often as it is met; a slice's spare places count too). A statement '..UptoSaid' is the law's where the arguments, and the package variables that the reading takes, are together of bulk at most 1048576: NARROWER than '..Said'. Prove '..Said' where nothing that the law and all that it calls make is longer than what came in: it says more and counts as full. Else prove '..UptoSaid'. A law counts once. -/
mutual
def uptoBulk {H : Type} : DataW H → Nat
  | .lit (.string bytes) => bytes.length + 1
  | .lit _ => 1
  | .nil => 1
  | .ptr d => uptoBulk d + 1
  | .slice elems spare => uptoBulkAll elems + uptoBulkAll spare + 1
  | .agg parts => uptoBulkAll parts + 1
  | .iface _ d => uptoBulk d + 1
  | .map entries => uptoBulkEntries entries + 1
  | .held _ => 1
def uptoBulkAll {H : Type} : List (DataW H) → Nat
  | [] => 0
  | d :: r => uptoBulk d + uptoBulkAll r
def uptoBulkEntries {H : Type} : List (Lit × DataW H) → Nat
  | [] => 0
  | x :: r => uptoBulkEntry x + uptoBulkEntries r
def uptoBulkEntry {H : Type} : Lit × DataW H → Nat
  | (.string bytes, d) => bytes.length + uptoBulk d + 1
  | (_, d) => uptoBulk d + 1
 end
def uptoSmall : (H : Type) → List (DataW H) → Bool := fun _ ds => decide (uptoBulkAll ds ≤ 1048576)
def OpenSpec.upto (s : _root_.Go.ChangeSpec) : _root_.Go.OpenSpec := { _root_.Go.OpenSpec.ofChange s with cond := some uptoSmall }

/-- 'annalistlaw13.TablePlays', WHERE WHAT IT READS IS OF BULK AT MOST 1048576: true; the input reads as it did. -/
def tablePlaysUptoRow : OpenClaim := { program := "ytcjfnfdinhbdlaagreatdoor", sum := "c6f154682789ae135de5fdca39f28721460f67847ee56cf0c5a4b0ceb7c45456", func := "annalist/annalistlaw13.TablePlays", spec := "tablePlays", inPlace := ["internal/abi.NoEscape", "internal/bytealg.MakeNoZero", "internal/bytealg.abigen_runtime_cmpstring", "slices.overlaps[annalist/api.Pair]"], unfollowed := true, recurses := true, named := ["annalist/op.rules"], apart := false, laid := [("annalist/op.rules", laid_annalist_op_rules)], narrowed := true }
def TablePlaysUptoSaid : Prop := tablePlaysUptoRow.holds Tryz.pinned (OpenSpec.upto tablePlaysSpec)

/-- 'annalistlaw13.TableFinds', WHERE WHAT IT READS IS OF BULK AT MOST 1048576: true; the input reads as it did. -/
def tableFindsUptoRow : OpenClaim := { program := "ytcjfnfdinhbdlaagreatdoor", sum := "c6f154682789ae135de5fdca39f28721460f67847ee56cf0c5a4b0ceb7c45456", func := "annalist/annalistlaw13.TableFinds", spec := "tableFinds", inPlace := ["internal/abi.NoEscape", "internal/bytealg.MakeNoZero", "internal/bytealg.abigen_runtime_cmpstring", "slices.overlaps[annalist/api.Pair]"], unfollowed := true, recurses := true, named := ["annalist/op.rules"], apart := false, laid := [("annalist/op.rules", laid_annalist_op_rules)], narrowed := true }
def TableFindsUptoSaid : Prop := tableFindsUptoRow.holds Tryz.pinned (OpenSpec.upto tableFindsSpec)

/-- 'annalistlaw13.TableRanges', WHERE WHAT IT READS IS OF BULK AT MOST 1048576: true; the input reads as it did. -/
def tableRangesUptoRow : OpenClaim := { program := "ytcjfnfdinhbdlaagreatdoor", sum := "c6f154682789ae135de5fdca39f28721460f67847ee56cf0c5a4b0ceb7c45456", func := "annalist/annalistlaw13.TableRanges", spec := "tableRanges", inPlace := ["internal/abi.NoEscape", "internal/bytealg.MakeNoZero", "internal/bytealg.abigen_runtime_cmpstring", "slices.overlaps[annalist/api.Pair]"], unfollowed := true, recurses := true, named := ["annalist/op.rules"], apart := false, laid := [("annalist/op.rules", laid_annalist_op_rules)], narrowed := true }
def TableRangesUptoSaid : Prop := tableRangesUptoRow.holds Tryz.pinned (OpenSpec.upto tableRangesSpec)

/-- 'annalistlaw13.TableWays', WHERE WHAT IT READS IS OF BULK AT MOST 1048576: true; the input reads as it did. -/
def tableWaysUptoRow : OpenClaim := { program := "ytcjfnfdinhbdlaagreatdoor", sum := "c6f154682789ae135de5fdca39f28721460f67847ee56cf0c5a4b0ceb7c45456", func := "annalist/annalistlaw13.TableWays", spec := "tableWays", inPlace := ["internal/abi.NoEscape", "internal/bytealg.MakeNoZero", "internal/bytealg.abigen_runtime_cmpstring", "slices.overlaps[annalist/api.Pair]"], unfollowed := true, recurses := true, named := ["annalist/op.rules"], apart := false, laid := [("annalist/op.rules", laid_annalist_op_rules)], narrowed := true }
def TableWaysUptoSaid : Prop := tableWaysUptoRow.holds Tryz.pinned (OpenSpec.upto tableWaysSpec)

/-- 'annalistlaw13.TableSound', WHERE WHAT IT READS IS OF BULK AT MOST 1048576: true; the input reads as it did. -/
def tableSoundUptoRow : OpenClaim := { program := "ytcjfnfdinhbdlaagreatdoor", sum := "c6f154682789ae135de5fdca39f28721460f67847ee56cf0c5a4b0ceb7c45456", func := "annalist/annalistlaw13.TableSound", spec := "tableSound", inPlace := ["internal/abi.NoEscape", "internal/bytealg.MakeNoZero", "internal/bytealg.abigen_runtime_cmpstring", "slices.overlaps[annalist/api.Pair]"], unfollowed := true, recurses := true, named := ["annalist/op.rules"], apart := false, laid := [("annalist/op.rules", laid_annalist_op_rules)], narrowed := true }
def TableSoundUptoSaid : Prop := tableSoundUptoRow.holds Tryz.pinned (OpenSpec.upto tableSoundSpec)

/-- 'annalistlaw13.TableTroubles', WHERE WHAT IT READS IS OF BULK AT MOST 1048576: true; the input reads as it did. -/
def tableTroublesUptoRow : OpenClaim := { program := "ytcjfnfdinhbdlaagreatdoor", sum := "c6f154682789ae135de5fdca39f28721460f67847ee56cf0c5a4b0ceb7c45456", func := "annalist/annalistlaw13.TableTroubles", spec := "tableTroubles", inPlace := ["internal/abi.NoEscape", "internal/bytealg.MakeNoZero", "internal/bytealg.abigen_runtime_cmpstring", "slices.overlaps[annalist/api.Pair]"], unfollowed := true, recurses := true, named := ["annalist/op.rules"], apart := false, laid := [("annalist/op.rules", laid_annalist_op_rules)], narrowed := true }
def TableTroublesUptoSaid : Prop := tableTroublesUptoRow.holds Tryz.pinned (OpenSpec.upto tableTroublesSpec)

/-- 'annalistlaw13.TableNobody', WHERE WHAT IT READS IS OF BULK AT MOST 1048576: true; the input reads as it did. -/
def tableNobodyUptoRow : OpenClaim := { program := "ytcjfnfdinhbdlaagreatdoor", sum := "c6f154682789ae135de5fdca39f28721460f67847ee56cf0c5a4b0ceb7c45456", func := "annalist/annalistlaw13.TableNobody", spec := "tableNobody", inPlace := ["internal/bytealg.abigen_runtime_cmpstring", "slices.overlaps[annalist/api.Pair]", "internal/abi.NoEscape", "internal/bytealg.MakeNoZero"], unfollowed := true, recurses := true, named := ["annalist/op.rules"], apart := false, laid := [("annalist/op.rules", laid_annalist_op_rules)], narrowed := true }
def TableNobodyUptoSaid : Prop := tableNobodyUptoRow.holds Tryz.pinned (OpenSpec.upto tableNobodySpec)

end Rows
end Go.Proofs.YtcjfnfdinhbdlaaGreatDoor
