/-
  NARROWER THAN 'FOR EVERY INPUT', by the rows' own cells (each row's printed sentence says how): HistChecks: laid · HistSound: laid · HistBack: laid · HistTwo: laid.
  DERIVED. THE GIVEN ROWS OF THIS SEAT. 4 by the template 'for every input the law returns true; each argument reads behind the call as it read before'; 0 by the template 'total and deterministic' (their statements: YtpjnmokofdldmaaDoorTotals.lean).
  GIVEN WITH THE SEED: the statements are not yours to turn. If you find one false, say at which input.
  Laid BY PROGRAM, IN A SANDBOX (cutbox-rows.mjs): the forced cells as the released guide's own fill.sh prints them over the translation 6717445b72526191… (all of the seat's roots in one cut). By AI agents, Wed Nov 11 2026. No macro, syntax, notation, axiom, sorry.
-/
import Derived.Test.YtpjnmokofdldmaaDoorChecked
import GoSem.Claim
import GoSem.ClaimJoined
import GoSem.ClaimMapViews
import Derived.JoinedTies
import Derived.KernelRfl
namespace Go.Proofs.YtpjnmokofdldmaaDoor
/- THE CELL 'sum', in the pinned program and in every row, IS THE sha256 OF THE DUMP (.gsa) THAT YtpjnmokofdldmaaDoorProg.lean LOADS. Nothing in Lean hashes anything: it is a label: what it is worth is what the hold of that sum in a sandbox is worth. -/
noncomputable def Tryd.pinned : Pinned := { name := "ytpjnmokofdldmaadoor", sum := "6717445b72526191a081b53ccb599ec0617f17927be6dfbe67f5f0d4c265d0a1", checked := Tryd.checked }
namespace Rows
def none {H : Type} : Left H := { results := [], args := [] }

/- WHAT THE LISTED PACKAGE-LEVEL VARIABLES READ AS WHEN THE CALL BEGINS. Each datum BY PROGRAM (the guide's laid-datum.mjs) off the statement by which the dump's own 'gosem.cut.vars' lays the variable. In a bare row this is a premise. The card (YtpjnmokofdldmaaDoorCards.lean) ties it to the program's text. -/
def laid_annalist_op_rules {H : Type} : DataW H := .agg [.agg [.lit (.int .i64 1), .lit (.int .i64 1), .lit (.int .i64 0), .lit (.int .i64 0), .lit (.int .i64 1073741824)], .agg [.lit (.int .i64 1), .lit (.int .i64 2), .lit (.int .i64 1), .lit (.int .i64 0), .lit (.int .i64 0)], .agg [.lit (.int .i64 1), .lit (.int .i64 3), .lit (.int .i64 2), .lit (.int .i64 0), .lit (.int .i64 1)], .agg [.lit (.int .i64 2), .lit (.int .i64 1), .lit (.int .i64 0), .lit (.int .i64 (-1073741824)), .lit (.int .i64 1073741824)], .agg [.lit (.int .i64 2), .lit (.int .i64 4), .lit (.int .i64 0), .lit (.int .i64 0), .lit (.int .i64 0)], .agg [.lit (.int .i64 2), .lit (.int .i64 5), .lit (.int .i64 0), .lit (.int .i64 0), .lit (.int .i64 0)], .agg [.lit (.int .i64 3), .lit (.int .i64 6), .lit (.int .i64 1), .lit (.int .i64 0), .lit (.int .i64 0)], .agg [.lit (.int .i64 3), .lit (.int .i64 7), .lit (.int .i64 0), .lit (.int .i64 (-1)), .lit (.int .i64 1073741824)], .agg [.lit (.int .i64 4), .lit (.int .i64 8), .lit (.int .i64 1), .lit (.int .i64 0), .lit (.int .i64 0)], .agg [.lit (.int .i64 4), .lit (.int .i64 9), .lit (.int .i64 0), .lit (.int .i64 (-1)), .lit (.int .i64 1073741824)], .agg [.lit (.int .i64 5), .lit (.int .i64 10), .lit (.int .i64 1), .lit (.int .i64 0), .lit (.int .i64 1)], .agg [.lit (.int .i64 5), .lit (.int .i64 11), .lit (.int .i64 1), .lit (.int .i64 0), .lit (.int .i64 1)], .agg [.lit (.int .i64 5), .lit (.int .i64 12), .lit (.int .i64 1), .lit (.int .i64 0), .lit (.int .i64 1)], .agg [.lit (.int .i64 6), .lit (.int .i64 13), .lit (.int .i64 0), .lit (.int .i64 0), .lit (.int .i64 0)], .agg [.lit (.int .i64 6), .lit (.int .i64 14), .lit (.int .i64 0), .lit (.int .i64 0), .lit (.int .i64 0)]]

/-- 'annalistlaw12.HistChecks': WHATEVER THE INPUT: true; the input reads as it did. -/
def histChecksSpec : ChangeSpec := { name := "histChecks", fn := fun _ => fun
  | [d1, d2] => { results := [.lit (.bool true)], args := [d1, d2] }
  | _ => none }
def histChecksRow : OpenClaim := { program := "ytpjnmokofdldmaadoor", sum := "6717445b72526191a081b53ccb599ec0617f17927be6dfbe67f5f0d4c265d0a1", func := "annalist/annalistlaw12.HistChecks", spec := "histChecks", inPlace := ["slices.overlaps[annalist/api.Op]"], unfollowed := true, recurses := true, named := ["annalist/op.rules"], apart := false, laid := [("annalist/op.rules", laid_annalist_op_rules)] }
def HistChecksSaid : Prop := histChecksRow.holds Tryd.pinned (OpenSpec.ofChange histChecksSpec)

/-- ITS FALSE NEIGHBOUR: 'it returns false'. Refute it at one input. -/
def histChecksWrong : ChangeSpec := { name := "histChecks", fn := fun _ => fun
  | [d1, d2] => { results := [.lit (.bool false)], args := [d1, d2] }
  | _ => none }
def HistChecksWrongFalsely : Prop := histChecksRow.holds Tryd.pinned (OpenSpec.ofChange histChecksWrong)

/-- 'annalistlaw12.HistSound': WHATEVER THE INPUT: true; the input reads as it did. -/
def histSoundSpec : ChangeSpec := { name := "histSound", fn := fun _ => fun
  | [d] => { results := [.lit (.bool true)], args := [d] }
  | _ => none }
def histSoundRow : OpenClaim := { program := "ytpjnmokofdldmaadoor", sum := "6717445b72526191a081b53ccb599ec0617f17927be6dfbe67f5f0d4c265d0a1", func := "annalist/annalistlaw12.HistSound", spec := "histSound", inPlace := ["slices.overlaps[annalist/api.Op]"], unfollowed := true, recurses := true, named := ["annalist/op.rules"], apart := false, laid := [("annalist/op.rules", laid_annalist_op_rules)] }
def HistSoundSaid : Prop := histSoundRow.holds Tryd.pinned (OpenSpec.ofChange histSoundSpec)

/-- ITS FALSE NEIGHBOUR: 'it returns false'. Refute it at one input. -/
def histSoundWrong : ChangeSpec := { name := "histSound", fn := fun _ => fun
  | [d] => { results := [.lit (.bool false)], args := [d] }
  | _ => none }
def HistSoundWrongFalsely : Prop := histSoundRow.holds Tryd.pinned (OpenSpec.ofChange histSoundWrong)

/-- 'annalistlaw12.HistBack': WHATEVER THE INPUT: true; the input reads as it did. -/
def histBackSpec : ChangeSpec := { name := "histBack", fn := fun _ => fun
  | [d1, d2] => { results := [.lit (.bool true)], args := [d1, d2] }
  | _ => none }
def histBackRow : OpenClaim := { program := "ytpjnmokofdldmaadoor", sum := "6717445b72526191a081b53ccb599ec0617f17927be6dfbe67f5f0d4c265d0a1", func := "annalist/annalistlaw12.HistBack", spec := "histBack", inPlace := ["slices.overlaps[annalist/api.Op]"], unfollowed := true, recurses := true, named := ["annalist/op.rules"], apart := false, laid := [("annalist/op.rules", laid_annalist_op_rules)] }
def HistBackSaid : Prop := histBackRow.holds Tryd.pinned (OpenSpec.ofChange histBackSpec)

/-- ITS FALSE NEIGHBOUR: 'it returns false'. Refute it at one input. -/
def histBackWrong : ChangeSpec := { name := "histBack", fn := fun _ => fun
  | [d1, d2] => { results := [.lit (.bool false)], args := [d1, d2] }
  | _ => none }
def HistBackWrongFalsely : Prop := histBackRow.holds Tryd.pinned (OpenSpec.ofChange histBackWrong)

/-- 'annalistlaw12.HistTwo': WHATEVER THE INPUT: true; the input reads as it did. -/
def histTwoSpec : ChangeSpec := { name := "histTwo", fn := fun _ => fun
  | [d1, d2, d3] => { results := [.lit (.bool true)], args := [d1, d2, d3] }
  | _ => none }
def histTwoRow : OpenClaim := { program := "ytpjnmokofdldmaadoor", sum := "6717445b72526191a081b53ccb599ec0617f17927be6dfbe67f5f0d4c265d0a1", func := "annalist/annalistlaw12.HistTwo", spec := "histTwo", inPlace := ["slices.overlaps[annalist/api.Op]"], unfollowed := true, recurses := true, named := ["annalist/op.rules"], apart := false, laid := [("annalist/op.rules", laid_annalist_op_rules)] }
def HistTwoSaid : Prop := histTwoRow.holds Tryd.pinned (OpenSpec.ofChange histTwoSpec)

/-- ITS FALSE NEIGHBOUR: 'it returns false'. Refute it at one input. -/
def histTwoWrong : ChangeSpec := { name := "histTwo", fn := fun _ => fun
  | [d1, d2, d3] => { results := [.lit (.bool false)], args := [d1, d2, d3] }
  | _ => none }
def HistTwoWrongFalsely : Prop := histTwoRow.holds Tryd.pinned (OpenSpec.ofChange histTwoWrong)

/- THE SECOND FORM. 'bulk': how many values and letters a reading holds, each counted each time it is reached (what is shared counts as often as it is met; a slice's spare places count too). A statement '..UptoSaid' is the law's where the arguments, and the package variables that the reading takes, are together of bulk at most 1048576: NARROWER than '..Said'. Prove '..Said' where nothing that the law and all that it calls make is longer than what came in: it says more and counts as full. Else prove '..UptoSaid'. A law counts once. -/
mutual
def uptoBulk {H : Type} : DataW H → Nat
  | .lit (.string bytes) => bytes.length + 1
  | .lit _ => 1
  | .nil => 1
  | .ptr d => uptoBulk d + 1
  | .slice elems spare => uptoBulkAll elems + uptoBulkAll spare + 1
  | .agg parts => uptoBulkAll parts + 1
  | .iface _ d => uptoBulk d + 1
  | .map entries => uptoBulkEntries entries + 1
  | .held _ => 1
def uptoBulkAll {H : Type} : List (DataW H) → Nat
  | [] => 0
  | d :: r => uptoBulk d + uptoBulkAll r
def uptoBulkEntries {H : Type} : List (Lit × DataW H) → Nat
  | [] => 0
  | x :: r => uptoBulkEntry x + uptoBulkEntries r
def uptoBulkEntry {H : Type} : Lit × DataW H → Nat
  | (.string bytes, d) => bytes.length + uptoBulk d + 1
  | (_, d) => uptoBulk d + 1
 end
def uptoSmall : (H : Type) → List (DataW H) → Bool := fun _ ds => decide (uptoBulkAll ds ≤ 1048576)
def OpenSpec.upto (s : _root_.Go.ChangeSpec) : _root_.Go.OpenSpec := { _root_.Go.OpenSpec.ofChange s with cond := some uptoSmall }

/-- 'annalistlaw12.HistChecks', WHERE WHAT IT READS IS OF BULK AT MOST 1048576: true; the input reads as it did. -/
def histChecksUptoRow : OpenClaim := { program := "ytpjnmokofdldmaadoor", sum := "6717445b72526191a081b53ccb599ec0617f17927be6dfbe67f5f0d4c265d0a1", func := "annalist/annalistlaw12.HistChecks", spec := "histChecks", inPlace := ["slices.overlaps[annalist/api.Op]"], unfollowed := true, recurses := true, named := ["annalist/op.rules"], apart := false, laid := [("annalist/op.rules", laid_annalist_op_rules)], narrowed := true }
def HistChecksUptoSaid : Prop := histChecksUptoRow.holds Tryd.pinned (OpenSpec.upto histChecksSpec)

/-- 'annalistlaw12.HistSound', WHERE WHAT IT READS IS OF BULK AT MOST 1048576: true; the input reads as it did. -/
def histSoundUptoRow : OpenClaim := { program := "ytpjnmokofdldmaadoor", sum := "6717445b72526191a081b53ccb599ec0617f17927be6dfbe67f5f0d4c265d0a1", func := "annalist/annalistlaw12.HistSound", spec := "histSound", inPlace := ["slices.overlaps[annalist/api.Op]"], unfollowed := true, recurses := true, named := ["annalist/op.rules"], apart := false, laid := [("annalist/op.rules", laid_annalist_op_rules)], narrowed := true }
def HistSoundUptoSaid : Prop := histSoundUptoRow.holds Tryd.pinned (OpenSpec.upto histSoundSpec)

/-- 'annalistlaw12.HistBack', WHERE WHAT IT READS IS OF BULK AT MOST 1048576: true; the input reads as it did. -/
def histBackUptoRow : OpenClaim := { program := "ytpjnmokofdldmaadoor", sum := "6717445b72526191a081b53ccb599ec0617f17927be6dfbe67f5f0d4c265d0a1", func := "annalist/annalistlaw12.HistBack", spec := "histBack", inPlace := ["slices.overlaps[annalist/api.Op]"], unfollowed := true, recurses := true, named := ["annalist/op.rules"], apart := false, laid := [("annalist/op.rules", laid_annalist_op_rules)], narrowed := true }
def HistBackUptoSaid : Prop := histBackUptoRow.holds Tryd.pinned (OpenSpec.upto histBackSpec)

/-- 'annalistlaw12.HistTwo', WHERE WHAT IT READS IS OF BULK AT MOST 1048576: true; the input reads as it did. -/
def histTwoUptoRow : OpenClaim := { program := "ytpjnmokofdldmaadoor", sum := "6717445b72526191a081b53ccb599ec0617f17927be6dfbe67f5f0d4c265d0a1", func := "annalist/annalistlaw12.HistTwo", spec := "histTwo", inPlace := ["slices.overlaps[annalist/api.Op]"], unfollowed := true, recurses := true, named := ["annalist/op.rules"], apart := false, laid := [("annalist/op.rules", laid_annalist_op_rules)], narrowed := true }
def HistTwoUptoSaid : Prop := histTwoUptoRow.holds Tryd.pinned (OpenSpec.upto histTwoSpec)

end Rows
end Go.Proofs.YtpjnmokofdldmaaDoor
