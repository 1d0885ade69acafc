/-
  No cell of these rows narrows 'for every input' (looked for: loops, veiled, ifaces, maps, wideKeys, modest, calm, conditions, laid).
  DERIVED. THE GIVEN ROWS OF THIS SEAT. 4 by the template 'for every input the law returns true; each argument reads behind the call as it read before'; 0 by the template 'total and deterministic' (their statements: YtgedlfilhpbfaaaTotals.lean).
  GIVEN WITH THE SEED: the statements are not yours to turn. If you find one false, say at which input.
  Laid BY PROGRAM, IN A SANDBOX (cutbox-rows.mjs): the forced cells as the released guide's own fill.sh prints them over the translation 99080d3035f838ca… (all of the seat's roots in one cut). By AI agents, Wed Nov 11 2026. No macro, syntax, notation, axiom, sorry.
-/
import Derived.Test.YtgedlfilhpbfaaaChecked
import GoSem.Claim
import GoSem.ClaimJoined
import GoSem.ClaimMapViews
import Derived.JoinedTies
import Derived.KernelRfl
namespace Go.Proofs.Ytgedlfilhpbfaaa
/- THE CELL 'sum', in the pinned program and in every row, IS THE sha256 OF THE DUMP (.gsa) THAT YtgedlfilhpbfaaaProg.lean LOADS. Nothing in Lean hashes anything: it is a label: what it is worth is what the hold of that sum in a sandbox is worth. -/
noncomputable def Try.pinned : Pinned := { name := "ytgedlfilhpbfaaa", sum := "99080d3035f838ca8db847909fce08e8a5fa3f9ad5df4a315e34a4428851532a", checked := Try.checked }
namespace Rows
def none {H : Type} : Left H := { results := [], args := [] }

/-- 'annalistlaw14.CutObjects': WHATEVER THE INPUT: true; the input reads as it did. -/
def cutObjectsSpec : ChangeSpec := { name := "cutObjects", fn := fun _ => fun
  | [d] => { results := [.lit (.bool true)], args := [d] }
  | _ => none }
def cutObjectsRow : OpenClaim := { program := "ytgedlfilhpbfaaa", sum := "99080d3035f838ca8db847909fce08e8a5fa3f9ad5df4a315e34a4428851532a", func := "annalist/annalistlaw14.CutObjects", spec := "cutObjects", unfollowed := true, recurses := true, apart := false }
def CutObjectsSaid : Prop := cutObjectsRow.holds Try.pinned (OpenSpec.ofChange cutObjectsSpec)

/-- ITS FALSE NEIGHBOUR: 'it returns false'. Refute it at one input. -/
def cutObjectsWrong : ChangeSpec := { name := "cutObjects", fn := fun _ => fun
  | [d] => { results := [.lit (.bool false)], args := [d] }
  | _ => none }
def CutObjectsWrongFalsely : Prop := cutObjectsRow.holds Try.pinned (OpenSpec.ofChange cutObjectsWrong)

/-- 'annalistlaw14.CutSegments': WHATEVER THE INPUT: true; the input reads as it did. -/
def cutSegmentsSpec : ChangeSpec := { name := "cutSegments", fn := fun _ => fun
  | [d] => { results := [.lit (.bool true)], args := [d] }
  | _ => none }
def cutSegmentsRow : OpenClaim := { program := "ytgedlfilhpbfaaa", sum := "99080d3035f838ca8db847909fce08e8a5fa3f9ad5df4a315e34a4428851532a", func := "annalist/annalistlaw14.CutSegments", spec := "cutSegments", unfollowed := true, recurses := true, apart := false }
def CutSegmentsSaid : Prop := cutSegmentsRow.holds Try.pinned (OpenSpec.ofChange cutSegmentsSpec)

/-- ITS FALSE NEIGHBOUR: 'it returns false'. Refute it at one input. -/
def cutSegmentsWrong : ChangeSpec := { name := "cutSegments", fn := fun _ => fun
  | [d] => { results := [.lit (.bool false)], args := [d] }
  | _ => none }
def CutSegmentsWrongFalsely : Prop := cutSegmentsRow.holds Try.pinned (OpenSpec.ofChange cutSegmentsWrong)

/-- 'annalistlaw14.CutWhole': WHATEVER THE INPUT: true; the input reads as it did. -/
def cutWholeSpec : ChangeSpec := { name := "cutWhole", fn := fun _ => fun
  | [d] => { results := [.lit (.bool true)], args := [d] }
  | _ => none }
def cutWholeRow : OpenClaim := { program := "ytgedlfilhpbfaaa", sum := "99080d3035f838ca8db847909fce08e8a5fa3f9ad5df4a315e34a4428851532a", func := "annalist/annalistlaw14.CutWhole", spec := "cutWhole", unfollowed := true, recurses := true, apart := false }
def CutWholeSaid : Prop := cutWholeRow.holds Try.pinned (OpenSpec.ofChange cutWholeSpec)

/-- ITS FALSE NEIGHBOUR: 'it returns false'. Refute it at one input. -/
def cutWholeWrong : ChangeSpec := { name := "cutWhole", fn := fun _ => fun
  | [d] => { results := [.lit (.bool false)], args := [d] }
  | _ => none }
def CutWholeWrongFalsely : Prop := cutWholeRow.holds Try.pinned (OpenSpec.ofChange cutWholeWrong)

/-- 'annalistlaw14.CutQuiet': WHATEVER THE INPUT: true; the input reads as it did. -/
def cutQuietSpec : ChangeSpec := { name := "cutQuiet", fn := fun _ => fun
  | [d] => { results := [.lit (.bool true)], args := [d] }
  | _ => none }
def cutQuietRow : OpenClaim := { program := "ytgedlfilhpbfaaa", sum := "99080d3035f838ca8db847909fce08e8a5fa3f9ad5df4a315e34a4428851532a", func := "annalist/annalistlaw14.CutQuiet", spec := "cutQuiet", unfollowed := true, recurses := true, apart := false }
def CutQuietSaid : Prop := cutQuietRow.holds Try.pinned (OpenSpec.ofChange cutQuietSpec)

/-- ITS FALSE NEIGHBOUR: 'it returns false'. Refute it at one input. -/
def cutQuietWrong : ChangeSpec := { name := "cutQuiet", fn := fun _ => fun
  | [d] => { results := [.lit (.bool false)], args := [d] }
  | _ => none }
def CutQuietWrongFalsely : Prop := cutQuietRow.holds Try.pinned (OpenSpec.ofChange cutQuietWrong)

/- THE SECOND FORM. 'bulk': how many values and letters a reading holds, each counted each time it is reached (what is shared counts as often as it is met; a slice's spare places count too). A statement '..UptoSaid' is the law's where the arguments, and the package variables that the reading takes, are together of bulk at most 1048576: NARROWER than '..Said'. Prove '..Said' where nothing that the law and all that it calls make is longer than what came in: it says more and counts as full. Else prove '..UptoSaid'. A law counts once. -/
mutual
def uptoBulk {H : Type} : DataW H → Nat
  | .lit (.string bytes) => bytes.length + 1
  | .lit _ => 1
  | .nil => 1
  | .ptr d => uptoBulk d + 1
  | .slice elems spare => uptoBulkAll elems + uptoBulkAll spare + 1
  | .agg parts => uptoBulkAll parts + 1
  | .iface _ d => uptoBulk d + 1
  | .map entries => uptoBulkEntries entries + 1
  | .held _ => 1
def uptoBulkAll {H : Type} : List (DataW H) → Nat
  | [] => 0
  | d :: r => uptoBulk d + uptoBulkAll r
def uptoBulkEntries {H : Type} : List (Lit × DataW H) → Nat
  | [] => 0
  | x :: r => uptoBulkEntry x + uptoBulkEntries r
def uptoBulkEntry {H : Type} : Lit × DataW H → Nat
  | (.string bytes, d) => bytes.length + uptoBulk d + 1
  | (_, d) => uptoBulk d + 1
 end
def uptoSmall : (H : Type) → List (DataW H) → Bool := fun _ ds => decide (uptoBulkAll ds ≤ 1048576)
def OpenSpec.upto (s : _root_.Go.ChangeSpec) : _root_.Go.OpenSpec := { _root_.Go.OpenSpec.ofChange s with cond := some uptoSmall }

/-- 'annalistlaw14.CutObjects', WHERE WHAT IT READS IS OF BULK AT MOST 1048576: true; the input reads as it did. -/
def cutObjectsUptoRow : OpenClaim := { program := "ytgedlfilhpbfaaa", sum := "99080d3035f838ca8db847909fce08e8a5fa3f9ad5df4a315e34a4428851532a", func := "annalist/annalistlaw14.CutObjects", spec := "cutObjects", unfollowed := true, recurses := true, apart := false, narrowed := true }
def CutObjectsUptoSaid : Prop := cutObjectsUptoRow.holds Try.pinned (OpenSpec.upto cutObjectsSpec)

/-- 'annalistlaw14.CutSegments', WHERE WHAT IT READS IS OF BULK AT MOST 1048576: true; the input reads as it did. -/
def cutSegmentsUptoRow : OpenClaim := { program := "ytgedlfilhpbfaaa", sum := "99080d3035f838ca8db847909fce08e8a5fa3f9ad5df4a315e34a4428851532a", func := "annalist/annalistlaw14.CutSegments", spec := "cutSegments", unfollowed := true, recurses := true, apart := false, narrowed := true }
def CutSegmentsUptoSaid : Prop := cutSegmentsUptoRow.holds Try.pinned (OpenSpec.upto cutSegmentsSpec)

/-- 'annalistlaw14.CutWhole', WHERE WHAT IT READS IS OF BULK AT MOST 1048576: true; the input reads as it did. -/
def cutWholeUptoRow : OpenClaim := { program := "ytgedlfilhpbfaaa", sum := "99080d3035f838ca8db847909fce08e8a5fa3f9ad5df4a315e34a4428851532a", func := "annalist/annalistlaw14.CutWhole", spec := "cutWhole", unfollowed := true, recurses := true, apart := false, narrowed := true }
def CutWholeUptoSaid : Prop := cutWholeUptoRow.holds Try.pinned (OpenSpec.upto cutWholeSpec)

/-- 'annalistlaw14.CutQuiet', WHERE WHAT IT READS IS OF BULK AT MOST 1048576: true; the input reads as it did. -/
def cutQuietUptoRow : OpenClaim := { program := "ytgedlfilhpbfaaa", sum := "99080d3035f838ca8db847909fce08e8a5fa3f9ad5df4a315e34a4428851532a", func := "annalist/annalistlaw14.CutQuiet", spec := "cutQuiet", unfollowed := true, recurses := true, apart := false, narrowed := true }
def CutQuietUptoSaid : Prop := cutQuietUptoRow.holds Try.pinned (OpenSpec.upto cutQuietSpec)

end Rows
end Go.Proofs.Ytgedlfilhpbfaaa
