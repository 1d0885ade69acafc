/-
  No cell of these rows narrows 'for every input' (looked for: loops, veiled, ifaces, maps, wideKeys, modest, calm, conditions, laid).
  DERIVED. THE GIVEN ROWS OF THIS SEAT. 3 by the template 'for every input the law returns true; each argument reads behind the call as it read before'; 0 by the template 'total and deterministic' (their statements: YtcoebinljdjemaaTotals.lean).
  GIVEN WITH THE SEED: the statements are not yours to turn. If you find one false, say at which input.
  Laid BY PROGRAM, IN A SANDBOX (cutbox-rows.mjs): the forced cells as the released guide's own fill.sh prints them over the translation 671f3ac3fc5c62a2… (all of the seat's roots in one cut). By AI agents, Wed Nov 11 2026. No macro, syntax, notation, axiom, sorry.
-/
import Derived.Test.YtcoebinljdjemaaChecked
import GoSem.Claim
import GoSem.ClaimJoined
import GoSem.ClaimMapViews
import Derived.JoinedTies
import Derived.KernelRfl
namespace Go.Proofs.Ytcoebinljdjemaa
/- THE CELL 'sum', in the pinned program and in every row, IS THE sha256 OF THE DUMP (.gsa) THAT YtcoebinljdjemaaProg.lean LOADS. Nothing in Lean hashes anything: it is a label: what it is worth is what the hold of that sum in a sandbox is worth. -/
noncomputable def Try.pinned : Pinned := { name := "ytcoebinljdjemaa", sum := "671f3ac3fc5c62a29ac91347ff7fc9eb1f17b636d5a09dd6c963b5ee931a0a57", checked := Try.checked }
namespace Rows
def none {H : Type} : Left H := { results := [], args := [] }

/-- 'annalistlaw07.PagerApart': WHATEVER THE INPUT: true; the input reads as it did. -/
def pagerApartSpec : ChangeSpec := { name := "pagerApart", fn := fun _ => fun
  | [d1, d2] => { results := [.lit (.bool true)], args := [d1, d2] }
  | _ => none }
def pagerApartRow : OpenClaim := { program := "ytcoebinljdjemaa", sum := "671f3ac3fc5c62a29ac91347ff7fc9eb1f17b636d5a09dd6c963b5ee931a0a57", func := "annalist/annalistlaw07.PagerApart", spec := "pagerApart", inPlace := ["internal/abi.NoEscape", "internal/bytealg.MakeNoZero"], unfollowed := true, recurses := true, apart := false }
def PagerApartSaid : Prop := pagerApartRow.holds Try.pinned (OpenSpec.ofChange pagerApartSpec)

/-- ITS FALSE NEIGHBOUR: 'it returns false'. Refute it at one input. -/
def pagerApartWrong : ChangeSpec := { name := "pagerApart", fn := fun _ => fun
  | [d1, d2] => { results := [.lit (.bool false)], args := [d1, d2] }
  | _ => none }
def PagerApartWrongFalsely : Prop := pagerApartRow.holds Try.pinned (OpenSpec.ofChange pagerApartWrong)

/-- 'annalistlaw07.PagerFull': WHATEVER THE INPUT: true; the input reads as it did. -/
def pagerFullSpec : ChangeSpec := { name := "pagerFull", fn := fun _ => fun
  | [d1, d2] => { results := [.lit (.bool true)], args := [d1, d2] }
  | _ => none }
def pagerFullRow : OpenClaim := { program := "ytcoebinljdjemaa", sum := "671f3ac3fc5c62a29ac91347ff7fc9eb1f17b636d5a09dd6c963b5ee931a0a57", func := "annalist/annalistlaw07.PagerFull", spec := "pagerFull", inPlace := ["internal/abi.NoEscape", "internal/bytealg.MakeNoZero"], unfollowed := true, recurses := true, apart := false }
def PagerFullSaid : Prop := pagerFullRow.holds Try.pinned (OpenSpec.ofChange pagerFullSpec)

/-- ITS FALSE NEIGHBOUR: 'it returns false'. Refute it at one input. -/
def pagerFullWrong : ChangeSpec := { name := "pagerFull", fn := fun _ => fun
  | [d1, d2] => { results := [.lit (.bool false)], args := [d1, d2] }
  | _ => none }
def PagerFullWrongFalsely : Prop := pagerFullRow.holds Try.pinned (OpenSpec.ofChange pagerFullWrong)

/-- 'annalistlaw07.PagerRoots': WHATEVER THE INPUT: true; the input reads as it did. -/
def pagerRootsSpec : ChangeSpec := { name := "pagerRoots", fn := fun _ => fun
  | [d1, d2, d3] => { results := [.lit (.bool true)], args := [d1, d2, d3] }
  | _ => none }
def pagerRootsRow : OpenClaim := { program := "ytcoebinljdjemaa", sum := "671f3ac3fc5c62a29ac91347ff7fc9eb1f17b636d5a09dd6c963b5ee931a0a57", func := "annalist/annalistlaw07.PagerRoots", spec := "pagerRoots", inPlace := ["internal/abi.NoEscape", "internal/bytealg.MakeNoZero"], unfollowed := true, recurses := true, apart := false }
def PagerRootsSaid : Prop := pagerRootsRow.holds Try.pinned (OpenSpec.ofChange pagerRootsSpec)

/-- ITS FALSE NEIGHBOUR: 'it returns false'. Refute it at one input. -/
def pagerRootsWrong : ChangeSpec := { name := "pagerRoots", fn := fun _ => fun
  | [d1, d2, d3] => { results := [.lit (.bool false)], args := [d1, d2, d3] }
  | _ => none }
def PagerRootsWrongFalsely : Prop := pagerRootsRow.holds Try.pinned (OpenSpec.ofChange pagerRootsWrong)

/- THE SECOND FORM. 'bulk': how many values and letters a reading holds, each counted each time it is reached (what is shared counts as often as it is met; a slice's spare places count too). A statement '..UptoSaid' is the law's where the arguments, and the package variables that the reading takes, are together of bulk at most 1048576: NARROWER than '..Said'. Prove '..Said' where nothing that the law and all that it calls make is longer than what came in: it says more and counts as full. Else prove '..UptoSaid'. A law counts once. -/
mutual
def uptoBulk {H : Type} : DataW H → Nat
  | .lit (.string bytes) => bytes.length + 1
  | .lit _ => 1
  | .nil => 1
  | .ptr d => uptoBulk d + 1
  | .slice elems spare => uptoBulkAll elems + uptoBulkAll spare + 1
  | .agg parts => uptoBulkAll parts + 1
  | .iface _ d => uptoBulk d + 1
  | .map entries => uptoBulkEntries entries + 1
  | .held _ => 1
def uptoBulkAll {H : Type} : List (DataW H) → Nat
  | [] => 0
  | d :: r => uptoBulk d + uptoBulkAll r
def uptoBulkEntries {H : Type} : List (Lit × DataW H) → Nat
  | [] => 0
  | x :: r => uptoBulkEntry x + uptoBulkEntries r
def uptoBulkEntry {H : Type} : Lit × DataW H → Nat
  | (.string bytes, d) => bytes.length + uptoBulk d + 1
  | (_, d) => uptoBulk d + 1
 end
def uptoSmall : (H : Type) → List (DataW H) → Bool := fun _ ds => decide (uptoBulkAll ds ≤ 1048576)
def OpenSpec.upto (s : _root_.Go.ChangeSpec) : _root_.Go.OpenSpec := { _root_.Go.OpenSpec.ofChange s with cond := some uptoSmall }

/-- 'annalistlaw07.PagerApart', WHERE WHAT IT READS IS OF BULK AT MOST 1048576: true; the input reads as it did. -/
def pagerApartUptoRow : OpenClaim := { program := "ytcoebinljdjemaa", sum := "671f3ac3fc5c62a29ac91347ff7fc9eb1f17b636d5a09dd6c963b5ee931a0a57", func := "annalist/annalistlaw07.PagerApart", spec := "pagerApart", inPlace := ["internal/abi.NoEscape", "internal/bytealg.MakeNoZero"], unfollowed := true, recurses := true, apart := false, narrowed := true }
def PagerApartUptoSaid : Prop := pagerApartUptoRow.holds Try.pinned (OpenSpec.upto pagerApartSpec)

/-- 'annalistlaw07.PagerFull', WHERE WHAT IT READS IS OF BULK AT MOST 1048576: true; the input reads as it did. -/
def pagerFullUptoRow : OpenClaim := { program := "ytcoebinljdjemaa", sum := "671f3ac3fc5c62a29ac91347ff7fc9eb1f17b636d5a09dd6c963b5ee931a0a57", func := "annalist/annalistlaw07.PagerFull", spec := "pagerFull", inPlace := ["internal/abi.NoEscape", "internal/bytealg.MakeNoZero"], unfollowed := true, recurses := true, apart := false, narrowed := true }
def PagerFullUptoSaid : Prop := pagerFullUptoRow.holds Try.pinned (OpenSpec.upto pagerFullSpec)

/-- 'annalistlaw07.PagerRoots', WHERE WHAT IT READS IS OF BULK AT MOST 1048576: true; the input reads as it did. -/
def pagerRootsUptoRow : OpenClaim := { program := "ytcoebinljdjemaa", sum := "671f3ac3fc5c62a29ac91347ff7fc9eb1f17b636d5a09dd6c963b5ee931a0a57", func := "annalist/annalistlaw07.PagerRoots", spec := "pagerRoots", inPlace := ["internal/abi.NoEscape", "internal/bytealg.MakeNoZero"], unfollowed := true, recurses := true, apart := false, narrowed := true }
def PagerRootsUptoSaid : Prop := pagerRootsUptoRow.holds Try.pinned (OpenSpec.upto pagerRootsSpec)

end Rows
end Go.Proofs.Ytcoebinljdjemaa
