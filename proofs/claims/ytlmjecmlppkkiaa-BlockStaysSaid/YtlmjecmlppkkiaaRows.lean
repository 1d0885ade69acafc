/-
  No cell of these rows narrows 'for every input' (looked for: loops, veiled, ifaces, maps, wideKeys, modest, calm, conditions, laid).
  DERIVED. THE GIVEN ROWS OF THIS SEAT. 6 by the template 'for every input the law returns true; each argument reads behind the call as it read before'; 0 by the template 'total and deterministic' (their statements: YtlmjecmlppkkiaaTotals.lean).
  GIVEN WITH THE SEED: the statements are not yours to turn. If you find one false, say at which input.
  Laid BY PROGRAM, IN A SANDBOX (cutbox-rows.mjs): the forced cells as the released guide's own fill.sh prints them over the translation 3fb988e18279a54d… (all of the seat's roots in one cut). By AI agents, Wed Nov 11 2026. No macro, syntax, notation, axiom, sorry.
-/
import Derived.Test.YtlmjecmlppkkiaaChecked
import GoSem.Claim
import GoSem.ClaimJoined
import GoSem.ClaimMapViews
import Derived.JoinedTies
import Derived.KernelRfl
namespace Go.Proofs.Ytlmjecmlppkkiaa
/- THE CELL 'sum', in the pinned program and in every row, IS THE sha256 OF THE DUMP (.gsa) THAT YtlmjecmlppkkiaaProg.lean LOADS. Nothing in Lean hashes anything: it is a label: what it is worth is what the hold of that sum in a sandbox is worth. -/
noncomputable def Try.pinned : Pinned := { name := "ytlmjecmlppkkiaa", sum := "3fb988e18279a54df66dc05cf28f39aefe570e29f0fa72587e7e9902e71bd155", checked := Try.checked }
namespace Rows
def none {H : Type} : Left H := { results := [], args := [] }

/-- 'annalistlaw02.BlockPlays': WHATEVER THE INPUT: true; the input reads as it did. -/
def blockPlaysSpec : ChangeSpec := { name := "blockPlays", fn := fun _ => fun
  | [d1, d2] => { results := [.lit (.bool true)], args := [d1, d2] }
  | _ => none }
def blockPlaysRow : OpenClaim := { program := "ytlmjecmlppkkiaa", sum := "3fb988e18279a54df66dc05cf28f39aefe570e29f0fa72587e7e9902e71bd155", func := "annalist/annalistlaw02.BlockPlays", spec := "blockPlays", apart := false }
def BlockPlaysSaid : Prop := blockPlaysRow.holds Try.pinned (OpenSpec.ofChange blockPlaysSpec)

/-- ITS FALSE NEIGHBOUR: 'it returns false'. Refute it at one input. -/
def blockPlaysWrong : ChangeSpec := { name := "blockPlays", fn := fun _ => fun
  | [d1, d2] => { results := [.lit (.bool false)], args := [d1, d2] }
  | _ => none }
def BlockPlaysWrongFalsely : Prop := blockPlaysRow.holds Try.pinned (OpenSpec.ofChange blockPlaysWrong)

/-- 'annalistlaw02.BlockLast': WHATEVER THE INPUT: true; the input reads as it did. -/
def blockLastSpec : ChangeSpec := { name := "blockLast", fn := fun _ => fun
  | [d] => { results := [.lit (.bool true)], args := [d] }
  | _ => none }
def blockLastRow : OpenClaim := { program := "ytlmjecmlppkkiaa", sum := "3fb988e18279a54df66dc05cf28f39aefe570e29f0fa72587e7e9902e71bd155", func := "annalist/annalistlaw02.BlockLast", spec := "blockLast", apart := false }
def BlockLastSaid : Prop := blockLastRow.holds Try.pinned (OpenSpec.ofChange blockLastSpec)

/-- ITS FALSE NEIGHBOUR: 'it returns false'. Refute it at one input. -/
def blockLastWrong : ChangeSpec := { name := "blockLast", fn := fun _ => fun
  | [d] => { results := [.lit (.bool false)], args := [d] }
  | _ => none }
def BlockLastWrongFalsely : Prop := blockLastRow.holds Try.pinned (OpenSpec.ofChange blockLastWrong)

/-- 'annalistlaw02.BlockStays': WHATEVER THE INPUT: true; the input reads as it did. -/
def blockStaysSpec : ChangeSpec := { name := "blockStays", fn := fun _ => fun
  | [d1, d2, d3, d4] => { results := [.lit (.bool true)], args := [d1, d2, d3, d4] }
  | _ => none }
def blockStaysRow : OpenClaim := { program := "ytlmjecmlppkkiaa", sum := "3fb988e18279a54df66dc05cf28f39aefe570e29f0fa72587e7e9902e71bd155", func := "annalist/annalistlaw02.BlockStays", spec := "blockStays", apart := false }
def BlockStaysSaid : Prop := blockStaysRow.holds Try.pinned (OpenSpec.ofChange blockStaysSpec)

/-- ITS FALSE NEIGHBOUR: 'it returns false'. Refute it at one input. -/
def blockStaysWrong : ChangeSpec := { name := "blockStays", fn := fun _ => fun
  | [d1, d2, d3, d4] => { results := [.lit (.bool false)], args := [d1, d2, d3, d4] }
  | _ => none }
def BlockStaysWrongFalsely : Prop := blockStaysRow.holds Try.pinned (OpenSpec.ofChange blockStaysWrong)

/-- 'annalistlaw02.BlockTears': WHATEVER THE INPUT: true; the input reads as it did. -/
def blockTearsSpec : ChangeSpec := { name := "blockTears", fn := fun _ => fun
  | [d1, d2, d3] => { results := [.lit (.bool true)], args := [d1, d2, d3] }
  | _ => none }
def blockTearsRow : OpenClaim := { program := "ytlmjecmlppkkiaa", sum := "3fb988e18279a54df66dc05cf28f39aefe570e29f0fa72587e7e9902e71bd155", func := "annalist/annalistlaw02.BlockTears", spec := "blockTears", apart := false }
def BlockTearsSaid : Prop := blockTearsRow.holds Try.pinned (OpenSpec.ofChange blockTearsSpec)

/-- ITS FALSE NEIGHBOUR: 'it returns false'. Refute it at one input. -/
def blockTearsWrong : ChangeSpec := { name := "blockTears", fn := fun _ => fun
  | [d1, d2, d3] => { results := [.lit (.bool false)], args := [d1, d2, d3] }
  | _ => none }
def BlockTearsWrongFalsely : Prop := blockTearsRow.holds Try.pinned (OpenSpec.ofChange blockTearsWrong)

/-- 'annalistlaw02.BlockLimits': WHATEVER THE INPUT: true; the input reads as it did. -/
def blockLimitsSpec : ChangeSpec := { name := "blockLimits", fn := fun _ => fun
  | [d1, d2] => { results := [.lit (.bool true)], args := [d1, d2] }
  | _ => none }
def blockLimitsRow : OpenClaim := { program := "ytlmjecmlppkkiaa", sum := "3fb988e18279a54df66dc05cf28f39aefe570e29f0fa72587e7e9902e71bd155", func := "annalist/annalistlaw02.BlockLimits", spec := "blockLimits", apart := false }
def BlockLimitsSaid : Prop := blockLimitsRow.holds Try.pinned (OpenSpec.ofChange blockLimitsSpec)

/-- ITS FALSE NEIGHBOUR: 'it returns false'. Refute it at one input. -/
def blockLimitsWrong : ChangeSpec := { name := "blockLimits", fn := fun _ => fun
  | [d1, d2] => { results := [.lit (.bool false)], args := [d1, d2] }
  | _ => none }
def BlockLimitsWrongFalsely : Prop := blockLimitsRow.holds Try.pinned (OpenSpec.ofChange blockLimitsWrong)

/-- 'annalistlaw02.BlockNobody': WHATEVER THE INPUT: true; the input reads as it did. -/
def blockNobodySpec : ChangeSpec := { name := "blockNobody", fn := fun _ => fun
  | [d] => { results := [.lit (.bool true)], args := [d] }
  | _ => none }
def blockNobodyRow : OpenClaim := { program := "ytlmjecmlppkkiaa", sum := "3fb988e18279a54df66dc05cf28f39aefe570e29f0fa72587e7e9902e71bd155", func := "annalist/annalistlaw02.BlockNobody", spec := "blockNobody", apart := false }
def BlockNobodySaid : Prop := blockNobodyRow.holds Try.pinned (OpenSpec.ofChange blockNobodySpec)

/-- ITS FALSE NEIGHBOUR: 'it returns false'. Refute it at one input. -/
def blockNobodyWrong : ChangeSpec := { name := "blockNobody", fn := fun _ => fun
  | [d] => { results := [.lit (.bool false)], args := [d] }
  | _ => none }
def BlockNobodyWrongFalsely : Prop := blockNobodyRow.holds Try.pinned (OpenSpec.ofChange blockNobodyWrong)

/- THE SECOND FORM. 'bulk': how many values and letters a reading holds, each counted each time it is reached (what is shared counts as often as it is met; a slice's spare places count too). A statement '..UptoSaid' is the law's where the arguments, and the package variables that the reading takes, are together of bulk at most 1048576: NARROWER than '..Said'. Prove '..Said' where nothing that the law and all that it calls make is longer than what came in: it says more and counts as full. Else prove '..UptoSaid'. A law counts once. -/
mutual
def uptoBulk {H : Type} : DataW H → Nat
  | .lit (.string bytes) => bytes.length + 1
  | .lit _ => 1
  | .nil => 1
  | .ptr d => uptoBulk d + 1
  | .slice elems spare => uptoBulkAll elems + uptoBulkAll spare + 1
  | .agg parts => uptoBulkAll parts + 1
  | .iface _ d => uptoBulk d + 1
  | .map entries => uptoBulkEntries entries + 1
  | .held _ => 1
def uptoBulkAll {H : Type} : List (DataW H) → Nat
  | [] => 0
  | d :: r => uptoBulk d + uptoBulkAll r
def uptoBulkEntries {H : Type} : List (Lit × DataW H) → Nat
  | [] => 0
  | x :: r => uptoBulkEntry x + uptoBulkEntries r
def uptoBulkEntry {H : Type} : Lit × DataW H → Nat
  | (.string bytes, d) => bytes.length + uptoBulk d + 1
  | (_, d) => uptoBulk d + 1
 end
def uptoSmall : (H : Type) → List (DataW H) → Bool := fun _ ds => decide (uptoBulkAll ds ≤ 1048576)
def OpenSpec.upto (s : _root_.Go.ChangeSpec) : _root_.Go.OpenSpec := { _root_.Go.OpenSpec.ofChange s with cond := some uptoSmall }

/-- 'annalistlaw02.BlockPlays', WHERE WHAT IT READS IS OF BULK AT MOST 1048576: true; the input reads as it did. -/
def blockPlaysUptoRow : OpenClaim := { program := "ytlmjecmlppkkiaa", sum := "3fb988e18279a54df66dc05cf28f39aefe570e29f0fa72587e7e9902e71bd155", func := "annalist/annalistlaw02.BlockPlays", spec := "blockPlays", apart := false, narrowed := true }
def BlockPlaysUptoSaid : Prop := blockPlaysUptoRow.holds Try.pinned (OpenSpec.upto blockPlaysSpec)

/-- 'annalistlaw02.BlockLast', WHERE WHAT IT READS IS OF BULK AT MOST 1048576: true; the input reads as it did. -/
def blockLastUptoRow : OpenClaim := { program := "ytlmjecmlppkkiaa", sum := "3fb988e18279a54df66dc05cf28f39aefe570e29f0fa72587e7e9902e71bd155", func := "annalist/annalistlaw02.BlockLast", spec := "blockLast", apart := false, narrowed := true }
def BlockLastUptoSaid : Prop := blockLastUptoRow.holds Try.pinned (OpenSpec.upto blockLastSpec)

/-- 'annalistlaw02.BlockStays', WHERE WHAT IT READS IS OF BULK AT MOST 1048576: true; the input reads as it did. -/
def blockStaysUptoRow : OpenClaim := { program := "ytlmjecmlppkkiaa", sum := "3fb988e18279a54df66dc05cf28f39aefe570e29f0fa72587e7e9902e71bd155", func := "annalist/annalistlaw02.BlockStays", spec := "blockStays", apart := false, narrowed := true }
def BlockStaysUptoSaid : Prop := blockStaysUptoRow.holds Try.pinned (OpenSpec.upto blockStaysSpec)

/-- 'annalistlaw02.BlockTears', WHERE WHAT IT READS IS OF BULK AT MOST 1048576: true; the input reads as it did. -/
def blockTearsUptoRow : OpenClaim := { program := "ytlmjecmlppkkiaa", sum := "3fb988e18279a54df66dc05cf28f39aefe570e29f0fa72587e7e9902e71bd155", func := "annalist/annalistlaw02.BlockTears", spec := "blockTears", apart := false, narrowed := true }
def BlockTearsUptoSaid : Prop := blockTearsUptoRow.holds Try.pinned (OpenSpec.upto blockTearsSpec)

/-- 'annalistlaw02.BlockLimits', WHERE WHAT IT READS IS OF BULK AT MOST 1048576: true; the input reads as it did. -/
def blockLimitsUptoRow : OpenClaim := { program := "ytlmjecmlppkkiaa", sum := "3fb988e18279a54df66dc05cf28f39aefe570e29f0fa72587e7e9902e71bd155", func := "annalist/annalistlaw02.BlockLimits", spec := "blockLimits", apart := false, narrowed := true }
def BlockLimitsUptoSaid : Prop := blockLimitsUptoRow.holds Try.pinned (OpenSpec.upto blockLimitsSpec)

/-- 'annalistlaw02.BlockNobody', WHERE WHAT IT READS IS OF BULK AT MOST 1048576: true; the input reads as it did. -/
def blockNobodyUptoRow : OpenClaim := { program := "ytlmjecmlppkkiaa", sum := "3fb988e18279a54df66dc05cf28f39aefe570e29f0fa72587e7e9902e71bd155", func := "annalist/annalistlaw02.BlockNobody", spec := "blockNobody", apart := false, narrowed := true }
def BlockNobodyUptoSaid : Prop := blockNobodyUptoRow.holds Try.pinned (OpenSpec.upto blockNobodySpec)

end Rows
end Go.Proofs.Ytlmjecmlppkkiaa
