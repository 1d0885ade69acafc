/-
  No cell of these rows narrows 'for every input' (looked for: loops, veiled, ifaces, maps, wideKeys, modest, calm, conditions, laid).
  DERIVED. THE GIVEN ROWS OF THIS SEAT. 5 by the template 'for every input the law returns true; each argument reads behind the call as it read before'; 0 by the template 'total and deterministic' (their statements: YtppjmmdiglnkfaaTotals.lean).
  GIVEN WITH THE SEED: the statements are not yours to turn. If you find one false, say at which input.
  Laid BY PROGRAM, IN A SANDBOX (cutbox-rows.mjs): the forced cells as the released guide's own fill.sh prints them over the translation 9fcd6bd04882ff69… (all of the seat's roots in one cut). By AI agents, Wed Nov 11 2026. No macro, syntax, notation, axiom, sorry.
-/
import Derived.Test.YtppjmmdiglnkfaaChecked
import GoSem.Claim
import GoSem.ClaimJoined
import GoSem.ClaimMapViews
import Derived.JoinedTies
import Derived.KernelRfl
namespace Go.Proofs.Ytppjmmdiglnkfaa
/- THE CELL 'sum', in the pinned program and in every row, IS THE sha256 OF THE DUMP (.gsa) THAT YtppjmmdiglnkfaaProg.lean LOADS. Nothing in Lean hashes anything: it is a label: what it is worth is what the hold of that sum in a sandbox is worth. -/
noncomputable def Try.pinned : Pinned := { name := "ytppjmmdiglnkfaa", sum := "9fcd6bd04882ff69fb0f0d1f1f1607ae13e9a5d868860be6e69faf51d4750063", checked := Try.checked }
namespace Rows
def none {H : Type} : Left H := { results := [], args := [] }

/-- 'annalistlaw16.OrderFound': WHATEVER THE INPUT: true; the input reads as it did. -/
def orderFoundSpec : ChangeSpec := { name := "orderFound", fn := fun _ => fun
  | [d] => { results := [.lit (.bool true)], args := [d] }
  | _ => none }
def orderFoundRow : OpenClaim := { program := "ytppjmmdiglnkfaa", sum := "9fcd6bd04882ff69fb0f0d1f1f1607ae13e9a5d868860be6e69faf51d4750063", func := "annalist/annalistlaw16.OrderFound", spec := "orderFound", inPlace := ["internal/abi.NoEscape", "slices.overlaps[int]"], unfollowed := true, recurses := true, plainKeys := false, apart := false }
def OrderFoundSaid : Prop := orderFoundRow.holds Try.pinned (OpenSpec.ofChange orderFoundSpec)

/-- ITS FALSE NEIGHBOUR: 'it returns false'. Refute it at one input. -/
def orderFoundWrong : ChangeSpec := { name := "orderFound", fn := fun _ => fun
  | [d] => { results := [.lit (.bool false)], args := [d] }
  | _ => none }
def OrderFoundWrongFalsely : Prop := orderFoundRow.holds Try.pinned (OpenSpec.ofChange orderFoundWrong)

/-- 'annalistlaw16.OrderBudget': WHATEVER THE INPUT: true; the input reads as it did. -/
def orderBudgetSpec : ChangeSpec := { name := "orderBudget", fn := fun _ => fun
  | [d1, d2] => { results := [.lit (.bool true)], args := [d1, d2] }
  | _ => none }
def orderBudgetRow : OpenClaim := { program := "ytppjmmdiglnkfaa", sum := "9fcd6bd04882ff69fb0f0d1f1f1607ae13e9a5d868860be6e69faf51d4750063", func := "annalist/annalistlaw16.OrderBudget", spec := "orderBudget", inPlace := ["internal/abi.NoEscape", "slices.overlaps[int]"], unfollowed := true, recurses := true, plainKeys := false, apart := false }
def OrderBudgetSaid : Prop := orderBudgetRow.holds Try.pinned (OpenSpec.ofChange orderBudgetSpec)

/-- ITS FALSE NEIGHBOUR: 'it returns false'. Refute it at one input. -/
def orderBudgetWrong : ChangeSpec := { name := "orderBudget", fn := fun _ => fun
  | [d1, d2] => { results := [.lit (.bool false)], args := [d1, d2] }
  | _ => none }
def OrderBudgetWrongFalsely : Prop := orderBudgetRow.holds Try.pinned (OpenSpec.ofChange orderBudgetWrong)

/-- 'annalistlaw16.OrderMany': WHATEVER THE INPUT: true; the input reads as it did. -/
def orderManySpec : ChangeSpec := { name := "orderMany", fn := fun _ => fun
  | [d1, d2] => { results := [.lit (.bool true)], args := [d1, d2] }
  | _ => none }
def orderManyRow : OpenClaim := { program := "ytppjmmdiglnkfaa", sum := "9fcd6bd04882ff69fb0f0d1f1f1607ae13e9a5d868860be6e69faf51d4750063", func := "annalist/annalistlaw16.OrderMany", spec := "orderMany", inPlace := ["internal/abi.NoEscape", "slices.overlaps[int]"], unfollowed := true, recurses := true, plainKeys := false, apart := false }
def OrderManySaid : Prop := orderManyRow.holds Try.pinned (OpenSpec.ofChange orderManySpec)

/-- ITS FALSE NEIGHBOUR: 'it returns false'. Refute it at one input. -/
def orderManyWrong : ChangeSpec := { name := "orderMany", fn := fun _ => fun
  | [d1, d2] => { results := [.lit (.bool false)], args := [d1, d2] }
  | _ => none }
def OrderManyWrongFalsely : Prop := orderManyRow.holds Try.pinned (OpenSpec.ofChange orderManyWrong)

/-- 'annalistlaw15.LinSearches': WHATEVER THE INPUT: true; the input reads as it did. -/
def linSearchesSpec : ChangeSpec := { name := "linSearches", fn := fun _ => fun
  | [d1, d2, d3] => { results := [.lit (.bool true)], args := [d1, d2, d3] }
  | _ => none }
def linSearchesRow : OpenClaim := { program := "ytppjmmdiglnkfaa", sum := "9fcd6bd04882ff69fb0f0d1f1f1607ae13e9a5d868860be6e69faf51d4750063", func := "annalist/annalistlaw15.LinSearches", spec := "linSearches", inPlace := ["internal/abi.NoEscape", "slices.overlaps[int]"], recurses := true, plainKeys := false, apart := false }
def LinSearchesSaid : Prop := linSearchesRow.holds Try.pinned (OpenSpec.ofChange linSearchesSpec)

/-- ITS FALSE NEIGHBOUR: 'it returns false'. Refute it at one input. -/
def linSearchesWrong : ChangeSpec := { name := "linSearches", fn := fun _ => fun
  | [d1, d2, d3] => { results := [.lit (.bool false)], args := [d1, d2, d3] }
  | _ => none }
def LinSearchesWrongFalsely : Prop := linSearchesRow.holds Try.pinned (OpenSpec.ofChange linSearchesWrong)

/-- 'annalistlaw15.LinChains': WHATEVER THE INPUT: true; the input reads as it did. -/
def linChainsSpec : ChangeSpec := { name := "linChains", fn := fun _ => fun
  | [d] => { results := [.lit (.bool true)], args := [d] }
  | _ => none }
def linChainsRow : OpenClaim := { program := "ytppjmmdiglnkfaa", sum := "9fcd6bd04882ff69fb0f0d1f1f1607ae13e9a5d868860be6e69faf51d4750063", func := "annalist/annalistlaw15.LinChains", spec := "linChains", inPlace := ["internal/abi.NoEscape", "slices.overlaps[int]"], recurses := true, plainKeys := false, apart := false }
def LinChainsSaid : Prop := linChainsRow.holds Try.pinned (OpenSpec.ofChange linChainsSpec)

/-- ITS FALSE NEIGHBOUR: 'it returns false'. Refute it at one input. -/
def linChainsWrong : ChangeSpec := { name := "linChains", fn := fun _ => fun
  | [d] => { results := [.lit (.bool false)], args := [d] }
  | _ => none }
def LinChainsWrongFalsely : Prop := linChainsRow.holds Try.pinned (OpenSpec.ofChange linChainsWrong)

/- THE SECOND FORM. 'bulk': how many values and letters a reading holds, each counted each time it is reached (what is shared counts as often as it is met; a slice's spare places count too). A statement '..UptoSaid' is the law's where the arguments, and the package variables that the reading takes, are together of bulk at most 1048576: NARROWER than '..Said'. Prove '..Said' where nothing that the law and all that it calls make is longer than what came in: it says more and counts as full. Else prove '..UptoSaid'. A law counts once. -/
mutual
def uptoBulk {H : Type} : DataW H → Nat
  | .lit (.string bytes) => bytes.length + 1
  | .lit _ => 1
  | .nil => 1
  | .ptr d => uptoBulk d + 1
  | .slice elems spare => uptoBulkAll elems + uptoBulkAll spare + 1
  | .agg parts => uptoBulkAll parts + 1
  | .iface _ d => uptoBulk d + 1
  | .map entries => uptoBulkEntries entries + 1
  | .held _ => 1
def uptoBulkAll {H : Type} : List (DataW H) → Nat
  | [] => 0
  | d :: r => uptoBulk d + uptoBulkAll r
def uptoBulkEntries {H : Type} : List (Lit × DataW H) → Nat
  | [] => 0
  | x :: r => uptoBulkEntry x + uptoBulkEntries r
def uptoBulkEntry {H : Type} : Lit × DataW H → Nat
  | (.string bytes, d) => bytes.length + uptoBulk d + 1
  | (_, d) => uptoBulk d + 1
 end
def uptoSmall : (H : Type) → List (DataW H) → Bool := fun _ ds => decide (uptoBulkAll ds ≤ 1048576)
def OpenSpec.upto (s : _root_.Go.ChangeSpec) : _root_.Go.OpenSpec := { _root_.Go.OpenSpec.ofChange s with cond := some uptoSmall }

/-- 'annalistlaw16.OrderFound', WHERE WHAT IT READS IS OF BULK AT MOST 1048576: true; the input reads as it did. -/
def orderFoundUptoRow : OpenClaim := { program := "ytppjmmdiglnkfaa", sum := "9fcd6bd04882ff69fb0f0d1f1f1607ae13e9a5d868860be6e69faf51d4750063", func := "annalist/annalistlaw16.OrderFound", spec := "orderFound", inPlace := ["internal/abi.NoEscape", "slices.overlaps[int]"], unfollowed := true, recurses := true, plainKeys := false, apart := false, narrowed := true }
def OrderFoundUptoSaid : Prop := orderFoundUptoRow.holds Try.pinned (OpenSpec.upto orderFoundSpec)

/-- 'annalistlaw16.OrderBudget', WHERE WHAT IT READS IS OF BULK AT MOST 1048576: true; the input reads as it did. -/
def orderBudgetUptoRow : OpenClaim := { program := "ytppjmmdiglnkfaa", sum := "9fcd6bd04882ff69fb0f0d1f1f1607ae13e9a5d868860be6e69faf51d4750063", func := "annalist/annalistlaw16.OrderBudget", spec := "orderBudget", inPlace := ["internal/abi.NoEscape", "slices.overlaps[int]"], unfollowed := true, recurses := true, plainKeys := false, apart := false, narrowed := true }
def OrderBudgetUptoSaid : Prop := orderBudgetUptoRow.holds Try.pinned (OpenSpec.upto orderBudgetSpec)

/-- 'annalistlaw16.OrderMany', WHERE WHAT IT READS IS OF BULK AT MOST 1048576: true; the input reads as it did. -/
def orderManyUptoRow : OpenClaim := { program := "ytppjmmdiglnkfaa", sum := "9fcd6bd04882ff69fb0f0d1f1f1607ae13e9a5d868860be6e69faf51d4750063", func := "annalist/annalistlaw16.OrderMany", spec := "orderMany", inPlace := ["internal/abi.NoEscape", "slices.overlaps[int]"], unfollowed := true, recurses := true, plainKeys := false, apart := false, narrowed := true }
def OrderManyUptoSaid : Prop := orderManyUptoRow.holds Try.pinned (OpenSpec.upto orderManySpec)

/-- 'annalistlaw15.LinSearches', WHERE WHAT IT READS IS OF BULK AT MOST 1048576: true; the input reads as it did. -/
def linSearchesUptoRow : OpenClaim := { program := "ytppjmmdiglnkfaa", sum := "9fcd6bd04882ff69fb0f0d1f1f1607ae13e9a5d868860be6e69faf51d4750063", func := "annalist/annalistlaw15.LinSearches", spec := "linSearches", inPlace := ["internal/abi.NoEscape", "slices.overlaps[int]"], recurses := true, plainKeys := false, apart := false, narrowed := true }
def LinSearchesUptoSaid : Prop := linSearchesUptoRow.holds Try.pinned (OpenSpec.upto linSearchesSpec)

/-- 'annalistlaw15.LinChains', WHERE WHAT IT READS IS OF BULK AT MOST 1048576: true; the input reads as it did. -/
def linChainsUptoRow : OpenClaim := { program := "ytppjmmdiglnkfaa", sum := "9fcd6bd04882ff69fb0f0d1f1f1607ae13e9a5d868860be6e69faf51d4750063", func := "annalist/annalistlaw15.LinChains", spec := "linChains", inPlace := ["internal/abi.NoEscape", "slices.overlaps[int]"], recurses := true, plainKeys := false, apart := false, narrowed := true }
def LinChainsUptoSaid : Prop := linChainsUptoRow.holds Try.pinned (OpenSpec.upto linChainsSpec)

end Rows
end Go.Proofs.Ytppjmmdiglnkfaa
