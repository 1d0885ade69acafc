/-
  No cell of these rows narrows 'for every input' (looked for: loops, veiled, ifaces, maps, wideKeys, modest, calm, conditions, laid).
  DERIVED. THE GIVEN ROWS OF THIS SEAT. 2 by the template 'for every input the law returns true; each argument reads behind the call as it read before'; 0 by the template 'total and deterministic' (their statements: YtcoebinljdjemaaGreatTotals.lean).
  GIVEN WITH THE SEED: the statements are not yours to turn. If you find one false, say at which input.
  Laid BY PROGRAM, IN A SANDBOX (cutbox-rows.mjs): the forced cells as the released guide's own fill.sh prints them over the translation f904062f1f0c6f9f… (all of the seat's roots in one cut). By AI agents, Wed Nov 11 2026. No macro, syntax, notation, axiom, sorry.
-/
import Derived.Test.YtcoebinljdjemaaGreatChecked
import GoSem.Claim
import GoSem.ClaimJoined
import GoSem.ClaimMapViews
import Derived.JoinedTies
import Derived.KernelRfl
namespace Go.Proofs.YtcoebinljdjemaaGreat
/- THE CELL 'sum', in the pinned program and in every row, IS THE sha256 OF THE DUMP (.gsa) THAT YtcoebinljdjemaaGreatProg.lean LOADS. Nothing in Lean hashes anything: it is a label: what it is worth is what the hold of that sum in a sandbox is worth. -/
noncomputable def Tryz.pinned : Pinned := { name := "ytcoebinljdjemaagreat", sum := "f904062f1f0c6f9fe1d26e76acc9780fa9000eeda3dcccd68bc78564cfae5222", checked := Tryz.checked }
namespace Rows
def none {H : Type} : Left H := { results := [], args := [] }

/-- 'annalistlaw07.PagerSafe': WHATEVER THE INPUT: true; the input reads as it did. -/
def pagerSafeSpec : ChangeSpec := { name := "pagerSafe", fn := fun _ => fun
  | [d1, d2] => { results := [.lit (.bool true)], args := [d1, d2] }
  | _ => none }
def pagerSafeRow : OpenClaim := { program := "ytcoebinljdjemaagreat", sum := "f904062f1f0c6f9fe1d26e76acc9780fa9000eeda3dcccd68bc78564cfae5222", func := "annalist/annalistlaw07.PagerSafe", spec := "pagerSafe", inPlace := ["internal/abi.NoEscape", "internal/bytealg.MakeNoZero"], unfollowed := true, recurses := true, apart := false }
def PagerSafeSaid : Prop := pagerSafeRow.holds Tryz.pinned (OpenSpec.ofChange pagerSafeSpec)

/-- ITS FALSE NEIGHBOUR: 'it returns false'. Refute it at one input. -/
def pagerSafeWrong : ChangeSpec := { name := "pagerSafe", fn := fun _ => fun
  | [d1, d2] => { results := [.lit (.bool false)], args := [d1, d2] }
  | _ => none }
def PagerSafeWrongFalsely : Prop := pagerSafeRow.holds Tryz.pinned (OpenSpec.ofChange pagerSafeWrong)

/-- 'annalistlaw07.PagerNobody': WHATEVER THE INPUT: true; the input reads as it did. -/
def pagerNobodySpec : ChangeSpec := { name := "pagerNobody", fn := fun _ => fun
  | [d] => { results := [.lit (.bool true)], args := [d] }
  | _ => none }
def pagerNobodyRow : OpenClaim := { program := "ytcoebinljdjemaagreat", sum := "f904062f1f0c6f9fe1d26e76acc9780fa9000eeda3dcccd68bc78564cfae5222", func := "annalist/annalistlaw07.PagerNobody", spec := "pagerNobody", inPlace := ["internal/abi.NoEscape", "internal/bytealg.MakeNoZero"], unfollowed := true, recurses := true, apart := false }
def PagerNobodySaid : Prop := pagerNobodyRow.holds Tryz.pinned (OpenSpec.ofChange pagerNobodySpec)

/-- ITS FALSE NEIGHBOUR: 'it returns false'. Refute it at one input. -/
def pagerNobodyWrong : ChangeSpec := { name := "pagerNobody", fn := fun _ => fun
  | [d] => { results := [.lit (.bool false)], args := [d] }
  | _ => none }
def PagerNobodyWrongFalsely : Prop := pagerNobodyRow.holds Tryz.pinned (OpenSpec.ofChange pagerNobodyWrong)

/- THE SECOND FORM. 'bulk': how many values and letters a reading holds, each counted each time it is reached (what is shared counts as often as it is met; a slice's spare places count too). A statement '..UptoSaid' is the law's where the arguments, and the package variables that the reading takes, are together of bulk at most 1048576: NARROWER than '..Said'. Prove '..Said' where nothing that the law and all that it calls make is longer than what came in: it says more and counts as full. Else prove '..UptoSaid'. A law counts once. -/
mutual
def uptoBulk {H : Type} : DataW H → Nat
  | .lit (.string bytes) => bytes.length + 1
  | .lit _ => 1
  | .nil => 1
  | .ptr d => uptoBulk d + 1
  | .slice elems spare => uptoBulkAll elems + uptoBulkAll spare + 1
  | .agg parts => uptoBulkAll parts + 1
  | .iface _ d => uptoBulk d + 1
  | .map entries => uptoBulkEntries entries + 1
  | .held _ => 1
def uptoBulkAll {H : Type} : List (DataW H) → Nat
  | [] => 0
  | d :: r => uptoBulk d + uptoBulkAll r
def uptoBulkEntries {H : Type} : List (Lit × DataW H) → Nat
  | [] => 0
  | x :: r => uptoBulkEntry x + uptoBulkEntries r
def uptoBulkEntry {H : Type} : Lit × DataW H → Nat
  | (.string bytes, d) => bytes.length + uptoBulk d + 1
  | (_, d) => uptoBulk d + 1
 end
def uptoSmall : (H : Type) → List (DataW H) → Bool := fun _ ds => decide (uptoBulkAll ds ≤ 1048576)
def OpenSpec.upto (s : _root_.Go.ChangeSpec) : _root_.Go.OpenSpec := { _root_.Go.OpenSpec.ofChange s with cond := some uptoSmall }

/-- 'annalistlaw07.PagerSafe', WHERE WHAT IT READS IS OF BULK AT MOST 1048576: true; the input reads as it did. -/
def pagerSafeUptoRow : OpenClaim := { program := "ytcoebinljdjemaagreat", sum := "f904062f1f0c6f9fe1d26e76acc9780fa9000eeda3dcccd68bc78564cfae5222", func := "annalist/annalistlaw07.PagerSafe", spec := "pagerSafe", inPlace := ["internal/abi.NoEscape", "internal/bytealg.MakeNoZero"], unfollowed := true, recurses := true, apart := false, narrowed := true }
def PagerSafeUptoSaid : Prop := pagerSafeUptoRow.holds Tryz.pinned (OpenSpec.upto pagerSafeSpec)

/-- 'annalistlaw07.PagerNobody', WHERE WHAT IT READS IS OF BULK AT MOST 1048576: true; the input reads as it did. -/
def pagerNobodyUptoRow : OpenClaim := { program := "ytcoebinljdjemaagreat", sum := "f904062f1f0c6f9fe1d26e76acc9780fa9000eeda3dcccd68bc78564cfae5222", func := "annalist/annalistlaw07.PagerNobody", spec := "pagerNobody", inPlace := ["internal/abi.NoEscape", "internal/bytealg.MakeNoZero"], unfollowed := true, recurses := true, apart := false, narrowed := true }
def PagerNobodyUptoSaid : Prop := pagerNobodyUptoRow.holds Tryz.pinned (OpenSpec.upto pagerNobodySpec)

end Rows
end Go.Proofs.YtcoebinljdjemaaGreat
