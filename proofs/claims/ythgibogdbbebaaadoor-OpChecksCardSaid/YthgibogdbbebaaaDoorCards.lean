/-
  DERIVED. GIVEN WITH THE SEED: THE CARDS: each row of YthgibogdbbebaaaDoorRows.lean that lists a variable, with what it lists TIED to the program's text (the seventh form; the later family's looks); each row that meets fmt, with fmt's text TOLD by the authors' own Lean function (tested against real Go, not proved from fmt's source: count such statements apart). THE CARD IS WHAT COUNTS. Prove the row's statement (the work); the ties are given (YthgibogdbbebaaaDoorTie.lean); close each card by the builder's one call (the guide's Derived/Test/ToyasCard.lean, 'card_holds'). Laid BY PROGRAM, IN A SANDBOX (cutbox-door.mjs). By AI agents, Wed Nov 11 2026. No macro, syntax, notation, axiom, sorry.
-/
import Derived.Test.YthgibogdbbebaaaDoorRows
import GoSem.ClaimSeven
namespace Go.Proofs.YthgibogdbbebaaaDoor
namespace Rows

/-- THE TIED CARD OF 'annalistlaw10.OpFits'. -/
def opFitsCard : Claim7 := { stood := { row := opFitsRow, standIns := [], harness := (true, "789efda2ba04360bd6c8032dc9ae155bd49ea0175a54b08a774e742a8e13e291"), looks := false }, kinds := [], alts := [], laidByText := true, laidKinds := [.data], laidTests := true, laidLooks := .later }
def OpFitsCardSaid : Prop := Claim7.holds Tryd.pinned (.plain (OpenSpec.ofChange opFitsSpec)) opFitsCard

/-- THE TIED CARD OF 'annalistlaw10.OpChecks'. -/
def opChecksCard : Claim7 := { stood := { row := opChecksRow, standIns := [], harness := (true, "789efda2ba04360bd6c8032dc9ae155bd49ea0175a54b08a774e742a8e13e291"), looks := false }, kinds := [], alts := [], laidByText := true, laidKinds := [.data], laidTests := true, laidLooks := .later }
def OpChecksCardSaid : Prop := Claim7.holds Tryd.pinned (.plain (OpenSpec.ofChange opChecksSpec)) opChecksCard

/-- THE TIED CARD OF 'annalistlaw10.OpCodes'. -/
def opCodesCard : Claim7 := { stood := { row := opCodesRow, standIns := [], harness := (true, "789efda2ba04360bd6c8032dc9ae155bd49ea0175a54b08a774e742a8e13e291"), looks := false }, kinds := [], alts := [], laidByText := true, laidKinds := [.data], laidTests := true, laidLooks := .later }
def OpCodesCardSaid : Prop := Claim7.holds Tryd.pinned (.plain (OpenSpec.ofChange opCodesSpec)) opCodesCard

/-- THE TIED CARD OF 'annalistlaw10.OpBack'. -/
def opBackCard : Claim7 := { stood := { row := opBackRow, standIns := [], harness := (true, "789efda2ba04360bd6c8032dc9ae155bd49ea0175a54b08a774e742a8e13e291"), looks := false }, kinds := [], alts := [], laidByText := true, laidKinds := [.data], laidTests := true, laidLooks := .later }
def OpBackCardSaid : Prop := Claim7.holds Tryd.pinned (.plain (OpenSpec.ofChange opBackSpec)) opBackCard

/-- THE TIED CARD OF 'annalistlaw10.OpTimes'. -/
def opTimesCard : Claim7 := { stood := { row := opTimesRow, standIns := [], harness := (true, "789efda2ba04360bd6c8032dc9ae155bd49ea0175a54b08a774e742a8e13e291"), looks := false }, kinds := [], alts := [], laidByText := true, laidKinds := [.data], laidTests := true, laidLooks := .later }
def OpTimesCardSaid : Prop := Claim7.holds Tryd.pinned (.plain (OpenSpec.ofChange opTimesSpec)) opTimesCard

/-- THE TIED CARD OF 'annalistlaw10.OpOrders'. -/
def opOrdersCard : Claim7 := { stood := { row := opOrdersRow, standIns := [], harness := (true, "789efda2ba04360bd6c8032dc9ae155bd49ea0175a54b08a774e742a8e13e291"), looks := false }, kinds := [], alts := [], laidByText := true, laidKinds := [.data], laidTests := true, laidLooks := .later }
def OpOrdersCardSaid : Prop := Claim7.holds Tryd.pinned (.plain (OpenSpec.ofChange opOrdersSpec)) opOrdersCard

/-- THE SECOND FORM's CARD OF 'annalistlaw10.OpFits'. -/
def opFitsUptoCard : Claim7 := { stood := { row := opFitsUptoRow, standIns := [], harness := (true, "789efda2ba04360bd6c8032dc9ae155bd49ea0175a54b08a774e742a8e13e291"), looks := false }, kinds := [], alts := [], laidByText := true, laidKinds := [.data], laidTests := true, laidLooks := .later }
def OpFitsUptoCardSaid : Prop := Claim7.holds Tryd.pinned (.plain (OpenSpec.upto opFitsSpec)) opFitsUptoCard

/-- THE SECOND FORM's CARD OF 'annalistlaw10.OpChecks'. -/
def opChecksUptoCard : Claim7 := { stood := { row := opChecksUptoRow, standIns := [], harness := (true, "789efda2ba04360bd6c8032dc9ae155bd49ea0175a54b08a774e742a8e13e291"), looks := false }, kinds := [], alts := [], laidByText := true, laidKinds := [.data], laidTests := true, laidLooks := .later }
def OpChecksUptoCardSaid : Prop := Claim7.holds Tryd.pinned (.plain (OpenSpec.upto opChecksSpec)) opChecksUptoCard

/-- THE SECOND FORM's CARD OF 'annalistlaw10.OpCodes'. -/
def opCodesUptoCard : Claim7 := { stood := { row := opCodesUptoRow, standIns := [], harness := (true, "789efda2ba04360bd6c8032dc9ae155bd49ea0175a54b08a774e742a8e13e291"), looks := false }, kinds := [], alts := [], laidByText := true, laidKinds := [.data], laidTests := true, laidLooks := .later }
def OpCodesUptoCardSaid : Prop := Claim7.holds Tryd.pinned (.plain (OpenSpec.upto opCodesSpec)) opCodesUptoCard

/-- THE SECOND FORM's CARD OF 'annalistlaw10.OpBack'. -/
def opBackUptoCard : Claim7 := { stood := { row := opBackUptoRow, standIns := [], harness := (true, "789efda2ba04360bd6c8032dc9ae155bd49ea0175a54b08a774e742a8e13e291"), looks := false }, kinds := [], alts := [], laidByText := true, laidKinds := [.data], laidTests := true, laidLooks := .later }
def OpBackUptoCardSaid : Prop := Claim7.holds Tryd.pinned (.plain (OpenSpec.upto opBackSpec)) opBackUptoCard

/-- THE SECOND FORM's CARD OF 'annalistlaw10.OpTimes'. -/
def opTimesUptoCard : Claim7 := { stood := { row := opTimesUptoRow, standIns := [], harness := (true, "789efda2ba04360bd6c8032dc9ae155bd49ea0175a54b08a774e742a8e13e291"), looks := false }, kinds := [], alts := [], laidByText := true, laidKinds := [.data], laidTests := true, laidLooks := .later }
def OpTimesUptoCardSaid : Prop := Claim7.holds Tryd.pinned (.plain (OpenSpec.upto opTimesSpec)) opTimesUptoCard

/-- THE SECOND FORM's CARD OF 'annalistlaw10.OpOrders'. -/
def opOrdersUptoCard : Claim7 := { stood := { row := opOrdersUptoRow, standIns := [], harness := (true, "789efda2ba04360bd6c8032dc9ae155bd49ea0175a54b08a774e742a8e13e291"), looks := false }, kinds := [], alts := [], laidByText := true, laidKinds := [.data], laidTests := true, laidLooks := .later }
def OpOrdersUptoCardSaid : Prop := Claim7.holds Tryd.pinned (.plain (OpenSpec.upto opOrdersSpec)) opOrdersUptoCard
end Rows
end Go.Proofs.YthgibogdbbebaaaDoor
