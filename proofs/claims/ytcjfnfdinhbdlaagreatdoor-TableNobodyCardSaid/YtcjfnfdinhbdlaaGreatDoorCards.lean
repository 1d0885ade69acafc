/-
  DERIVED. GIVEN WITH THE SEED: THE CARDS: each row of YtcjfnfdinhbdlaaGreatDoorRows.lean that lists a variable, with what it lists TIED to the program's text (the seventh form; the later family's looks); each row that meets fmt, with fmt's text TOLD by the authors' own Lean function (tested against real Go, not proved from fmt's source: count such statements apart). THE CARD IS WHAT COUNTS. Prove the row's statement (the work); the ties are given (YtcjfnfdinhbdlaaGreatDoorTie.lean); close each card by the builder's one call (the guide's Derived/Test/ToyasCard.lean, 'card_holds'). Laid BY PROGRAM, IN A SANDBOX (cutbox-door.mjs). By AI agents, Wed Nov 11 2026. No macro, syntax, notation, axiom, sorry.
-/
import Derived.Test.YtcjfnfdinhbdlaaGreatDoorRows
import GoSem.ClaimSeven
namespace Go.Proofs.YtcjfnfdinhbdlaaGreatDoor
namespace Rows

/-- THE TIED CARD OF 'annalistlaw13.TablePlays'. -/
def tablePlaysCard : Claim7 := { stood := { row := tablePlaysRow, standIns := [], harness := (true, "466c510f52e0fa40ce1d33f0dd3fd64f7b3bdaa27860127cba0341a54001a6be"), looks := false }, kinds := [], alts := [], laidByText := true, laidKinds := [.data], laidTests := true, laidLooks := .later }
def TablePlaysCardSaid : Prop := Claim7.holds Tryz.pinned (.plain (OpenSpec.ofChange tablePlaysSpec)) tablePlaysCard

/-- THE TIED CARD OF 'annalistlaw13.TableFinds'. -/
def tableFindsCard : Claim7 := { stood := { row := tableFindsRow, standIns := [], harness := (true, "466c510f52e0fa40ce1d33f0dd3fd64f7b3bdaa27860127cba0341a54001a6be"), looks := false }, kinds := [], alts := [], laidByText := true, laidKinds := [.data], laidTests := true, laidLooks := .later }
def TableFindsCardSaid : Prop := Claim7.holds Tryz.pinned (.plain (OpenSpec.ofChange tableFindsSpec)) tableFindsCard

/-- THE TIED CARD OF 'annalistlaw13.TableRanges'. -/
def tableRangesCard : Claim7 := { stood := { row := tableRangesRow, standIns := [], harness := (true, "466c510f52e0fa40ce1d33f0dd3fd64f7b3bdaa27860127cba0341a54001a6be"), looks := false }, kinds := [], alts := [], laidByText := true, laidKinds := [.data], laidTests := true, laidLooks := .later }
def TableRangesCardSaid : Prop := Claim7.holds Tryz.pinned (.plain (OpenSpec.ofChange tableRangesSpec)) tableRangesCard

/-- THE TIED CARD OF 'annalistlaw13.TableWays'. -/
def tableWaysCard : Claim7 := { stood := { row := tableWaysRow, standIns := [], harness := (true, "466c510f52e0fa40ce1d33f0dd3fd64f7b3bdaa27860127cba0341a54001a6be"), looks := false }, kinds := [], alts := [], laidByText := true, laidKinds := [.data], laidTests := true, laidLooks := .later }
def TableWaysCardSaid : Prop := Claim7.holds Tryz.pinned (.plain (OpenSpec.ofChange tableWaysSpec)) tableWaysCard

/-- THE TIED CARD OF 'annalistlaw13.TableSound'. -/
def tableSoundCard : Claim7 := { stood := { row := tableSoundRow, standIns := [], harness := (true, "466c510f52e0fa40ce1d33f0dd3fd64f7b3bdaa27860127cba0341a54001a6be"), looks := false }, kinds := [], alts := [], laidByText := true, laidKinds := [.data], laidTests := true, laidLooks := .later }
def TableSoundCardSaid : Prop := Claim7.holds Tryz.pinned (.plain (OpenSpec.ofChange tableSoundSpec)) tableSoundCard

/-- THE TIED CARD OF 'annalistlaw13.TableTroubles'. -/
def tableTroublesCard : Claim7 := { stood := { row := tableTroublesRow, standIns := [], harness := (true, "466c510f52e0fa40ce1d33f0dd3fd64f7b3bdaa27860127cba0341a54001a6be"), looks := false }, kinds := [], alts := [], laidByText := true, laidKinds := [.data], laidTests := true, laidLooks := .later }
def TableTroublesCardSaid : Prop := Claim7.holds Tryz.pinned (.plain (OpenSpec.ofChange tableTroublesSpec)) tableTroublesCard

/-- THE TIED CARD OF 'annalistlaw13.TableNobody'. -/
def tableNobodyCard : Claim7 := { stood := { row := tableNobodyRow, standIns := [], harness := (true, "466c510f52e0fa40ce1d33f0dd3fd64f7b3bdaa27860127cba0341a54001a6be"), looks := false }, kinds := [], alts := [], laidByText := true, laidKinds := [.data], laidTests := true, laidLooks := .later }
def TableNobodyCardSaid : Prop := Claim7.holds Tryz.pinned (.plain (OpenSpec.ofChange tableNobodySpec)) tableNobodyCard

/-- THE SECOND FORM's CARD OF 'annalistlaw13.TablePlays'. -/
def tablePlaysUptoCard : Claim7 := { stood := { row := tablePlaysUptoRow, standIns := [], harness := (true, "466c510f52e0fa40ce1d33f0dd3fd64f7b3bdaa27860127cba0341a54001a6be"), looks := false }, kinds := [], alts := [], laidByText := true, laidKinds := [.data], laidTests := true, laidLooks := .later }
def TablePlaysUptoCardSaid : Prop := Claim7.holds Tryz.pinned (.plain (OpenSpec.upto tablePlaysSpec)) tablePlaysUptoCard

/-- THE SECOND FORM's CARD OF 'annalistlaw13.TableFinds'. -/
def tableFindsUptoCard : Claim7 := { stood := { row := tableFindsUptoRow, standIns := [], harness := (true, "466c510f52e0fa40ce1d33f0dd3fd64f7b3bdaa27860127cba0341a54001a6be"), looks := false }, kinds := [], alts := [], laidByText := true, laidKinds := [.data], laidTests := true, laidLooks := .later }
def TableFindsUptoCardSaid : Prop := Claim7.holds Tryz.pinned (.plain (OpenSpec.upto tableFindsSpec)) tableFindsUptoCard

/-- THE SECOND FORM's CARD OF 'annalistlaw13.TableRanges'. -/
def tableRangesUptoCard : Claim7 := { stood := { row := tableRangesUptoRow, standIns := [], harness := (true, "466c510f52e0fa40ce1d33f0dd3fd64f7b3bdaa27860127cba0341a54001a6be"), looks := false }, kinds := [], alts := [], laidByText := true, laidKinds := [.data], laidTests := true, laidLooks := .later }
def TableRangesUptoCardSaid : Prop := Claim7.holds Tryz.pinned (.plain (OpenSpec.upto tableRangesSpec)) tableRangesUptoCard

/-- THE SECOND FORM's CARD OF 'annalistlaw13.TableWays'. -/
def tableWaysUptoCard : Claim7 := { stood := { row := tableWaysUptoRow, standIns := [], harness := (true, "466c510f52e0fa40ce1d33f0dd3fd64f7b3bdaa27860127cba0341a54001a6be"), looks := false }, kinds := [], alts := [], laidByText := true, laidKinds := [.data], laidTests := true, laidLooks := .later }
def TableWaysUptoCardSaid : Prop := Claim7.holds Tryz.pinned (.plain (OpenSpec.upto tableWaysSpec)) tableWaysUptoCard

/-- THE SECOND FORM's CARD OF 'annalistlaw13.TableSound'. -/
def tableSoundUptoCard : Claim7 := { stood := { row := tableSoundUptoRow, standIns := [], harness := (true, "466c510f52e0fa40ce1d33f0dd3fd64f7b3bdaa27860127cba0341a54001a6be"), looks := false }, kinds := [], alts := [], laidByText := true, laidKinds := [.data], laidTests := true, laidLooks := .later }
def TableSoundUptoCardSaid : Prop := Claim7.holds Tryz.pinned (.plain (OpenSpec.upto tableSoundSpec)) tableSoundUptoCard

/-- THE SECOND FORM's CARD OF 'annalistlaw13.TableTroubles'. -/
def tableTroublesUptoCard : Claim7 := { stood := { row := tableTroublesUptoRow, standIns := [], harness := (true, "466c510f52e0fa40ce1d33f0dd3fd64f7b3bdaa27860127cba0341a54001a6be"), looks := false }, kinds := [], alts := [], laidByText := true, laidKinds := [.data], laidTests := true, laidLooks := .later }
def TableTroublesUptoCardSaid : Prop := Claim7.holds Tryz.pinned (.plain (OpenSpec.upto tableTroublesSpec)) tableTroublesUptoCard

/-- THE SECOND FORM's CARD OF 'annalistlaw13.TableNobody'. -/
def tableNobodyUptoCard : Claim7 := { stood := { row := tableNobodyUptoRow, standIns := [], harness := (true, "466c510f52e0fa40ce1d33f0dd3fd64f7b3bdaa27860127cba0341a54001a6be"), looks := false }, kinds := [], alts := [], laidByText := true, laidKinds := [.data], laidTests := true, laidLooks := .later }
def TableNobodyUptoCardSaid : Prop := Claim7.holds Tryz.pinned (.plain (OpenSpec.upto tableNobodySpec)) tableNobodyUptoCard
end Rows
end Go.Proofs.YtcjfnfdinhbdlaaGreatDoor
