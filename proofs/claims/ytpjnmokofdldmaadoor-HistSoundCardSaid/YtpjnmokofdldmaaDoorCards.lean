/-
  DERIVED. GIVEN WITH THE SEED: THE CARDS: each row of YtpjnmokofdldmaaDoorRows.lean that lists a variable, with what it lists TIED to the program's text (the seventh form; the later family's looks); each row that meets fmt, with fmt's text TOLD by the authors' own Lean function (tested against real Go, not proved from fmt's source: count such statements apart). THE CARD IS WHAT COUNTS. Prove the row's statement (the work); the ties are given (YtpjnmokofdldmaaDoorTie.lean); close each card by the builder's one call (the guide's Derived/Test/ToyasCard.lean, 'card_holds'). Laid BY PROGRAM, IN A SANDBOX (cutbox-door.mjs). By AI agents, Wed Nov 11 2026. No macro, syntax, notation, axiom, sorry.
-/
import Derived.Test.YtpjnmokofdldmaaDoorRows
import GoSem.ClaimSeven
namespace Go.Proofs.YtpjnmokofdldmaaDoor
namespace Rows

/-- THE TIED CARD OF 'annalistlaw12.HistChecks'. -/
def histChecksCard : Claim7 := { stood := { row := histChecksRow, standIns := [], harness := (true, "8a7db4023e0dcc0d933599073270f154e1f5216ae834aeb98913babba167778b"), looks := false }, kinds := [], alts := [], laidByText := true, laidKinds := [.data], laidTests := true, laidLooks := .later }
def HistChecksCardSaid : Prop := Claim7.holds Tryd.pinned (.plain (OpenSpec.ofChange histChecksSpec)) histChecksCard

/-- THE TIED CARD OF 'annalistlaw12.HistSound'. -/
def histSoundCard : Claim7 := { stood := { row := histSoundRow, standIns := [], harness := (true, "8a7db4023e0dcc0d933599073270f154e1f5216ae834aeb98913babba167778b"), looks := false }, kinds := [], alts := [], laidByText := true, laidKinds := [.data], laidTests := true, laidLooks := .later }
def HistSoundCardSaid : Prop := Claim7.holds Tryd.pinned (.plain (OpenSpec.ofChange histSoundSpec)) histSoundCard

/-- THE TIED CARD OF 'annalistlaw12.HistBack'. -/
def histBackCard : Claim7 := { stood := { row := histBackRow, standIns := [], harness := (true, "8a7db4023e0dcc0d933599073270f154e1f5216ae834aeb98913babba167778b"), looks := false }, kinds := [], alts := [], laidByText := true, laidKinds := [.data], laidTests := true, laidLooks := .later }
def HistBackCardSaid : Prop := Claim7.holds Tryd.pinned (.plain (OpenSpec.ofChange histBackSpec)) histBackCard

/-- THE TIED CARD OF 'annalistlaw12.HistTwo'. -/
def histTwoCard : Claim7 := { stood := { row := histTwoRow, standIns := [], harness := (true, "8a7db4023e0dcc0d933599073270f154e1f5216ae834aeb98913babba167778b"), looks := false }, kinds := [], alts := [], laidByText := true, laidKinds := [.data], laidTests := true, laidLooks := .later }
def HistTwoCardSaid : Prop := Claim7.holds Tryd.pinned (.plain (OpenSpec.ofChange histTwoSpec)) histTwoCard

/-- THE SECOND FORM's CARD OF 'annalistlaw12.HistChecks'. -/
def histChecksUptoCard : Claim7 := { stood := { row := histChecksUptoRow, standIns := [], harness := (true, "8a7db4023e0dcc0d933599073270f154e1f5216ae834aeb98913babba167778b"), looks := false }, kinds := [], alts := [], laidByText := true, laidKinds := [.data], laidTests := true, laidLooks := .later }
def HistChecksUptoCardSaid : Prop := Claim7.holds Tryd.pinned (.plain (OpenSpec.upto histChecksSpec)) histChecksUptoCard

/-- THE SECOND FORM's CARD OF 'annalistlaw12.HistSound'. -/
def histSoundUptoCard : Claim7 := { stood := { row := histSoundUptoRow, standIns := [], harness := (true, "8a7db4023e0dcc0d933599073270f154e1f5216ae834aeb98913babba167778b"), looks := false }, kinds := [], alts := [], laidByText := true, laidKinds := [.data], laidTests := true, laidLooks := .later }
def HistSoundUptoCardSaid : Prop := Claim7.holds Tryd.pinned (.plain (OpenSpec.upto histSoundSpec)) histSoundUptoCard

/-- THE SECOND FORM's CARD OF 'annalistlaw12.HistBack'. -/
def histBackUptoCard : Claim7 := { stood := { row := histBackUptoRow, standIns := [], harness := (true, "8a7db4023e0dcc0d933599073270f154e1f5216ae834aeb98913babba167778b"), looks := false }, kinds := [], alts := [], laidByText := true, laidKinds := [.data], laidTests := true, laidLooks := .later }
def HistBackUptoCardSaid : Prop := Claim7.holds Tryd.pinned (.plain (OpenSpec.upto histBackSpec)) histBackUptoCard

/-- THE SECOND FORM's CARD OF 'annalistlaw12.HistTwo'. -/
def histTwoUptoCard : Claim7 := { stood := { row := histTwoUptoRow, standIns := [], harness := (true, "8a7db4023e0dcc0d933599073270f154e1f5216ae834aeb98913babba167778b"), looks := false }, kinds := [], alts := [], laidByText := true, laidKinds := [.data], laidTests := true, laidLooks := .later }
def HistTwoUptoCardSaid : Prop := Claim7.holds Tryd.pinned (.plain (OpenSpec.upto histTwoSpec)) histTwoUptoCard
end Rows
end Go.Proofs.YtpjnmokofdldmaaDoor
