/-
  DERIVED. GIVEN WITH THE SEED: THE CARDS: each row of YtpoolbeaipbjmaaDoorRows.lean that lists a variable, with what it lists TIED to the program's text (the seventh form; the later family's looks); each row that meets fmt, with fmt's text TOLD by the authors' own Lean function (tested against real Go, not proved from fmt's source: count such statements apart). THE CARD IS WHAT COUNTS. Prove the row's statement (the work); the ties are given (YtpoolbeaipbjmaaDoorTie.lean); close each card by the builder's one call (the guide's Derived/Test/ToyasCard.lean, 'card_holds'). Laid BY PROGRAM, IN A SANDBOX (cutbox-door.mjs). By AI agents, Wed Nov 11 2026. No macro, syntax, notation, axiom, sorry.
-/
import Derived.Test.YtpoolbeaipbjmaaDoorRows
import GoSem.ClaimSeven
namespace Go.Proofs.YtpoolbeaipbjmaaDoor
namespace Rows

/-- THE TIED CARD OF 'moatlaw2.DomainRows'. -/
def domainRowsCard : Claim7 := { stood := { row := domainRowsRow, standIns := [], harness := (true, "58359303f65e1defc581599b60f2d224c771a502169d8cd624c3a3feb5c6fadf"), looks := false }, kinds := [], alts := [], laidByText := true, laidKinds := [.data, .pinned], laidTests := true, laidLooks := .later }
def DomainRowsCardSaid : Prop := Claim7.holds Tryd.pinned (.plain (OpenSpec.ofChange domainRowsSpec)) domainRowsCard

/-- THE TIED CARD OF 'moatlaw2.DomainThree'. -/
def domainThreeCard : Claim7 := { stood := { row := domainThreeRow, standIns := [], harness := (true, "58359303f65e1defc581599b60f2d224c771a502169d8cd624c3a3feb5c6fadf"), looks := false }, kinds := [], alts := [], laidByText := true, laidKinds := [.data, .pinned], laidTests := true, laidLooks := .later }
def DomainThreeCardSaid : Prop := Claim7.holds Tryd.pinned (.plain (OpenSpec.ofChange domainThreeSpec)) domainThreeCard

/-- THE TIED CARD OF 'moatlaw2.DomainPairs'. -/
def domainPairsCard : Claim7 := { stood := { row := domainPairsRow, standIns := [], harness := (true, "58359303f65e1defc581599b60f2d224c771a502169d8cd624c3a3feb5c6fadf"), looks := false }, kinds := [], alts := [], laidByText := true, laidKinds := [.data, .pinned], laidTests := true, laidLooks := .later }
def DomainPairsCardSaid : Prop := Claim7.holds Tryd.pinned (.plain (OpenSpec.ofChange domainPairsSpec)) domainPairsCard

/-- THE SECOND FORM's CARD OF 'moatlaw2.DomainRows'. -/
def domainRowsUptoCard : Claim7 := { stood := { row := domainRowsUptoRow, standIns := [], harness := (true, "58359303f65e1defc581599b60f2d224c771a502169d8cd624c3a3feb5c6fadf"), looks := false }, kinds := [], alts := [], laidByText := true, laidKinds := [.data, .pinned], laidTests := true, laidLooks := .later }
def DomainRowsUptoCardSaid : Prop := Claim7.holds Tryd.pinned (.plain (OpenSpec.upto domainRowsSpec)) domainRowsUptoCard

/-- THE SECOND FORM's CARD OF 'moatlaw2.DomainThree'. -/
def domainThreeUptoCard : Claim7 := { stood := { row := domainThreeUptoRow, standIns := [], harness := (true, "58359303f65e1defc581599b60f2d224c771a502169d8cd624c3a3feb5c6fadf"), looks := false }, kinds := [], alts := [], laidByText := true, laidKinds := [.data, .pinned], laidTests := true, laidLooks := .later }
def DomainThreeUptoCardSaid : Prop := Claim7.holds Tryd.pinned (.plain (OpenSpec.upto domainThreeSpec)) domainThreeUptoCard

/-- THE SECOND FORM's CARD OF 'moatlaw2.DomainPairs'. -/
def domainPairsUptoCard : Claim7 := { stood := { row := domainPairsUptoRow, standIns := [], harness := (true, "58359303f65e1defc581599b60f2d224c771a502169d8cd624c3a3feb5c6fadf"), looks := false }, kinds := [], alts := [], laidByText := true, laidKinds := [.data, .pinned], laidTests := true, laidLooks := .later }
def DomainPairsUptoCardSaid : Prop := Claim7.holds Tryd.pinned (.plain (OpenSpec.upto domainPairsSpec)) domainPairsUptoCard
end Rows
end Go.Proofs.YtpoolbeaipbjmaaDoor
