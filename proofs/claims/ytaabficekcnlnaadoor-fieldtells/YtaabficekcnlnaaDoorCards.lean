/-
  DERIVED. GIVEN WITH THE SEED: THE CARDS: each row of YtaabficekcnlnaaDoorRows.lean that lists a variable, with what it lists TIED to the program's text (the seventh form; the later family's looks); each row that meets fmt, with fmt's text TOLD by the authors' own Lean function (tested against real Go, not proved from fmt's source: count such statements apart). THE CARD IS WHAT COUNTS. Prove the row's statement (the work); the ties are given (YtaabficekcnlnaaDoorTie.lean); close each card by the builder's one call (the guide's Derived/Test/ToyasCard.lean, 'card_holds'). Laid BY PROGRAM, IN A SANDBOX (cutbox-door.mjs). By AI agents, Wed Nov 11 2026. No macro, syntax, notation, axiom, sorry.
-/
import Derived.Test.YtaabficekcnlnaaDoorRows
import GoSem.ClaimSeven
namespace Go.Proofs.YtaabficekcnlnaaDoor
namespace Rows

/-- THE TIED CARD OF 'moatlaw3.FieldTells'. -/
def fieldTellsCard : Claim7 := { stood := { row := fieldTellsRow, standIns := [], harness := (true, "eb3a6205d06b672d985541dabcaed56e2488fe99bb75ac4b7154fa207bf0d88a"), looks := false }, kinds := [], alts := [], laidByText := true, laidKinds := [.data, .pinned], laidTests := true, laidLooks := .later }
def FieldTellsCardSaid : Prop := Claim7.holds Tryd.pinned (.plain (OpenSpec.ofChange fieldTellsSpec)) fieldTellsCard

/-- THE TIED CARD OF 'moatlaw3.FieldLists'. -/
def fieldListsCard : Claim7 := { stood := { row := fieldListsRow, standIns := [], harness := (true, "eb3a6205d06b672d985541dabcaed56e2488fe99bb75ac4b7154fa207bf0d88a"), looks := false }, kinds := [], alts := [], laidByText := true, laidKinds := [.data, .pinned], laidTests := true, laidLooks := .later }
def FieldListsCardSaid : Prop := Claim7.holds Tryd.pinned (.plain (OpenSpec.ofChange fieldListsSpec)) fieldListsCard

/-- THE TIED CARD OF 'moatlaw3.FieldPairs'. -/
def fieldPairsCard : Claim7 := { stood := { row := fieldPairsRow, standIns := [], harness := (true, "eb3a6205d06b672d985541dabcaed56e2488fe99bb75ac4b7154fa207bf0d88a"), looks := false }, kinds := [], alts := [], laidByText := true, laidKinds := [.data, .pinned], laidTests := true, laidLooks := .later }
def FieldPairsCardSaid : Prop := Claim7.holds Tryd.pinned (.plain (OpenSpec.ofChange fieldPairsSpec)) fieldPairsCard

/-- THE TIED CARD OF 'moatlaw3.FieldTrims'. -/
def fieldTrimsCard : Claim7 := { stood := { row := fieldTrimsRow, standIns := [], harness := (true, "eb3a6205d06b672d985541dabcaed56e2488fe99bb75ac4b7154fa207bf0d88a"), looks := false }, kinds := [], alts := [], laidByText := true, laidKinds := [.data, .pinned], laidTests := true, laidLooks := .later }
def FieldTrimsCardSaid : Prop := Claim7.holds Tryd.pinned (.plain (OpenSpec.ofChange fieldTrimsSpec)) fieldTrimsCard

/-- THE SECOND FORM's CARD OF 'moatlaw3.FieldTells'. -/
def fieldTellsUptoCard : Claim7 := { stood := { row := fieldTellsUptoRow, standIns := [], harness := (true, "eb3a6205d06b672d985541dabcaed56e2488fe99bb75ac4b7154fa207bf0d88a"), looks := false }, kinds := [], alts := [], laidByText := true, laidKinds := [.data, .pinned], laidTests := true, laidLooks := .later }
def FieldTellsUptoCardSaid : Prop := Claim7.holds Tryd.pinned (.plain (OpenSpec.upto fieldTellsSpec)) fieldTellsUptoCard

/-- THE SECOND FORM's CARD OF 'moatlaw3.FieldLists'. -/
def fieldListsUptoCard : Claim7 := { stood := { row := fieldListsUptoRow, standIns := [], harness := (true, "eb3a6205d06b672d985541dabcaed56e2488fe99bb75ac4b7154fa207bf0d88a"), looks := false }, kinds := [], alts := [], laidByText := true, laidKinds := [.data, .pinned], laidTests := true, laidLooks := .later }
def FieldListsUptoCardSaid : Prop := Claim7.holds Tryd.pinned (.plain (OpenSpec.upto fieldListsSpec)) fieldListsUptoCard

/-- THE SECOND FORM's CARD OF 'moatlaw3.FieldPairs'. -/
def fieldPairsUptoCard : Claim7 := { stood := { row := fieldPairsUptoRow, standIns := [], harness := (true, "eb3a6205d06b672d985541dabcaed56e2488fe99bb75ac4b7154fa207bf0d88a"), looks := false }, kinds := [], alts := [], laidByText := true, laidKinds := [.data, .pinned], laidTests := true, laidLooks := .later }
def FieldPairsUptoCardSaid : Prop := Claim7.holds Tryd.pinned (.plain (OpenSpec.upto fieldPairsSpec)) fieldPairsUptoCard

/-- THE SECOND FORM's CARD OF 'moatlaw3.FieldTrims'. -/
def fieldTrimsUptoCard : Claim7 := { stood := { row := fieldTrimsUptoRow, standIns := [], harness := (true, "eb3a6205d06b672d985541dabcaed56e2488fe99bb75ac4b7154fa207bf0d88a"), looks := false }, kinds := [], alts := [], laidByText := true, laidKinds := [.data, .pinned], laidTests := true, laidLooks := .later }
def FieldTrimsUptoCardSaid : Prop := Claim7.holds Tryd.pinned (.plain (OpenSpec.upto fieldTrimsSpec)) fieldTrimsUptoCard
end Rows
end Go.Proofs.YtaabficekcnlnaaDoor
