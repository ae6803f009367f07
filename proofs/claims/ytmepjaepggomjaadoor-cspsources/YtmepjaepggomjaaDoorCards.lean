/-
  DERIVED. GIVEN WITH THE SEED: THE CARDS: each row of YtmepjaepggomjaaDoorRows.lean that lists a variable, with what it lists TIED to the program's text (the seventh form; the later family's looks); each row that meets fmt, with fmt's text TOLD by the authors' own Lean function (tested against real Go, not proved from fmt's source: count such statements apart). THE CARD IS WHAT COUNTS. Prove the row's statement (the work); the ties are given (YtmepjaepggomjaaDoorTie.lean); close each card by the builder's one call (the guide's Derived/Test/ToyasCard.lean, 'card_holds'). Laid BY PROGRAM, IN A SANDBOX (cutbox-door.mjs). By AI agents, Wed Nov 11 2026. No macro, syntax, notation, axiom, sorry.
-/
import Derived.Test.YtmepjaepggomjaaDoorRows
import GoSem.ClaimSeven
namespace Go.Proofs.YtmepjaepggomjaaDoor
namespace Rows

/-- THE TIED CARD OF 'moatlaw6.CspSources'. -/
def cspSourcesCard : Claim7 := { stood := { row := cspSourcesRow, standIns := [], harness := (true, "44bb5014281b5c2349f13ba309bb8219aa1b459a653865e7863000466908b9d7"), looks := false }, kinds := [], alts := [], laidByText := true, laidKinds := [.data, .pinned], laidTests := true, laidLooks := .later }
def CspSourcesCardSaid : Prop := Claim7.holds Tryd.pinned (.plain (OpenSpec.ofChange cspSourcesSpec)) cspSourcesCard

/-- THE TIED CARD OF 'moatlaw6.CspHosts'. -/
def cspHostsCard : Claim7 := { stood := { row := cspHostsRow, standIns := [], harness := (true, "44bb5014281b5c2349f13ba309bb8219aa1b459a653865e7863000466908b9d7"), looks := false }, kinds := [], alts := [], laidByText := true, laidKinds := [.data, .pinned], laidTests := true, laidLooks := .later }
def CspHostsCardSaid : Prop := Claim7.holds Tryd.pinned (.plain (OpenSpec.ofChange cspHostsSpec)) cspHostsCard

/-- THE SECOND FORM's CARD OF 'moatlaw6.CspSources'. -/
def cspSourcesUptoCard : Claim7 := { stood := { row := cspSourcesUptoRow, standIns := [], harness := (true, "44bb5014281b5c2349f13ba309bb8219aa1b459a653865e7863000466908b9d7"), looks := false }, kinds := [], alts := [], laidByText := true, laidKinds := [.data, .pinned], laidTests := true, laidLooks := .later }
def CspSourcesUptoCardSaid : Prop := Claim7.holds Tryd.pinned (.plain (OpenSpec.upto cspSourcesSpec)) cspSourcesUptoCard

/-- THE SECOND FORM's CARD OF 'moatlaw6.CspHosts'. -/
def cspHostsUptoCard : Claim7 := { stood := { row := cspHostsUptoRow, standIns := [], harness := (true, "44bb5014281b5c2349f13ba309bb8219aa1b459a653865e7863000466908b9d7"), looks := false }, kinds := [], alts := [], laidByText := true, laidKinds := [.data, .pinned], laidTests := true, laidLooks := .later }
def CspHostsUptoCardSaid : Prop := Claim7.holds Tryd.pinned (.plain (OpenSpec.upto cspHostsSpec)) cspHostsUptoCard
end Rows
end Go.Proofs.YtmepjaepggomjaaDoor
