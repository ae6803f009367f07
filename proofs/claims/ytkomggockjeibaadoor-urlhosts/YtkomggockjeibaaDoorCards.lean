/-
  DERIVED. GIVEN WITH THE SEED: THE CARDS: each row of YtkomggockjeibaaDoorRows.lean that lists a variable, with what it lists TIED to the program's text (the seventh form; the later family's looks); each row that meets fmt, with fmt's text TOLD by the authors' own Lean function (tested against real Go, not proved from fmt's source: count such statements apart). THE CARD IS WHAT COUNTS. Prove the row's statement (the work); the ties are given (YtkomggockjeibaaDoorTie.lean); close each card by the builder's one call (the guide's Derived/Test/ToyasCard.lean, 'card_holds'). Laid BY PROGRAM, IN A SANDBOX (cutbox-door.mjs). By AI agents, Wed Nov 11 2026. No macro, syntax, notation, axiom, sorry.
-/
import Derived.Test.YtkomggockjeibaaDoorRows
import GoSem.ClaimSeven
namespace Go.Proofs.YtkomggockjeibaaDoor
namespace Rows

/-- THE TIED CARD OF 'moatlaw1.UrlTells'. -/
def urlTellsCard : Claim7 := { stood := { row := urlTellsRow, standIns := [], harness := (true, "35742ea003b13f79c3fb79c475952f5f4365c260b5f03a936eee2e40b64413c6"), looks := false }, kinds := [], alts := [], laidByText := true, laidKinds := [.data, .data, .data, .data, .pinned], laidTests := true, laidLooks := .later }
def UrlTellsCardSaid : Prop := Claim7.holds Tryd.pinned (.plain (OpenSpec.ofChange urlTellsSpec)) urlTellsCard

/-- THE TIED CARD OF 'moatlaw1.UrlTexts'. -/
def urlTextsCard : Claim7 := { stood := { row := urlTextsRow, standIns := [], harness := (true, "35742ea003b13f79c3fb79c475952f5f4365c260b5f03a936eee2e40b64413c6"), looks := false }, kinds := [], alts := [], laidByText := true, laidKinds := [.data, .data, .data, .data, .pinned], laidTests := true, laidLooks := .later }
def UrlTextsCardSaid : Prop := Claim7.holds Tryd.pinned (.plain (OpenSpec.ofChange urlTextsSpec)) urlTextsCard

/-- THE TIED CARD OF 'moatlaw1.UrlPorts'. -/
def urlPortsCard : Claim7 := { stood := { row := urlPortsRow, standIns := [], harness := (true, "35742ea003b13f79c3fb79c475952f5f4365c260b5f03a936eee2e40b64413c6"), looks := false }, kinds := [], alts := [], laidByText := true, laidKinds := [.data, .data, .data, .data, .pinned], laidTests := true, laidLooks := .later }
def UrlPortsCardSaid : Prop := Claim7.holds Tryd.pinned (.plain (OpenSpec.ofChange urlPortsSpec)) urlPortsCard

/-- THE TIED CARD OF 'moatlaw1.UrlHosts'. -/
def urlHostsCard : Claim7 := { stood := { row := urlHostsRow, standIns := [], harness := (true, "35742ea003b13f79c3fb79c475952f5f4365c260b5f03a936eee2e40b64413c6"), looks := false }, kinds := [], alts := [], laidByText := true, laidKinds := [.data, .data, .data, .data, .pinned], laidTests := true, laidLooks := .later }
def UrlHostsCardSaid : Prop := Claim7.holds Tryd.pinned (.plain (OpenSpec.ofChange urlHostsSpec)) urlHostsCard

/-- THE TIED CARD OF 'moatlaw1.UrlPaths'. -/
def urlPathsCard : Claim7 := { stood := { row := urlPathsRow, standIns := [], harness := (true, "35742ea003b13f79c3fb79c475952f5f4365c260b5f03a936eee2e40b64413c6"), looks := false }, kinds := [], alts := [], laidByText := true, laidKinds := [.data, .data, .data, .data, .pinned], laidTests := true, laidLooks := .later }
def UrlPathsCardSaid : Prop := Claim7.holds Tryd.pinned (.plain (OpenSpec.ofChange urlPathsSpec)) urlPathsCard

/-- THE SECOND FORM's CARD OF 'moatlaw1.UrlTells'. -/
def urlTellsUptoCard : Claim7 := { stood := { row := urlTellsUptoRow, standIns := [], harness := (true, "35742ea003b13f79c3fb79c475952f5f4365c260b5f03a936eee2e40b64413c6"), looks := false }, kinds := [], alts := [], laidByText := true, laidKinds := [.data, .data, .data, .data, .pinned], laidTests := true, laidLooks := .later }
def UrlTellsUptoCardSaid : Prop := Claim7.holds Tryd.pinned (.plain (OpenSpec.upto urlTellsSpec)) urlTellsUptoCard

/-- THE SECOND FORM's CARD OF 'moatlaw1.UrlTexts'. -/
def urlTextsUptoCard : Claim7 := { stood := { row := urlTextsUptoRow, standIns := [], harness := (true, "35742ea003b13f79c3fb79c475952f5f4365c260b5f03a936eee2e40b64413c6"), looks := false }, kinds := [], alts := [], laidByText := true, laidKinds := [.data, .data, .data, .data, .pinned], laidTests := true, laidLooks := .later }
def UrlTextsUptoCardSaid : Prop := Claim7.holds Tryd.pinned (.plain (OpenSpec.upto urlTextsSpec)) urlTextsUptoCard

/-- THE SECOND FORM's CARD OF 'moatlaw1.UrlPorts'. -/
def urlPortsUptoCard : Claim7 := { stood := { row := urlPortsUptoRow, standIns := [], harness := (true, "35742ea003b13f79c3fb79c475952f5f4365c260b5f03a936eee2e40b64413c6"), looks := false }, kinds := [], alts := [], laidByText := true, laidKinds := [.data, .data, .data, .data, .pinned], laidTests := true, laidLooks := .later }
def UrlPortsUptoCardSaid : Prop := Claim7.holds Tryd.pinned (.plain (OpenSpec.upto urlPortsSpec)) urlPortsUptoCard

/-- THE SECOND FORM's CARD OF 'moatlaw1.UrlHosts'. -/
def urlHostsUptoCard : Claim7 := { stood := { row := urlHostsUptoRow, standIns := [], harness := (true, "35742ea003b13f79c3fb79c475952f5f4365c260b5f03a936eee2e40b64413c6"), looks := false }, kinds := [], alts := [], laidByText := true, laidKinds := [.data, .data, .data, .data, .pinned], laidTests := true, laidLooks := .later }
def UrlHostsUptoCardSaid : Prop := Claim7.holds Tryd.pinned (.plain (OpenSpec.upto urlHostsSpec)) urlHostsUptoCard

/-- THE SECOND FORM's CARD OF 'moatlaw1.UrlPaths'. -/
def urlPathsUptoCard : Claim7 := { stood := { row := urlPathsUptoRow, standIns := [], harness := (true, "35742ea003b13f79c3fb79c475952f5f4365c260b5f03a936eee2e40b64413c6"), looks := false }, kinds := [], alts := [], laidByText := true, laidKinds := [.data, .data, .data, .data, .pinned], laidTests := true, laidLooks := .later }
def UrlPathsUptoCardSaid : Prop := Claim7.holds Tryd.pinned (.plain (OpenSpec.upto urlPathsSpec)) urlPathsUptoCard
end Rows
end Go.Proofs.YtkomggockjeibaaDoor
