/-
  DERIVED. GIVEN WITH THE SEED: THE CARDS: each row of YtlmchmhdojkokaaDoorRows.lean that lists a variable, with what it lists TIED to the program's text (the seventh form; the later family's looks); each row that meets fmt, with fmt's text TOLD by the authors' own Lean function (tested against real Go, not proved from fmt's source: count such statements apart). THE CARD IS WHAT COUNTS. Prove the row's statement (the work); the ties are given (YtlmchmhdojkokaaDoorTie.lean); close each card by the builder's one call (the guide's Derived/Test/ToyasCard.lean, 'card_holds'). Laid BY PROGRAM, IN A SANDBOX (cutbox-door.mjs). By AI agents, Wed Nov 11 2026. No macro, syntax, notation, axiom, sorry.
-/
import Derived.Test.YtlmchmhdojkokaaDoorRows
import GoSem.ClaimSeven
namespace Go.Proofs.YtlmchmhdojkokaaDoor
namespace Rows

/-- THE TIED CARD OF 'moatlaw8.JarTells'. -/
def jarTellsCard : Claim7 := { stood := { row := jarTellsRow, standIns := [], harness := (true, "665cf649917c8647f9e74c10bfadb2c9a10a771de5ca27e028c14c8e1360ad32"), looks := false }, kinds := [], alts := [], laidByText := true, laidKinds := [.data, .pinned], laidTests := true, laidLooks := .later }
def JarTellsCardSaid : Prop := Claim7.holds Tryd.pinned (.plain (OpenSpec.ofChange jarTellsSpec)) jarTellsCard

/-- THE TIED CARD OF 'moatlaw8.JarStricter'. -/
def jarStricterCard : Claim7 := { stood := { row := jarStricterRow, standIns := [], harness := (true, "665cf649917c8647f9e74c10bfadb2c9a10a771de5ca27e028c14c8e1360ad32"), looks := false }, kinds := [], alts := [], laidByText := true, laidKinds := [.data, .pinned], laidTests := true, laidLooks := .later }
def JarStricterCardSaid : Prop := Claim7.holds Tryd.pinned (.plain (OpenSpec.ofChange jarStricterSpec)) jarStricterCard

/-- THE TIED CARD OF 'moatlaw8.JarPaths'. -/
def jarPathsCard : Claim7 := { stood := { row := jarPathsRow, standIns := [], harness := (true, "665cf649917c8647f9e74c10bfadb2c9a10a771de5ca27e028c14c8e1360ad32"), looks := false }, kinds := [], alts := [], laidByText := true, laidKinds := [.data, .pinned], laidTests := true, laidLooks := .later }
def JarPathsCardSaid : Prop := Claim7.holds Tryd.pinned (.plain (OpenSpec.ofChange jarPathsSpec)) jarPathsCard

/-- THE TIED CARD OF 'moatlaw8.JarHosts'. -/
def jarHostsCard : Claim7 := { stood := { row := jarHostsRow, standIns := [], harness := (true, "665cf649917c8647f9e74c10bfadb2c9a10a771de5ca27e028c14c8e1360ad32"), looks := false }, kinds := [], alts := [], laidByText := true, laidKinds := [.data, .pinned], laidTests := true, laidLooks := .later }
def JarHostsCardSaid : Prop := Claim7.holds Tryd.pinned (.plain (OpenSpec.ofChange jarHostsSpec)) jarHostsCard

/-- THE TIED CARD OF 'moatlaw8.JarNears'. -/
def jarNearsCard : Claim7 := { stood := { row := jarNearsRow, standIns := [], harness := (true, "665cf649917c8647f9e74c10bfadb2c9a10a771de5ca27e028c14c8e1360ad32"), looks := false }, kinds := [], alts := [], laidByText := true, laidKinds := [.data, .pinned], laidTests := true, laidLooks := .later }
def JarNearsCardSaid : Prop := Claim7.holds Tryd.pinned (.plain (OpenSpec.ofChange jarNearsSpec)) jarNearsCard

/-- THE SECOND FORM's CARD OF 'moatlaw8.JarTells'. -/
def jarTellsUptoCard : Claim7 := { stood := { row := jarTellsUptoRow, standIns := [], harness := (true, "665cf649917c8647f9e74c10bfadb2c9a10a771de5ca27e028c14c8e1360ad32"), looks := false }, kinds := [], alts := [], laidByText := true, laidKinds := [.data, .pinned], laidTests := true, laidLooks := .later }
def JarTellsUptoCardSaid : Prop := Claim7.holds Tryd.pinned (.plain (OpenSpec.upto jarTellsSpec)) jarTellsUptoCard

/-- THE SECOND FORM's CARD OF 'moatlaw8.JarStricter'. -/
def jarStricterUptoCard : Claim7 := { stood := { row := jarStricterUptoRow, standIns := [], harness := (true, "665cf649917c8647f9e74c10bfadb2c9a10a771de5ca27e028c14c8e1360ad32"), looks := false }, kinds := [], alts := [], laidByText := true, laidKinds := [.data, .pinned], laidTests := true, laidLooks := .later }
def JarStricterUptoCardSaid : Prop := Claim7.holds Tryd.pinned (.plain (OpenSpec.upto jarStricterSpec)) jarStricterUptoCard

/-- THE SECOND FORM's CARD OF 'moatlaw8.JarPaths'. -/
def jarPathsUptoCard : Claim7 := { stood := { row := jarPathsUptoRow, standIns := [], harness := (true, "665cf649917c8647f9e74c10bfadb2c9a10a771de5ca27e028c14c8e1360ad32"), looks := false }, kinds := [], alts := [], laidByText := true, laidKinds := [.data, .pinned], laidTests := true, laidLooks := .later }
def JarPathsUptoCardSaid : Prop := Claim7.holds Tryd.pinned (.plain (OpenSpec.upto jarPathsSpec)) jarPathsUptoCard

/-- THE SECOND FORM's CARD OF 'moatlaw8.JarHosts'. -/
def jarHostsUptoCard : Claim7 := { stood := { row := jarHostsUptoRow, standIns := [], harness := (true, "665cf649917c8647f9e74c10bfadb2c9a10a771de5ca27e028c14c8e1360ad32"), looks := false }, kinds := [], alts := [], laidByText := true, laidKinds := [.data, .pinned], laidTests := true, laidLooks := .later }
def JarHostsUptoCardSaid : Prop := Claim7.holds Tryd.pinned (.plain (OpenSpec.upto jarHostsSpec)) jarHostsUptoCard

/-- THE SECOND FORM's CARD OF 'moatlaw8.JarNears'. -/
def jarNearsUptoCard : Claim7 := { stood := { row := jarNearsUptoRow, standIns := [], harness := (true, "665cf649917c8647f9e74c10bfadb2c9a10a771de5ca27e028c14c8e1360ad32"), looks := false }, kinds := [], alts := [], laidByText := true, laidKinds := [.data, .pinned], laidTests := true, laidLooks := .later }
def JarNearsUptoCardSaid : Prop := Claim7.holds Tryd.pinned (.plain (OpenSpec.upto jarNearsSpec)) jarNearsUptoCard
end Rows
end Go.Proofs.YtlmchmhdojkokaaDoor
