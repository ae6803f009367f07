/-
  DERIVED. GIVEN WITH THE SEED: THE CARDS: each row of YtfbalmamhcbojaaDoorRows.lean that lists a variable, with what it lists TIED to the program's text (the seventh form; the later family's looks); each row that meets fmt, with fmt's text TOLD by the authors' own Lean function (tested against real Go, not proved from fmt's source: count such statements apart). THE CARD IS WHAT COUNTS. Prove the row's statement (the work); the ties are given (YtfbalmamhcbojaaDoorTie.lean); close each card by the builder's one call (the guide's Derived/Test/ToyasCard.lean, 'card_holds'). Laid BY PROGRAM, IN A SANDBOX (cutbox-door.mjs). By AI agents, Wed Nov 11 2026. No macro, syntax, notation, axiom, sorry.
-/
import Derived.Test.YtfbalmamhcbojaaDoorRows
import GoSem.ClaimSeven
namespace Go.Proofs.YtfbalmamhcbojaaDoor
namespace Rows

/-- THE TIED CARD OF 'moatlaw7.CookieTells'. -/
def cookieTellsCard : Claim7 := { stood := { row := cookieTellsRow, standIns := [], harness := (true, "d2f8385aa48f368334480bd77b66742f483a8420eee17f087ef1943c593cf8e6"), looks := false }, kinds := [], alts := [], laidByText := true, laidKinds := [.data, .pinned], laidTests := true, laidLooks := .later }
def CookieTellsCardSaid : Prop := Claim7.holds Tryd.pinned (.plain (OpenSpec.ofChange cookieTellsSpec)) cookieTellsCard

/-- THE TIED CARD OF 'moatlaw7.CookieRounds'. -/
def cookieRoundsCard : Claim7 := { stood := { row := cookieRoundsRow, standIns := [], harness := (true, "d2f8385aa48f368334480bd77b66742f483a8420eee17f087ef1943c593cf8e6"), looks := false }, kinds := [], alts := [], laidByText := true, laidKinds := [.data, .pinned], laidTests := true, laidLooks := .later }
def CookieRoundsCardSaid : Prop := Claim7.holds Tryd.pinned (.plain (OpenSpec.ofChange cookieRoundsSpec)) cookieRoundsCard

/-- THE TIED CARD OF 'moatlaw7.CookieBad'. -/
def cookieBadCard : Claim7 := { stood := { row := cookieBadRow, standIns := [], harness := (true, "d2f8385aa48f368334480bd77b66742f483a8420eee17f087ef1943c593cf8e6"), looks := false }, kinds := [], alts := [], laidByText := true, laidKinds := [.data, .pinned], laidTests := true, laidLooks := .later }
def CookieBadCardSaid : Prop := Claim7.holds Tryd.pinned (.plain (OpenSpec.ofChange cookieBadSpec)) cookieBadCard

/-- THE SECOND FORM's CARD OF 'moatlaw7.CookieTells'. -/
def cookieTellsUptoCard : Claim7 := { stood := { row := cookieTellsUptoRow, standIns := [], harness := (true, "d2f8385aa48f368334480bd77b66742f483a8420eee17f087ef1943c593cf8e6"), looks := false }, kinds := [], alts := [], laidByText := true, laidKinds := [.data, .pinned], laidTests := true, laidLooks := .later }
def CookieTellsUptoCardSaid : Prop := Claim7.holds Tryd.pinned (.plain (OpenSpec.upto cookieTellsSpec)) cookieTellsUptoCard

/-- THE SECOND FORM's CARD OF 'moatlaw7.CookieRounds'. -/
def cookieRoundsUptoCard : Claim7 := { stood := { row := cookieRoundsUptoRow, standIns := [], harness := (true, "d2f8385aa48f368334480bd77b66742f483a8420eee17f087ef1943c593cf8e6"), looks := false }, kinds := [], alts := [], laidByText := true, laidKinds := [.data, .pinned], laidTests := true, laidLooks := .later }
def CookieRoundsUptoCardSaid : Prop := Claim7.holds Tryd.pinned (.plain (OpenSpec.upto cookieRoundsSpec)) cookieRoundsUptoCard

/-- THE SECOND FORM's CARD OF 'moatlaw7.CookieBad'. -/
def cookieBadUptoCard : Claim7 := { stood := { row := cookieBadUptoRow, standIns := [], harness := (true, "d2f8385aa48f368334480bd77b66742f483a8420eee17f087ef1943c593cf8e6"), looks := false }, kinds := [], alts := [], laidByText := true, laidKinds := [.data, .pinned], laidTests := true, laidLooks := .later }
def CookieBadUptoCardSaid : Prop := Claim7.holds Tryd.pinned (.plain (OpenSpec.upto cookieBadSpec)) cookieBadUptoCard
end Rows
end Go.Proofs.YtfbalmamhcbojaaDoor
