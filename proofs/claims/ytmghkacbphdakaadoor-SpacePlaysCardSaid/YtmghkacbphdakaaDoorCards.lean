/-
  DERIVED. GIVEN WITH THE SEED: THE CARDS: each row of YtmghkacbphdakaaDoorRows.lean that lists a variable, with what it lists TIED to the program's text (the seventh form; the later family's looks); each row that meets fmt, with fmt's text TOLD by the authors' own Lean function (tested against real Go, not proved from fmt's source: count such statements apart). THE CARD IS WHAT COUNTS. Prove the row's statement (the work); the ties are given (YtmghkacbphdakaaDoorTie.lean); close each card by the builder's one call (the guide's Derived/Test/ToyasCard.lean, 'card_holds'). Laid BY PROGRAM, IN A SANDBOX (cutbox-door.mjs). By AI agents, Wed Nov 11 2026. No macro, syntax, notation, axiom, sorry.
-/
import Derived.Test.YtmghkacbphdakaaDoorRows
import GoSem.ClaimSeven
namespace Go.Proofs.YtmghkacbphdakaaDoor
namespace Rows

/-- THE TIED CARD OF 'keepsakelaw13.SpacePlays'. -/
def spacePlaysCard : Claim7 := { stood := { row := spacePlaysRow, standIns := [], harness := (true, "fc32098d704fc59f6589563bd4f58c3ad18ed531e719dee88a02d17d647ee496"), looks := false }, kinds := [], alts := [], laidByText := true, laidKinds := [.data, .data], laidTests := true, laidLooks := .later }
def SpacePlaysCardSaid : Prop := Claim7.holds Tryd.pinned (.plain (OpenSpec.ofChange spacePlaysSpec)) spacePlaysCard

/-- THE TIED CARD OF 'keepsakelaw13.SpaceCloses'. -/
def spaceClosesCard : Claim7 := { stood := { row := spaceClosesRow, standIns := [], harness := (true, "fc32098d704fc59f6589563bd4f58c3ad18ed531e719dee88a02d17d647ee496"), looks := false }, kinds := [], alts := [], laidByText := true, laidKinds := [.data, .data], laidTests := true, laidLooks := .later }
def SpaceClosesCardSaid : Prop := Claim7.holds Tryd.pinned (.plain (OpenSpec.ofChange spaceClosesSpec)) spaceClosesCard

/-- THE TIED CARD OF 'keepsakelaw13.SpaceNil'. -/
def spaceNilCard : Claim7 := { stood := { row := spaceNilRow, standIns := [], harness := (true, "fc32098d704fc59f6589563bd4f58c3ad18ed531e719dee88a02d17d647ee496"), looks := false }, kinds := [], alts := [], laidByText := true, laidKinds := [.data, .data], laidTests := true, laidLooks := .later }
def SpaceNilCardSaid : Prop := Claim7.holds Tryd.pinned (.plain (OpenSpec.ofChange spaceNilSpec)) spaceNilCard

/-- THE SECOND FORM's CARD OF 'keepsakelaw13.SpacePlays'. -/
def spacePlaysUptoCard : Claim7 := { stood := { row := spacePlaysUptoRow, standIns := [], harness := (true, "fc32098d704fc59f6589563bd4f58c3ad18ed531e719dee88a02d17d647ee496"), looks := false }, kinds := [], alts := [], laidByText := true, laidKinds := [.data, .data], laidTests := true, laidLooks := .later }
def SpacePlaysUptoCardSaid : Prop := Claim7.holds Tryd.pinned (.plain (OpenSpec.upto spacePlaysSpec)) spacePlaysUptoCard

/-- THE SECOND FORM's CARD OF 'keepsakelaw13.SpaceCloses'. -/
def spaceClosesUptoCard : Claim7 := { stood := { row := spaceClosesUptoRow, standIns := [], harness := (true, "fc32098d704fc59f6589563bd4f58c3ad18ed531e719dee88a02d17d647ee496"), looks := false }, kinds := [], alts := [], laidByText := true, laidKinds := [.data, .data], laidTests := true, laidLooks := .later }
def SpaceClosesUptoCardSaid : Prop := Claim7.holds Tryd.pinned (.plain (OpenSpec.upto spaceClosesSpec)) spaceClosesUptoCard

/-- THE SECOND FORM's CARD OF 'keepsakelaw13.SpaceNil'. -/
def spaceNilUptoCard : Claim7 := { stood := { row := spaceNilUptoRow, standIns := [], harness := (true, "fc32098d704fc59f6589563bd4f58c3ad18ed531e719dee88a02d17d647ee496"), looks := false }, kinds := [], alts := [], laidByText := true, laidKinds := [.data, .data], laidTests := true, laidLooks := .later }
def SpaceNilUptoCardSaid : Prop := Claim7.holds Tryd.pinned (.plain (OpenSpec.upto spaceNilSpec)) spaceNilUptoCard
end Rows
end Go.Proofs.YtmghkacbphdakaaDoor
