/-
  DERIVED. GIVEN WITH THE SEED: THE CARDS: each row of YtdnnfoelhcbmlaaDoorRows.lean that lists a variable, with what it lists TIED to the program's text (the seventh form; the later family's looks); each row that meets fmt, with fmt's text TOLD by the authors' own Lean function (tested against real Go, not proved from fmt's source: count such statements apart). THE CARD IS WHAT COUNTS. Prove the row's statement (the work); the ties are given (YtdnnfoelhcbmlaaDoorTie.lean); close each card by the builder's one call (the guide's Derived/Test/ToyasCard.lean, 'card_holds'). Laid BY PROGRAM, IN A SANDBOX (cutbox-door.mjs). By AI agents, Wed Nov 11 2026. No macro, syntax, notation, axiom, sorry.
-/
import Derived.Test.YtdnnfoelhcbmlaaDoorRows
import GoSem.ClaimSeven
namespace Go.Proofs.YtdnnfoelhcbmlaaDoor
namespace Rows

/-- THE TIED CARD OF 'keepsakelaw09.GeomTells'. -/
def geomTellsCard : Claim7 := { stood := { row := geomTellsRow, standIns := [], harness := (true, "1f9f052793983e9136a793f0f8348d535dc7094887e9e7412bbc3e51a021640f"), looks := false }, kinds := [], alts := [], laidByText := true, laidKinds := [.data, .data], laidTests := true, laidLooks := .later }
def GeomTellsCardSaid : Prop := Claim7.holds Tryd.pinned (.plain (OpenSpec.ofChange geomTellsSpec)) geomTellsCard

/-- THE TIED CARD OF 'keepsakelaw09.GeomBytes'. -/
def geomBytesCard : Claim7 := { stood := { row := geomBytesRow, standIns := [], harness := (true, "1f9f052793983e9136a793f0f8348d535dc7094887e9e7412bbc3e51a021640f"), looks := false }, kinds := [], alts := [], laidByText := true, laidKinds := [.data, .data], laidTests := true, laidLooks := .later }
def GeomBytesCardSaid : Prop := Claim7.holds Tryd.pinned (.plain (OpenSpec.ofChange geomBytesSpec)) geomBytesCard

/-- THE TIED CARD OF 'keepsakelaw09.GeomApart'. -/
def geomApartCard : Claim7 := { stood := { row := geomApartRow, standIns := [], harness := (true, "1f9f052793983e9136a793f0f8348d535dc7094887e9e7412bbc3e51a021640f"), looks := false }, kinds := [], alts := [], laidByText := true, laidKinds := [.data, .data], laidTests := true, laidLooks := .later }
def GeomApartCardSaid : Prop := Claim7.holds Tryd.pinned (.plain (OpenSpec.ofChange geomApartSpec)) geomApartCard

/-- THE TIED CARD OF 'keepsakelaw09.GeomRoom'. -/
def geomRoomCard : Claim7 := { stood := { row := geomRoomRow, standIns := [], harness := (true, "1f9f052793983e9136a793f0f8348d535dc7094887e9e7412bbc3e51a021640f"), looks := false }, kinds := [], alts := [], laidByText := true, laidKinds := [.data, .data], laidTests := true, laidLooks := .later }
def GeomRoomCardSaid : Prop := Claim7.holds Tryd.pinned (.plain (OpenSpec.ofChange geomRoomSpec)) geomRoomCard

/-- THE SECOND FORM's CARD OF 'keepsakelaw09.GeomTells'. -/
def geomTellsUptoCard : Claim7 := { stood := { row := geomTellsUptoRow, standIns := [], harness := (true, "1f9f052793983e9136a793f0f8348d535dc7094887e9e7412bbc3e51a021640f"), looks := false }, kinds := [], alts := [], laidByText := true, laidKinds := [.data, .data], laidTests := true, laidLooks := .later }
def GeomTellsUptoCardSaid : Prop := Claim7.holds Tryd.pinned (.plain (OpenSpec.upto geomTellsSpec)) geomTellsUptoCard

/-- THE SECOND FORM's CARD OF 'keepsakelaw09.GeomBytes'. -/
def geomBytesUptoCard : Claim7 := { stood := { row := geomBytesUptoRow, standIns := [], harness := (true, "1f9f052793983e9136a793f0f8348d535dc7094887e9e7412bbc3e51a021640f"), looks := false }, kinds := [], alts := [], laidByText := true, laidKinds := [.data, .data], laidTests := true, laidLooks := .later }
def GeomBytesUptoCardSaid : Prop := Claim7.holds Tryd.pinned (.plain (OpenSpec.upto geomBytesSpec)) geomBytesUptoCard

/-- THE SECOND FORM's CARD OF 'keepsakelaw09.GeomApart'. -/
def geomApartUptoCard : Claim7 := { stood := { row := geomApartUptoRow, standIns := [], harness := (true, "1f9f052793983e9136a793f0f8348d535dc7094887e9e7412bbc3e51a021640f"), looks := false }, kinds := [], alts := [], laidByText := true, laidKinds := [.data, .data], laidTests := true, laidLooks := .later }
def GeomApartUptoCardSaid : Prop := Claim7.holds Tryd.pinned (.plain (OpenSpec.upto geomApartSpec)) geomApartUptoCard

/-- THE SECOND FORM's CARD OF 'keepsakelaw09.GeomRoom'. -/
def geomRoomUptoCard : Claim7 := { stood := { row := geomRoomUptoRow, standIns := [], harness := (true, "1f9f052793983e9136a793f0f8348d535dc7094887e9e7412bbc3e51a021640f"), looks := false }, kinds := [], alts := [], laidByText := true, laidKinds := [.data, .data], laidTests := true, laidLooks := .later }
def GeomRoomUptoCardSaid : Prop := Claim7.holds Tryd.pinned (.plain (OpenSpec.upto geomRoomSpec)) geomRoomUptoCard
end Rows
end Go.Proofs.YtdnnfoelhcbmlaaDoor
