/-
  DERIVED. GIVEN WITH THE SEED: THE CARDS: each row of YtdkcebaehdkphaaGreatDoorRows.lean that lists a variable, with what it lists TIED to the program's text (the seventh form; the later family's looks); each row that meets fmt, with fmt's text TOLD by the authors' own Lean function (tested against real Go, not proved from fmt's source: count such statements apart). THE CARD IS WHAT COUNTS. Prove the row's statement (the work); the ties are given (YtdkcebaehdkphaaGreatDoorTie.lean); close each card by the builder's one call (the guide's Derived/Test/ToyasCard.lean, 'card_holds'). Laid BY PROGRAM, IN A SANDBOX (cutbox-door.mjs). By AI agents, Wed Nov 11 2026. No macro, syntax, notation, axiom, sorry.
-/
import Derived.Test.YtdkcebaehdkphaaGreatDoorRows
import GoSem.ClaimSeven
namespace Go.Proofs.YtdkcebaehdkphaaGreatDoor
namespace Rows

/-- THE TIED CARD OF 'keepsakelaw17.SegmentPlays'. -/
def segmentPlaysCard : Claim7 := { stood := { row := segmentPlaysRow, standIns := [], harness := (true, "fa094a97c6e4415c50fb8b569295aae2dfcaae58dbf7f09d4324dd4c9fac64fc"), looks := false }, kinds := [], alts := [], laidByText := true, laidKinds := [.data], laidTests := true, laidLooks := .later }
def SegmentPlaysCardSaid : Prop := Claim7.holds Tryz.pinned (.plain (OpenSpec.ofChange segmentPlaysSpec)) segmentPlaysCard

/-- THE TIED CARD OF 'keepsakelaw17.SegmentLast'. -/
def segmentLastCard : Claim7 := { stood := { row := segmentLastRow, standIns := [], harness := (true, "fa094a97c6e4415c50fb8b569295aae2dfcaae58dbf7f09d4324dd4c9fac64fc"), looks := false }, kinds := [], alts := [], laidByText := true, laidKinds := [.data], laidTests := true, laidLooks := .later }
def SegmentLastCardSaid : Prop := Claim7.holds Tryz.pinned (.plain (OpenSpec.ofChange segmentLastSpec)) segmentLastCard

/-- THE TIED CARD OF 'keepsakelaw17.SegmentNil'. -/
def segmentNilCard : Claim7 := { stood := { row := segmentNilRow, standIns := [], harness := (true, "fa094a97c6e4415c50fb8b569295aae2dfcaae58dbf7f09d4324dd4c9fac64fc"), looks := false }, kinds := [], alts := [], laidByText := true, laidKinds := [.data], laidTests := true, laidLooks := .later }
def SegmentNilCardSaid : Prop := Claim7.holds Tryz.pinned (.plain (OpenSpec.ofChange segmentNilSpec)) segmentNilCard

/-- THE SECOND FORM's CARD OF 'keepsakelaw17.SegmentPlays'. -/
def segmentPlaysUptoCard : Claim7 := { stood := { row := segmentPlaysUptoRow, standIns := [], harness := (true, "fa094a97c6e4415c50fb8b569295aae2dfcaae58dbf7f09d4324dd4c9fac64fc"), looks := false }, kinds := [], alts := [], laidByText := true, laidKinds := [.data], laidTests := true, laidLooks := .later }
def SegmentPlaysUptoCardSaid : Prop := Claim7.holds Tryz.pinned (.plain (OpenSpec.upto segmentPlaysSpec)) segmentPlaysUptoCard

/-- THE SECOND FORM's CARD OF 'keepsakelaw17.SegmentLast'. -/
def segmentLastUptoCard : Claim7 := { stood := { row := segmentLastUptoRow, standIns := [], harness := (true, "fa094a97c6e4415c50fb8b569295aae2dfcaae58dbf7f09d4324dd4c9fac64fc"), looks := false }, kinds := [], alts := [], laidByText := true, laidKinds := [.data], laidTests := true, laidLooks := .later }
def SegmentLastUptoCardSaid : Prop := Claim7.holds Tryz.pinned (.plain (OpenSpec.upto segmentLastSpec)) segmentLastUptoCard

/-- THE SECOND FORM's CARD OF 'keepsakelaw17.SegmentNil'. -/
def segmentNilUptoCard : Claim7 := { stood := { row := segmentNilUptoRow, standIns := [], harness := (true, "fa094a97c6e4415c50fb8b569295aae2dfcaae58dbf7f09d4324dd4c9fac64fc"), looks := false }, kinds := [], alts := [], laidByText := true, laidKinds := [.data], laidTests := true, laidLooks := .later }
def SegmentNilUptoCardSaid : Prop := Claim7.holds Tryz.pinned (.plain (OpenSpec.upto segmentNilSpec)) segmentNilUptoCard
end Rows
end Go.Proofs.YtdkcebaehdkphaaGreatDoor
