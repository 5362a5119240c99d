/-
  DERIVED. GIVEN WITH THE SEED: THE CARDS: each row of YteinbhhocnjjoaaDoorRows.lean that lists a variable, with what it lists TIED to the program's text (the seventh form; the later family's looks); each row that meets fmt, with fmt's text TOLD by the authors' own Lean function (tested against real Go, not proved from fmt's source: count such statements apart). THE CARD IS WHAT COUNTS. Prove the row's statement (the work); the ties are given (YteinbhhocnjjoaaDoorTie.lean); close each card by the builder's one call (the guide's Derived/Test/ToyasCard.lean, 'card_holds'). Laid BY PROGRAM, IN A SANDBOX (cutbox-door.mjs). By AI agents, Wed Nov 11 2026. No macro, syntax, notation, axiom, sorry.
-/
import Derived.Test.YteinbhhocnjjoaaDoorRows
import GoSem.ClaimSeven
namespace Go.Proofs.YteinbhhocnjjoaaDoor
namespace Rows

/-- THE TIED CARD OF 'keepsakelaw11.SlotsPuts'. -/
def slotsPutsCard : Claim7 := { stood := { row := slotsPutsRow, standIns := [], harness := (true, "41e5a4d1733e04b3838b45d0d26a83fe237c4b10a7b160684b78444cdde6030b"), looks := false }, kinds := [], alts := [], laidByText := true, laidKinds := [.data], laidTests := true, laidLooks := .later }
def SlotsPutsCardSaid : Prop := Claim7.holds Tryd.pinned (.plain (OpenSpec.ofChange slotsPutsSpec)) slotsPutsCard

/-- THE TIED CARD OF 'keepsakelaw11.SlotsPicks'. -/
def slotsPicksCard : Claim7 := { stood := { row := slotsPicksRow, standIns := [], harness := (true, "41e5a4d1733e04b3838b45d0d26a83fe237c4b10a7b160684b78444cdde6030b"), looks := false }, kinds := [], alts := [], laidByText := true, laidKinds := [.data], laidTests := true, laidLooks := .later }
def SlotsPicksCardSaid : Prop := Claim7.holds Tryd.pinned (.plain (OpenSpec.ofChange slotsPicksSpec)) slotsPicksCard

/-- THE TIED CARD OF 'keepsakelaw11.SlotsEvolves'. -/
def slotsEvolvesCard : Claim7 := { stood := { row := slotsEvolvesRow, standIns := [], harness := (true, "41e5a4d1733e04b3838b45d0d26a83fe237c4b10a7b160684b78444cdde6030b"), looks := false }, kinds := [], alts := [], laidByText := true, laidKinds := [.data], laidTests := true, laidLooks := .later }
def SlotsEvolvesCardSaid : Prop := Claim7.holds Tryd.pinned (.plain (OpenSpec.ofChange slotsEvolvesSpec)) slotsEvolvesCard

/-- THE TIED CARD OF 'keepsakelaw11.SlotsBoth'. -/
def slotsBothCard : Claim7 := { stood := { row := slotsBothRow, standIns := [], harness := (true, "41e5a4d1733e04b3838b45d0d26a83fe237c4b10a7b160684b78444cdde6030b"), looks := false }, kinds := [], alts := [], laidByText := true, laidKinds := [.data], laidTests := true, laidLooks := .later }
def SlotsBothCardSaid : Prop := Claim7.holds Tryd.pinned (.plain (OpenSpec.ofChange slotsBothSpec)) slotsBothCard

/-- THE SECOND FORM's CARD OF 'keepsakelaw11.SlotsPuts'. -/
def slotsPutsUptoCard : Claim7 := { stood := { row := slotsPutsUptoRow, standIns := [], harness := (true, "41e5a4d1733e04b3838b45d0d26a83fe237c4b10a7b160684b78444cdde6030b"), looks := false }, kinds := [], alts := [], laidByText := true, laidKinds := [.data], laidTests := true, laidLooks := .later }
def SlotsPutsUptoCardSaid : Prop := Claim7.holds Tryd.pinned (.plain (OpenSpec.upto slotsPutsSpec)) slotsPutsUptoCard

/-- THE SECOND FORM's CARD OF 'keepsakelaw11.SlotsPicks'. -/
def slotsPicksUptoCard : Claim7 := { stood := { row := slotsPicksUptoRow, standIns := [], harness := (true, "41e5a4d1733e04b3838b45d0d26a83fe237c4b10a7b160684b78444cdde6030b"), looks := false }, kinds := [], alts := [], laidByText := true, laidKinds := [.data], laidTests := true, laidLooks := .later }
def SlotsPicksUptoCardSaid : Prop := Claim7.holds Tryd.pinned (.plain (OpenSpec.upto slotsPicksSpec)) slotsPicksUptoCard

/-- THE SECOND FORM's CARD OF 'keepsakelaw11.SlotsEvolves'. -/
def slotsEvolvesUptoCard : Claim7 := { stood := { row := slotsEvolvesUptoRow, standIns := [], harness := (true, "41e5a4d1733e04b3838b45d0d26a83fe237c4b10a7b160684b78444cdde6030b"), looks := false }, kinds := [], alts := [], laidByText := true, laidKinds := [.data], laidTests := true, laidLooks := .later }
def SlotsEvolvesUptoCardSaid : Prop := Claim7.holds Tryd.pinned (.plain (OpenSpec.upto slotsEvolvesSpec)) slotsEvolvesUptoCard

/-- THE SECOND FORM's CARD OF 'keepsakelaw11.SlotsBoth'. -/
def slotsBothUptoCard : Claim7 := { stood := { row := slotsBothUptoRow, standIns := [], harness := (true, "41e5a4d1733e04b3838b45d0d26a83fe237c4b10a7b160684b78444cdde6030b"), looks := false }, kinds := [], alts := [], laidByText := true, laidKinds := [.data], laidTests := true, laidLooks := .later }
def SlotsBothUptoCardSaid : Prop := Claim7.holds Tryd.pinned (.plain (OpenSpec.upto slotsBothSpec)) slotsBothUptoCard
end Rows
end Go.Proofs.YteinbhhocnjjoaaDoor
