/-
  DERIVED. GIVEN WITH THE SEED: THE CARDS: each row of YtoilcieineejiaaGreatDoorRows.lean that lists a variable, with what it lists TIED to the program's text (the seventh form; the later family's looks); each row that meets fmt, with fmt's text TOLD by the authors' own Lean function (tested against real Go, not proved from fmt's source: count such statements apart). THE CARD IS WHAT COUNTS. Prove the row's statement (the work); the ties are given (YtoilcieineejiaaGreatDoorTie.lean); close each card by the builder's one call (the guide's Derived/Test/ToyasCard.lean, 'card_holds'). Laid BY PROGRAM, IN A SANDBOX (cutbox-door.mjs). By AI agents, Wed Nov 11 2026. No macro, syntax, notation, axiom, sorry.
-/
import Derived.Test.YtoilcieineejiaaGreatDoorRows
import GoSem.ClaimSeven
namespace Go.Proofs.YtoilcieineejiaaGreatDoor
namespace Rows

/-- THE TIED CARD OF 'keepsakelaw25.JournalWhole'. -/
def journalWholeCard : Claim7 := { stood := { row := journalWholeRow, standIns := [], harness := (true, "0e40719f58c00427f141b69d784fe1c1c10d51e7ed08ef98b4b1b091cfc3f518"), looks := false }, kinds := [], alts := [], laidByText := true, laidKinds := [.data, .data, .data], laidTests := true, laidLooks := .later }
def JournalWholeCardSaid : Prop := Claim7.holds Tryz.pinned (.plain (OpenSpec.ofChange journalWholeSpec)) journalWholeCard

/-- THE TIED CARD OF 'keepsakelaw25.JournalWiped'. -/
def journalWipedCard : Claim7 := { stood := { row := journalWipedRow, standIns := [], harness := (true, "0e40719f58c00427f141b69d784fe1c1c10d51e7ed08ef98b4b1b091cfc3f518"), looks := false }, kinds := [], alts := [], laidByText := true, laidKinds := [.data, .data, .data], laidTests := true, laidLooks := .later }
def JournalWipedCardSaid : Prop := Claim7.holds Tryz.pinned (.plain (OpenSpec.ofChange journalWipedSpec)) journalWipedCard

/-- THE TIED CARD OF 'keepsakelaw25.JournalNil'. -/
def journalNilCard : Claim7 := { stood := { row := journalNilRow, standIns := [], harness := (true, "0e40719f58c00427f141b69d784fe1c1c10d51e7ed08ef98b4b1b091cfc3f518"), looks := false }, kinds := [], alts := [], laidByText := true, laidKinds := [.data, .data, .data], laidTests := true, laidLooks := .later }
def JournalNilCardSaid : Prop := Claim7.holds Tryz.pinned (.plain (OpenSpec.ofChange journalNilSpec)) journalNilCard

/-- THE SECOND FORM's CARD OF 'keepsakelaw25.JournalWhole'. -/
def journalWholeUptoCard : Claim7 := { stood := { row := journalWholeUptoRow, standIns := [], harness := (true, "0e40719f58c00427f141b69d784fe1c1c10d51e7ed08ef98b4b1b091cfc3f518"), looks := false }, kinds := [], alts := [], laidByText := true, laidKinds := [.data, .data, .data], laidTests := true, laidLooks := .later }
def JournalWholeUptoCardSaid : Prop := Claim7.holds Tryz.pinned (.plain (OpenSpec.upto journalWholeSpec)) journalWholeUptoCard

/-- THE SECOND FORM's CARD OF 'keepsakelaw25.JournalWiped'. -/
def journalWipedUptoCard : Claim7 := { stood := { row := journalWipedUptoRow, standIns := [], harness := (true, "0e40719f58c00427f141b69d784fe1c1c10d51e7ed08ef98b4b1b091cfc3f518"), looks := false }, kinds := [], alts := [], laidByText := true, laidKinds := [.data, .data, .data], laidTests := true, laidLooks := .later }
def JournalWipedUptoCardSaid : Prop := Claim7.holds Tryz.pinned (.plain (OpenSpec.upto journalWipedSpec)) journalWipedUptoCard

/-- THE SECOND FORM's CARD OF 'keepsakelaw25.JournalNil'. -/
def journalNilUptoCard : Claim7 := { stood := { row := journalNilUptoRow, standIns := [], harness := (true, "0e40719f58c00427f141b69d784fe1c1c10d51e7ed08ef98b4b1b091cfc3f518"), looks := false }, kinds := [], alts := [], laidByText := true, laidKinds := [.data, .data, .data], laidTests := true, laidLooks := .later }
def JournalNilUptoCardSaid : Prop := Claim7.holds Tryz.pinned (.plain (OpenSpec.upto journalNilSpec)) journalNilUptoCard
end Rows
end Go.Proofs.YtoilcieineejiaaGreatDoor
