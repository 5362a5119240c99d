/-
  DERIVED. GIVEN WITH THE SEED: THE CARDS: each row of YtkidehngleglnaaGreatDoorRows.lean that lists a variable, with what it lists TIED to the program's text (the seventh form; the later family's looks); each row that meets fmt, with fmt's text TOLD by the authors' own Lean function (tested against real Go, not proved from fmt's source: count such statements apart). THE CARD IS WHAT COUNTS. Prove the row's statement (the work); the ties are given (YtkidehngleglnaaGreatDoorTie.lean); close each card by the builder's one call (the guide's Derived/Test/ToyasCard.lean, 'card_holds'). Laid BY PROGRAM, IN A SANDBOX (cutbox-door.mjs). By AI agents, Wed Nov 11 2026. No macro, syntax, notation, axiom, sorry.
-/
import Derived.Test.YtkidehngleglnaaGreatDoorRows
import GoSem.ClaimSeven
namespace Go.Proofs.YtkidehngleglnaaGreatDoor
namespace Rows

/-- THE TIED CARD OF 'keepsakelaw21.ReceiptChecks'. -/
def receiptChecksCard : Claim7 := { stood := { row := receiptChecksRow, standIns := [], harness := (true, "71ed23447fc4db1822ce91ead36f4a0883a4a18dc5ecb571500061af2bb2d7ea"), looks := false }, kinds := [], alts := [], laidByText := true, laidKinds := [.data], laidTests := true, laidLooks := .later }
def ReceiptChecksCardSaid : Prop := Claim7.holds Tryz.pinned (.plain (OpenSpec.ofChange receiptChecksSpec)) receiptChecksCard

/-- THE SECOND FORM's CARD OF 'keepsakelaw21.ReceiptChecks'. -/
def receiptChecksUptoCard : Claim7 := { stood := { row := receiptChecksUptoRow, standIns := [], harness := (true, "71ed23447fc4db1822ce91ead36f4a0883a4a18dc5ecb571500061af2bb2d7ea"), looks := false }, kinds := [], alts := [], laidByText := true, laidKinds := [.data], laidTests := true, laidLooks := .later }
def ReceiptChecksUptoCardSaid : Prop := Claim7.holds Tryz.pinned (.plain (OpenSpec.upto receiptChecksSpec)) receiptChecksUptoCard
end Rows
end Go.Proofs.YtkidehngleglnaaGreatDoor
