/-
  DERIVED. GIVEN WITH THE SEED: THE CARDS: each row of YtkidehngleglnaaDoorRows.lean that lists a variable, with what it lists TIED to the program's text (the seventh form; the later family's looks); each row that meets fmt, with fmt's text TOLD by the authors' own Lean function (tested against real Go, not proved from fmt's source: count such statements apart). THE CARD IS WHAT COUNTS. Prove the row's statement (the work); the ties are given (YtkidehngleglnaaDoorTie.lean); close each card by the builder's one call (the guide's Derived/Test/ToyasCard.lean, 'card_holds'). Laid BY PROGRAM, IN A SANDBOX (cutbox-door.mjs). By AI agents, Wed Nov 11 2026. No macro, syntax, notation, axiom, sorry.
-/
import Derived.Test.YtkidehngleglnaaDoorRows
import GoSem.ClaimSeven
namespace Go.Proofs.YtkidehngleglnaaDoor
namespace Rows

/-- THE TIED CARD OF 'keepsakelaw21.ReceiptRight'. -/
def receiptRightCard : Claim7 := { stood := { row := receiptRightRow, standIns := [], harness := (true, "77b83bbfcf01b088efc08394007969a9ad75f0039e31869cf79be97edbfb4d78"), looks := false }, kinds := [], alts := [], laidByText := true, laidKinds := [.data], laidTests := true, laidLooks := .later }
def ReceiptRightCardSaid : Prop := Claim7.holds Tryd.pinned (.plain (OpenSpec.ofChange receiptRightSpec)) receiptRightCard

/-- THE TIED CARD OF 'keepsakelaw21.ReceiptSound'. -/
def receiptSoundCard : Claim7 := { stood := { row := receiptSoundRow, standIns := [], harness := (true, "77b83bbfcf01b088efc08394007969a9ad75f0039e31869cf79be97edbfb4d78"), looks := false }, kinds := [], alts := [], laidByText := true, laidKinds := [.data], laidTests := true, laidLooks := .later }
def ReceiptSoundCardSaid : Prop := Claim7.holds Tryd.pinned (.plain (OpenSpec.ofChange receiptSoundSpec)) receiptSoundCard

/-- THE SECOND FORM's CARD OF 'keepsakelaw21.ReceiptRight'. -/
def receiptRightUptoCard : Claim7 := { stood := { row := receiptRightUptoRow, standIns := [], harness := (true, "77b83bbfcf01b088efc08394007969a9ad75f0039e31869cf79be97edbfb4d78"), looks := false }, kinds := [], alts := [], laidByText := true, laidKinds := [.data], laidTests := true, laidLooks := .later }
def ReceiptRightUptoCardSaid : Prop := Claim7.holds Tryd.pinned (.plain (OpenSpec.upto receiptRightSpec)) receiptRightUptoCard

/-- THE SECOND FORM's CARD OF 'keepsakelaw21.ReceiptSound'. -/
def receiptSoundUptoCard : Claim7 := { stood := { row := receiptSoundUptoRow, standIns := [], harness := (true, "77b83bbfcf01b088efc08394007969a9ad75f0039e31869cf79be97edbfb4d78"), looks := false }, kinds := [], alts := [], laidByText := true, laidKinds := [.data], laidTests := true, laidLooks := .later }
def ReceiptSoundUptoCardSaid : Prop := Claim7.holds Tryd.pinned (.plain (OpenSpec.upto receiptSoundSpec)) receiptSoundUptoCard
end Rows
end Go.Proofs.YtkidehngleglnaaDoor
