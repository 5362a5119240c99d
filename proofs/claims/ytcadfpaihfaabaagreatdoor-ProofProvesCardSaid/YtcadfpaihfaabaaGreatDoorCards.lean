/-
  DERIVED. GIVEN WITH THE SEED: THE CARDS: each row of YtcadfpaihfaabaaGreatDoorRows.lean that lists a variable, with what it lists TIED to the program's text (the seventh form; the later family's looks); each row that meets fmt, with fmt's text TOLD by the authors' own Lean function (tested against real Go, not proved from fmt's source: count such statements apart). THE CARD IS WHAT COUNTS. Prove the row's statement (the work); the ties are given (YtcadfpaihfaabaaGreatDoorTie.lean); close each card by the builder's one call (the guide's Derived/Test/ToyasCard.lean, 'card_holds'). Laid BY PROGRAM, IN A SANDBOX (cutbox-door.mjs). By AI agents, Wed Nov 11 2026. No macro, syntax, notation, axiom, sorry.
-/
import Derived.Test.YtcadfpaihfaabaaGreatDoorRows
import GoSem.ClaimSeven
namespace Go.Proofs.YtcadfpaihfaabaaGreatDoor
namespace Rows

/-- THE TIED CARD OF 'keepsakelaw16.ProofProves'. -/
def proofProvesCard : Claim7 := { stood := { row := proofProvesRow, standIns := [], harness := (true, "8487e1f09c661334e8c98b6ee758f1a04dd2484f19eaf1a22f5a38ffc71e1eaf"), looks := false }, kinds := [], alts := [], laidByText := true, laidKinds := [.data], laidTests := true, laidLooks := .later }
def ProofProvesCardSaid : Prop := Claim7.holds Tryz.pinned (.plain (OpenSpec.ofChange proofProvesSpec)) proofProvesCard

/-- THE SECOND FORM's CARD OF 'keepsakelaw16.ProofProves'. -/
def proofProvesUptoCard : Claim7 := { stood := { row := proofProvesUptoRow, standIns := [], harness := (true, "8487e1f09c661334e8c98b6ee758f1a04dd2484f19eaf1a22f5a38ffc71e1eaf"), looks := false }, kinds := [], alts := [], laidByText := true, laidKinds := [.data], laidTests := true, laidLooks := .later }
def ProofProvesUptoCardSaid : Prop := Claim7.holds Tryz.pinned (.plain (OpenSpec.upto proofProvesSpec)) proofProvesUptoCard
end Rows
end Go.Proofs.YtcadfpaihfaabaaGreatDoor
