/-
  DERIVED. GIVEN WITH THE SEED: THE CARDS: each row of YtfjlpialblllgaaDoorRows.lean that lists a variable, with what it lists TIED to the program's text (the seventh form; the later family's looks); each row that meets fmt, with fmt's text TOLD by the authors' own Lean function (tested against real Go, not proved from fmt's source: count such statements apart). THE CARD IS WHAT COUNTS. Prove the row's statement (the work); the ties are given (YtfjlpialblllgaaDoorTie.lean); close each card by the builder's one call (the guide's Derived/Test/ToyasCard.lean, 'card_holds'). Laid BY PROGRAM, IN A SANDBOX (cutbox-door.mjs). By AI agents, Wed Nov 11 2026. No macro, syntax, notation, axiom, sorry.
-/
import Derived.Test.YtfjlpialblllgaaDoorRows
import GoSem.ClaimSeven
namespace Go.Proofs.YtfjlpialblllgaaDoor
namespace Rows

/-- THE TIED CARD OF 'keepsakelaw15.MerkleRoots'. -/
def merkleRootsCard : Claim7 := { stood := { row := merkleRootsRow, standIns := [], harness := (true, "82b7e896fe52566b332492f6e6ace4aa0b99353e874ccf3b64ef0f6e4686beb5"), looks := false }, kinds := [], alts := [], laidByText := true, laidKinds := [.data], laidTests := true, laidLooks := .later }
def MerkleRootsCardSaid : Prop := Claim7.holds Tryd.pinned (.plain (OpenSpec.ofChange merkleRootsSpec)) merkleRootsCard

/-- THE TIED CARD OF 'keepsakelaw15.MerkleUps'. -/
def merkleUpsCard : Claim7 := { stood := { row := merkleUpsRow, standIns := [], harness := (true, "82b7e896fe52566b332492f6e6ace4aa0b99353e874ccf3b64ef0f6e4686beb5"), looks := false }, kinds := [], alts := [], laidByText := true, laidKinds := [.data], laidTests := true, laidLooks := .later }
def MerkleUpsCardSaid : Prop := Claim7.holds Tryd.pinned (.plain (OpenSpec.ofChange merkleUpsSpec)) merkleUpsCard

/-- THE TIED CARD OF 'keepsakelaw15.MerkleProves'. -/
def merkleProvesCard : Claim7 := { stood := { row := merkleProvesRow, standIns := [], harness := (true, "82b7e896fe52566b332492f6e6ace4aa0b99353e874ccf3b64ef0f6e4686beb5"), looks := false }, kinds := [], alts := [], laidByText := true, laidKinds := [.data], laidTests := true, laidLooks := .later }
def MerkleProvesCardSaid : Prop := Claim7.holds Tryd.pinned (.plain (OpenSpec.ofChange merkleProvesSpec)) merkleProvesCard

/-- THE TIED CARD OF 'keepsakelaw15.MerkleClash'. -/
def merkleClashCard : Claim7 := { stood := { row := merkleClashRow, standIns := [], harness := (true, "82b7e896fe52566b332492f6e6ace4aa0b99353e874ccf3b64ef0f6e4686beb5"), looks := false }, kinds := [], alts := [], laidByText := true, laidKinds := [.data], laidTests := true, laidLooks := .later }
def MerkleClashCardSaid : Prop := Claim7.holds Tryd.pinned (.plain (OpenSpec.ofChange merkleClashSpec)) merkleClashCard

/-- THE TIED CARD OF 'keepsakelaw15.MerkleBound'. -/
def merkleBoundCard : Claim7 := { stood := { row := merkleBoundRow, standIns := [], harness := (true, "82b7e896fe52566b332492f6e6ace4aa0b99353e874ccf3b64ef0f6e4686beb5"), looks := false }, kinds := [], alts := [], laidByText := true, laidKinds := [.data], laidTests := true, laidLooks := .later }
def MerkleBoundCardSaid : Prop := Claim7.holds Tryd.pinned (.plain (OpenSpec.ofChange merkleBoundSpec)) merkleBoundCard

/-- THE SECOND FORM's CARD OF 'keepsakelaw15.MerkleRoots'. -/
def merkleRootsUptoCard : Claim7 := { stood := { row := merkleRootsUptoRow, standIns := [], harness := (true, "82b7e896fe52566b332492f6e6ace4aa0b99353e874ccf3b64ef0f6e4686beb5"), looks := false }, kinds := [], alts := [], laidByText := true, laidKinds := [.data], laidTests := true, laidLooks := .later }
def MerkleRootsUptoCardSaid : Prop := Claim7.holds Tryd.pinned (.plain (OpenSpec.upto merkleRootsSpec)) merkleRootsUptoCard

/-- THE SECOND FORM's CARD OF 'keepsakelaw15.MerkleUps'. -/
def merkleUpsUptoCard : Claim7 := { stood := { row := merkleUpsUptoRow, standIns := [], harness := (true, "82b7e896fe52566b332492f6e6ace4aa0b99353e874ccf3b64ef0f6e4686beb5"), looks := false }, kinds := [], alts := [], laidByText := true, laidKinds := [.data], laidTests := true, laidLooks := .later }
def MerkleUpsUptoCardSaid : Prop := Claim7.holds Tryd.pinned (.plain (OpenSpec.upto merkleUpsSpec)) merkleUpsUptoCard

/-- THE SECOND FORM's CARD OF 'keepsakelaw15.MerkleProves'. -/
def merkleProvesUptoCard : Claim7 := { stood := { row := merkleProvesUptoRow, standIns := [], harness := (true, "82b7e896fe52566b332492f6e6ace4aa0b99353e874ccf3b64ef0f6e4686beb5"), looks := false }, kinds := [], alts := [], laidByText := true, laidKinds := [.data], laidTests := true, laidLooks := .later }
def MerkleProvesUptoCardSaid : Prop := Claim7.holds Tryd.pinned (.plain (OpenSpec.upto merkleProvesSpec)) merkleProvesUptoCard

/-- THE SECOND FORM's CARD OF 'keepsakelaw15.MerkleClash'. -/
def merkleClashUptoCard : Claim7 := { stood := { row := merkleClashUptoRow, standIns := [], harness := (true, "82b7e896fe52566b332492f6e6ace4aa0b99353e874ccf3b64ef0f6e4686beb5"), looks := false }, kinds := [], alts := [], laidByText := true, laidKinds := [.data], laidTests := true, laidLooks := .later }
def MerkleClashUptoCardSaid : Prop := Claim7.holds Tryd.pinned (.plain (OpenSpec.upto merkleClashSpec)) merkleClashUptoCard

/-- THE SECOND FORM's CARD OF 'keepsakelaw15.MerkleBound'. -/
def merkleBoundUptoCard : Claim7 := { stood := { row := merkleBoundUptoRow, standIns := [], harness := (true, "82b7e896fe52566b332492f6e6ace4aa0b99353e874ccf3b64ef0f6e4686beb5"), looks := false }, kinds := [], alts := [], laidByText := true, laidKinds := [.data], laidTests := true, laidLooks := .later }
def MerkleBoundUptoCardSaid : Prop := Claim7.holds Tryd.pinned (.plain (OpenSpec.upto merkleBoundSpec)) merkleBoundUptoCard
end Rows
end Go.Proofs.YtfjlpialblllgaaDoor
