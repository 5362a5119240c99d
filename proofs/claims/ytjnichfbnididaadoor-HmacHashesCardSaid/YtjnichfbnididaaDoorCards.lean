/-
  DERIVED. GIVEN WITH THE SEED: THE CARDS: each row of YtjnichfbnididaaDoorRows.lean that lists a variable, with what it lists TIED to the program's text (the seventh form; the later family's looks); each row that meets fmt, with fmt's text TOLD by the authors' own Lean function (tested against real Go, not proved from fmt's source: count such statements apart). THE CARD IS WHAT COUNTS. Prove the row's statement (the work); the ties are given (YtjnichfbnididaaDoorTie.lean); close each card by the builder's one call (the guide's Derived/Test/ToyasCard.lean, 'card_holds'). Laid BY PROGRAM, IN A SANDBOX (cutbox-door.mjs). By AI agents, Wed Nov 11 2026. No macro, syntax, notation, axiom, sorry.
-/
import Derived.Test.YtjnichfbnididaaDoorRows
import GoSem.ClaimSeven
namespace Go.Proofs.YtjnichfbnididaaDoor
namespace Rows

/-- THE TIED CARD OF 'keepsakelaw03.HmacMacs'. -/
def hmacMacsCard : Claim7 := { stood := { row := hmacMacsRow, standIns := [], harness := (true, "139017903fd717c72d4031482ee712c1f4224cb855bf29aa289b113afc09feea"), looks := false }, kinds := [], alts := [], laidByText := true, laidKinds := [.data], laidTests := true, laidLooks := .later }
def HmacMacsCardSaid : Prop := Claim7.holds Tryd.pinned (.plain (OpenSpec.ofChange hmacMacsSpec)) hmacMacsCard

/-- THE TIED CARD OF 'keepsakelaw03.HmacHashes'. -/
def hmacHashesCard : Claim7 := { stood := { row := hmacHashesRow, standIns := [], harness := (true, "139017903fd717c72d4031482ee712c1f4224cb855bf29aa289b113afc09feea"), looks := false }, kinds := [], alts := [], laidByText := true, laidKinds := [.data], laidTests := true, laidLooks := .later }
def HmacHashesCardSaid : Prop := Claim7.holds Tryd.pinned (.plain (OpenSpec.ofChange hmacHashesSpec)) hmacHashesCard

/-- THE TIED CARD OF 'keepsakelaw03.HmacClash'. -/
def hmacClashCard : Claim7 := { stood := { row := hmacClashRow, standIns := [], harness := (true, "139017903fd717c72d4031482ee712c1f4224cb855bf29aa289b113afc09feea"), looks := false }, kinds := [], alts := [], laidByText := true, laidKinds := [.data], laidTests := true, laidLooks := .later }
def HmacClashCardSaid : Prop := Claim7.holds Tryd.pinned (.plain (OpenSpec.ofChange hmacClashSpec)) hmacClashCard

/-- THE TIED CARD OF 'keepsakelaw03.HmacKeys'. -/
def hmacKeysCard : Claim7 := { stood := { row := hmacKeysRow, standIns := [], harness := (true, "139017903fd717c72d4031482ee712c1f4224cb855bf29aa289b113afc09feea"), looks := false }, kinds := [], alts := [], laidByText := true, laidKinds := [.data], laidTests := true, laidLooks := .later }
def HmacKeysCardSaid : Prop := Claim7.holds Tryd.pinned (.plain (OpenSpec.ofChange hmacKeysSpec)) hmacKeysCard

/-- THE SECOND FORM's CARD OF 'keepsakelaw03.HmacMacs'. -/
def hmacMacsUptoCard : Claim7 := { stood := { row := hmacMacsUptoRow, standIns := [], harness := (true, "139017903fd717c72d4031482ee712c1f4224cb855bf29aa289b113afc09feea"), looks := false }, kinds := [], alts := [], laidByText := true, laidKinds := [.data], laidTests := true, laidLooks := .later }
def HmacMacsUptoCardSaid : Prop := Claim7.holds Tryd.pinned (.plain (OpenSpec.upto hmacMacsSpec)) hmacMacsUptoCard

/-- THE SECOND FORM's CARD OF 'keepsakelaw03.HmacHashes'. -/
def hmacHashesUptoCard : Claim7 := { stood := { row := hmacHashesUptoRow, standIns := [], harness := (true, "139017903fd717c72d4031482ee712c1f4224cb855bf29aa289b113afc09feea"), looks := false }, kinds := [], alts := [], laidByText := true, laidKinds := [.data], laidTests := true, laidLooks := .later }
def HmacHashesUptoCardSaid : Prop := Claim7.holds Tryd.pinned (.plain (OpenSpec.upto hmacHashesSpec)) hmacHashesUptoCard

/-- THE SECOND FORM's CARD OF 'keepsakelaw03.HmacClash'. -/
def hmacClashUptoCard : Claim7 := { stood := { row := hmacClashUptoRow, standIns := [], harness := (true, "139017903fd717c72d4031482ee712c1f4224cb855bf29aa289b113afc09feea"), looks := false }, kinds := [], alts := [], laidByText := true, laidKinds := [.data], laidTests := true, laidLooks := .later }
def HmacClashUptoCardSaid : Prop := Claim7.holds Tryd.pinned (.plain (OpenSpec.upto hmacClashSpec)) hmacClashUptoCard

/-- THE SECOND FORM's CARD OF 'keepsakelaw03.HmacKeys'. -/
def hmacKeysUptoCard : Claim7 := { stood := { row := hmacKeysUptoRow, standIns := [], harness := (true, "139017903fd717c72d4031482ee712c1f4224cb855bf29aa289b113afc09feea"), looks := false }, kinds := [], alts := [], laidByText := true, laidKinds := [.data], laidTests := true, laidLooks := .later }
def HmacKeysUptoCardSaid : Prop := Claim7.holds Tryd.pinned (.plain (OpenSpec.upto hmacKeysSpec)) hmacKeysUptoCard
end Rows
end Go.Proofs.YtjnichfbnididaaDoor
