/-
  DERIVED. GIVEN WITH THE SEED: THE CARDS: each row of YtfnocihmpmfkfaaDoorRows.lean that lists a variable, with what it lists TIED to the program's text (the seventh form; the later family's looks); each row that meets fmt, with fmt's text TOLD by the authors' own Lean function (tested against real Go, not proved from fmt's source: count such statements apart). THE CARD IS WHAT COUNTS. Prove the row's statement (the work); the ties are given (YtfnocihmpmfkfaaDoorTie.lean); close each card by the builder's one call (the guide's Derived/Test/ToyasCard.lean, 'card_holds'). Laid BY PROGRAM, IN A SANDBOX (cutbox-door.mjs). By AI agents, Wed Nov 11 2026. No macro, syntax, notation, axiom, sorry.
-/
import Derived.Test.YtfnocihmpmfkfaaDoorRows
import GoSem.ClaimSeven
namespace Go.Proofs.YtfnocihmpmfkfaaDoor
namespace Rows

/-- THE TIED CARD OF 'keepsakelaw04.DeriveKeys'. -/
def deriveKeysCard : Claim7 := { stood := { row := deriveKeysRow, standIns := [], harness := (true, "5877abed83d9e2368ab71db75afae372e2a30d242a41d859f06caac01f174936"), looks := false }, kinds := [], alts := [], laidByText := true, laidKinds := [.data], laidTests := true, laidLooks := .later }
def DeriveKeysCardSaid : Prop := Claim7.holds Tryd.pinned (.plain (OpenSpec.ofChange deriveKeysSpec)) deriveKeysCard

/-- THE TIED CARD OF 'keepsakelaw04.DeriveLong'. -/
def deriveLongCard : Claim7 := { stood := { row := deriveLongRow, standIns := [], harness := (true, "5877abed83d9e2368ab71db75afae372e2a30d242a41d859f06caac01f174936"), looks := false }, kinds := [], alts := [], laidByText := true, laidKinds := [.data], laidTests := true, laidLooks := .later }
def DeriveLongCardSaid : Prop := Claim7.holds Tryd.pinned (.plain (OpenSpec.ofChange deriveLongSpec)) deriveLongCard

/-- THE TIED CARD OF 'keepsakelaw04.DeriveApart'. -/
def deriveApartCard : Claim7 := { stood := { row := deriveApartRow, standIns := [], harness := (true, "5877abed83d9e2368ab71db75afae372e2a30d242a41d859f06caac01f174936"), looks := false }, kinds := [], alts := [], laidByText := true, laidKinds := [.data], laidTests := true, laidLooks := .later }
def DeriveApartCardSaid : Prop := Claim7.holds Tryd.pinned (.plain (OpenSpec.ofChange deriveApartSpec)) deriveApartCard

/-- THE TIED CARD OF 'keepsakelaw04.DeriveBegins'. -/
def deriveBeginsCard : Claim7 := { stood := { row := deriveBeginsRow, standIns := [], harness := (true, "5877abed83d9e2368ab71db75afae372e2a30d242a41d859f06caac01f174936"), looks := false }, kinds := [], alts := [], laidByText := true, laidKinds := [.data], laidTests := true, laidLooks := .later }
def DeriveBeginsCardSaid : Prop := Claim7.holds Tryd.pinned (.plain (OpenSpec.ofChange deriveBeginsSpec)) deriveBeginsCard

/-- THE SECOND FORM's CARD OF 'keepsakelaw04.DeriveKeys'. -/
def deriveKeysUptoCard : Claim7 := { stood := { row := deriveKeysUptoRow, standIns := [], harness := (true, "5877abed83d9e2368ab71db75afae372e2a30d242a41d859f06caac01f174936"), looks := false }, kinds := [], alts := [], laidByText := true, laidKinds := [.data], laidTests := true, laidLooks := .later }
def DeriveKeysUptoCardSaid : Prop := Claim7.holds Tryd.pinned (.plain (OpenSpec.upto deriveKeysSpec)) deriveKeysUptoCard

/-- THE SECOND FORM's CARD OF 'keepsakelaw04.DeriveLong'. -/
def deriveLongUptoCard : Claim7 := { stood := { row := deriveLongUptoRow, standIns := [], harness := (true, "5877abed83d9e2368ab71db75afae372e2a30d242a41d859f06caac01f174936"), looks := false }, kinds := [], alts := [], laidByText := true, laidKinds := [.data], laidTests := true, laidLooks := .later }
def DeriveLongUptoCardSaid : Prop := Claim7.holds Tryd.pinned (.plain (OpenSpec.upto deriveLongSpec)) deriveLongUptoCard

/-- THE SECOND FORM's CARD OF 'keepsakelaw04.DeriveApart'. -/
def deriveApartUptoCard : Claim7 := { stood := { row := deriveApartUptoRow, standIns := [], harness := (true, "5877abed83d9e2368ab71db75afae372e2a30d242a41d859f06caac01f174936"), looks := false }, kinds := [], alts := [], laidByText := true, laidKinds := [.data], laidTests := true, laidLooks := .later }
def DeriveApartUptoCardSaid : Prop := Claim7.holds Tryd.pinned (.plain (OpenSpec.upto deriveApartSpec)) deriveApartUptoCard

/-- THE SECOND FORM's CARD OF 'keepsakelaw04.DeriveBegins'. -/
def deriveBeginsUptoCard : Claim7 := { stood := { row := deriveBeginsUptoRow, standIns := [], harness := (true, "5877abed83d9e2368ab71db75afae372e2a30d242a41d859f06caac01f174936"), looks := false }, kinds := [], alts := [], laidByText := true, laidKinds := [.data], laidTests := true, laidLooks := .later }
def DeriveBeginsUptoCardSaid : Prop := Claim7.holds Tryd.pinned (.plain (OpenSpec.upto deriveBeginsSpec)) deriveBeginsUptoCard
end Rows
end Go.Proofs.YtfnocihmpmfkfaaDoor
