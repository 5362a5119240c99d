/-
  DERIVED. GIVEN WITH THE SEED: THE CARDS: each row of YtghljhohbhkdeaaDoorRows.lean that lists a variable, with what it lists TIED to the program's text (the seventh form; the later family's looks); each row that meets fmt, with fmt's text TOLD by the authors' own Lean function (tested against real Go, not proved from fmt's source: count such statements apart). THE CARD IS WHAT COUNTS. Prove the row's statement (the work); the ties are given (YtghljhohbhkdeaaDoorTie.lean); close each card by the builder's one call (the guide's Derived/Test/ToyasCard.lean, 'card_holds'). Laid BY PROGRAM, IN A SANDBOX (cutbox-door.mjs). By AI agents, Wed Nov 11 2026. No macro, syntax, notation, axiom, sorry.
-/
import Derived.Test.YtghljhohbhkdeaaDoorRows
import GoSem.ClaimSeven
namespace Go.Proofs.YtghljhohbhkdeaaDoor
namespace Rows

/-- THE TIED CARD OF 'keepsakelaw10.SuperPuts'. -/
def superPutsCard : Claim7 := { stood := { row := superPutsRow, standIns := [], harness := (true, "4366ab3536d2f4a54cf0a009af2d297bd6339ccc53e7e5f2e73daba26b8012ce"), looks := false }, kinds := [], alts := [], laidByText := true, laidKinds := [.data, .data, .data], laidTests := true, laidLooks := .later }
def SuperPutsCardSaid : Prop := Claim7.holds Tryd.pinned (.plain (OpenSpec.ofChange superPutsSpec)) superPutsCard

/-- THE TIED CARD OF 'keepsakelaw10.SuperTakes'. -/
def superTakesCard : Claim7 := { stood := { row := superTakesRow, standIns := [], harness := (true, "4366ab3536d2f4a54cf0a009af2d297bd6339ccc53e7e5f2e73daba26b8012ce"), looks := false }, kinds := [], alts := [], laidByText := true, laidKinds := [.data, .data, .data], laidTests := true, laidLooks := .later }
def SuperTakesCardSaid : Prop := Claim7.holds Tryd.pinned (.plain (OpenSpec.ofChange superTakesSpec)) superTakesCard

/-- THE TIED CARD OF 'keepsakelaw10.SuperBack'. -/
def superBackCard : Claim7 := { stood := { row := superBackRow, standIns := [], harness := (true, "4366ab3536d2f4a54cf0a009af2d297bd6339ccc53e7e5f2e73daba26b8012ce"), looks := false }, kinds := [], alts := [], laidByText := true, laidKinds := [.data, .data, .data], laidTests := true, laidLooks := .later }
def SuperBackCardSaid : Prop := Claim7.holds Tryd.pinned (.plain (OpenSpec.ofChange superBackSpec)) superBackCard

/-- THE TIED CARD OF 'keepsakelaw10.SuperLater'. -/
def superLaterCard : Claim7 := { stood := { row := superLaterRow, standIns := [], harness := (true, "4366ab3536d2f4a54cf0a009af2d297bd6339ccc53e7e5f2e73daba26b8012ce"), looks := false }, kinds := [], alts := [], laidByText := true, laidKinds := [.data, .data, .data], laidTests := true, laidLooks := .later }
def SuperLaterCardSaid : Prop := Claim7.holds Tryd.pinned (.plain (OpenSpec.ofChange superLaterSpec)) superLaterCard

/-- THE SECOND FORM's CARD OF 'keepsakelaw10.SuperPuts'. -/
def superPutsUptoCard : Claim7 := { stood := { row := superPutsUptoRow, standIns := [], harness := (true, "4366ab3536d2f4a54cf0a009af2d297bd6339ccc53e7e5f2e73daba26b8012ce"), looks := false }, kinds := [], alts := [], laidByText := true, laidKinds := [.data, .data, .data], laidTests := true, laidLooks := .later }
def SuperPutsUptoCardSaid : Prop := Claim7.holds Tryd.pinned (.plain (OpenSpec.upto superPutsSpec)) superPutsUptoCard

/-- THE SECOND FORM's CARD OF 'keepsakelaw10.SuperTakes'. -/
def superTakesUptoCard : Claim7 := { stood := { row := superTakesUptoRow, standIns := [], harness := (true, "4366ab3536d2f4a54cf0a009af2d297bd6339ccc53e7e5f2e73daba26b8012ce"), looks := false }, kinds := [], alts := [], laidByText := true, laidKinds := [.data, .data, .data], laidTests := true, laidLooks := .later }
def SuperTakesUptoCardSaid : Prop := Claim7.holds Tryd.pinned (.plain (OpenSpec.upto superTakesSpec)) superTakesUptoCard

/-- THE SECOND FORM's CARD OF 'keepsakelaw10.SuperBack'. -/
def superBackUptoCard : Claim7 := { stood := { row := superBackUptoRow, standIns := [], harness := (true, "4366ab3536d2f4a54cf0a009af2d297bd6339ccc53e7e5f2e73daba26b8012ce"), looks := false }, kinds := [], alts := [], laidByText := true, laidKinds := [.data, .data, .data], laidTests := true, laidLooks := .later }
def SuperBackUptoCardSaid : Prop := Claim7.holds Tryd.pinned (.plain (OpenSpec.upto superBackSpec)) superBackUptoCard

/-- THE SECOND FORM's CARD OF 'keepsakelaw10.SuperLater'. -/
def superLaterUptoCard : Claim7 := { stood := { row := superLaterUptoRow, standIns := [], harness := (true, "4366ab3536d2f4a54cf0a009af2d297bd6339ccc53e7e5f2e73daba26b8012ce"), looks := false }, kinds := [], alts := [], laidByText := true, laidKinds := [.data, .data, .data], laidTests := true, laidLooks := .later }
def SuperLaterUptoCardSaid : Prop := Claim7.holds Tryd.pinned (.plain (OpenSpec.upto superLaterSpec)) superLaterUptoCard
end Rows
end Go.Proofs.YtghljhohbhkdeaaDoor
