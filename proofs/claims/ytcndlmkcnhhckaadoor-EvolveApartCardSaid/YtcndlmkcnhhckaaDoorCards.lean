/-
  DERIVED. GIVEN WITH THE SEED: THE CARDS: each row of YtcndlmkcnhhckaaDoorRows.lean that lists a variable, with what it lists TIED to the program's text (the seventh form; the later family's looks); each row that meets fmt, with fmt's text TOLD by the authors' own Lean function (tested against real Go, not proved from fmt's source: count such statements apart). THE CARD IS WHAT COUNTS. Prove the row's statement (the work); the ties are given (YtcndlmkcnhhckaaDoorTie.lean); close each card by the builder's one call (the guide's Derived/Test/ToyasCard.lean, 'card_holds'). Laid BY PROGRAM, IN A SANDBOX (cutbox-door.mjs). By AI agents, Wed Nov 11 2026. No macro, syntax, notation, axiom, sorry.
-/
import Derived.Test.YtcndlmkcnhhckaaDoorRows
import GoSem.ClaimSeven
namespace Go.Proofs.YtcndlmkcnhhckaaDoor
namespace Rows

/-- THE TIED CARD OF 'keepsakelaw18.EvolveMakes'. -/
def evolveMakesCard : Claim7 := { stood := { row := evolveMakesRow, standIns := [], harness := (true, "c5bec005572c88d9176667a3b7fe7ee6ab9f573f54a50c30c5051ff8850415ff"), looks := false }, kinds := [], alts := [], laidByText := true, laidKinds := [.data], laidTests := true, laidLooks := .later }
def EvolveMakesCardSaid : Prop := Claim7.holds Tryd.pinned (.plain (OpenSpec.ofChange evolveMakesSpec)) evolveMakesCard

/-- THE TIED CARD OF 'keepsakelaw18.EvolveAt'. -/
def evolveAtCard : Claim7 := { stood := { row := evolveAtRow, standIns := [], harness := (true, "c5bec005572c88d9176667a3b7fe7ee6ab9f573f54a50c30c5051ff8850415ff"), looks := false }, kinds := [], alts := [], laidByText := true, laidKinds := [.data], laidTests := true, laidLooks := .later }
def EvolveAtCardSaid : Prop := Claim7.holds Tryd.pinned (.plain (OpenSpec.ofChange evolveAtSpec)) evolveAtCard

/-- THE TIED CARD OF 'keepsakelaw18.EvolveOn'. -/
def evolveOnCard : Claim7 := { stood := { row := evolveOnRow, standIns := [], harness := (true, "c5bec005572c88d9176667a3b7fe7ee6ab9f573f54a50c30c5051ff8850415ff"), looks := false }, kinds := [], alts := [], laidByText := true, laidKinds := [.data], laidTests := true, laidLooks := .later }
def EvolveOnCardSaid : Prop := Claim7.holds Tryd.pinned (.plain (OpenSpec.ofChange evolveOnSpec)) evolveOnCard

/-- THE TIED CARD OF 'keepsakelaw18.EvolveApart'. -/
def evolveApartCard : Claim7 := { stood := { row := evolveApartRow, standIns := [], harness := (true, "c5bec005572c88d9176667a3b7fe7ee6ab9f573f54a50c30c5051ff8850415ff"), looks := false }, kinds := [], alts := [], laidByText := true, laidKinds := [.data], laidTests := true, laidLooks := .later }
def EvolveApartCardSaid : Prop := Claim7.holds Tryd.pinned (.plain (OpenSpec.ofChange evolveApartSpec)) evolveApartCard

/-- THE SECOND FORM's CARD OF 'keepsakelaw18.EvolveMakes'. -/
def evolveMakesUptoCard : Claim7 := { stood := { row := evolveMakesUptoRow, standIns := [], harness := (true, "c5bec005572c88d9176667a3b7fe7ee6ab9f573f54a50c30c5051ff8850415ff"), looks := false }, kinds := [], alts := [], laidByText := true, laidKinds := [.data], laidTests := true, laidLooks := .later }
def EvolveMakesUptoCardSaid : Prop := Claim7.holds Tryd.pinned (.plain (OpenSpec.upto evolveMakesSpec)) evolveMakesUptoCard

/-- THE SECOND FORM's CARD OF 'keepsakelaw18.EvolveAt'. -/
def evolveAtUptoCard : Claim7 := { stood := { row := evolveAtUptoRow, standIns := [], harness := (true, "c5bec005572c88d9176667a3b7fe7ee6ab9f573f54a50c30c5051ff8850415ff"), looks := false }, kinds := [], alts := [], laidByText := true, laidKinds := [.data], laidTests := true, laidLooks := .later }
def EvolveAtUptoCardSaid : Prop := Claim7.holds Tryd.pinned (.plain (OpenSpec.upto evolveAtSpec)) evolveAtUptoCard

/-- THE SECOND FORM's CARD OF 'keepsakelaw18.EvolveOn'. -/
def evolveOnUptoCard : Claim7 := { stood := { row := evolveOnUptoRow, standIns := [], harness := (true, "c5bec005572c88d9176667a3b7fe7ee6ab9f573f54a50c30c5051ff8850415ff"), looks := false }, kinds := [], alts := [], laidByText := true, laidKinds := [.data], laidTests := true, laidLooks := .later }
def EvolveOnUptoCardSaid : Prop := Claim7.holds Tryd.pinned (.plain (OpenSpec.upto evolveOnSpec)) evolveOnUptoCard

/-- THE SECOND FORM's CARD OF 'keepsakelaw18.EvolveApart'. -/
def evolveApartUptoCard : Claim7 := { stood := { row := evolveApartUptoRow, standIns := [], harness := (true, "c5bec005572c88d9176667a3b7fe7ee6ab9f573f54a50c30c5051ff8850415ff"), looks := false }, kinds := [], alts := [], laidByText := true, laidKinds := [.data], laidTests := true, laidLooks := .later }
def EvolveApartUptoCardSaid : Prop := Claim7.holds Tryd.pinned (.plain (OpenSpec.upto evolveApartSpec)) evolveApartUptoCard
end Rows
end Go.Proofs.YtcndlmkcnhhckaaDoor
