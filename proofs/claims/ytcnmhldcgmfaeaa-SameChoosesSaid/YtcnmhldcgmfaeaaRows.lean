/-
  No cell of these rows narrows 'for every input' (looked for: loops, veiled, ifaces, maps, wideKeys, modest, calm, conditions, laid).
  DERIVED. THE GIVEN ROWS OF THIS SEAT. 3 by the template 'for every input the law returns true; each argument reads behind the call as it read before'; 0 by the template 'total and deterministic' (their statements: YtcnmhldcgmfaeaaTotals.lean).
  GIVEN WITH THE SEED: the statements are not yours to turn. If you find one false, say at which input.
  Laid BY PROGRAM, IN A SANDBOX (cutbox-rows.mjs): the forced cells as the released guide's own fill.sh prints them over the translation 8a203caf049b7cc5… (all of the seat's roots in one cut). By AI agents, Wed Nov 11 2026. No macro, syntax, notation, axiom, sorry.
-/
import Derived.Test.YtcnmhldcgmfaeaaChecked
import GoSem.Claim
import GoSem.ClaimJoined
import GoSem.ClaimMapViews
import Derived.JoinedTies
import Derived.KernelRfl
namespace Go.Proofs.Ytcnmhldcgmfaeaa
/- THE CELL 'sum', in the pinned program and in every row, IS THE sha256 OF THE DUMP (.gsa) THAT YtcnmhldcgmfaeaaProg.lean LOADS. Nothing in Lean hashes anything: it is a label: what it is worth is what the hold of that sum in a sandbox is worth. -/
noncomputable def Try.pinned : Pinned := { name := "ytcnmhldcgmfaeaa", sum := "8a203caf049b7cc55646223a1e74ba6bf67dda9a184f3697715c1a38df5c501c", checked := Try.checked }
namespace Rows
def none {H : Type} : Left H := { results := [], args := [] }

/-- 'keepsakelaw07.SameTells': WHATEVER THE INPUT: true; the input reads as it did. -/
def sameTellsSpec : ChangeSpec := { name := "sameTells", fn := fun _ => fun
  | [d1, d2] => { results := [.lit (.bool true)], args := [d1, d2] }
  | _ => none }
def sameTellsRow : OpenClaim := { program := "ytcnmhldcgmfaeaa", sum := "8a203caf049b7cc55646223a1e74ba6bf67dda9a184f3697715c1a38df5c501c", func := "keepsake/keepsakelaw07.SameTells", spec := "sameTells", unfollowed := true, recurses := true, apart := false }
def SameTellsSaid : Prop := sameTellsRow.holds Try.pinned (OpenSpec.ofChange sameTellsSpec)

/-- ITS FALSE NEIGHBOUR: 'it returns false'. Refute it at one input. -/
def sameTellsWrong : ChangeSpec := { name := "sameTells", fn := fun _ => fun
  | [d1, d2] => { results := [.lit (.bool false)], args := [d1, d2] }
  | _ => none }
def SameTellsWrongFalsely : Prop := sameTellsRow.holds Try.pinned (OpenSpec.ofChange sameTellsWrong)

/-- 'keepsakelaw07.SameChooses': WHATEVER THE INPUT: true; the input reads as it did. -/
def sameChoosesSpec : ChangeSpec := { name := "sameChooses", fn := fun _ => fun
  | [d1, d2, d3] => { results := [.lit (.bool true)], args := [d1, d2, d3] }
  | _ => none }
def sameChoosesRow : OpenClaim := { program := "ytcnmhldcgmfaeaa", sum := "8a203caf049b7cc55646223a1e74ba6bf67dda9a184f3697715c1a38df5c501c", func := "keepsake/keepsakelaw07.SameChooses", spec := "sameChooses", unfollowed := true, recurses := true, apart := false }
def SameChoosesSaid : Prop := sameChoosesRow.holds Try.pinned (OpenSpec.ofChange sameChoosesSpec)

/-- ITS FALSE NEIGHBOUR: 'it returns false'. Refute it at one input. -/
def sameChoosesWrong : ChangeSpec := { name := "sameChooses", fn := fun _ => fun
  | [d1, d2, d3] => { results := [.lit (.bool false)], args := [d1, d2, d3] }
  | _ => none }
def SameChoosesWrongFalsely : Prop := sameChoosesRow.holds Try.pinned (OpenSpec.ofChange sameChoosesWrong)

/-- 'keepsakelaw07.SameThree': WHATEVER THE INPUT: true; the input reads as it did. -/
def sameThreeSpec : ChangeSpec := { name := "sameThree", fn := fun _ => fun
  | [d1, d2] => { results := [.lit (.bool true)], args := [d1, d2] }
  | _ => none }
def sameThreeRow : OpenClaim := { program := "ytcnmhldcgmfaeaa", sum := "8a203caf049b7cc55646223a1e74ba6bf67dda9a184f3697715c1a38df5c501c", func := "keepsake/keepsakelaw07.SameThree", spec := "sameThree", unfollowed := true, recurses := true, apart := false }
def SameThreeSaid : Prop := sameThreeRow.holds Try.pinned (OpenSpec.ofChange sameThreeSpec)

/-- ITS FALSE NEIGHBOUR: 'it returns false'. Refute it at one input. -/
def sameThreeWrong : ChangeSpec := { name := "sameThree", fn := fun _ => fun
  | [d1, d2] => { results := [.lit (.bool false)], args := [d1, d2] }
  | _ => none }
def SameThreeWrongFalsely : Prop := sameThreeRow.holds Try.pinned (OpenSpec.ofChange sameThreeWrong)

/- THE SECOND FORM. 'bulk': how many values and letters a reading holds, each counted each time it is reached (what is shared counts as often as it is met; a slice's spare places count too). A statement '..UptoSaid' is the law's where the arguments, and the package variables that the reading takes, are together of bulk at most 1048576: NARROWER than '..Said'. Prove '..Said' where nothing that the law and all that it calls make is longer than what came in: it says more and counts as full. Else prove '..UptoSaid'. A law counts once. -/
mutual
def uptoBulk {H : Type} : DataW H → Nat
  | .lit (.string bytes) => bytes.length + 1
  | .lit _ => 1
  | .nil => 1
  | .ptr d => uptoBulk d + 1
  | .slice elems spare => uptoBulkAll elems + uptoBulkAll spare + 1
  | .agg parts => uptoBulkAll parts + 1
  | .iface _ d => uptoBulk d + 1
  | .map entries => uptoBulkEntries entries + 1
  | .held _ => 1
def uptoBulkAll {H : Type} : List (DataW H) → Nat
  | [] => 0
  | d :: r => uptoBulk d + uptoBulkAll r
def uptoBulkEntries {H : Type} : List (Lit × DataW H) → Nat
  | [] => 0
  | x :: r => uptoBulkEntry x + uptoBulkEntries r
def uptoBulkEntry {H : Type} : Lit × DataW H → Nat
  | (.string bytes, d) => bytes.length + uptoBulk d + 1
  | (_, d) => uptoBulk d + 1
 end
def uptoSmall : (H : Type) → List (DataW H) → Bool := fun _ ds => decide (uptoBulkAll ds ≤ 1048576)
def OpenSpec.upto (s : _root_.Go.ChangeSpec) : _root_.Go.OpenSpec := { _root_.Go.OpenSpec.ofChange s with cond := some uptoSmall }

/-- 'keepsakelaw07.SameTells', WHERE WHAT IT READS IS OF BULK AT MOST 1048576: true; the input reads as it did. -/
def sameTellsUptoRow : OpenClaim := { program := "ytcnmhldcgmfaeaa", sum := "8a203caf049b7cc55646223a1e74ba6bf67dda9a184f3697715c1a38df5c501c", func := "keepsake/keepsakelaw07.SameTells", spec := "sameTells", unfollowed := true, recurses := true, apart := false, narrowed := true }
def SameTellsUptoSaid : Prop := sameTellsUptoRow.holds Try.pinned (OpenSpec.upto sameTellsSpec)

/-- 'keepsakelaw07.SameChooses', WHERE WHAT IT READS IS OF BULK AT MOST 1048576: true; the input reads as it did. -/
def sameChoosesUptoRow : OpenClaim := { program := "ytcnmhldcgmfaeaa", sum := "8a203caf049b7cc55646223a1e74ba6bf67dda9a184f3697715c1a38df5c501c", func := "keepsake/keepsakelaw07.SameChooses", spec := "sameChooses", unfollowed := true, recurses := true, apart := false, narrowed := true }
def SameChoosesUptoSaid : Prop := sameChoosesUptoRow.holds Try.pinned (OpenSpec.upto sameChoosesSpec)

/-- 'keepsakelaw07.SameThree', WHERE WHAT IT READS IS OF BULK AT MOST 1048576: true; the input reads as it did. -/
def sameThreeUptoRow : OpenClaim := { program := "ytcnmhldcgmfaeaa", sum := "8a203caf049b7cc55646223a1e74ba6bf67dda9a184f3697715c1a38df5c501c", func := "keepsake/keepsakelaw07.SameThree", spec := "sameThree", unfollowed := true, recurses := true, apart := false, narrowed := true }
def SameThreeUptoSaid : Prop := sameThreeUptoRow.holds Try.pinned (OpenSpec.upto sameThreeSpec)

end Rows
end Go.Proofs.Ytcnmhldcgmfaeaa
