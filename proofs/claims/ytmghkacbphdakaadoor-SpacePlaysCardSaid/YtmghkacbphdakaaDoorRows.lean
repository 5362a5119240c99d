/-
  NARROWER THAN 'FOR EVERY INPUT', by the rows' own cells (each row's printed sentence says how): SpacePlays: laid · SpaceCloses: laid · SpaceNil: laid.
  DERIVED. THE GIVEN ROWS OF THIS SEAT. 3 by the template 'for every input the law returns true; each argument reads behind the call as it read before'; 0 by the template 'total and deterministic' (their statements: YtmghkacbphdakaaDoorTotals.lean).
  GIVEN WITH THE SEED: the statements are not yours to turn. If you find one false, say at which input.
  Laid BY PROGRAM, IN A SANDBOX (cutbox-rows.mjs): the forced cells as the released guide's own fill.sh prints them over the translation 6f496aabc125e572… (all of the seat's roots in one cut). By AI agents, Wed Nov 11 2026. No macro, syntax, notation, axiom, sorry.
-/
import Derived.Test.YtmghkacbphdakaaDoorChecked
import GoSem.Claim
import GoSem.ClaimJoined
import GoSem.ClaimMapViews
import Derived.JoinedTies
import Derived.KernelRfl
namespace Go.Proofs.YtmghkacbphdakaaDoor
/- THE CELL 'sum', in the pinned program and in every row, IS THE sha256 OF THE DUMP (.gsa) THAT YtmghkacbphdakaaDoorProg.lean LOADS. Nothing in Lean hashes anything: it is a label: what it is worth is what the hold of that sum in a sandbox is worth. -/
noncomputable def Tryd.pinned : Pinned := { name := "ytmghkacbphdakaadoor", sum := "6f496aabc125e5723a0f35d7157edbf05ce37fcb4bd1cdec8f425e7ff8495794", checked := Tryd.checked }
namespace Rows
def none {H : Type} : Left H := { results := [], args := [] }

/- WHAT THE LISTED PACKAGE-LEVEL VARIABLES READ AS WHEN THE CALL BEGINS. Each datum BY PROGRAM (the guide's laid-datum.mjs) off the statement by which the dump's own 'gosem.cut.vars' lays the variable. In a bare row this is a premise. The card (YtmghkacbphdakaaDoorCards.lean) ties it to the program's text. -/
def laid_keepsake_geom_least {H : Type} : DataW H := .agg [.lit (.int .i64 8), .lit (.int .i64 1), .lit (.int .i64 0)]
def laid_keepsake_geom_most {H : Type} : DataW H := .agg [.lit (.int .i64 1024), .lit (.int .i64 4096), .lit (.int .i64 4294967295)]

/-- 'keepsakelaw13.SpacePlays': WHATEVER THE INPUT: true; the input reads as it did. -/
def spacePlaysSpec : ChangeSpec := { name := "spacePlays", fn := fun _ => fun
  | [d1, d2, d3] => { results := [.lit (.bool true)], args := [d1, d2, d3] }
  | _ => none }
def spacePlaysRow : OpenClaim := { program := "ytmghkacbphdakaadoor", sum := "6f496aabc125e5723a0f35d7157edbf05ce37fcb4bd1cdec8f425e7ff8495794", func := "keepsake/keepsakelaw13.SpacePlays", spec := "spacePlays", unfollowed := true, recurses := true, named := ["keepsake/geom.least", "keepsake/geom.most"], apart := false, laid := [("keepsake/geom.least", laid_keepsake_geom_least), ("keepsake/geom.most", laid_keepsake_geom_most)] }
def SpacePlaysSaid : Prop := spacePlaysRow.holds Tryd.pinned (OpenSpec.ofChange spacePlaysSpec)

/-- ITS FALSE NEIGHBOUR: 'it returns false'. Refute it at one input. -/
def spacePlaysWrong : ChangeSpec := { name := "spacePlays", fn := fun _ => fun
  | [d1, d2, d3] => { results := [.lit (.bool false)], args := [d1, d2, d3] }
  | _ => none }
def SpacePlaysWrongFalsely : Prop := spacePlaysRow.holds Tryd.pinned (OpenSpec.ofChange spacePlaysWrong)

/-- 'keepsakelaw13.SpaceCloses': WHATEVER THE INPUT: true; the input reads as it did. -/
def spaceClosesSpec : ChangeSpec := { name := "spaceCloses", fn := fun _ => fun
  | [d1, d2] => { results := [.lit (.bool true)], args := [d1, d2] }
  | _ => none }
def spaceClosesRow : OpenClaim := { program := "ytmghkacbphdakaadoor", sum := "6f496aabc125e5723a0f35d7157edbf05ce37fcb4bd1cdec8f425e7ff8495794", func := "keepsake/keepsakelaw13.SpaceCloses", spec := "spaceCloses", unfollowed := true, recurses := true, named := ["keepsake/geom.least", "keepsake/geom.most"], apart := false, laid := [("keepsake/geom.least", laid_keepsake_geom_least), ("keepsake/geom.most", laid_keepsake_geom_most)] }
def SpaceClosesSaid : Prop := spaceClosesRow.holds Tryd.pinned (OpenSpec.ofChange spaceClosesSpec)

/-- ITS FALSE NEIGHBOUR: 'it returns false'. Refute it at one input. -/
def spaceClosesWrong : ChangeSpec := { name := "spaceCloses", fn := fun _ => fun
  | [d1, d2] => { results := [.lit (.bool false)], args := [d1, d2] }
  | _ => none }
def SpaceClosesWrongFalsely : Prop := spaceClosesRow.holds Tryd.pinned (OpenSpec.ofChange spaceClosesWrong)

/-- 'keepsakelaw13.SpaceNil': WHATEVER THE INPUT: true; the input reads as it did. -/
def spaceNilSpec : ChangeSpec := { name := "spaceNil", fn := fun _ => fun
  | [d1, d2] => { results := [.lit (.bool true)], args := [d1, d2] }
  | _ => none }
def spaceNilRow : OpenClaim := { program := "ytmghkacbphdakaadoor", sum := "6f496aabc125e5723a0f35d7157edbf05ce37fcb4bd1cdec8f425e7ff8495794", func := "keepsake/keepsakelaw13.SpaceNil", spec := "spaceNil", unfollowed := true, recurses := true, named := ["keepsake/geom.least", "keepsake/geom.most"], apart := false, laid := [("keepsake/geom.least", laid_keepsake_geom_least), ("keepsake/geom.most", laid_keepsake_geom_most)] }
def SpaceNilSaid : Prop := spaceNilRow.holds Tryd.pinned (OpenSpec.ofChange spaceNilSpec)

/-- ITS FALSE NEIGHBOUR: 'it returns false'. Refute it at one input. -/
def spaceNilWrong : ChangeSpec := { name := "spaceNil", fn := fun _ => fun
  | [d1, d2] => { results := [.lit (.bool false)], args := [d1, d2] }
  | _ => none }
def SpaceNilWrongFalsely : Prop := spaceNilRow.holds Tryd.pinned (OpenSpec.ofChange spaceNilWrong)

/- THE SECOND FORM. 'bulk': how many values and letters a reading holds, each counted each time it is reached (what is shared counts as often as it is met; a slice's spare places count too). A statement '..UptoSaid' is the law's where the arguments, and the package variables that the reading takes, are together of bulk at most 1048576: NARROWER than '..Said'. Prove '..Said' where nothing that the law and all that it calls make is longer than what came in: it says more and counts as full. Else prove '..UptoSaid'. A law counts once. -/
mutual
def uptoBulk {H : Type} : DataW H → Nat
  | .lit (.string bytes) => bytes.length + 1
  | .lit _ => 1
  | .nil => 1
  | .ptr d => uptoBulk d + 1
  | .slice elems spare => uptoBulkAll elems + uptoBulkAll spare + 1
  | .agg parts => uptoBulkAll parts + 1
  | .iface _ d => uptoBulk d + 1
  | .map entries => uptoBulkEntries entries + 1
  | .held _ => 1
def uptoBulkAll {H : Type} : List (DataW H) → Nat
  | [] => 0
  | d :: r => uptoBulk d + uptoBulkAll r
def uptoBulkEntries {H : Type} : List (Lit × DataW H) → Nat
  | [] => 0
  | x :: r => uptoBulkEntry x + uptoBulkEntries r
def uptoBulkEntry {H : Type} : Lit × DataW H → Nat
  | (.string bytes, d) => bytes.length + uptoBulk d + 1
  | (_, d) => uptoBulk d + 1
 end
def uptoSmall : (H : Type) → List (DataW H) → Bool := fun _ ds => decide (uptoBulkAll ds ≤ 1048576)
def OpenSpec.upto (s : _root_.Go.ChangeSpec) : _root_.Go.OpenSpec := { _root_.Go.OpenSpec.ofChange s with cond := some uptoSmall }

/-- 'keepsakelaw13.SpacePlays', WHERE WHAT IT READS IS OF BULK AT MOST 1048576: true; the input reads as it did. -/
def spacePlaysUptoRow : OpenClaim := { program := "ytmghkacbphdakaadoor", sum := "6f496aabc125e5723a0f35d7157edbf05ce37fcb4bd1cdec8f425e7ff8495794", func := "keepsake/keepsakelaw13.SpacePlays", spec := "spacePlays", unfollowed := true, recurses := true, named := ["keepsake/geom.least", "keepsake/geom.most"], apart := false, laid := [("keepsake/geom.least", laid_keepsake_geom_least), ("keepsake/geom.most", laid_keepsake_geom_most)], narrowed := true }
def SpacePlaysUptoSaid : Prop := spacePlaysUptoRow.holds Tryd.pinned (OpenSpec.upto spacePlaysSpec)

/-- 'keepsakelaw13.SpaceCloses', WHERE WHAT IT READS IS OF BULK AT MOST 1048576: true; the input reads as it did. -/
def spaceClosesUptoRow : OpenClaim := { program := "ytmghkacbphdakaadoor", sum := "6f496aabc125e5723a0f35d7157edbf05ce37fcb4bd1cdec8f425e7ff8495794", func := "keepsake/keepsakelaw13.SpaceCloses", spec := "spaceCloses", unfollowed := true, recurses := true, named := ["keepsake/geom.least", "keepsake/geom.most"], apart := false, laid := [("keepsake/geom.least", laid_keepsake_geom_least), ("keepsake/geom.most", laid_keepsake_geom_most)], narrowed := true }
def SpaceClosesUptoSaid : Prop := spaceClosesUptoRow.holds Tryd.pinned (OpenSpec.upto spaceClosesSpec)

/-- 'keepsakelaw13.SpaceNil', WHERE WHAT IT READS IS OF BULK AT MOST 1048576: true; the input reads as it did. -/
def spaceNilUptoRow : OpenClaim := { program := "ytmghkacbphdakaadoor", sum := "6f496aabc125e5723a0f35d7157edbf05ce37fcb4bd1cdec8f425e7ff8495794", func := "keepsake/keepsakelaw13.SpaceNil", spec := "spaceNil", unfollowed := true, recurses := true, named := ["keepsake/geom.least", "keepsake/geom.most"], apart := false, laid := [("keepsake/geom.least", laid_keepsake_geom_least), ("keepsake/geom.most", laid_keepsake_geom_most)], narrowed := true }
def SpaceNilUptoSaid : Prop := spaceNilUptoRow.holds Tryd.pinned (OpenSpec.upto spaceNilSpec)

end Rows
end Go.Proofs.YtmghkacbphdakaaDoor
