/-
  NARROWER THAN 'FOR EVERY INPUT', by the rows' own cells (each row's printed sentence says how): GeomTells: laid · GeomBytes: laid · GeomApart: laid · GeomRoom: laid.
  DERIVED. THE GIVEN ROWS OF THIS SEAT. 4 by the template 'for every input the law returns true; each argument reads behind the call as it read before'; 0 by the template 'total and deterministic' (their statements: YtdnnfoelhcbmlaaDoorTotals.lean).
  GIVEN WITH THE SEED: the statements are not yours to turn. If you find one false, say at which input.
  Laid BY PROGRAM, IN A SANDBOX (cutbox-rows.mjs): the forced cells as the released guide's own fill.sh prints them over the translation 714f7b17db6cf094… (all of the seat's roots in one cut). By AI agents, Wed Nov 11 2026. No macro, syntax, notation, axiom, sorry.
-/
import Derived.Test.YtdnnfoelhcbmlaaDoorChecked
import GoSem.Claim
import GoSem.ClaimJoined
import GoSem.ClaimMapViews
import Derived.JoinedTies
import Derived.KernelRfl
namespace Go.Proofs.YtdnnfoelhcbmlaaDoor
/- THE CELL 'sum', in the pinned program and in every row, IS THE sha256 OF THE DUMP (.gsa) THAT YtdnnfoelhcbmlaaDoorProg.lean LOADS. Nothing in Lean hashes anything: it is a label: what it is worth is what the hold of that sum in a sandbox is worth. -/
noncomputable def Tryd.pinned : Pinned := { name := "ytdnnfoelhcbmlaadoor", sum := "714f7b17db6cf094c37894199b50ed5a441494604dcce50082b817f64eb5239f", checked := Tryd.checked }
namespace Rows
def none {H : Type} : Left H := { results := [], args := [] }

/- WHAT THE LISTED PACKAGE-LEVEL VARIABLES READ AS WHEN THE CALL BEGINS. Each datum BY PROGRAM (the guide's laid-datum.mjs) off the statement by which the dump's own 'gosem.cut.vars' lays the variable. In a bare row this is a premise. The card (YtdnnfoelhcbmlaaDoorCards.lean) ties it to the program's text. -/
def laid_keepsake_geom_least {H : Type} : DataW H := .agg [.lit (.int .i64 8), .lit (.int .i64 1), .lit (.int .i64 0)]
def laid_keepsake_geom_most {H : Type} : DataW H := .agg [.lit (.int .i64 1024), .lit (.int .i64 4096), .lit (.int .i64 4294967295)]

/-- 'keepsakelaw09.GeomTells': WHATEVER THE INPUT: true; the input reads as it did. -/
def geomTellsSpec : ChangeSpec := { name := "geomTells", fn := fun _ => fun
  | [d1, d2, d3] => { results := [.lit (.bool true)], args := [d1, d2, d3] }
  | _ => none }
def geomTellsRow : OpenClaim := { program := "ytdnnfoelhcbmlaadoor", sum := "714f7b17db6cf094c37894199b50ed5a441494604dcce50082b817f64eb5239f", func := "keepsake/keepsakelaw09.GeomTells", spec := "geomTells", named := ["keepsake/geom.least", "keepsake/geom.most"], apart := false, laid := [("keepsake/geom.least", laid_keepsake_geom_least), ("keepsake/geom.most", laid_keepsake_geom_most)] }
def GeomTellsSaid : Prop := geomTellsRow.holds Tryd.pinned (OpenSpec.ofChange geomTellsSpec)

/-- ITS FALSE NEIGHBOUR: 'it returns false'. Refute it at one input. -/
def geomTellsWrong : ChangeSpec := { name := "geomTells", fn := fun _ => fun
  | [d1, d2, d3] => { results := [.lit (.bool false)], args := [d1, d2, d3] }
  | _ => none }
def GeomTellsWrongFalsely : Prop := geomTellsRow.holds Tryd.pinned (OpenSpec.ofChange geomTellsWrong)

/-- 'keepsakelaw09.GeomBytes': WHATEVER THE INPUT: true; the input reads as it did. -/
def geomBytesSpec : ChangeSpec := { name := "geomBytes", fn := fun _ => fun
  | [d1, d2] => { results := [.lit (.bool true)], args := [d1, d2] }
  | _ => none }
def geomBytesRow : OpenClaim := { program := "ytdnnfoelhcbmlaadoor", sum := "714f7b17db6cf094c37894199b50ed5a441494604dcce50082b817f64eb5239f", func := "keepsake/keepsakelaw09.GeomBytes", spec := "geomBytes", unfollowed := true, recurses := true, named := ["keepsake/geom.least", "keepsake/geom.most"], apart := false, laid := [("keepsake/geom.least", laid_keepsake_geom_least), ("keepsake/geom.most", laid_keepsake_geom_most)] }
def GeomBytesSaid : Prop := geomBytesRow.holds Tryd.pinned (OpenSpec.ofChange geomBytesSpec)

/-- ITS FALSE NEIGHBOUR: 'it returns false'. Refute it at one input. -/
def geomBytesWrong : ChangeSpec := { name := "geomBytes", fn := fun _ => fun
  | [d1, d2] => { results := [.lit (.bool false)], args := [d1, d2] }
  | _ => none }
def GeomBytesWrongFalsely : Prop := geomBytesRow.holds Tryd.pinned (OpenSpec.ofChange geomBytesWrong)

/-- 'keepsakelaw09.GeomApart': WHATEVER THE INPUT: true; the input reads as it did. -/
def geomApartSpec : ChangeSpec := { name := "geomApart", fn := fun _ => fun
  | [d1, d2, d3] => { results := [.lit (.bool true)], args := [d1, d2, d3] }
  | _ => none }
def geomApartRow : OpenClaim := { program := "ytdnnfoelhcbmlaadoor", sum := "714f7b17db6cf094c37894199b50ed5a441494604dcce50082b817f64eb5239f", func := "keepsake/keepsakelaw09.GeomApart", spec := "geomApart", named := ["keepsake/geom.least", "keepsake/geom.most"], apart := false, laid := [("keepsake/geom.least", laid_keepsake_geom_least), ("keepsake/geom.most", laid_keepsake_geom_most)] }
def GeomApartSaid : Prop := geomApartRow.holds Tryd.pinned (OpenSpec.ofChange geomApartSpec)

/-- ITS FALSE NEIGHBOUR: 'it returns false'. Refute it at one input. -/
def geomApartWrong : ChangeSpec := { name := "geomApart", fn := fun _ => fun
  | [d1, d2, d3] => { results := [.lit (.bool false)], args := [d1, d2, d3] }
  | _ => none }
def GeomApartWrongFalsely : Prop := geomApartRow.holds Tryd.pinned (OpenSpec.ofChange geomApartWrong)

/-- 'keepsakelaw09.GeomRoom': WHATEVER THE INPUT: true; the input reads as it did. -/
def geomRoomSpec : ChangeSpec := { name := "geomRoom", fn := fun _ => fun
  | [d1, d2] => { results := [.lit (.bool true)], args := [d1, d2] }
  | _ => none }
def geomRoomRow : OpenClaim := { program := "ytdnnfoelhcbmlaadoor", sum := "714f7b17db6cf094c37894199b50ed5a441494604dcce50082b817f64eb5239f", func := "keepsake/keepsakelaw09.GeomRoom", spec := "geomRoom", named := ["keepsake/geom.least", "keepsake/geom.most"], apart := false, laid := [("keepsake/geom.least", laid_keepsake_geom_least), ("keepsake/geom.most", laid_keepsake_geom_most)] }
def GeomRoomSaid : Prop := geomRoomRow.holds Tryd.pinned (OpenSpec.ofChange geomRoomSpec)

/-- ITS FALSE NEIGHBOUR: 'it returns false'. Refute it at one input. -/
def geomRoomWrong : ChangeSpec := { name := "geomRoom", fn := fun _ => fun
  | [d1, d2] => { results := [.lit (.bool false)], args := [d1, d2] }
  | _ => none }
def GeomRoomWrongFalsely : Prop := geomRoomRow.holds Tryd.pinned (OpenSpec.ofChange geomRoomWrong)

/- THE SECOND FORM. 'bulk': how many values and letters a reading holds, each counted each time it is reached (what is shared counts as often as it is met; a slice's spare places count too). A statement '..UptoSaid' is the law's where the arguments, and the package variables that the reading takes, are together of bulk at most 1048576: NARROWER than '..Said'. Prove '..Said' where nothing that the law and all that it calls make is longer than what came in: it says more and counts as full. Else prove '..UptoSaid'. A law counts once. -/
mutual
def uptoBulk {H : Type} : DataW H → Nat
  | .lit (.string bytes) => bytes.length + 1
  | .lit _ => 1
  | .nil => 1
  | .ptr d => uptoBulk d + 1
  | .slice elems spare => uptoBulkAll elems + uptoBulkAll spare + 1
  | .agg parts => uptoBulkAll parts + 1
  | .iface _ d => uptoBulk d + 1
  | .map entries => uptoBulkEntries entries + 1
  | .held _ => 1
def uptoBulkAll {H : Type} : List (DataW H) → Nat
  | [] => 0
  | d :: r => uptoBulk d + uptoBulkAll r
def uptoBulkEntries {H : Type} : List (Lit × DataW H) → Nat
  | [] => 0
  | x :: r => uptoBulkEntry x + uptoBulkEntries r
def uptoBulkEntry {H : Type} : Lit × DataW H → Nat
  | (.string bytes, d) => bytes.length + uptoBulk d + 1
  | (_, d) => uptoBulk d + 1
 end
def uptoSmall : (H : Type) → List (DataW H) → Bool := fun _ ds => decide (uptoBulkAll ds ≤ 1048576)
def OpenSpec.upto (s : _root_.Go.ChangeSpec) : _root_.Go.OpenSpec := { _root_.Go.OpenSpec.ofChange s with cond := some uptoSmall }

/-- 'keepsakelaw09.GeomTells', WHERE WHAT IT READS IS OF BULK AT MOST 1048576: true; the input reads as it did. -/
def geomTellsUptoRow : OpenClaim := { program := "ytdnnfoelhcbmlaadoor", sum := "714f7b17db6cf094c37894199b50ed5a441494604dcce50082b817f64eb5239f", func := "keepsake/keepsakelaw09.GeomTells", spec := "geomTells", named := ["keepsake/geom.least", "keepsake/geom.most"], apart := false, laid := [("keepsake/geom.least", laid_keepsake_geom_least), ("keepsake/geom.most", laid_keepsake_geom_most)], narrowed := true }
def GeomTellsUptoSaid : Prop := geomTellsUptoRow.holds Tryd.pinned (OpenSpec.upto geomTellsSpec)

/-- 'keepsakelaw09.GeomBytes', WHERE WHAT IT READS IS OF BULK AT MOST 1048576: true; the input reads as it did. -/
def geomBytesUptoRow : OpenClaim := { program := "ytdnnfoelhcbmlaadoor", sum := "714f7b17db6cf094c37894199b50ed5a441494604dcce50082b817f64eb5239f", func := "keepsake/keepsakelaw09.GeomBytes", spec := "geomBytes", unfollowed := true, recurses := true, named := ["keepsake/geom.least", "keepsake/geom.most"], apart := false, laid := [("keepsake/geom.least", laid_keepsake_geom_least), ("keepsake/geom.most", laid_keepsake_geom_most)], narrowed := true }
def GeomBytesUptoSaid : Prop := geomBytesUptoRow.holds Tryd.pinned (OpenSpec.upto geomBytesSpec)

/-- 'keepsakelaw09.GeomApart', WHERE WHAT IT READS IS OF BULK AT MOST 1048576: true; the input reads as it did. -/
def geomApartUptoRow : OpenClaim := { program := "ytdnnfoelhcbmlaadoor", sum := "714f7b17db6cf094c37894199b50ed5a441494604dcce50082b817f64eb5239f", func := "keepsake/keepsakelaw09.GeomApart", spec := "geomApart", named := ["keepsake/geom.least", "keepsake/geom.most"], apart := false, laid := [("keepsake/geom.least", laid_keepsake_geom_least), ("keepsake/geom.most", laid_keepsake_geom_most)], narrowed := true }
def GeomApartUptoSaid : Prop := geomApartUptoRow.holds Tryd.pinned (OpenSpec.upto geomApartSpec)

/-- 'keepsakelaw09.GeomRoom', WHERE WHAT IT READS IS OF BULK AT MOST 1048576: true; the input reads as it did. -/
def geomRoomUptoRow : OpenClaim := { program := "ytdnnfoelhcbmlaadoor", sum := "714f7b17db6cf094c37894199b50ed5a441494604dcce50082b817f64eb5239f", func := "keepsake/keepsakelaw09.GeomRoom", spec := "geomRoom", named := ["keepsake/geom.least", "keepsake/geom.most"], apart := false, laid := [("keepsake/geom.least", laid_keepsake_geom_least), ("keepsake/geom.most", laid_keepsake_geom_most)], narrowed := true }
def GeomRoomUptoSaid : Prop := geomRoomUptoRow.holds Tryd.pinned (OpenSpec.upto geomRoomSpec)

end Rows
end Go.Proofs.YtdnnfoelhcbmlaaDoor
