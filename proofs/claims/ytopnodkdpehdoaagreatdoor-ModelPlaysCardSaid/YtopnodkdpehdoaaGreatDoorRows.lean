/-
  NARROWER THAN 'FOR EVERY INPUT', by the rows' own cells (each row's printed sentence says how): ModelPlays: laid · ModelRefused: laid · ModelOnce: laid · ModelCloses: laid · ModelNil: laid.
  DERIVED. THE GIVEN ROWS OF THIS SEAT. 5 by the template 'for every input the law returns true; each argument reads behind the call as it read before'; 0 by the template 'total and deterministic' (their statements: YtopnodkdpehdoaaGreatDoorTotals.lean).
  GIVEN WITH THE SEED: the statements are not yours to turn. If you find one false, say at which input.
  Laid BY PROGRAM, IN A SANDBOX (cutbox-rows.mjs): the forced cells as the released guide's own fill.sh prints them over the translation 532c8ee5a085cab1… (all of the seat's roots in one cut). By AI agents, Wed Nov 11 2026. No macro, syntax, notation, axiom, sorry.
-/
import Derived.Test.YtopnodkdpehdoaaGreatDoorChecked
import GoSem.Claim
import GoSem.ClaimJoined
import GoSem.ClaimMapViews
import Derived.JoinedTies
import Derived.KernelRfl
namespace Go.Proofs.YtopnodkdpehdoaaGreatDoor
/- THE CELL 'sum', in the pinned program and in every row, IS THE sha256 OF THE DUMP (.gsa) THAT YtopnodkdpehdoaaGreatDoorProg.lean LOADS. Nothing in Lean hashes anything: it is a label: what it is worth is what the hold of that sum in a sandbox is worth. -/
noncomputable def Tryz.pinned : Pinned := { name := "ytopnodkdpehdoaagreatdoor", sum := "532c8ee5a085cab13f6dd8c8e3749cb0107ec16879a8953853cbac63aa820f8d", checked := Tryz.checked }
namespace Rows
def none {H : Type} : Left H := { results := [], args := [] }

/- WHAT THE LISTED PACKAGE-LEVEL VARIABLES READ AS WHEN THE CALL BEGINS. Each datum BY PROGRAM (the guide's laid-datum.mjs) off the statement by which the dump's own 'gosem.cut.vars' lays the variable. In a bare row this is a premise. The card (YtopnodkdpehdoaaGreatDoorCards.lean) ties it to the program's text. -/
def laid_keepsake_geom_least {H : Type} : DataW H := .agg [.lit (.int .i64 8), .lit (.int .i64 1), .lit (.int .i64 0)]
def laid_keepsake_geom_most {H : Type} : DataW H := .agg [.lit (.int .i64 1024), .lit (.int .i64 4096), .lit (.int .i64 4294967295)]

/-- 'keepsakelaw24.ModelPlays': WHATEVER THE INPUT: true; the input reads as it did. -/
def modelPlaysSpec : ChangeSpec := { name := "modelPlays", fn := fun _ => fun
  | [d1, d2, d3, d4] => { results := [.lit (.bool true)], args := [d1, d2, d3, d4] }
  | _ => none }
def modelPlaysRow : OpenClaim := { program := "ytopnodkdpehdoaagreatdoor", sum := "532c8ee5a085cab13f6dd8c8e3749cb0107ec16879a8953853cbac63aa820f8d", func := "keepsake/keepsakelaw24.ModelPlays", spec := "modelPlays", inPlace := ["internal/abi.NoEscape", "internal/bytealg.MakeNoZero"], unfollowed := true, recurses := true, named := ["keepsake/geom.least", "keepsake/geom.most"], apart := false, laid := [("keepsake/geom.least", laid_keepsake_geom_least), ("keepsake/geom.most", laid_keepsake_geom_most)] }
def ModelPlaysSaid : Prop := modelPlaysRow.holds Tryz.pinned (OpenSpec.ofChange modelPlaysSpec)

/-- ITS FALSE NEIGHBOUR: 'it returns false'. Refute it at one input. -/
def modelPlaysWrong : ChangeSpec := { name := "modelPlays", fn := fun _ => fun
  | [d1, d2, d3, d4] => { results := [.lit (.bool false)], args := [d1, d2, d3, d4] }
  | _ => none }
def ModelPlaysWrongFalsely : Prop := modelPlaysRow.holds Tryz.pinned (OpenSpec.ofChange modelPlaysWrong)

/-- 'keepsakelaw24.ModelRefused': WHATEVER THE INPUT: true; the input reads as it did. -/
def modelRefusedSpec : ChangeSpec := { name := "modelRefused", fn := fun _ => fun
  | [d1, d2, d3] => { results := [.lit (.bool true)], args := [d1, d2, d3] }
  | _ => none }
def modelRefusedRow : OpenClaim := { program := "ytopnodkdpehdoaagreatdoor", sum := "532c8ee5a085cab13f6dd8c8e3749cb0107ec16879a8953853cbac63aa820f8d", func := "keepsake/keepsakelaw24.ModelRefused", spec := "modelRefused", inPlace := ["internal/abi.NoEscape", "internal/bytealg.MakeNoZero", "maps.clone"], unfollowed := true, recurses := true, named := ["keepsake/geom.least", "keepsake/geom.most"], apart := false, laid := [("keepsake/geom.least", laid_keepsake_geom_least), ("keepsake/geom.most", laid_keepsake_geom_most)] }
def ModelRefusedSaid : Prop := modelRefusedRow.holds Tryz.pinned (OpenSpec.ofChange modelRefusedSpec)

/-- ITS FALSE NEIGHBOUR: 'it returns false'. Refute it at one input. -/
def modelRefusedWrong : ChangeSpec := { name := "modelRefused", fn := fun _ => fun
  | [d1, d2, d3] => { results := [.lit (.bool false)], args := [d1, d2, d3] }
  | _ => none }
def ModelRefusedWrongFalsely : Prop := modelRefusedRow.holds Tryz.pinned (OpenSpec.ofChange modelRefusedWrong)

/-- 'keepsakelaw24.ModelOnce': WHATEVER THE INPUT: true; the input reads as it did. -/
def modelOnceSpec : ChangeSpec := { name := "modelOnce", fn := fun _ => fun
  | [d1, d2, d3, d4, d5] => { results := [.lit (.bool true)], args := [d1, d2, d3, d4, d5] }
  | _ => none }
def modelOnceRow : OpenClaim := { program := "ytopnodkdpehdoaagreatdoor", sum := "532c8ee5a085cab13f6dd8c8e3749cb0107ec16879a8953853cbac63aa820f8d", func := "keepsake/keepsakelaw24.ModelOnce", spec := "modelOnce", inPlace := ["internal/abi.NoEscape", "internal/bytealg.MakeNoZero"], unfollowed := true, recurses := true, named := ["keepsake/geom.least", "keepsake/geom.most"], apart := false, laid := [("keepsake/geom.least", laid_keepsake_geom_least), ("keepsake/geom.most", laid_keepsake_geom_most)] }
def ModelOnceSaid : Prop := modelOnceRow.holds Tryz.pinned (OpenSpec.ofChange modelOnceSpec)

/-- ITS FALSE NEIGHBOUR: 'it returns false'. Refute it at one input. -/
def modelOnceWrong : ChangeSpec := { name := "modelOnce", fn := fun _ => fun
  | [d1, d2, d3, d4, d5] => { results := [.lit (.bool false)], args := [d1, d2, d3, d4, d5] }
  | _ => none }
def ModelOnceWrongFalsely : Prop := modelOnceRow.holds Tryz.pinned (OpenSpec.ofChange modelOnceWrong)

/-- 'keepsakelaw24.ModelCloses': WHATEVER THE INPUT: true; the input reads as it did. -/
def modelClosesSpec : ChangeSpec := { name := "modelCloses", fn := fun _ => fun
  | [d1, d2] => { results := [.lit (.bool true)], args := [d1, d2] }
  | _ => none }
def modelClosesRow : OpenClaim := { program := "ytopnodkdpehdoaagreatdoor", sum := "532c8ee5a085cab13f6dd8c8e3749cb0107ec16879a8953853cbac63aa820f8d", func := "keepsake/keepsakelaw24.ModelCloses", spec := "modelCloses", inPlace := ["internal/abi.NoEscape", "internal/bytealg.MakeNoZero"], unfollowed := true, recurses := true, named := ["keepsake/geom.least", "keepsake/geom.most"], apart := false, laid := [("keepsake/geom.least", laid_keepsake_geom_least), ("keepsake/geom.most", laid_keepsake_geom_most)] }
def ModelClosesSaid : Prop := modelClosesRow.holds Tryz.pinned (OpenSpec.ofChange modelClosesSpec)

/-- ITS FALSE NEIGHBOUR: 'it returns false'. Refute it at one input. -/
def modelClosesWrong : ChangeSpec := { name := "modelCloses", fn := fun _ => fun
  | [d1, d2] => { results := [.lit (.bool false)], args := [d1, d2] }
  | _ => none }
def ModelClosesWrongFalsely : Prop := modelClosesRow.holds Tryz.pinned (OpenSpec.ofChange modelClosesWrong)

/-- 'keepsakelaw24.ModelNil': WHATEVER THE INPUT: true; the input reads as it did. -/
def modelNilSpec : ChangeSpec := { name := "modelNil", fn := fun _ => fun
  | [d1, d2] => { results := [.lit (.bool true)], args := [d1, d2] }
  | _ => none }
def modelNilRow : OpenClaim := { program := "ytopnodkdpehdoaagreatdoor", sum := "532c8ee5a085cab13f6dd8c8e3749cb0107ec16879a8953853cbac63aa820f8d", func := "keepsake/keepsakelaw24.ModelNil", spec := "modelNil", inPlace := ["internal/abi.NoEscape", "internal/bytealg.MakeNoZero", "maps.clone"], unfollowed := true, recurses := true, named := ["keepsake/geom.least", "keepsake/geom.most"], apart := false, laid := [("keepsake/geom.least", laid_keepsake_geom_least), ("keepsake/geom.most", laid_keepsake_geom_most)] }
def ModelNilSaid : Prop := modelNilRow.holds Tryz.pinned (OpenSpec.ofChange modelNilSpec)

/-- ITS FALSE NEIGHBOUR: 'it returns false'. Refute it at one input. -/
def modelNilWrong : ChangeSpec := { name := "modelNil", fn := fun _ => fun
  | [d1, d2] => { results := [.lit (.bool false)], args := [d1, d2] }
  | _ => none }
def ModelNilWrongFalsely : Prop := modelNilRow.holds Tryz.pinned (OpenSpec.ofChange modelNilWrong)

/- THE SECOND FORM. 'bulk': how many values and letters a reading holds, each counted each time it is reached (what is shared counts as often as it is met; a slice's spare places count too). A statement '..UptoSaid' is the law's where the arguments, and the package variables that the reading takes, are together of bulk at most 1048576: NARROWER than '..Said'. Prove '..Said' where nothing that the law and all that it calls make is longer than what came in: it says more and counts as full. Else prove '..UptoSaid'. A law counts once. -/
mutual
def uptoBulk {H : Type} : DataW H → Nat
  | .lit (.string bytes) => bytes.length + 1
  | .lit _ => 1
  | .nil => 1
  | .ptr d => uptoBulk d + 1
  | .slice elems spare => uptoBulkAll elems + uptoBulkAll spare + 1
  | .agg parts => uptoBulkAll parts + 1
  | .iface _ d => uptoBulk d + 1
  | .map entries => uptoBulkEntries entries + 1
  | .held _ => 1
def uptoBulkAll {H : Type} : List (DataW H) → Nat
  | [] => 0
  | d :: r => uptoBulk d + uptoBulkAll r
def uptoBulkEntries {H : Type} : List (Lit × DataW H) → Nat
  | [] => 0
  | x :: r => uptoBulkEntry x + uptoBulkEntries r
def uptoBulkEntry {H : Type} : Lit × DataW H → Nat
  | (.string bytes, d) => bytes.length + uptoBulk d + 1
  | (_, d) => uptoBulk d + 1
 end
def uptoSmall : (H : Type) → List (DataW H) → Bool := fun _ ds => decide (uptoBulkAll ds ≤ 1048576)
def OpenSpec.upto (s : _root_.Go.ChangeSpec) : _root_.Go.OpenSpec := { _root_.Go.OpenSpec.ofChange s with cond := some uptoSmall }

/-- 'keepsakelaw24.ModelPlays', WHERE WHAT IT READS IS OF BULK AT MOST 1048576: true; the input reads as it did. -/
def modelPlaysUptoRow : OpenClaim := { program := "ytopnodkdpehdoaagreatdoor", sum := "532c8ee5a085cab13f6dd8c8e3749cb0107ec16879a8953853cbac63aa820f8d", func := "keepsake/keepsakelaw24.ModelPlays", spec := "modelPlays", inPlace := ["internal/abi.NoEscape", "internal/bytealg.MakeNoZero"], unfollowed := true, recurses := true, named := ["keepsake/geom.least", "keepsake/geom.most"], apart := false, laid := [("keepsake/geom.least", laid_keepsake_geom_least), ("keepsake/geom.most", laid_keepsake_geom_most)], narrowed := true }
def ModelPlaysUptoSaid : Prop := modelPlaysUptoRow.holds Tryz.pinned (OpenSpec.upto modelPlaysSpec)

/-- 'keepsakelaw24.ModelRefused', WHERE WHAT IT READS IS OF BULK AT MOST 1048576: true; the input reads as it did. -/
def modelRefusedUptoRow : OpenClaim := { program := "ytopnodkdpehdoaagreatdoor", sum := "532c8ee5a085cab13f6dd8c8e3749cb0107ec16879a8953853cbac63aa820f8d", func := "keepsake/keepsakelaw24.ModelRefused", spec := "modelRefused", inPlace := ["internal/abi.NoEscape", "internal/bytealg.MakeNoZero", "maps.clone"], unfollowed := true, recurses := true, named := ["keepsake/geom.least", "keepsake/geom.most"], apart := false, laid := [("keepsake/geom.least", laid_keepsake_geom_least), ("keepsake/geom.most", laid_keepsake_geom_most)], narrowed := true }
def ModelRefusedUptoSaid : Prop := modelRefusedUptoRow.holds Tryz.pinned (OpenSpec.upto modelRefusedSpec)

/-- 'keepsakelaw24.ModelOnce', WHERE WHAT IT READS IS OF BULK AT MOST 1048576: true; the input reads as it did. -/
def modelOnceUptoRow : OpenClaim := { program := "ytopnodkdpehdoaagreatdoor", sum := "532c8ee5a085cab13f6dd8c8e3749cb0107ec16879a8953853cbac63aa820f8d", func := "keepsake/keepsakelaw24.ModelOnce", spec := "modelOnce", inPlace := ["internal/abi.NoEscape", "internal/bytealg.MakeNoZero"], unfollowed := true, recurses := true, named := ["keepsake/geom.least", "keepsake/geom.most"], apart := false, laid := [("keepsake/geom.least", laid_keepsake_geom_least), ("keepsake/geom.most", laid_keepsake_geom_most)], narrowed := true }
def ModelOnceUptoSaid : Prop := modelOnceUptoRow.holds Tryz.pinned (OpenSpec.upto modelOnceSpec)

/-- 'keepsakelaw24.ModelCloses', WHERE WHAT IT READS IS OF BULK AT MOST 1048576: true; the input reads as it did. -/
def modelClosesUptoRow : OpenClaim := { program := "ytopnodkdpehdoaagreatdoor", sum := "532c8ee5a085cab13f6dd8c8e3749cb0107ec16879a8953853cbac63aa820f8d", func := "keepsake/keepsakelaw24.ModelCloses", spec := "modelCloses", inPlace := ["internal/abi.NoEscape", "internal/bytealg.MakeNoZero"], unfollowed := true, recurses := true, named := ["keepsake/geom.least", "keepsake/geom.most"], apart := false, laid := [("keepsake/geom.least", laid_keepsake_geom_least), ("keepsake/geom.most", laid_keepsake_geom_most)], narrowed := true }
def ModelClosesUptoSaid : Prop := modelClosesUptoRow.holds Tryz.pinned (OpenSpec.upto modelClosesSpec)

/-- 'keepsakelaw24.ModelNil', WHERE WHAT IT READS IS OF BULK AT MOST 1048576: true; the input reads as it did. -/
def modelNilUptoRow : OpenClaim := { program := "ytopnodkdpehdoaagreatdoor", sum := "532c8ee5a085cab13f6dd8c8e3749cb0107ec16879a8953853cbac63aa820f8d", func := "keepsake/keepsakelaw24.ModelNil", spec := "modelNil", inPlace := ["internal/abi.NoEscape", "internal/bytealg.MakeNoZero", "maps.clone"], unfollowed := true, recurses := true, named := ["keepsake/geom.least", "keepsake/geom.most"], apart := false, laid := [("keepsake/geom.least", laid_keepsake_geom_least), ("keepsake/geom.most", laid_keepsake_geom_most)], narrowed := true }
def ModelNilUptoSaid : Prop := modelNilUptoRow.holds Tryz.pinned (OpenSpec.upto modelNilSpec)

end Rows
end Go.Proofs.YtopnodkdpehdoaaGreatDoor
