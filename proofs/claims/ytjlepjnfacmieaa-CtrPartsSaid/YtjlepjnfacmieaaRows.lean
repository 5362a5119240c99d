/-
  No cell of these rows narrows 'for every input' (looked for: loops, veiled, ifaces, maps, wideKeys, modest, calm, conditions, laid).
  DERIVED. THE GIVEN ROWS OF THIS SEAT. 4 by the template 'for every input the law returns true; each argument reads behind the call as it read before'; 0 by the template 'total and deterministic' (their statements: YtjlepjnfacmieaaTotals.lean).
  GIVEN WITH THE SEED: the statements are not yours to turn. If you find one false, say at which input.
  Laid BY PROGRAM, IN A SANDBOX (cutbox-rows.mjs): the forced cells as the released guide's own fill.sh prints them over the translation 127613f84e526d24… (all of the seat's roots in one cut). By AI agents, Wed Nov 11 2026. No macro, syntax, notation, axiom, sorry.
-/
import Derived.Test.YtjlepjnfacmieaaChecked
import GoSem.Claim
import GoSem.ClaimJoined
import GoSem.ClaimMapViews
import Derived.JoinedTies
import Derived.KernelRfl
namespace Go.Proofs.Ytjlepjnfacmieaa
/- THE CELL 'sum', in the pinned program and in every row, IS THE sha256 OF THE DUMP (.gsa) THAT YtjlepjnfacmieaaProg.lean LOADS. Nothing in Lean hashes anything: it is a label: what it is worth is what the hold of that sum in a sandbox is worth. -/
noncomputable def Try.pinned : Pinned := { name := "ytjlepjnfacmieaa", sum := "127613f84e526d24e274034cd4a297273003d6b13316333e0d80faee56978336", checked := Try.checked }
namespace Rows
def none {H : Type} : Left H := { results := [], args := [] }

/-- 'keepsakelaw06.CtrStreams': WHATEVER THE INPUT: true; the input reads as it did. -/
def ctrStreamsSpec : ChangeSpec := { name := "ctrStreams", fn := fun _ => fun
  | [d1, d2, d3, d4, d5] => { results := [.lit (.bool true)], args := [d1, d2, d3, d4, d5] }
  | _ => none }
def ctrStreamsRow : OpenClaim := { program := "ytjlepjnfacmieaa", sum := "127613f84e526d24e274034cd4a297273003d6b13316333e0d80faee56978336", func := "keepsake/keepsakelaw06.CtrStreams", spec := "ctrStreams", inPlace := ["internal/abi.NoEscape"], unfollowed := true, recurses := true, apart := false }
def CtrStreamsSaid : Prop := ctrStreamsRow.holds Try.pinned (OpenSpec.ofChange ctrStreamsSpec)

/-- ITS FALSE NEIGHBOUR: 'it returns false'. Refute it at one input. -/
def ctrStreamsWrong : ChangeSpec := { name := "ctrStreams", fn := fun _ => fun
  | [d1, d2, d3, d4, d5] => { results := [.lit (.bool false)], args := [d1, d2, d3, d4, d5] }
  | _ => none }
def CtrStreamsWrongFalsely : Prop := ctrStreamsRow.holds Try.pinned (OpenSpec.ofChange ctrStreamsWrong)

/-- 'keepsakelaw06.CtrHides': WHATEVER THE INPUT: true; the input reads as it did. -/
def ctrHidesSpec : ChangeSpec := { name := "ctrHides", fn := fun _ => fun
  | [d1, d2, d3, d4] => { results := [.lit (.bool true)], args := [d1, d2, d3, d4] }
  | _ => none }
def ctrHidesRow : OpenClaim := { program := "ytjlepjnfacmieaa", sum := "127613f84e526d24e274034cd4a297273003d6b13316333e0d80faee56978336", func := "keepsake/keepsakelaw06.CtrHides", spec := "ctrHides", inPlace := ["internal/abi.NoEscape"], unfollowed := true, recurses := true, apart := false }
def CtrHidesSaid : Prop := ctrHidesRow.holds Try.pinned (OpenSpec.ofChange ctrHidesSpec)

/-- ITS FALSE NEIGHBOUR: 'it returns false'. Refute it at one input. -/
def ctrHidesWrong : ChangeSpec := { name := "ctrHides", fn := fun _ => fun
  | [d1, d2, d3, d4] => { results := [.lit (.bool false)], args := [d1, d2, d3, d4] }
  | _ => none }
def CtrHidesWrongFalsely : Prop := ctrHidesRow.holds Try.pinned (OpenSpec.ofChange ctrHidesWrong)

/-- 'keepsakelaw06.CtrParts': WHATEVER THE INPUT: true; the input reads as it did. -/
def ctrPartsSpec : ChangeSpec := { name := "ctrParts", fn := fun _ => fun
  | [d1, d2, d3, d4, d5, d6] => { results := [.lit (.bool true)], args := [d1, d2, d3, d4, d5, d6] }
  | _ => none }
def ctrPartsRow : OpenClaim := { program := "ytjlepjnfacmieaa", sum := "127613f84e526d24e274034cd4a297273003d6b13316333e0d80faee56978336", func := "keepsake/keepsakelaw06.CtrParts", spec := "ctrParts", inPlace := ["internal/abi.NoEscape"], unfollowed := true, recurses := true, apart := false }
def CtrPartsSaid : Prop := ctrPartsRow.holds Try.pinned (OpenSpec.ofChange ctrPartsSpec)

/-- ITS FALSE NEIGHBOUR: 'it returns false'. Refute it at one input. -/
def ctrPartsWrong : ChangeSpec := { name := "ctrParts", fn := fun _ => fun
  | [d1, d2, d3, d4, d5, d6] => { results := [.lit (.bool false)], args := [d1, d2, d3, d4, d5, d6] }
  | _ => none }
def CtrPartsWrongFalsely : Prop := ctrPartsRow.holds Try.pinned (OpenSpec.ofChange ctrPartsWrong)

/-- 'keepsakelaw06.CtrOnce': WHATEVER THE INPUT: true; the input reads as it did. -/
def ctrOnceSpec : ChangeSpec := { name := "ctrOnce", fn := fun _ => fun
  | [d1, d2, d3] => { results := [.lit (.bool true)], args := [d1, d2, d3] }
  | _ => none }
def ctrOnceRow : OpenClaim := { program := "ytjlepjnfacmieaa", sum := "127613f84e526d24e274034cd4a297273003d6b13316333e0d80faee56978336", func := "keepsake/keepsakelaw06.CtrOnce", spec := "ctrOnce", unfollowed := true, recurses := true, apart := false }
def CtrOnceSaid : Prop := ctrOnceRow.holds Try.pinned (OpenSpec.ofChange ctrOnceSpec)

/-- ITS FALSE NEIGHBOUR: 'it returns false'. Refute it at one input. -/
def ctrOnceWrong : ChangeSpec := { name := "ctrOnce", fn := fun _ => fun
  | [d1, d2, d3] => { results := [.lit (.bool false)], args := [d1, d2, d3] }
  | _ => none }
def CtrOnceWrongFalsely : Prop := ctrOnceRow.holds Try.pinned (OpenSpec.ofChange ctrOnceWrong)

/- THE SECOND FORM. 'bulk': how many values and letters a reading holds, each counted each time it is reached (what is shared counts as often as it is met; a slice's spare places count too). A statement '..UptoSaid' is the law's where the arguments, and the package variables that the reading takes, are together of bulk at most 1048576: NARROWER than '..Said'. Prove '..Said' where nothing that the law and all that it calls make is longer than what came in: it says more and counts as full. Else prove '..UptoSaid'. A law counts once. -/
mutual
def uptoBulk {H : Type} : DataW H → Nat
  | .lit (.string bytes) => bytes.length + 1
  | .lit _ => 1
  | .nil => 1
  | .ptr d => uptoBulk d + 1
  | .slice elems spare => uptoBulkAll elems + uptoBulkAll spare + 1
  | .agg parts => uptoBulkAll parts + 1
  | .iface _ d => uptoBulk d + 1
  | .map entries => uptoBulkEntries entries + 1
  | .held _ => 1
def uptoBulkAll {H : Type} : List (DataW H) → Nat
  | [] => 0
  | d :: r => uptoBulk d + uptoBulkAll r
def uptoBulkEntries {H : Type} : List (Lit × DataW H) → Nat
  | [] => 0
  | x :: r => uptoBulkEntry x + uptoBulkEntries r
def uptoBulkEntry {H : Type} : Lit × DataW H → Nat
  | (.string bytes, d) => bytes.length + uptoBulk d + 1
  | (_, d) => uptoBulk d + 1
 end
def uptoSmall : (H : Type) → List (DataW H) → Bool := fun _ ds => decide (uptoBulkAll ds ≤ 1048576)
def OpenSpec.upto (s : _root_.Go.ChangeSpec) : _root_.Go.OpenSpec := { _root_.Go.OpenSpec.ofChange s with cond := some uptoSmall }

/-- 'keepsakelaw06.CtrStreams', WHERE WHAT IT READS IS OF BULK AT MOST 1048576: true; the input reads as it did. -/
def ctrStreamsUptoRow : OpenClaim := { program := "ytjlepjnfacmieaa", sum := "127613f84e526d24e274034cd4a297273003d6b13316333e0d80faee56978336", func := "keepsake/keepsakelaw06.CtrStreams", spec := "ctrStreams", inPlace := ["internal/abi.NoEscape"], unfollowed := true, recurses := true, apart := false, narrowed := true }
def CtrStreamsUptoSaid : Prop := ctrStreamsUptoRow.holds Try.pinned (OpenSpec.upto ctrStreamsSpec)

/-- 'keepsakelaw06.CtrHides', WHERE WHAT IT READS IS OF BULK AT MOST 1048576: true; the input reads as it did. -/
def ctrHidesUptoRow : OpenClaim := { program := "ytjlepjnfacmieaa", sum := "127613f84e526d24e274034cd4a297273003d6b13316333e0d80faee56978336", func := "keepsake/keepsakelaw06.CtrHides", spec := "ctrHides", inPlace := ["internal/abi.NoEscape"], unfollowed := true, recurses := true, apart := false, narrowed := true }
def CtrHidesUptoSaid : Prop := ctrHidesUptoRow.holds Try.pinned (OpenSpec.upto ctrHidesSpec)

/-- 'keepsakelaw06.CtrParts', WHERE WHAT IT READS IS OF BULK AT MOST 1048576: true; the input reads as it did. -/
def ctrPartsUptoRow : OpenClaim := { program := "ytjlepjnfacmieaa", sum := "127613f84e526d24e274034cd4a297273003d6b13316333e0d80faee56978336", func := "keepsake/keepsakelaw06.CtrParts", spec := "ctrParts", inPlace := ["internal/abi.NoEscape"], unfollowed := true, recurses := true, apart := false, narrowed := true }
def CtrPartsUptoSaid : Prop := ctrPartsUptoRow.holds Try.pinned (OpenSpec.upto ctrPartsSpec)

/-- 'keepsakelaw06.CtrOnce', WHERE WHAT IT READS IS OF BULK AT MOST 1048576: true; the input reads as it did. -/
def ctrOnceUptoRow : OpenClaim := { program := "ytjlepjnfacmieaa", sum := "127613f84e526d24e274034cd4a297273003d6b13316333e0d80faee56978336", func := "keepsake/keepsakelaw06.CtrOnce", spec := "ctrOnce", unfollowed := true, recurses := true, apart := false, narrowed := true }
def CtrOnceUptoSaid : Prop := ctrOnceUptoRow.holds Try.pinned (OpenSpec.upto ctrOnceSpec)

end Rows
end Go.Proofs.Ytjlepjnfacmieaa
