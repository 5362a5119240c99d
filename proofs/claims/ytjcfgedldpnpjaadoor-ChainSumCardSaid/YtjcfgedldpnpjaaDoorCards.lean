/-
  DERIVED. GIVEN WITH THE SEED: THE CARDS: each row of YtjcfgedldpnpjaaDoorRows.lean that lists a variable, with what it lists TIED to the program's text (the seventh form; the later family's looks); each row that meets fmt, with fmt's text TOLD by the authors' own Lean function (tested against real Go, not proved from fmt's source: count such statements apart). THE CARD IS WHAT COUNTS. Prove the row's statement (the work); the ties are given (YtjcfgedldpnpjaaDoorTie.lean); close each card by the builder's one call (the guide's Derived/Test/ToyasCard.lean, 'card_holds'). Laid BY PROGRAM, IN A SANDBOX (cutbox-door.mjs). By AI agents, Wed Nov 11 2026. No macro, syntax, notation, axiom, sorry.
-/
import Derived.Test.YtjcfgedldpnpjaaDoorRows
import GoSem.ClaimSeven
namespace Go.Proofs.YtjcfgedldpnpjaaDoor
namespace Rows

/-- THE TIED CARD OF 'keepsakelaw20.ChainTags'. -/
def chainTagsCard : Claim7 := { stood := { row := chainTagsRow, standIns := [], harness := (true, "97e99182e1a5f9b8ec410ced23bbd16bbcf4425f647541bb2213677b399fe746"), looks := false }, kinds := [], alts := [], laidByText := true, laidKinds := [.data], laidTests := true, laidLooks := .later }
def ChainTagsCardSaid : Prop := Claim7.holds Tryd.pinned (.plain (OpenSpec.ofChange chainTagsSpec)) chainTagsCard

/-- THE TIED CARD OF 'keepsakelaw20.ChainSeals'. -/
def chainSealsCard : Claim7 := { stood := { row := chainSealsRow, standIns := [], harness := (true, "97e99182e1a5f9b8ec410ced23bbd16bbcf4425f647541bb2213677b399fe746"), looks := false }, kinds := [], alts := [], laidByText := true, laidKinds := [.data], laidTests := true, laidLooks := .later }
def ChainSealsCardSaid : Prop := Claim7.holds Tryd.pinned (.plain (OpenSpec.ofChange chainSealsSpec)) chainSealsCard

/-- THE TIED CARD OF 'keepsakelaw20.ChainSound'. -/
def chainSoundCard : Claim7 := { stood := { row := chainSoundRow, standIns := [], harness := (true, "97e99182e1a5f9b8ec410ced23bbd16bbcf4425f647541bb2213677b399fe746"), looks := false }, kinds := [], alts := [], laidByText := true, laidKinds := [.data], laidTests := true, laidLooks := .later }
def ChainSoundCardSaid : Prop := Claim7.holds Tryd.pinned (.plain (OpenSpec.ofChange chainSoundSpec)) chainSoundCard

/-- THE TIED CARD OF 'keepsakelaw20.ChainSum'. -/
def chainSumCard : Claim7 := { stood := { row := chainSumRow, standIns := [], harness := (true, "97e99182e1a5f9b8ec410ced23bbd16bbcf4425f647541bb2213677b399fe746"), looks := false }, kinds := [], alts := [], laidByText := true, laidKinds := [.data], laidTests := true, laidLooks := .later }
def ChainSumCardSaid : Prop := Claim7.holds Tryd.pinned (.plain (OpenSpec.ofChange chainSumSpec)) chainSumCard

/-- THE SECOND FORM's CARD OF 'keepsakelaw20.ChainTags'. -/
def chainTagsUptoCard : Claim7 := { stood := { row := chainTagsUptoRow, standIns := [], harness := (true, "97e99182e1a5f9b8ec410ced23bbd16bbcf4425f647541bb2213677b399fe746"), looks := false }, kinds := [], alts := [], laidByText := true, laidKinds := [.data], laidTests := true, laidLooks := .later }
def ChainTagsUptoCardSaid : Prop := Claim7.holds Tryd.pinned (.plain (OpenSpec.upto chainTagsSpec)) chainTagsUptoCard

/-- THE SECOND FORM's CARD OF 'keepsakelaw20.ChainSeals'. -/
def chainSealsUptoCard : Claim7 := { stood := { row := chainSealsUptoRow, standIns := [], harness := (true, "97e99182e1a5f9b8ec410ced23bbd16bbcf4425f647541bb2213677b399fe746"), looks := false }, kinds := [], alts := [], laidByText := true, laidKinds := [.data], laidTests := true, laidLooks := .later }
def ChainSealsUptoCardSaid : Prop := Claim7.holds Tryd.pinned (.plain (OpenSpec.upto chainSealsSpec)) chainSealsUptoCard

/-- THE SECOND FORM's CARD OF 'keepsakelaw20.ChainSound'. -/
def chainSoundUptoCard : Claim7 := { stood := { row := chainSoundUptoRow, standIns := [], harness := (true, "97e99182e1a5f9b8ec410ced23bbd16bbcf4425f647541bb2213677b399fe746"), looks := false }, kinds := [], alts := [], laidByText := true, laidKinds := [.data], laidTests := true, laidLooks := .later }
def ChainSoundUptoCardSaid : Prop := Claim7.holds Tryd.pinned (.plain (OpenSpec.upto chainSoundSpec)) chainSoundUptoCard

/-- THE SECOND FORM's CARD OF 'keepsakelaw20.ChainSum'. -/
def chainSumUptoCard : Claim7 := { stood := { row := chainSumUptoRow, standIns := [], harness := (true, "97e99182e1a5f9b8ec410ced23bbd16bbcf4425f647541bb2213677b399fe746"), looks := false }, kinds := [], alts := [], laidByText := true, laidKinds := [.data], laidTests := true, laidLooks := .later }
def ChainSumUptoCardSaid : Prop := Claim7.holds Tryd.pinned (.plain (OpenSpec.upto chainSumSpec)) chainSumUptoCard
end Rows
end Go.Proofs.YtjcfgedldpnpjaaDoor
