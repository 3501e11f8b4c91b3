/-
  DERIVED. GIVEN WITH THE SEED: THE CARDS: each row of YtlfohbajeecdeaaDoorRows.lean that lists a variable, with what it lists TIED to the program's text (the seventh form; the later family's looks); each row that meets fmt, with fmt's text TOLD by the authors' own Lean function (tested against real Go, not proved from fmt's source: count such statements apart). THE CARD IS WHAT COUNTS. Prove the row's statement (the work); the ties are given (YtlfohbajeecdeaaDoorTie.lean); close each card by the builder's one call (the guide's Derived/Test/ToyasCard.lean, 'card_holds'). Laid BY PROGRAM, IN A SANDBOX (cutbox-door.mjs). By AI agents, Wed Nov 11 2026. No macro, syntax, notation, axiom, sorry.
-/
import Derived.Test.YtlfohbajeecdeaaDoorRows
import GoSem.ClaimSeven
namespace Go.Proofs.YtlfohbajeecdeaaDoor
namespace Rows

/-- THE TIED CARD OF 'dyehouselaw14.ShowFuncs'. -/
def showFuncsCard : Claim7 := { stood := { row := showFuncsRow, standIns := [], harness := (true, "cc5b3beb65743ca3487931eb89daf191ea2e8cfac8d3a248883d7a7472637e55"), looks := false }, kinds := [], alts := [], laidByText := true, laidKinds := [.data], laidTests := true, laidLooks := .later }
def ShowFuncsCardSaid : Prop := Claim7.holds Tryd.pinned (.plain (OpenSpec.ofChange showFuncsSpec)) showFuncsCard

/-- THE TIED CARD OF 'dyehouselaw14.ShowInstrs'. -/
def showInstrsCard : Claim7 := { stood := { row := showInstrsRow, standIns := [], harness := (true, "cc5b3beb65743ca3487931eb89daf191ea2e8cfac8d3a248883d7a7472637e55"), looks := false }, kinds := [], alts := [], laidByText := true, laidKinds := [.data], laidTests := true, laidLooks := .later }
def ShowInstrsCardSaid : Prop := Claim7.holds Tryd.pinned (.plain (OpenSpec.ofChange showInstrsSpec)) showInstrsCard

/-- THE TIED CARD OF 'dyehouselaw14.ShowBlocks'. -/
def showBlocksCard : Claim7 := { stood := { row := showBlocksRow, standIns := [], harness := (true, "cc5b3beb65743ca3487931eb89daf191ea2e8cfac8d3a248883d7a7472637e55"), looks := false }, kinds := [], alts := [], laidByText := true, laidKinds := [.data], laidTests := true, laidLooks := .later }
def ShowBlocksCardSaid : Prop := Claim7.holds Tryd.pinned (.plain (OpenSpec.ofChange showBlocksSpec)) showBlocksCard

/-- THE SECOND FORM's CARD OF 'dyehouselaw14.ShowFuncs'. -/
def showFuncsUptoCard : Claim7 := { stood := { row := showFuncsUptoRow, standIns := [], harness := (true, "cc5b3beb65743ca3487931eb89daf191ea2e8cfac8d3a248883d7a7472637e55"), looks := false }, kinds := [], alts := [], laidByText := true, laidKinds := [.data], laidTests := true, laidLooks := .later }
def ShowFuncsUptoCardSaid : Prop := Claim7.holds Tryd.pinned (.plain (OpenSpec.upto showFuncsSpec)) showFuncsUptoCard

/-- THE SECOND FORM's CARD OF 'dyehouselaw14.ShowInstrs'. -/
def showInstrsUptoCard : Claim7 := { stood := { row := showInstrsUptoRow, standIns := [], harness := (true, "cc5b3beb65743ca3487931eb89daf191ea2e8cfac8d3a248883d7a7472637e55"), looks := false }, kinds := [], alts := [], laidByText := true, laidKinds := [.data], laidTests := true, laidLooks := .later }
def ShowInstrsUptoCardSaid : Prop := Claim7.holds Tryd.pinned (.plain (OpenSpec.upto showInstrsSpec)) showInstrsUptoCard

/-- THE SECOND FORM's CARD OF 'dyehouselaw14.ShowBlocks'. -/
def showBlocksUptoCard : Claim7 := { stood := { row := showBlocksUptoRow, standIns := [], harness := (true, "cc5b3beb65743ca3487931eb89daf191ea2e8cfac8d3a248883d7a7472637e55"), looks := false }, kinds := [], alts := [], laidByText := true, laidKinds := [.data], laidTests := true, laidLooks := .later }
def ShowBlocksUptoCardSaid : Prop := Claim7.holds Tryd.pinned (.plain (OpenSpec.upto showBlocksSpec)) showBlocksUptoCard
end Rows
end Go.Proofs.YtlfohbajeecdeaaDoor
