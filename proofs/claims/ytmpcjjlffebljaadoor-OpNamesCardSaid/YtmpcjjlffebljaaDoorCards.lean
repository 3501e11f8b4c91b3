/-
  DERIVED. GIVEN WITH THE SEED: THE CARDS: each row of YtmpcjjlffebljaaDoorRows.lean that lists a variable, with what it lists TIED to the program's text (the seventh form; the later family's looks); each row that meets fmt, with fmt's text TOLD by the authors' own Lean function (tested against real Go, not proved from fmt's source: count such statements apart). THE CARD IS WHAT COUNTS. Prove the row's statement (the work); the ties are given (YtmpcjjlffebljaaDoorTie.lean); close each card by the builder's one call (the guide's Derived/Test/ToyasCard.lean, 'card_holds'). Laid BY PROGRAM, IN A SANDBOX (cutbox-door.mjs). By AI agents, Wed Nov 11 2026. No macro, syntax, notation, axiom, sorry.
-/
import Derived.Test.YtmpcjjlffebljaaDoorRows
import GoSem.ClaimSeven
namespace Go.Proofs.YtmpcjjlffebljaaDoor
namespace Rows

/-- THE TIED CARD OF 'dyehouselaw11.OpTable'. -/
def opTableCard : Claim7 := { stood := { row := opTableRow, standIns := [], harness := (true, "07cd78ae7d679f8714afeac9ba91c743fe2a17989bef131dcbc40b11bd000611"), looks := false }, kinds := [], alts := [], laidByText := true, laidKinds := [.data], laidTests := true, laidLooks := .later }
def OpTableCardSaid : Prop := Claim7.holds Tryd.pinned (.plain (OpenSpec.ofChange opTableSpec)) opTableCard

/-- THE TIED CARD OF 'dyehouselaw11.OpPlaces'. -/
def opPlacesCard : Claim7 := { stood := { row := opPlacesRow, standIns := [], harness := (true, "07cd78ae7d679f8714afeac9ba91c743fe2a17989bef131dcbc40b11bd000611"), looks := false }, kinds := [], alts := [], laidByText := true, laidKinds := [.data], laidTests := true, laidLooks := .later }
def OpPlacesCardSaid : Prop := Claim7.holds Tryd.pinned (.plain (OpenSpec.ofChange opPlacesSpec)) opPlacesCard

/-- THE TIED CARD OF 'dyehouselaw11.OpNames'. -/
def opNamesCard : Claim7 := { stood := { row := opNamesRow, standIns := [], harness := (true, "07cd78ae7d679f8714afeac9ba91c743fe2a17989bef131dcbc40b11bd000611"), looks := false }, kinds := [], alts := [], laidByText := true, laidKinds := [.data], laidTests := true, laidLooks := .later }
def OpNamesCardSaid : Prop := Claim7.holds Tryd.pinned (.plain (OpenSpec.ofChange opNamesSpec)) opNamesCard

/-- THE SECOND FORM's CARD OF 'dyehouselaw11.OpTable'. -/
def opTableUptoCard : Claim7 := { stood := { row := opTableUptoRow, standIns := [], harness := (true, "07cd78ae7d679f8714afeac9ba91c743fe2a17989bef131dcbc40b11bd000611"), looks := false }, kinds := [], alts := [], laidByText := true, laidKinds := [.data], laidTests := true, laidLooks := .later }
def OpTableUptoCardSaid : Prop := Claim7.holds Tryd.pinned (.plain (OpenSpec.upto opTableSpec)) opTableUptoCard

/-- THE SECOND FORM's CARD OF 'dyehouselaw11.OpPlaces'. -/
def opPlacesUptoCard : Claim7 := { stood := { row := opPlacesUptoRow, standIns := [], harness := (true, "07cd78ae7d679f8714afeac9ba91c743fe2a17989bef131dcbc40b11bd000611"), looks := false }, kinds := [], alts := [], laidByText := true, laidKinds := [.data], laidTests := true, laidLooks := .later }
def OpPlacesUptoCardSaid : Prop := Claim7.holds Tryd.pinned (.plain (OpenSpec.upto opPlacesSpec)) opPlacesUptoCard

/-- THE SECOND FORM's CARD OF 'dyehouselaw11.OpNames'. -/
def opNamesUptoCard : Claim7 := { stood := { row := opNamesUptoRow, standIns := [], harness := (true, "07cd78ae7d679f8714afeac9ba91c743fe2a17989bef131dcbc40b11bd000611"), looks := false }, kinds := [], alts := [], laidByText := true, laidKinds := [.data], laidTests := true, laidLooks := .later }
def OpNamesUptoCardSaid : Prop := Claim7.holds Tryd.pinned (.plain (OpenSpec.upto opNamesSpec)) opNamesUptoCard
end Rows
end Go.Proofs.YtmpcjjlffebljaaDoor
