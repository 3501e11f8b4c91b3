/-
  DERIVED. GIVEN WITH THE SEED: THE CARDS: each row of YtakfoncdiejhaaaDoorRows.lean that lists a variable, with what it lists TIED to the program's text (the seventh form; the later family's looks); each row that meets fmt, with fmt's text TOLD by the authors' own Lean function (tested against real Go, not proved from fmt's source: count such statements apart). THE CARD IS WHAT COUNTS. Prove the row's statement (the work); the ties are given (YtakfoncdiejhaaaDoorTie.lean); close each card by the builder's one call (the guide's Derived/Test/ToyasCard.lean, 'card_holds'). Laid BY PROGRAM, IN A SANDBOX (cutbox-door.mjs). By AI agents, Wed Nov 11 2026. No macro, syntax, notation, axiom, sorry.
-/
import Derived.Test.YtakfoncdiejhaaaDoorRows
import GoSem.ClaimSeven
namespace Go.Proofs.YtakfoncdiejhaaaDoor
namespace Rows

/-- THE TIED CARD OF 'dyehouselaw15.NoteUnits'. -/
def noteUnitsCard : Claim7 := { stood := { row := noteUnitsRow, standIns := [], harness := (true, "b448ba67a82bf27cb3484c7f3c5eec8abff72c7cb958936b24ae02d8100f1961"), looks := false }, kinds := [], alts := [], laidByText := true, laidKinds := [.data], laidTests := true, laidLooks := .later }
def NoteUnitsCardSaid : Prop := Claim7.holds Tryd.pinned (.plain (OpenSpec.ofChange noteUnitsSpec)) noteUnitsCard

/-- THE TIED CARD OF 'dyehouselaw15.NoteParts'. -/
def notePartsCard : Claim7 := { stood := { row := notePartsRow, standIns := [], harness := (true, "b448ba67a82bf27cb3484c7f3c5eec8abff72c7cb958936b24ae02d8100f1961"), looks := false }, kinds := [], alts := [], laidByText := true, laidKinds := [.data], laidTests := true, laidLooks := .later }
def NotePartsCardSaid : Prop := Claim7.holds Tryd.pinned (.plain (OpenSpec.ofChange notePartsSpec)) notePartsCard

/-- THE SECOND FORM's CARD OF 'dyehouselaw15.NoteUnits'. -/
def noteUnitsUptoCard : Claim7 := { stood := { row := noteUnitsUptoRow, standIns := [], harness := (true, "b448ba67a82bf27cb3484c7f3c5eec8abff72c7cb958936b24ae02d8100f1961"), looks := false }, kinds := [], alts := [], laidByText := true, laidKinds := [.data], laidTests := true, laidLooks := .later }
def NoteUnitsUptoCardSaid : Prop := Claim7.holds Tryd.pinned (.plain (OpenSpec.upto noteUnitsSpec)) noteUnitsUptoCard

/-- THE SECOND FORM's CARD OF 'dyehouselaw15.NoteParts'. -/
def notePartsUptoCard : Claim7 := { stood := { row := notePartsUptoRow, standIns := [], harness := (true, "b448ba67a82bf27cb3484c7f3c5eec8abff72c7cb958936b24ae02d8100f1961"), looks := false }, kinds := [], alts := [], laidByText := true, laidKinds := [.data], laidTests := true, laidLooks := .later }
def NotePartsUptoCardSaid : Prop := Claim7.holds Tryd.pinned (.plain (OpenSpec.upto notePartsSpec)) notePartsUptoCard
end Rows
end Go.Proofs.YtakfoncdiejhaaaDoor
