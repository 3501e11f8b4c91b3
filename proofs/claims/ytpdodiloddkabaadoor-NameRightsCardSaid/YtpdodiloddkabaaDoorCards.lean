/-
  DERIVED. GIVEN WITH THE SEED: THE CARDS: each row of YtpdodiloddkabaaDoorRows.lean that lists a variable, with what it lists TIED to the program's text (the seventh form; the later family's looks); each row that meets fmt, with fmt's text TOLD by the authors' own Lean function (tested against real Go, not proved from fmt's source: count such statements apart). THE CARD IS WHAT COUNTS. Prove the row's statement (the work); the ties are given (YtpdodiloddkabaaDoorTie.lean); close each card by the builder's one call (the guide's Derived/Test/ToyasCard.lean, 'card_holds'). Laid BY PROGRAM, IN A SANDBOX (cutbox-door.mjs). By AI agents, Wed Nov 11 2026. No macro, syntax, notation, axiom, sorry.
-/
import Derived.Test.YtpdodiloddkabaaDoorRows
import GoSem.ClaimSeven
namespace Go.Proofs.YtpdodiloddkabaaDoor
namespace Rows

/-- THE TIED CARD OF 'dyehouselaw04.NameRights'. -/
def nameRightsCard : Claim7 := { stood := { row := nameRightsRow, standIns := [], harness := (true, "5185650026eb3eda38399c306e0ca12111248ebd4317f76a409f1ded21ee22af"), looks := false }, kinds := [], alts := [], laidByText := true, laidKinds := [.data, .data, .data], laidTests := true, laidLooks := .later }
def NameRightsCardSaid : Prop := Claim7.holds Tryd.pinned (.plain (OpenSpec.ofChange nameRightsSpec)) nameRightsCard

/-- THE TIED CARD OF 'dyehouselaw04.NameEdges'. -/
def nameEdgesCard : Claim7 := { stood := { row := nameEdgesRow, standIns := [], harness := (true, "5185650026eb3eda38399c306e0ca12111248ebd4317f76a409f1ded21ee22af"), looks := false }, kinds := [], alts := [], laidByText := true, laidKinds := [.data, .data, .data], laidTests := true, laidLooks := .later }
def NameEdgesCardSaid : Prop := Claim7.holds Tryd.pinned (.plain (OpenSpec.ofChange nameEdgesSpec)) nameEdgesCard

/-- THE TIED CARD OF 'dyehouselaw04.NameFresh'. -/
def nameFreshCard : Claim7 := { stood := { row := nameFreshRow, standIns := [], harness := (true, "5185650026eb3eda38399c306e0ca12111248ebd4317f76a409f1ded21ee22af"), looks := false }, kinds := [], alts := [], laidByText := true, laidKinds := [.data, .data, .data], laidTests := true, laidLooks := .later }
def NameFreshCardSaid : Prop := Claim7.holds Tryd.pinned (.plain (OpenSpec.ofChange nameFreshSpec)) nameFreshCard

/-- THE SECOND FORM's CARD OF 'dyehouselaw04.NameRights'. -/
def nameRightsUptoCard : Claim7 := { stood := { row := nameRightsUptoRow, standIns := [], harness := (true, "5185650026eb3eda38399c306e0ca12111248ebd4317f76a409f1ded21ee22af"), looks := false }, kinds := [], alts := [], laidByText := true, laidKinds := [.data, .data, .data], laidTests := true, laidLooks := .later }
def NameRightsUptoCardSaid : Prop := Claim7.holds Tryd.pinned (.plain (OpenSpec.upto nameRightsSpec)) nameRightsUptoCard

/-- THE SECOND FORM's CARD OF 'dyehouselaw04.NameEdges'. -/
def nameEdgesUptoCard : Claim7 := { stood := { row := nameEdgesUptoRow, standIns := [], harness := (true, "5185650026eb3eda38399c306e0ca12111248ebd4317f76a409f1ded21ee22af"), looks := false }, kinds := [], alts := [], laidByText := true, laidKinds := [.data, .data, .data], laidTests := true, laidLooks := .later }
def NameEdgesUptoCardSaid : Prop := Claim7.holds Tryd.pinned (.plain (OpenSpec.upto nameEdgesSpec)) nameEdgesUptoCard

/-- THE SECOND FORM's CARD OF 'dyehouselaw04.NameFresh'. -/
def nameFreshUptoCard : Claim7 := { stood := { row := nameFreshUptoRow, standIns := [], harness := (true, "5185650026eb3eda38399c306e0ca12111248ebd4317f76a409f1ded21ee22af"), looks := false }, kinds := [], alts := [], laidByText := true, laidKinds := [.data, .data, .data], laidTests := true, laidLooks := .later }
def NameFreshUptoCardSaid : Prop := Claim7.holds Tryd.pinned (.plain (OpenSpec.upto nameFreshSpec)) nameFreshUptoCard
end Rows
end Go.Proofs.YtpdodiloddkabaaDoor
