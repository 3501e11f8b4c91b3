/-
  DERIVED. GIVEN WITH THE SEED: THE CARDS: each row of YtbpichjmkllfaaaGreatDoorRows.lean that lists a variable, with what it lists TIED to the program's text (the seventh form; the later family's looks); each row that meets fmt, with fmt's text TOLD by the authors' own Lean function (tested against real Go, not proved from fmt's source: count such statements apart). THE CARD IS WHAT COUNTS. Prove the row's statement (the work); the ties are given (YtbpichjmkllfaaaGreatDoorTie.lean); close each card by the builder's one call (the guide's Derived/Test/ToyasCard.lean, 'card_holds'). Laid BY PROGRAM, IN A SANDBOX (cutbox-door.mjs). By AI agents, Wed Nov 11 2026. No macro, syntax, notation, axiom, sorry.
-/
import Derived.Test.YtbpichjmkllfaaaGreatDoorRows
import GoSem.ClaimSeven
namespace Go.Proofs.YtbpichjmkllfaaaGreatDoor
namespace Rows

/-- THE TIED CARD OF 'dyehouselaw16.ParseTexts'. -/
def parseTextsCard : Claim7 := { stood := { row := parseTextsRow, standIns := [], harness := (true, "a64050c74481775e06d50a817317816cd4edb051760c300206d62c335305fa09"), looks := true }, kinds := [], alts := [], laidByText := true, laidKinds := [.data, .handle], laidTests := true, laidLooks := .later }
def ParseTextsCardSaid : Prop := Claim7.holds Tryz.pinned (.plain (OpenSpec.ofChange parseTextsSpec)) parseTextsCard

/-- THE TIED CARD OF 'dyehouselaw16.ParseBack'. -/
def parseBackCard : Claim7 := { stood := { row := parseBackRow, standIns := [], harness := (true, "a64050c74481775e06d50a817317816cd4edb051760c300206d62c335305fa09"), looks := true }, kinds := [], alts := [], laidByText := true, laidKinds := [.data, .handle], laidTests := true, laidLooks := .later }
def ParseBackCardSaid : Prop := Claim7.holds Tryz.pinned (.plain (OpenSpec.ofChange parseBackSpec)) parseBackCard

/-- THE TIED CARD OF 'dyehouselaw16.ParseFuncs'. -/
def parseFuncsCard : Claim7 := { stood := { row := parseFuncsRow, standIns := [], harness := (true, "a64050c74481775e06d50a817317816cd4edb051760c300206d62c335305fa09"), looks := true }, kinds := [], alts := [], laidByText := true, laidKinds := [.data, .handle], laidTests := true, laidLooks := .later }
def ParseFuncsCardSaid : Prop := Claim7.holds Tryz.pinned (.plain (OpenSpec.ofChange parseFuncsSpec)) parseFuncsCard

/-- THE TIED CARD OF 'dyehouselaw16.ParseInside'. -/
def parseInsideCard : Claim7 := { stood := { row := parseInsideRow, standIns := [], harness := (true, "a64050c74481775e06d50a817317816cd4edb051760c300206d62c335305fa09"), looks := true }, kinds := [], alts := [], laidByText := true, laidKinds := [.data, .handle], laidTests := true, laidLooks := .later }
def ParseInsideCardSaid : Prop := Claim7.holds Tryz.pinned (.plain (OpenSpec.ofChange parseInsideSpec)) parseInsideCard

/-- THE SECOND FORM's CARD OF 'dyehouselaw16.ParseTexts'. -/
def parseTextsUptoCard : Claim7 := { stood := { row := parseTextsUptoRow, standIns := [], harness := (true, "a64050c74481775e06d50a817317816cd4edb051760c300206d62c335305fa09"), looks := true }, kinds := [], alts := [], laidByText := true, laidKinds := [.data, .handle], laidTests := true, laidLooks := .later }
def ParseTextsUptoCardSaid : Prop := Claim7.holds Tryz.pinned (.plain (OpenSpec.upto parseTextsSpec)) parseTextsUptoCard

/-- THE SECOND FORM's CARD OF 'dyehouselaw16.ParseBack'. -/
def parseBackUptoCard : Claim7 := { stood := { row := parseBackUptoRow, standIns := [], harness := (true, "a64050c74481775e06d50a817317816cd4edb051760c300206d62c335305fa09"), looks := true }, kinds := [], alts := [], laidByText := true, laidKinds := [.data, .handle], laidTests := true, laidLooks := .later }
def ParseBackUptoCardSaid : Prop := Claim7.holds Tryz.pinned (.plain (OpenSpec.upto parseBackSpec)) parseBackUptoCard

/-- THE SECOND FORM's CARD OF 'dyehouselaw16.ParseFuncs'. -/
def parseFuncsUptoCard : Claim7 := { stood := { row := parseFuncsUptoRow, standIns := [], harness := (true, "a64050c74481775e06d50a817317816cd4edb051760c300206d62c335305fa09"), looks := true }, kinds := [], alts := [], laidByText := true, laidKinds := [.data, .handle], laidTests := true, laidLooks := .later }
def ParseFuncsUptoCardSaid : Prop := Claim7.holds Tryz.pinned (.plain (OpenSpec.upto parseFuncsSpec)) parseFuncsUptoCard

/-- THE SECOND FORM's CARD OF 'dyehouselaw16.ParseInside'. -/
def parseInsideUptoCard : Claim7 := { stood := { row := parseInsideUptoRow, standIns := [], harness := (true, "a64050c74481775e06d50a817317816cd4edb051760c300206d62c335305fa09"), looks := true }, kinds := [], alts := [], laidByText := true, laidKinds := [.data, .handle], laidTests := true, laidLooks := .later }
def ParseInsideUptoCardSaid : Prop := Claim7.holds Tryz.pinned (.plain (OpenSpec.upto parseInsideSpec)) parseInsideUptoCard
end Rows
end Go.Proofs.YtbpichjmkllfaaaGreatDoor
