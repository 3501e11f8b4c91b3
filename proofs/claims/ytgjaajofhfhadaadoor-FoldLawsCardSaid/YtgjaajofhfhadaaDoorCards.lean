/-
  DERIVED. GIVEN WITH THE SEED: THE CARDS: each row of YtgjaajofhfhadaaDoorRows.lean that lists a variable, with what it lists TIED to the program's text (the seventh form; the later family's looks); each row that meets fmt, with fmt's text TOLD by the authors' own Lean function (tested against real Go, not proved from fmt's source: count such statements apart). THE CARD IS WHAT COUNTS. Prove the row's statement (the work); the ties are given (YtgjaajofhfhadaaDoorTie.lean); close each card by the builder's one call (the guide's Derived/Test/ToyasCard.lean, 'card_holds'). Laid BY PROGRAM, IN A SANDBOX (cutbox-door.mjs). By AI agents, Wed Nov 11 2026. No macro, syntax, notation, axiom, sorry.
-/
import Derived.Test.YtgjaajofhfhadaaDoorRows
import GoSem.ClaimSeven
namespace Go.Proofs.YtgjaajofhfhadaaDoor
namespace Rows

/-- THE TIED CARD OF 'dyehouselaw10.FoldNumbers'. -/
def foldNumbersCard : Claim7 := { stood := { row := foldNumbersRow, standIns := [], harness := (true, "852cc2bcc5d2093d4ce7efb5145dd18c452dcd2806392def7959bc48d2f35267"), looks := true }, kinds := [], alts := [], laidByText := true, laidKinds := [.handle], laidTests := true, laidLooks := .later }
def FoldNumbersCardSaid : Prop := Claim7.holds Tryd.pinned (.plain (OpenSpec.ofChange foldNumbersSpec)) foldNumbersCard

/-- THE TIED CARD OF 'dyehouselaw10.FoldLaws'. -/
def foldLawsCard : Claim7 := { stood := { row := foldLawsRow, standIns := [], harness := (true, "852cc2bcc5d2093d4ce7efb5145dd18c452dcd2806392def7959bc48d2f35267"), looks := true }, kinds := [], alts := [], laidByText := true, laidKinds := [.handle], laidTests := true, laidLooks := .later }
def FoldLawsCardSaid : Prop := Claim7.holds Tryd.pinned (.plain (OpenSpec.ofChange foldLawsSpec)) foldLawsCard

/-- THE SECOND FORM's CARD OF 'dyehouselaw10.FoldNumbers'. -/
def foldNumbersUptoCard : Claim7 := { stood := { row := foldNumbersUptoRow, standIns := [], harness := (true, "852cc2bcc5d2093d4ce7efb5145dd18c452dcd2806392def7959bc48d2f35267"), looks := true }, kinds := [], alts := [], laidByText := true, laidKinds := [.handle], laidTests := true, laidLooks := .later }
def FoldNumbersUptoCardSaid : Prop := Claim7.holds Tryd.pinned (.plain (OpenSpec.upto foldNumbersSpec)) foldNumbersUptoCard

/-- THE SECOND FORM's CARD OF 'dyehouselaw10.FoldLaws'. -/
def foldLawsUptoCard : Claim7 := { stood := { row := foldLawsUptoRow, standIns := [], harness := (true, "852cc2bcc5d2093d4ce7efb5145dd18c452dcd2806392def7959bc48d2f35267"), looks := true }, kinds := [], alts := [], laidByText := true, laidKinds := [.handle], laidTests := true, laidLooks := .later }
def FoldLawsUptoCardSaid : Prop := Claim7.holds Tryd.pinned (.plain (OpenSpec.upto foldLawsSpec)) foldLawsUptoCard
end Rows
end Go.Proofs.YtgjaajofhfhadaaDoor
