/-
  NARROWER THAN 'FOR EVERY INPUT', by the rows' own cells (each row's printed sentence says how): NoteUnits: laid · NoteParts: laid.
  DERIVED. THE GIVEN ROWS OF THIS SEAT. 2 by the template 'for every input the law returns true; each argument reads behind the call as it read before'; 0 by the template 'total and deterministic' (their statements: YtakfoncdiejhaaaDoorTotals.lean).
  GIVEN WITH THE SEED: the statements are not yours to turn. If you find one false, say at which input.
  Laid BY PROGRAM, IN A SANDBOX (cutbox-rows.mjs): the forced cells as the released guide's own fill.sh prints them over the translation 48b5fd0e78555e8e… (all of the seat's roots in one cut). By AI agents, Wed Nov 11 2026. No macro, syntax, notation, axiom, sorry.
-/
import Derived.Test.YtakfoncdiejhaaaDoorChecked
import GoSem.Claim
import GoSem.ClaimJoined
import GoSem.ClaimMapViews
import Derived.JoinedTies
import Derived.KernelRfl
namespace Go.Proofs.YtakfoncdiejhaaaDoor
/- THE CELL 'sum', in the pinned program and in every row, IS THE sha256 OF THE DUMP (.gsa) THAT YtakfoncdiejhaaaDoorProg.lean LOADS. Nothing in Lean hashes anything: it is a label: what it is worth is what the hold of that sum in a sandbox is worth. -/
noncomputable def Tryd.pinned : Pinned := { name := "ytakfoncdiejhaaadoor", sum := "48b5fd0e78555e8eb4ae8503832332fc1538078c841dac461e8ff4b929e02722", checked := Tryd.checked }
namespace Rows
def none {H : Type} : Left H := { results := [], args := [] }

/- WHAT THE LISTED PACKAGE-LEVEL VARIABLES READ AS WHEN THE CALL BEGINS. Each datum BY PROGRAM (the guide's laid-datum.mjs) off the statement by which the dump's own 'gosem.cut.vars' lays the variable. In a bare row this is a premise. The card (YtakfoncdiejhaaaDoorCards.lean) ties it to the program's text. -/
def laid_dyehouse_op_names {H : Type} : DataW H := .agg [.lit (.string []), .lit (.string [97, 100, 100]), .lit (.string [115, 117, 98]), .lit (.string [109, 117, 108]), .lit (.string [97, 110, 100]), .lit (.string [111, 114]), .lit (.string [120, 111, 114]), .lit (.string [115, 104, 108]), .lit (.string [115, 104, 114]), .lit (.string [115, 97, 114]), .lit (.string [100, 105, 118]), .lit (.string [114, 101, 109]), .lit (.string [101, 113]), .lit (.string [110, 101]), .lit (.string [108, 116]), .lit (.string [108, 101]), .lit (.string [99, 111, 112, 121]), .lit (.string [108, 111, 97, 100]), .lit (.string [115, 116, 111, 114, 101]), .lit (.string [99, 97, 108, 108]), .lit (.string [98, 114]), .lit (.string [98, 114, 105, 102]), .lit (.string [115, 119, 105, 116, 99, 104]), .lit (.string [114, 101, 116]), .lit (.string [109, 111, 118, 101]), .lit (.string [115, 112, 105, 108, 108]), .lit (.string [114, 101, 108, 111, 97, 100]), .lit (.string [115, 119, 97, 112])]

/-- 'dyehouselaw15.NoteUnits': WHATEVER THE INPUT: true; the input reads as it did. -/
def noteUnitsSpec : ChangeSpec := { name := "noteUnits", fn := fun _ => fun
  | [d] => { results := [.lit (.bool true)], args := [d] }
  | _ => none }
def noteUnitsRow : OpenClaim := { program := "ytakfoncdiejhaaadoor", sum := "48b5fd0e78555e8eb4ae8503832332fc1538078c841dac461e8ff4b929e02722", func := "dyehouse/dyehouselaw15.NoteUnits", spec := "noteUnits", inPlace := ["internal/abi.NoEscape"], named := ["dyehouse/op.names"], apart := false, laid := [("dyehouse/op.names", laid_dyehouse_op_names)] }
def NoteUnitsSaid : Prop := noteUnitsRow.holds Tryd.pinned (OpenSpec.ofChange noteUnitsSpec)

/-- ITS FALSE NEIGHBOUR: 'it returns false'. Refute it at one input. -/
def noteUnitsWrong : ChangeSpec := { name := "noteUnits", fn := fun _ => fun
  | [d] => { results := [.lit (.bool false)], args := [d] }
  | _ => none }
def NoteUnitsWrongFalsely : Prop := noteUnitsRow.holds Tryd.pinned (OpenSpec.ofChange noteUnitsWrong)

/-- 'dyehouselaw15.NoteParts': WHATEVER THE INPUT: true; the input reads as it did. -/
def notePartsSpec : ChangeSpec := { name := "noteParts", fn := fun _ => fun
  | [d1, d2] => { results := [.lit (.bool true)], args := [d1, d2] }
  | _ => none }
def notePartsRow : OpenClaim := { program := "ytakfoncdiejhaaadoor", sum := "48b5fd0e78555e8eb4ae8503832332fc1538078c841dac461e8ff4b929e02722", func := "dyehouse/dyehouselaw15.NoteParts", spec := "noteParts", inPlace := ["internal/abi.NoEscape"], named := ["dyehouse/op.names"], apart := false, laid := [("dyehouse/op.names", laid_dyehouse_op_names)] }
def NotePartsSaid : Prop := notePartsRow.holds Tryd.pinned (OpenSpec.ofChange notePartsSpec)

/-- ITS FALSE NEIGHBOUR: 'it returns false'. Refute it at one input. -/
def notePartsWrong : ChangeSpec := { name := "noteParts", fn := fun _ => fun
  | [d1, d2] => { results := [.lit (.bool false)], args := [d1, d2] }
  | _ => none }
def NotePartsWrongFalsely : Prop := notePartsRow.holds Tryd.pinned (OpenSpec.ofChange notePartsWrong)

/- THE SECOND FORM. 'bulk': how many values and letters a reading holds, each counted each time it is reached (what is shared counts as often as it is met; a slice's spare places count too). A statement '..UptoSaid' is the law's where the arguments, and the package variables that the reading takes, are together of bulk at most 1048576: NARROWER than '..Said'. Prove '..Said' where nothing that the law and all that it calls make is longer than what came in: it says more and counts as full. Else prove '..UptoSaid'. A law counts once. -/
mutual
def uptoBulk {H : Type} : DataW H → Nat
  | .lit (.string bytes) => bytes.length + 1
  | .lit _ => 1
  | .nil => 1
  | .ptr d => uptoBulk d + 1
  | .slice elems spare => uptoBulkAll elems + uptoBulkAll spare + 1
  | .agg parts => uptoBulkAll parts + 1
  | .iface _ d => uptoBulk d + 1
  | .map entries => uptoBulkEntries entries + 1
  | .held _ => 1
def uptoBulkAll {H : Type} : List (DataW H) → Nat
  | [] => 0
  | d :: r => uptoBulk d + uptoBulkAll r
def uptoBulkEntries {H : Type} : List (Lit × DataW H) → Nat
  | [] => 0
  | x :: r => uptoBulkEntry x + uptoBulkEntries r
def uptoBulkEntry {H : Type} : Lit × DataW H → Nat
  | (.string bytes, d) => bytes.length + uptoBulk d + 1
  | (_, d) => uptoBulk d + 1
 end
def uptoSmall : (H : Type) → List (DataW H) → Bool := fun _ ds => decide (uptoBulkAll ds ≤ 1048576)
def OpenSpec.upto (s : _root_.Go.ChangeSpec) : _root_.Go.OpenSpec := { _root_.Go.OpenSpec.ofChange s with cond := some uptoSmall }

/-- 'dyehouselaw15.NoteUnits', WHERE WHAT IT READS IS OF BULK AT MOST 1048576: true; the input reads as it did. -/
def noteUnitsUptoRow : OpenClaim := { program := "ytakfoncdiejhaaadoor", sum := "48b5fd0e78555e8eb4ae8503832332fc1538078c841dac461e8ff4b929e02722", func := "dyehouse/dyehouselaw15.NoteUnits", spec := "noteUnits", inPlace := ["internal/abi.NoEscape"], named := ["dyehouse/op.names"], apart := false, laid := [("dyehouse/op.names", laid_dyehouse_op_names)], narrowed := true }
def NoteUnitsUptoSaid : Prop := noteUnitsUptoRow.holds Tryd.pinned (OpenSpec.upto noteUnitsSpec)

/-- 'dyehouselaw15.NoteParts', WHERE WHAT IT READS IS OF BULK AT MOST 1048576: true; the input reads as it did. -/
def notePartsUptoRow : OpenClaim := { program := "ytakfoncdiejhaaadoor", sum := "48b5fd0e78555e8eb4ae8503832332fc1538078c841dac461e8ff4b929e02722", func := "dyehouse/dyehouselaw15.NoteParts", spec := "noteParts", inPlace := ["internal/abi.NoEscape"], named := ["dyehouse/op.names"], apart := false, laid := [("dyehouse/op.names", laid_dyehouse_op_names)], narrowed := true }
def NotePartsUptoSaid : Prop := notePartsUptoRow.holds Tryd.pinned (OpenSpec.upto notePartsSpec)

end Rows
end Go.Proofs.YtakfoncdiejhaaaDoor
