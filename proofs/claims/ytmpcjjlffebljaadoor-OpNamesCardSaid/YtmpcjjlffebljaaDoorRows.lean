/-
  NARROWER THAN 'FOR EVERY INPUT', by the rows' own cells (each row's printed sentence says how): OpTable: laid · OpPlaces: laid · OpNames: laid.
  DERIVED. THE GIVEN ROWS OF THIS SEAT. 3 by the template 'for every input the law returns true; each argument reads behind the call as it read before'; 0 by the template 'total and deterministic' (their statements: YtmpcjjlffebljaaDoorTotals.lean).
  GIVEN WITH THE SEED: the statements are not yours to turn. If you find one false, say at which input.
  Laid BY PROGRAM, IN A SANDBOX (cutbox-rows.mjs): the forced cells as the released guide's own fill.sh prints them over the translation 68bcf4ae5b94f5ba… (all of the seat's roots in one cut). By AI agents, Wed Nov 11 2026. No macro, syntax, notation, axiom, sorry.
-/
import Derived.Test.YtmpcjjlffebljaaDoorChecked
import GoSem.Claim
import GoSem.ClaimJoined
import GoSem.ClaimMapViews
import Derived.JoinedTies
import Derived.KernelRfl
namespace Go.Proofs.YtmpcjjlffebljaaDoor
/- THE CELL 'sum', in the pinned program and in every row, IS THE sha256 OF THE DUMP (.gsa) THAT YtmpcjjlffebljaaDoorProg.lean LOADS. Nothing in Lean hashes anything: it is a label: what it is worth is what the hold of that sum in a sandbox is worth. -/
noncomputable def Tryd.pinned : Pinned := { name := "ytmpcjjlffebljaadoor", sum := "68bcf4ae5b94f5ba569de7125568518f045e282c36cc9899e9205d720b475468", checked := Tryd.checked }
namespace Rows
def none {H : Type} : Left H := { results := [], args := [] }

/- WHAT THE LISTED PACKAGE-LEVEL VARIABLES READ AS WHEN THE CALL BEGINS. Each datum BY PROGRAM (the guide's laid-datum.mjs) off the statement by which the dump's own 'gosem.cut.vars' lays the variable. In a bare row this is a premise. The card (YtmpcjjlffebljaaDoorCards.lean) ties it to the program's text. -/
def laid_dyehouse_op_names {H : Type} : DataW H := .agg [.lit (.string []), .lit (.string [97, 100, 100]), .lit (.string [115, 117, 98]), .lit (.string [109, 117, 108]), .lit (.string [97, 110, 100]), .lit (.string [111, 114]), .lit (.string [120, 111, 114]), .lit (.string [115, 104, 108]), .lit (.string [115, 104, 114]), .lit (.string [115, 97, 114]), .lit (.string [100, 105, 118]), .lit (.string [114, 101, 109]), .lit (.string [101, 113]), .lit (.string [110, 101]), .lit (.string [108, 116]), .lit (.string [108, 101]), .lit (.string [99, 111, 112, 121]), .lit (.string [108, 111, 97, 100]), .lit (.string [115, 116, 111, 114, 101]), .lit (.string [99, 97, 108, 108]), .lit (.string [98, 114]), .lit (.string [98, 114, 105, 102]), .lit (.string [115, 119, 105, 116, 99, 104]), .lit (.string [114, 101, 116]), .lit (.string [109, 111, 118, 101]), .lit (.string [115, 112, 105, 108, 108]), .lit (.string [114, 101, 108, 111, 97, 100]), .lit (.string [115, 119, 97, 112])]

/-- 'dyehouselaw11.OpTable': WHATEVER THE INPUT: true; the input reads as it did. -/
def opTableSpec : ChangeSpec := { name := "opTable", fn := fun _ => fun
  | [d1, d2] => { results := [.lit (.bool true)], args := [d1, d2] }
  | _ => none }
def opTableRow : OpenClaim := { program := "ytmpcjjlffebljaadoor", sum := "68bcf4ae5b94f5ba569de7125568518f045e282c36cc9899e9205d720b475468", func := "dyehouse/dyehouselaw11.OpTable", spec := "opTable", named := ["dyehouse/op.names"], apart := false, laid := [("dyehouse/op.names", laid_dyehouse_op_names)] }
def OpTableSaid : Prop := opTableRow.holds Tryd.pinned (OpenSpec.ofChange opTableSpec)

/-- ITS FALSE NEIGHBOUR: 'it returns false'. Refute it at one input. -/
def opTableWrong : ChangeSpec := { name := "opTable", fn := fun _ => fun
  | [d1, d2] => { results := [.lit (.bool false)], args := [d1, d2] }
  | _ => none }
def OpTableWrongFalsely : Prop := opTableRow.holds Tryd.pinned (OpenSpec.ofChange opTableWrong)

/-- 'dyehouselaw11.OpPlaces': WHATEVER THE INPUT: true; the input reads as it did. -/
def opPlacesSpec : ChangeSpec := { name := "opPlaces", fn := fun _ => fun
  | [d1, d2, d3, d4] => { results := [.lit (.bool true)], args := [d1, d2, d3, d4] }
  | _ => none }
def opPlacesRow : OpenClaim := { program := "ytmpcjjlffebljaadoor", sum := "68bcf4ae5b94f5ba569de7125568518f045e282c36cc9899e9205d720b475468", func := "dyehouse/dyehouselaw11.OpPlaces", spec := "opPlaces", named := ["dyehouse/op.names"], apart := false, laid := [("dyehouse/op.names", laid_dyehouse_op_names)] }
def OpPlacesSaid : Prop := opPlacesRow.holds Tryd.pinned (OpenSpec.ofChange opPlacesSpec)

/-- ITS FALSE NEIGHBOUR: 'it returns false'. Refute it at one input. -/
def opPlacesWrong : ChangeSpec := { name := "opPlaces", fn := fun _ => fun
  | [d1, d2, d3, d4] => { results := [.lit (.bool false)], args := [d1, d2, d3, d4] }
  | _ => none }
def OpPlacesWrongFalsely : Prop := opPlacesRow.holds Tryd.pinned (OpenSpec.ofChange opPlacesWrong)

/-- 'dyehouselaw11.OpNames': WHATEVER THE INPUT: true; the input reads as it did. -/
def opNamesSpec : ChangeSpec := { name := "opNames", fn := fun _ => fun
  | [d1, d2] => { results := [.lit (.bool true)], args := [d1, d2] }
  | _ => none }
def opNamesRow : OpenClaim := { program := "ytmpcjjlffebljaadoor", sum := "68bcf4ae5b94f5ba569de7125568518f045e282c36cc9899e9205d720b475468", func := "dyehouse/dyehouselaw11.OpNames", spec := "opNames", named := ["dyehouse/op.names"], apart := false, laid := [("dyehouse/op.names", laid_dyehouse_op_names)] }
def OpNamesSaid : Prop := opNamesRow.holds Tryd.pinned (OpenSpec.ofChange opNamesSpec)

/-- ITS FALSE NEIGHBOUR: 'it returns false'. Refute it at one input. -/
def opNamesWrong : ChangeSpec := { name := "opNames", fn := fun _ => fun
  | [d1, d2] => { results := [.lit (.bool false)], args := [d1, d2] }
  | _ => none }
def OpNamesWrongFalsely : Prop := opNamesRow.holds Tryd.pinned (OpenSpec.ofChange opNamesWrong)

/- THE SECOND FORM. 'bulk': how many values and letters a reading holds, each counted each time it is reached (what is shared counts as often as it is met; a slice's spare places count too). A statement '..UptoSaid' is the law's where the arguments, and the package variables that the reading takes, are together of bulk at most 1048576: NARROWER than '..Said'. Prove '..Said' where nothing that the law and all that it calls make is longer than what came in: it says more and counts as full. Else prove '..UptoSaid'. A law counts once. -/
mutual
def uptoBulk {H : Type} : DataW H → Nat
  | .lit (.string bytes) => bytes.length + 1
  | .lit _ => 1
  | .nil => 1
  | .ptr d => uptoBulk d + 1
  | .slice elems spare => uptoBulkAll elems + uptoBulkAll spare + 1
  | .agg parts => uptoBulkAll parts + 1
  | .iface _ d => uptoBulk d + 1
  | .map entries => uptoBulkEntries entries + 1
  | .held _ => 1
def uptoBulkAll {H : Type} : List (DataW H) → Nat
  | [] => 0
  | d :: r => uptoBulk d + uptoBulkAll r
def uptoBulkEntries {H : Type} : List (Lit × DataW H) → Nat
  | [] => 0
  | x :: r => uptoBulkEntry x + uptoBulkEntries r
def uptoBulkEntry {H : Type} : Lit × DataW H → Nat
  | (.string bytes, d) => bytes.length + uptoBulk d + 1
  | (_, d) => uptoBulk d + 1
 end
def uptoSmall : (H : Type) → List (DataW H) → Bool := fun _ ds => decide (uptoBulkAll ds ≤ 1048576)
def OpenSpec.upto (s : _root_.Go.ChangeSpec) : _root_.Go.OpenSpec := { _root_.Go.OpenSpec.ofChange s with cond := some uptoSmall }

/-- 'dyehouselaw11.OpTable', WHERE WHAT IT READS IS OF BULK AT MOST 1048576: true; the input reads as it did. -/
def opTableUptoRow : OpenClaim := { program := "ytmpcjjlffebljaadoor", sum := "68bcf4ae5b94f5ba569de7125568518f045e282c36cc9899e9205d720b475468", func := "dyehouse/dyehouselaw11.OpTable", spec := "opTable", named := ["dyehouse/op.names"], apart := false, laid := [("dyehouse/op.names", laid_dyehouse_op_names)], narrowed := true }
def OpTableUptoSaid : Prop := opTableUptoRow.holds Tryd.pinned (OpenSpec.upto opTableSpec)

/-- 'dyehouselaw11.OpPlaces', WHERE WHAT IT READS IS OF BULK AT MOST 1048576: true; the input reads as it did. -/
def opPlacesUptoRow : OpenClaim := { program := "ytmpcjjlffebljaadoor", sum := "68bcf4ae5b94f5ba569de7125568518f045e282c36cc9899e9205d720b475468", func := "dyehouse/dyehouselaw11.OpPlaces", spec := "opPlaces", named := ["dyehouse/op.names"], apart := false, laid := [("dyehouse/op.names", laid_dyehouse_op_names)], narrowed := true }
def OpPlacesUptoSaid : Prop := opPlacesUptoRow.holds Tryd.pinned (OpenSpec.upto opPlacesSpec)

/-- 'dyehouselaw11.OpNames', WHERE WHAT IT READS IS OF BULK AT MOST 1048576: true; the input reads as it did. -/
def opNamesUptoRow : OpenClaim := { program := "ytmpcjjlffebljaadoor", sum := "68bcf4ae5b94f5ba569de7125568518f045e282c36cc9899e9205d720b475468", func := "dyehouse/dyehouselaw11.OpNames", spec := "opNames", named := ["dyehouse/op.names"], apart := false, laid := [("dyehouse/op.names", laid_dyehouse_op_names)], narrowed := true }
def OpNamesUptoSaid : Prop := opNamesUptoRow.holds Tryd.pinned (OpenSpec.upto opNamesSpec)

end Rows
end Go.Proofs.YtmpcjjlffebljaaDoor
