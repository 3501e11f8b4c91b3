/-
  No cell of these rows narrows 'for every input' (looked for: loops, veiled, ifaces, maps, wideKeys, modest, calm, conditions, laid).
  DERIVED. THE GIVEN ROWS OF THIS SEAT. 4 by the template 'for every input the law returns true; each argument reads behind the call as it read before'; 0 by the template 'total and deterministic' (their statements: YtocelaebokikcaaTotals.lean).
  GIVEN WITH THE SEED: the statements are not yours to turn. If you find one false, say at which input.
  Laid BY PROGRAM, IN A SANDBOX (cutbox-rows.mjs): the forced cells as the released guide's own fill.sh prints them over the translation fdc0341ea693aed9… (all of the seat's roots in one cut). By AI agents, Wed Nov 11 2026. No macro, syntax, notation, axiom, sorry.
-/
import Derived.Test.YtocelaebokikcaaChecked
import GoSem.Claim
import GoSem.ClaimJoined
import GoSem.ClaimMapViews
import Derived.JoinedTies
import Derived.KernelRfl
namespace Go.Proofs.Ytocelaebokikcaa
/- THE CELL 'sum', in the pinned program and in every row, IS THE sha256 OF THE DUMP (.gsa) THAT YtocelaebokikcaaProg.lean LOADS. Nothing in Lean hashes anything: it is a label: what it is worth is what the hold of that sum in a sandbox is worth. -/
noncomputable def Try.pinned : Pinned := { name := "ytocelaebokikcaa", sum := "fdc0341ea693aed9777bb4baa91516a2954c4d9d4da7f22c7c4c8418f67727f7", checked := Try.checked }
namespace Rows
def none {H : Type} : Left H := { results := [], args := [] }

/-- 'dyehouselaw12.IrSames': WHATEVER THE INPUT: true; the input reads as it did. -/
def irSamesSpec : ChangeSpec := { name := "irSames", fn := fun _ => fun
  | [d1, d2] => { results := [.lit (.bool true)], args := [d1, d2] }
  | _ => none }
def irSamesRow : OpenClaim := { program := "ytocelaebokikcaa", sum := "fdc0341ea693aed9777bb4baa91516a2954c4d9d4da7f22c7c4c8418f67727f7", func := "dyehouse/dyehouselaw12.IrSames", spec := "irSames", unfollowed := true, recurses := true, apart := false }
def IrSamesSaid : Prop := irSamesRow.holds Try.pinned (OpenSpec.ofChange irSamesSpec)

/-- ITS FALSE NEIGHBOUR: 'it returns false'. Refute it at one input. -/
def irSamesWrong : ChangeSpec := { name := "irSames", fn := fun _ => fun
  | [d1, d2] => { results := [.lit (.bool false)], args := [d1, d2] }
  | _ => none }
def IrSamesWrongFalsely : Prop := irSamesRow.holds Try.pinned (OpenSpec.ofChange irSamesWrong)

/-- 'dyehouselaw12.IrCopies': WHATEVER THE INPUT: true; the input reads as it did. -/
def irCopiesSpec : ChangeSpec := { name := "irCopies", fn := fun _ => fun
  | [d1, d2] => { results := [.lit (.bool true)], args := [d1, d2] }
  | _ => none }
def irCopiesRow : OpenClaim := { program := "ytocelaebokikcaa", sum := "fdc0341ea693aed9777bb4baa91516a2954c4d9d4da7f22c7c4c8418f67727f7", func := "dyehouse/dyehouselaw12.IrCopies", spec := "irCopies", unfollowed := true, recurses := true, apart := false }
def IrCopiesSaid : Prop := irCopiesRow.holds Try.pinned (OpenSpec.ofChange irCopiesSpec)

/-- ITS FALSE NEIGHBOUR: 'it returns false'. Refute it at one input. -/
def irCopiesWrong : ChangeSpec := { name := "irCopies", fn := fun _ => fun
  | [d1, d2] => { results := [.lit (.bool false)], args := [d1, d2] }
  | _ => none }
def IrCopiesWrongFalsely : Prop := irCopiesRow.holds Try.pinned (OpenSpec.ofChange irCopiesWrong)

/-- 'dyehouselaw12.IrWalks': WHATEVER THE INPUT: true; the input reads as it did. -/
def irWalksSpec : ChangeSpec := { name := "irWalks", fn := fun _ => fun
  | [d1, d2] => { results := [.lit (.bool true)], args := [d1, d2] }
  | _ => none }
def irWalksRow : OpenClaim := { program := "ytocelaebokikcaa", sum := "fdc0341ea693aed9777bb4baa91516a2954c4d9d4da7f22c7c4c8418f67727f7", func := "dyehouse/dyehouselaw12.IrWalks", spec := "irWalks", unfollowed := true, recurses := true, apart := false }
def IrWalksSaid : Prop := irWalksRow.holds Try.pinned (OpenSpec.ofChange irWalksSpec)

/-- ITS FALSE NEIGHBOUR: 'it returns false'. Refute it at one input. -/
def irWalksWrong : ChangeSpec := { name := "irWalks", fn := fun _ => fun
  | [d1, d2] => { results := [.lit (.bool false)], args := [d1, d2] }
  | _ => none }
def IrWalksWrongFalsely : Prop := irWalksRow.holds Try.pinned (OpenSpec.ofChange irWalksWrong)

/-- 'dyehouselaw12.IrAsks': WHATEVER THE INPUT: true; the input reads as it did. -/
def irAsksSpec : ChangeSpec := { name := "irAsks", fn := fun _ => fun
  | [d1, d2, d3] => { results := [.lit (.bool true)], args := [d1, d2, d3] }
  | _ => none }
def irAsksRow : OpenClaim := { program := "ytocelaebokikcaa", sum := "fdc0341ea693aed9777bb4baa91516a2954c4d9d4da7f22c7c4c8418f67727f7", func := "dyehouse/dyehouselaw12.IrAsks", spec := "irAsks", unfollowed := true, recurses := true, apart := false }
def IrAsksSaid : Prop := irAsksRow.holds Try.pinned (OpenSpec.ofChange irAsksSpec)

/-- ITS FALSE NEIGHBOUR: 'it returns false'. Refute it at one input. -/
def irAsksWrong : ChangeSpec := { name := "irAsks", fn := fun _ => fun
  | [d1, d2, d3] => { results := [.lit (.bool false)], args := [d1, d2, d3] }
  | _ => none }
def IrAsksWrongFalsely : Prop := irAsksRow.holds Try.pinned (OpenSpec.ofChange irAsksWrong)

/- THE SECOND FORM. 'bulk': how many values and letters a reading holds, each counted each time it is reached (what is shared counts as often as it is met; a slice's spare places count too). A statement '..UptoSaid' is the law's where the arguments, and the package variables that the reading takes, are together of bulk at most 1048576: NARROWER than '..Said'. Prove '..Said' where nothing that the law and all that it calls make is longer than what came in: it says more and counts as full. Else prove '..UptoSaid'. A law counts once. -/
mutual
def uptoBulk {H : Type} : DataW H → Nat
  | .lit (.string bytes) => bytes.length + 1
  | .lit _ => 1
  | .nil => 1
  | .ptr d => uptoBulk d + 1
  | .slice elems spare => uptoBulkAll elems + uptoBulkAll spare + 1
  | .agg parts => uptoBulkAll parts + 1
  | .iface _ d => uptoBulk d + 1
  | .map entries => uptoBulkEntries entries + 1
  | .held _ => 1
def uptoBulkAll {H : Type} : List (DataW H) → Nat
  | [] => 0
  | d :: r => uptoBulk d + uptoBulkAll r
def uptoBulkEntries {H : Type} : List (Lit × DataW H) → Nat
  | [] => 0
  | x :: r => uptoBulkEntry x + uptoBulkEntries r
def uptoBulkEntry {H : Type} : Lit × DataW H → Nat
  | (.string bytes, d) => bytes.length + uptoBulk d + 1
  | (_, d) => uptoBulk d + 1
 end
def uptoSmall : (H : Type) → List (DataW H) → Bool := fun _ ds => decide (uptoBulkAll ds ≤ 1048576)
def OpenSpec.upto (s : _root_.Go.ChangeSpec) : _root_.Go.OpenSpec := { _root_.Go.OpenSpec.ofChange s with cond := some uptoSmall }

/-- 'dyehouselaw12.IrSames', WHERE WHAT IT READS IS OF BULK AT MOST 1048576: true; the input reads as it did. -/
def irSamesUptoRow : OpenClaim := { program := "ytocelaebokikcaa", sum := "fdc0341ea693aed9777bb4baa91516a2954c4d9d4da7f22c7c4c8418f67727f7", func := "dyehouse/dyehouselaw12.IrSames", spec := "irSames", unfollowed := true, recurses := true, apart := false, narrowed := true }
def IrSamesUptoSaid : Prop := irSamesUptoRow.holds Try.pinned (OpenSpec.upto irSamesSpec)

/-- 'dyehouselaw12.IrCopies', WHERE WHAT IT READS IS OF BULK AT MOST 1048576: true; the input reads as it did. -/
def irCopiesUptoRow : OpenClaim := { program := "ytocelaebokikcaa", sum := "fdc0341ea693aed9777bb4baa91516a2954c4d9d4da7f22c7c4c8418f67727f7", func := "dyehouse/dyehouselaw12.IrCopies", spec := "irCopies", unfollowed := true, recurses := true, apart := false, narrowed := true }
def IrCopiesUptoSaid : Prop := irCopiesUptoRow.holds Try.pinned (OpenSpec.upto irCopiesSpec)

/-- 'dyehouselaw12.IrWalks', WHERE WHAT IT READS IS OF BULK AT MOST 1048576: true; the input reads as it did. -/
def irWalksUptoRow : OpenClaim := { program := "ytocelaebokikcaa", sum := "fdc0341ea693aed9777bb4baa91516a2954c4d9d4da7f22c7c4c8418f67727f7", func := "dyehouse/dyehouselaw12.IrWalks", spec := "irWalks", unfollowed := true, recurses := true, apart := false, narrowed := true }
def IrWalksUptoSaid : Prop := irWalksUptoRow.holds Try.pinned (OpenSpec.upto irWalksSpec)

/-- 'dyehouselaw12.IrAsks', WHERE WHAT IT READS IS OF BULK AT MOST 1048576: true; the input reads as it did. -/
def irAsksUptoRow : OpenClaim := { program := "ytocelaebokikcaa", sum := "fdc0341ea693aed9777bb4baa91516a2954c4d9d4da7f22c7c4c8418f67727f7", func := "dyehouse/dyehouselaw12.IrAsks", spec := "irAsks", unfollowed := true, recurses := true, apart := false, narrowed := true }
def IrAsksUptoSaid : Prop := irAsksUptoRow.holds Try.pinned (OpenSpec.upto irAsksSpec)

end Rows
end Go.Proofs.Ytocelaebokikcaa
