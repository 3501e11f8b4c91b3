/-
  No cell of these rows narrows 'for every input' (looked for: loops, veiled, ifaces, maps, wideKeys, modest, calm, conditions, laid).
  DERIVED. THE GIVEN ROWS OF THIS SEAT. 3 by the template 'for every input the law returns true; each argument reads behind the call as it read before'; 0 by the template 'total and deterministic' (their statements: YtncdppdlklffpaaTotals.lean).
  GIVEN WITH THE SEED: the statements are not yours to turn. If you find one false, say at which input.
  Laid BY PROGRAM, IN A SANDBOX (cutbox-rows.mjs): the forced cells as the released guide's own fill.sh prints them over the translation de0a3043aefdfa3e… (all of the seat's roots in one cut). By AI agents, Wed Nov 11 2026. No macro, syntax, notation, axiom, sorry.
-/
import Derived.Test.YtncdppdlklffpaaChecked
import GoSem.Claim
import GoSem.ClaimJoined
import GoSem.ClaimMapViews
import Derived.JoinedTies
import Derived.KernelRfl
namespace Go.Proofs.Ytncdppdlklffpaa
/- THE CELL 'sum', in the pinned program and in every row, IS THE sha256 OF THE DUMP (.gsa) THAT YtncdppdlklffpaaProg.lean LOADS. Nothing in Lean hashes anything: it is a label: what it is worth is what the hold of that sum in a sandbox is worth. -/
noncomputable def Try.pinned : Pinned := { name := "ytncdppdlklffpaa", sum := "de0a3043aefdfa3e0ab5dce4df38060c62d70536cf498effa79b2b38387ac510", checked := Try.checked }
namespace Rows
def none {H : Type} : Left H := { results := [], args := [] }

/-- 'dyehouselaw02.DeciPuts': WHATEVER THE INPUT: true; the input reads as it did. -/
def deciPutsSpec : ChangeSpec := { name := "deciPuts", fn := fun _ => fun
  | [d1, d2] => { results := [.lit (.bool true)], args := [d1, d2] }
  | _ => none }
def deciPutsRow : OpenClaim := { program := "ytncdppdlklffpaa", sum := "de0a3043aefdfa3e0ab5dce4df38060c62d70536cf498effa79b2b38387ac510", func := "dyehouse/dyehouselaw02.DeciPuts", spec := "deciPuts", inPlace := ["internal/abi.NoEscape", "internal/bytealg.MakeNoZero"], apart := false }
def DeciPutsSaid : Prop := deciPutsRow.holds Try.pinned (OpenSpec.ofChange deciPutsSpec)

/-- ITS FALSE NEIGHBOUR: 'it returns false'. Refute it at one input. -/
def deciPutsWrong : ChangeSpec := { name := "deciPuts", fn := fun _ => fun
  | [d1, d2] => { results := [.lit (.bool false)], args := [d1, d2] }
  | _ => none }
def DeciPutsWrongFalsely : Prop := deciPutsRow.holds Try.pinned (OpenSpec.ofChange deciPutsWrong)

/-- 'dyehouselaw02.DeciScans': WHATEVER THE INPUT: true; the input reads as it did. -/
def deciScansSpec : ChangeSpec := { name := "deciScans", fn := fun _ => fun
  | [d1, d2] => { results := [.lit (.bool true)], args := [d1, d2] }
  | _ => none }
def deciScansRow : OpenClaim := { program := "ytncdppdlklffpaa", sum := "de0a3043aefdfa3e0ab5dce4df38060c62d70536cf498effa79b2b38387ac510", func := "dyehouse/dyehouselaw02.DeciScans", spec := "deciScans", inPlace := ["internal/abi.NoEscape", "internal/bytealg.MakeNoZero"], apart := false }
def DeciScansSaid : Prop := deciScansRow.holds Try.pinned (OpenSpec.ofChange deciScansSpec)

/-- ITS FALSE NEIGHBOUR: 'it returns false'. Refute it at one input. -/
def deciScansWrong : ChangeSpec := { name := "deciScans", fn := fun _ => fun
  | [d1, d2] => { results := [.lit (.bool false)], args := [d1, d2] }
  | _ => none }
def DeciScansWrongFalsely : Prop := deciScansRow.holds Try.pinned (OpenSpec.ofChange deciScansWrong)

/-- 'dyehouselaw02.DeciBack': WHATEVER THE INPUT: true; the input reads as it did. -/
def deciBackSpec : ChangeSpec := { name := "deciBack", fn := fun _ => fun
  | [d1, d2, d3] => { results := [.lit (.bool true)], args := [d1, d2, d3] }
  | _ => none }
def deciBackRow : OpenClaim := { program := "ytncdppdlklffpaa", sum := "de0a3043aefdfa3e0ab5dce4df38060c62d70536cf498effa79b2b38387ac510", func := "dyehouse/dyehouselaw02.DeciBack", spec := "deciBack", inPlace := ["internal/abi.NoEscape", "internal/bytealg.MakeNoZero"], apart := false }
def DeciBackSaid : Prop := deciBackRow.holds Try.pinned (OpenSpec.ofChange deciBackSpec)

/-- ITS FALSE NEIGHBOUR: 'it returns false'. Refute it at one input. -/
def deciBackWrong : ChangeSpec := { name := "deciBack", fn := fun _ => fun
  | [d1, d2, d3] => { results := [.lit (.bool false)], args := [d1, d2, d3] }
  | _ => none }
def DeciBackWrongFalsely : Prop := deciBackRow.holds Try.pinned (OpenSpec.ofChange deciBackWrong)

/- THE SECOND FORM. 'bulk': how many values and letters a reading holds, each counted each time it is reached (what is shared counts as often as it is met; a slice's spare places count too). A statement '..UptoSaid' is the law's where the arguments, and the package variables that the reading takes, are together of bulk at most 1048576: NARROWER than '..Said'. Prove '..Said' where nothing that the law and all that it calls make is longer than what came in: it says more and counts as full. Else prove '..UptoSaid'. A law counts once. -/
mutual
def uptoBulk {H : Type} : DataW H → Nat
  | .lit (.string bytes) => bytes.length + 1
  | .lit _ => 1
  | .nil => 1
  | .ptr d => uptoBulk d + 1
  | .slice elems spare => uptoBulkAll elems + uptoBulkAll spare + 1
  | .agg parts => uptoBulkAll parts + 1
  | .iface _ d => uptoBulk d + 1
  | .map entries => uptoBulkEntries entries + 1
  | .held _ => 1
def uptoBulkAll {H : Type} : List (DataW H) → Nat
  | [] => 0
  | d :: r => uptoBulk d + uptoBulkAll r
def uptoBulkEntries {H : Type} : List (Lit × DataW H) → Nat
  | [] => 0
  | x :: r => uptoBulkEntry x + uptoBulkEntries r
def uptoBulkEntry {H : Type} : Lit × DataW H → Nat
  | (.string bytes, d) => bytes.length + uptoBulk d + 1
  | (_, d) => uptoBulk d + 1
 end
def uptoSmall : (H : Type) → List (DataW H) → Bool := fun _ ds => decide (uptoBulkAll ds ≤ 1048576)
def OpenSpec.upto (s : _root_.Go.ChangeSpec) : _root_.Go.OpenSpec := { _root_.Go.OpenSpec.ofChange s with cond := some uptoSmall }

/-- 'dyehouselaw02.DeciPuts', WHERE WHAT IT READS IS OF BULK AT MOST 1048576: true; the input reads as it did. -/
def deciPutsUptoRow : OpenClaim := { program := "ytncdppdlklffpaa", sum := "de0a3043aefdfa3e0ab5dce4df38060c62d70536cf498effa79b2b38387ac510", func := "dyehouse/dyehouselaw02.DeciPuts", spec := "deciPuts", inPlace := ["internal/abi.NoEscape", "internal/bytealg.MakeNoZero"], apart := false, narrowed := true }
def DeciPutsUptoSaid : Prop := deciPutsUptoRow.holds Try.pinned (OpenSpec.upto deciPutsSpec)

/-- 'dyehouselaw02.DeciScans', WHERE WHAT IT READS IS OF BULK AT MOST 1048576: true; the input reads as it did. -/
def deciScansUptoRow : OpenClaim := { program := "ytncdppdlklffpaa", sum := "de0a3043aefdfa3e0ab5dce4df38060c62d70536cf498effa79b2b38387ac510", func := "dyehouse/dyehouselaw02.DeciScans", spec := "deciScans", inPlace := ["internal/abi.NoEscape", "internal/bytealg.MakeNoZero"], apart := false, narrowed := true }
def DeciScansUptoSaid : Prop := deciScansUptoRow.holds Try.pinned (OpenSpec.upto deciScansSpec)

/-- 'dyehouselaw02.DeciBack', WHERE WHAT IT READS IS OF BULK AT MOST 1048576: true; the input reads as it did. -/
def deciBackUptoRow : OpenClaim := { program := "ytncdppdlklffpaa", sum := "de0a3043aefdfa3e0ab5dce4df38060c62d70536cf498effa79b2b38387ac510", func := "dyehouse/dyehouselaw02.DeciBack", spec := "deciBack", inPlace := ["internal/abi.NoEscape", "internal/bytealg.MakeNoZero"], apart := false, narrowed := true }
def DeciBackUptoSaid : Prop := deciBackUptoRow.holds Try.pinned (OpenSpec.upto deciBackSpec)

end Rows
end Go.Proofs.Ytncdppdlklffpaa
