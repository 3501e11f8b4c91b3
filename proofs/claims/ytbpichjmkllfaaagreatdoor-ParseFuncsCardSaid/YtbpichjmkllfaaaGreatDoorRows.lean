/-
  NARROWER THAN 'FOR EVERY INPUT', by the rows' own cells (each row's printed sentence says how): ParseTexts: laid · ParseBack: laid · ParseFuncs: laid · ParseInside: laid.
  DERIVED. THE GIVEN ROWS OF THIS SEAT. 4 by the template 'for every input the law returns true; each argument reads behind the call as it read before'; 0 by the template 'total and deterministic' (their statements: YtbpichjmkllfaaaGreatDoorTotals.lean).
  GIVEN WITH THE SEED: the statements are not yours to turn. If you find one false, say at which input.
  Laid BY PROGRAM, IN A SANDBOX (cutbox-rows.mjs): the forced cells as the released guide's own fill.sh prints them over the translation 86264c4c71f8265c… (all of the seat's roots in one cut). By AI agents, Wed Nov 11 2026. No macro, syntax, notation, axiom, sorry.
-/
import Derived.Test.YtbpichjmkllfaaaGreatDoorChecked
import GoSem.Claim
import GoSem.ClaimJoined
import GoSem.ClaimMapViews
import Derived.JoinedTies
import Derived.KernelRfl
namespace Go.Proofs.YtbpichjmkllfaaaGreatDoor
/- THE CELL 'sum', in the pinned program and in every row, IS THE sha256 OF THE DUMP (.gsa) THAT YtbpichjmkllfaaaGreatDoorProg.lean LOADS. Nothing in Lean hashes anything: it is a label: what it is worth is what the hold of that sum in a sandbox is worth. -/
noncomputable def Tryz.pinned : Pinned := { name := "ytbpichjmkllfaaagreatdoor", sum := "86264c4c71f8265c2d86ff68783f5483b7a458b4d7b776718c634b5be29f0c26", checked := Tryz.checked }
namespace Rows
def none {H : Type} : Left H := { results := [], args := [] }

/- WHAT THE LISTED PACKAGE-LEVEL VARIABLES READ AS WHEN THE CALL BEGINS. Each datum BY PROGRAM (the guide's laid-datum.mjs) off the statement by which the dump's own 'gosem.cut.vars' lays the variable. In a bare row this is a premise. The card (YtbpichjmkllfaaaGreatDoorCards.lean) ties it to the program's text. -/
def laid_dyehouse_op_names {H : Type} : DataW H := .agg [.lit (.string []), .lit (.string [97, 100, 100]), .lit (.string [115, 117, 98]), .lit (.string [109, 117, 108]), .lit (.string [97, 110, 100]), .lit (.string [111, 114]), .lit (.string [120, 111, 114]), .lit (.string [115, 104, 108]), .lit (.string [115, 104, 114]), .lit (.string [115, 97, 114]), .lit (.string [100, 105, 118]), .lit (.string [114, 101, 109]), .lit (.string [101, 113]), .lit (.string [110, 101]), .lit (.string [108, 116]), .lit (.string [108, 101]), .lit (.string [99, 111, 112, 121]), .lit (.string [108, 111, 97, 100]), .lit (.string [115, 116, 111, 114, 101]), .lit (.string [99, 97, 108, 108]), .lit (.string [98, 114]), .lit (.string [98, 114, 105, 102]), .lit (.string [115, 119, 105, 116, 99, 104]), .lit (.string [114, 101, 116]), .lit (.string [109, 111, 118, 101]), .lit (.string [115, 112, 105, 108, 108]), .lit (.string [114, 101, 108, 111, 97, 100]), .lit (.string [115, 119, 97, 112])]
def laid_errors_errorType {H : Type} : DataW H := .iface "internal/reflectlite.rtype" (.agg [.ptr (.lit (.string [101, 114, 114, 111, 114]))])

/-- 'dyehouselaw16.ParseTexts': WHATEVER THE INPUT: true; the input reads as it did. -/
def parseTextsSpec : ChangeSpec := { name := "parseTexts", fn := fun _ => fun
  | [d] => { results := [.lit (.bool true)], args := [d] }
  | _ => none }
def parseTextsRow : OpenClaim := { program := "ytbpichjmkllfaaagreatdoor", sum := "86264c4c71f8265c2d86ff68783f5483b7a458b4d7b776718c634b5be29f0c26", func := "dyehouse/dyehouselaw16.ParseTexts", spec := "parseTexts", inPlace := ["internal/bytealg.IndexByteString", "internal/reflectlite.ValueOf", "(internal/reflectlite.Value).Type", "(internal/reflectlite.Value).IsNil", "internal/reflectlite.TypeOf", "(internal/reflectlite.Value).Elem", "(internal/reflectlite.Value).Set"], unfollowed := true, recurses := true, named := ["dyehouse/op.names", "errors.errorType"], apart := false, laid := [("dyehouse/op.names", laid_dyehouse_op_names), ("errors.errorType", laid_errors_errorType)] }
def ParseTextsSaid : Prop := parseTextsRow.holds Tryz.pinned (OpenSpec.ofChange parseTextsSpec)

/-- ITS FALSE NEIGHBOUR: 'it returns false'. Refute it at one input. -/
def parseTextsWrong : ChangeSpec := { name := "parseTexts", fn := fun _ => fun
  | [d] => { results := [.lit (.bool false)], args := [d] }
  | _ => none }
def ParseTextsWrongFalsely : Prop := parseTextsRow.holds Tryz.pinned (OpenSpec.ofChange parseTextsWrong)

/-- 'dyehouselaw16.ParseBack': WHATEVER THE INPUT: true; the input reads as it did. -/
def parseBackSpec : ChangeSpec := { name := "parseBack", fn := fun _ => fun
  | [d1, d2] => { results := [.lit (.bool true)], args := [d1, d2] }
  | _ => none }
def parseBackRow : OpenClaim := { program := "ytbpichjmkllfaaagreatdoor", sum := "86264c4c71f8265c2d86ff68783f5483b7a458b4d7b776718c634b5be29f0c26", func := "dyehouse/dyehouselaw16.ParseBack", spec := "parseBack", inPlace := ["internal/bytealg.IndexByteString", "internal/reflectlite.ValueOf", "(internal/reflectlite.Value).Type", "(internal/reflectlite.Value).IsNil", "internal/reflectlite.TypeOf", "(internal/reflectlite.Value).Elem", "(internal/reflectlite.Value).Set"], unfollowed := true, recurses := true, named := ["dyehouse/op.names", "errors.errorType"], apart := false, laid := [("dyehouse/op.names", laid_dyehouse_op_names), ("errors.errorType", laid_errors_errorType)] }
def ParseBackSaid : Prop := parseBackRow.holds Tryz.pinned (OpenSpec.ofChange parseBackSpec)

/-- ITS FALSE NEIGHBOUR: 'it returns false'. Refute it at one input. -/
def parseBackWrong : ChangeSpec := { name := "parseBack", fn := fun _ => fun
  | [d1, d2] => { results := [.lit (.bool false)], args := [d1, d2] }
  | _ => none }
def ParseBackWrongFalsely : Prop := parseBackRow.holds Tryz.pinned (OpenSpec.ofChange parseBackWrong)

/-- 'dyehouselaw16.ParseFuncs': WHATEVER THE INPUT: true; the input reads as it did. -/
def parseFuncsSpec : ChangeSpec := { name := "parseFuncs", fn := fun _ => fun
  | [d1, d2] => { results := [.lit (.bool true)], args := [d1, d2] }
  | _ => none }
def parseFuncsRow : OpenClaim := { program := "ytbpichjmkllfaaagreatdoor", sum := "86264c4c71f8265c2d86ff68783f5483b7a458b4d7b776718c634b5be29f0c26", func := "dyehouse/dyehouselaw16.ParseFuncs", spec := "parseFuncs", inPlace := ["internal/bytealg.IndexByteString", "internal/reflectlite.ValueOf", "(internal/reflectlite.Value).Type", "(internal/reflectlite.Value).IsNil", "internal/reflectlite.TypeOf", "(internal/reflectlite.Value).Elem", "(internal/reflectlite.Value).Set"], unfollowed := true, recurses := true, named := ["dyehouse/op.names", "errors.errorType"], apart := false, laid := [("dyehouse/op.names", laid_dyehouse_op_names), ("errors.errorType", laid_errors_errorType)] }
def ParseFuncsSaid : Prop := parseFuncsRow.holds Tryz.pinned (OpenSpec.ofChange parseFuncsSpec)

/-- ITS FALSE NEIGHBOUR: 'it returns false'. Refute it at one input. -/
def parseFuncsWrong : ChangeSpec := { name := "parseFuncs", fn := fun _ => fun
  | [d1, d2] => { results := [.lit (.bool false)], args := [d1, d2] }
  | _ => none }
def ParseFuncsWrongFalsely : Prop := parseFuncsRow.holds Tryz.pinned (OpenSpec.ofChange parseFuncsWrong)

/-- 'dyehouselaw16.ParseInside': WHATEVER THE INPUT: true; the input reads as it did. -/
def parseInsideSpec : ChangeSpec := { name := "parseInside", fn := fun _ => fun
  | [d] => { results := [.lit (.bool true)], args := [d] }
  | _ => none }
def parseInsideRow : OpenClaim := { program := "ytbpichjmkllfaaagreatdoor", sum := "86264c4c71f8265c2d86ff68783f5483b7a458b4d7b776718c634b5be29f0c26", func := "dyehouse/dyehouselaw16.ParseInside", spec := "parseInside", inPlace := ["internal/bytealg.IndexByteString", "internal/reflectlite.ValueOf", "(internal/reflectlite.Value).Type", "(internal/reflectlite.Value).IsNil", "internal/reflectlite.TypeOf", "(internal/reflectlite.Value).Elem", "(internal/reflectlite.Value).Set"], unfollowed := true, recurses := true, named := ["dyehouse/op.names", "errors.errorType"], apart := false, laid := [("dyehouse/op.names", laid_dyehouse_op_names), ("errors.errorType", laid_errors_errorType)] }
def ParseInsideSaid : Prop := parseInsideRow.holds Tryz.pinned (OpenSpec.ofChange parseInsideSpec)

/-- ITS FALSE NEIGHBOUR: 'it returns false'. Refute it at one input. -/
def parseInsideWrong : ChangeSpec := { name := "parseInside", fn := fun _ => fun
  | [d] => { results := [.lit (.bool false)], args := [d] }
  | _ => none }
def ParseInsideWrongFalsely : Prop := parseInsideRow.holds Tryz.pinned (OpenSpec.ofChange parseInsideWrong)

/- THE SECOND FORM. 'bulk': how many values and letters a reading holds, each counted each time it is reached (what is shared counts as often as it is met; a slice's spare places count too). A statement '..UptoSaid' is the law's where the arguments, and the package variables that the reading takes, are together of bulk at most 1048576: NARROWER than '..Said'. Prove '..Said' where nothing that the law and all that it calls make is longer than what came in: it says more and counts as full. Else prove '..UptoSaid'. A law counts once. -/
mutual
def uptoBulk {H : Type} : DataW H → Nat
  | .lit (.string bytes) => bytes.length + 1
  | .lit _ => 1
  | .nil => 1
  | .ptr d => uptoBulk d + 1
  | .slice elems spare => uptoBulkAll elems + uptoBulkAll spare + 1
  | .agg parts => uptoBulkAll parts + 1
  | .iface _ d => uptoBulk d + 1
  | .map entries => uptoBulkEntries entries + 1
  | .held _ => 1
def uptoBulkAll {H : Type} : List (DataW H) → Nat
  | [] => 0
  | d :: r => uptoBulk d + uptoBulkAll r
def uptoBulkEntries {H : Type} : List (Lit × DataW H) → Nat
  | [] => 0
  | x :: r => uptoBulkEntry x + uptoBulkEntries r
def uptoBulkEntry {H : Type} : Lit × DataW H → Nat
  | (.string bytes, d) => bytes.length + uptoBulk d + 1
  | (_, d) => uptoBulk d + 1
 end
def uptoSmall : (H : Type) → List (DataW H) → Bool := fun _ ds => decide (uptoBulkAll ds ≤ 1048576)
def OpenSpec.upto (s : _root_.Go.ChangeSpec) : _root_.Go.OpenSpec := { _root_.Go.OpenSpec.ofChange s with cond := some uptoSmall }

/-- 'dyehouselaw16.ParseTexts', WHERE WHAT IT READS IS OF BULK AT MOST 1048576: true; the input reads as it did. -/
def parseTextsUptoRow : OpenClaim := { program := "ytbpichjmkllfaaagreatdoor", sum := "86264c4c71f8265c2d86ff68783f5483b7a458b4d7b776718c634b5be29f0c26", func := "dyehouse/dyehouselaw16.ParseTexts", spec := "parseTexts", inPlace := ["internal/bytealg.IndexByteString", "internal/reflectlite.ValueOf", "(internal/reflectlite.Value).Type", "(internal/reflectlite.Value).IsNil", "internal/reflectlite.TypeOf", "(internal/reflectlite.Value).Elem", "(internal/reflectlite.Value).Set"], unfollowed := true, recurses := true, named := ["dyehouse/op.names", "errors.errorType"], apart := false, laid := [("dyehouse/op.names", laid_dyehouse_op_names), ("errors.errorType", laid_errors_errorType)], narrowed := true }
def ParseTextsUptoSaid : Prop := parseTextsUptoRow.holds Tryz.pinned (OpenSpec.upto parseTextsSpec)

/-- 'dyehouselaw16.ParseBack', WHERE WHAT IT READS IS OF BULK AT MOST 1048576: true; the input reads as it did. -/
def parseBackUptoRow : OpenClaim := { program := "ytbpichjmkllfaaagreatdoor", sum := "86264c4c71f8265c2d86ff68783f5483b7a458b4d7b776718c634b5be29f0c26", func := "dyehouse/dyehouselaw16.ParseBack", spec := "parseBack", inPlace := ["internal/bytealg.IndexByteString", "internal/reflectlite.ValueOf", "(internal/reflectlite.Value).Type", "(internal/reflectlite.Value).IsNil", "internal/reflectlite.TypeOf", "(internal/reflectlite.Value).Elem", "(internal/reflectlite.Value).Set"], unfollowed := true, recurses := true, named := ["dyehouse/op.names", "errors.errorType"], apart := false, laid := [("dyehouse/op.names", laid_dyehouse_op_names), ("errors.errorType", laid_errors_errorType)], narrowed := true }
def ParseBackUptoSaid : Prop := parseBackUptoRow.holds Tryz.pinned (OpenSpec.upto parseBackSpec)

/-- 'dyehouselaw16.ParseFuncs', WHERE WHAT IT READS IS OF BULK AT MOST 1048576: true; the input reads as it did. -/
def parseFuncsUptoRow : OpenClaim := { program := "ytbpichjmkllfaaagreatdoor", sum := "86264c4c71f8265c2d86ff68783f5483b7a458b4d7b776718c634b5be29f0c26", func := "dyehouse/dyehouselaw16.ParseFuncs", spec := "parseFuncs", inPlace := ["internal/bytealg.IndexByteString", "internal/reflectlite.ValueOf", "(internal/reflectlite.Value).Type", "(internal/reflectlite.Value).IsNil", "internal/reflectlite.TypeOf", "(internal/reflectlite.Value).Elem", "(internal/reflectlite.Value).Set"], unfollowed := true, recurses := true, named := ["dyehouse/op.names", "errors.errorType"], apart := false, laid := [("dyehouse/op.names", laid_dyehouse_op_names), ("errors.errorType", laid_errors_errorType)], narrowed := true }
def ParseFuncsUptoSaid : Prop := parseFuncsUptoRow.holds Tryz.pinned (OpenSpec.upto parseFuncsSpec)

/-- 'dyehouselaw16.ParseInside', WHERE WHAT IT READS IS OF BULK AT MOST 1048576: true; the input reads as it did. -/
def parseInsideUptoRow : OpenClaim := { program := "ytbpichjmkllfaaagreatdoor", sum := "86264c4c71f8265c2d86ff68783f5483b7a458b4d7b776718c634b5be29f0c26", func := "dyehouse/dyehouselaw16.ParseInside", spec := "parseInside", inPlace := ["internal/bytealg.IndexByteString", "internal/reflectlite.ValueOf", "(internal/reflectlite.Value).Type", "(internal/reflectlite.Value).IsNil", "internal/reflectlite.TypeOf", "(internal/reflectlite.Value).Elem", "(internal/reflectlite.Value).Set"], unfollowed := true, recurses := true, named := ["dyehouse/op.names", "errors.errorType"], apart := false, laid := [("dyehouse/op.names", laid_dyehouse_op_names), ("errors.errorType", laid_errors_errorType)], narrowed := true }
def ParseInsideUptoSaid : Prop := parseInsideUptoRow.holds Tryz.pinned (OpenSpec.upto parseInsideSpec)

end Rows
end Go.Proofs.YtbpichjmkllfaaaGreatDoor
