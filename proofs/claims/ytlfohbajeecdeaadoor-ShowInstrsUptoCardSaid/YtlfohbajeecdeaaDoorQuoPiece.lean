
/- What the program's digit, twoDigits and piece answer. -/
import Derived.Test.YtlfohbajeecdeaaDoorRows
import Derived.Test.YtlfohbajeecdeaaDoorQuoMath
import Derived.Outline
import Derived.WalkKit
import Derived.WalkLawsBesides
import Derived.LoopTactic
import Derived.Below
import Derived.IntWalk
import Derived.Deep.Light
import Derived.Deep.LoopGhost
import Derived.Deep.WholeRow
import Derived.Lib.Hide
import Derived.Laws.IdiomStrings
import Derived.OwnWalk
namespace Go.Proofs.YtlfohbajeecdeaaDoor.Quo
open Go.ChangeShapes Go.WideShapes Go.RowKit
set_option linter.unusedVariables false

theorem ret_two {a b : Int} {k l : IntKind} {c d : Int} (h : a = c) (h2 : b = d) : Ending.returned (.tuple #[.int k a, .int l b]) = .returned (.tuple #[.int k c, .int l d]) := by rw [h, h2]
theorem ret_ib {a : Int} {k : IntKind} {c : Int} {x : Bool} (h : a = c) : Ending.returned (.tuple #[.int k a, .bool x]) = .returned (.tuple #[.int k c, .bool x]) := by rw [h]
end Go.Proofs.YtlfohbajeecdeaaDoor.Quo
