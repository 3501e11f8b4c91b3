
/- What Gives, Args and Fits of op answer. -/
import Derived.Test.YtlfohbajeecdeaaDoorOprSmall
namespace Go.Proofs.YtlfohbajeecdeaaDoor.Opr
open Go.ChangeShapes Go.WideShapes Go.RowKit
set_option linter.unusedVariables false

/-- What Fits answers, by the bits. -/
def fitR (v c : Int) : Bool := if c = 0 then decide (v % 2 = 1) else if c = 1 then decide (v / 2 % 2 = 1) else false
theorem at_some (n i : Int) : atR n i = 0 ∨ atR n i = 1 ∨ atR n i = 2 ∨ atR n i = 3 ∨ atR n i = 5 ∨ atR n i = 7 ∨ atR n i = 8 ∨ atR n i = 11 ∨ atR n i = 13 ∨ atR n i = 17 := by
  unfold atR fromR toR firstR secondR
  repeat' split
  all_goals decide
end Go.Proofs.YtlfohbajeecdeaaDoor.Opr
