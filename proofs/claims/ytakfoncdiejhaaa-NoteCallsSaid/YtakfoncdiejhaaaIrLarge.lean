
/- Large ends and leaves all as it was. -/
import Derived.Test.YtakfoncdiejhaaaIrData
import Derived.ProofKit
import Derived.OwnWalk
import Derived.Laws.OwnMore
import Derived.Deep.Light
import Derived.BigQuiet
import Derived.Deep.QuietTactic
import Derived.StillTailTactics
import Derived.Laws.Strings
namespace Go.Proofs.Ytakfoncdiejhaaa
open Go.ChangeShapes Go.WideShapes Go.RowKit
set_option linter.unusedVariables false
set_option maxRecDepth 20000

theorem Below.drewQ {B : Nat} {a w : World} (h : Below B a w) (n : Nat) : Below B a (w.drewN n) := ⟨h.os, h.tape, h.output, h.size, h.block⟩
/-- A truth value is answered. -/
def SomeBool (e : Ending) : Prop := ∃ b, e = .returned (.bool b)
end Go.Proofs.Ytakfoncdiejhaaa
