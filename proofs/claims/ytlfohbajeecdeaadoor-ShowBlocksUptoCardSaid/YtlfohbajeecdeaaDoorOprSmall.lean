
/- What the small functions of op answer: Is, Machine, Last, Labels, and what a place may have. -/
import Derived.Test.YtlfohbajeecdeaaDoorOprMath
import Derived.Test.YtlfohbajeecdeaaDoorProg
import Derived.WalkKit
import Derived.LaidEql
import Derived.RowKitTokens
import Derived.Below
import Derived.Deep.Light
import Derived.StillTailTactics
import Derived.Lib.Hide
namespace Go.Proofs.YtlfohbajeecdeaaDoor.Opr
open Go.ChangeShapes Go.WideShapes Go.RowKit
set_option linter.unusedVariables false

theorem is_v (n : Int) (b : Bool) (h : isOp n = b) (w : World) : Calls Tryd.prog 50 #[.int .i64 n] w fun e w' => e = .returned (.bool b) ∧ w = w' := by
  unfold isOp at h
  by_cases h1 : 1 ≤ n
  · have c1 : decide (1 ≤ n) = true := decide_eq_true h1
    by_cases h2 : n ≤ 27
    · have c2 : decide (n ≤ 27) = true := decide_eq_true h2
      have hb : b = true := by rw [← h, c1, c2]; rfl
      subst hb
      clear h
      go_enter Tryd.func50, Tryd.ntmps50
      go_wp2_with fail
      go_ret
      exact ⟨rfl, rfl⟩
    · have c2 : decide (n ≤ 27) = false := decide_eq_false h2
      have hb : b = false := by rw [← h, c1, c2]; rfl
      subst hb
      clear h h2
      go_enter Tryd.func50, Tryd.ntmps50
      go_wp2_with fail
      go_ret
      exact ⟨rfl, rfl⟩
  · have c1 : decide (1 ≤ n) = false := decide_eq_false h1
    have hb : b = false := by rw [← h, c1]; rfl
    subst hb
    clear h h1
    go_enter Tryd.func50, Tryd.ntmps50
    go_wp2_with fail
    go_ret
    exact ⟨rfl, rfl⟩
def machOf (n : Int) : Bool := (n == 24) || (n == 25) || (n == 26) || (n == 27)
def lastOf (n : Int) : Bool := (n == 20) || (n == 21) || (n == 22) || (n == 23)
def labsOf (n cs : Int) : Int := if n = 20 then 1 else if n = 21 then 2 else if n = 22 then cs + 1 else 0
end Go.Proofs.YtlfohbajeecdeaaDoor.Opr
