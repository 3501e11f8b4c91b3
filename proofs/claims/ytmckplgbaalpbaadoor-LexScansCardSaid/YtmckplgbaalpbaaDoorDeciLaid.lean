/- Numbers as digits: what the walks lean on. -/
import Derived.Test.YtmckplgbaalpbaaDoorRows
import Derived.Test.YtmckplgbaalpbaaDoorDeciMath
import Derived.Outline
import Derived.WalkKit
import Derived.WalkLawsBesides
import Derived.LoopTactic
import Derived.Below
import Derived.IntWalk
import Derived.Deep.Light
import Derived.Deep.LoopGhost
import Derived.Deep.WholeRow
import Derived.Lib.Hide
import Derived.Laws.IdiomStrings
namespace Go.Proofs.YtmckplgbaalpbaaDoor.Deci
open Go.ChangeShapes Go.WideShapes Go.RowKit
set_option linter.unusedVariables false

/-- Bytes as cells. -/
def cellsOf (l : List UInt8) : List Value := l.map fun c => .int .u8 (c.toNat : Int)
theorem ret_int {k : IntKind} {a b : Int} (h : a = b) : Ending.returned (.int k a) = .returned (.int k b) := by rw [h]
def fit (n : Int) : Prop := -9223372036854775808 ≤ n ∧ n ≤ 9223372036854775807
theorem neg_wrap (n : Int) (h0 : n < 0) (h1 : -9223372036854775808 ≤ n) : IntKind.u64.wrap (-(IntKind.u64.wrap n)) = (n.natAbs : Int) := by
  have e : (n.natAbs : Int) = -n := by omega
  have hb : (2 : Int) ^ IntKind.u64.bits = 18446744073709551616 := by decide
  have hs : IntKind.u64.signed = false := rfl
  rw [e]; simp only [IntKind.wrap, hb, hs, Bool.false_and]
  simp only [Bool.false_eq_true, if_false]
  omega
theorem dch_int (u : Nat) : ((dch u).toNat : Int) = 48 + (u : Int) % 10 := by rw [dch_nat]; omega
end Go.Proofs.YtmckplgbaalpbaaDoor.Deci
