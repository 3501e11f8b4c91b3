/- How an operand comes in, as the frame asks for it. -/
import Derived.Test.YtlfohbajeecdeaaDoorShoBlocks
import Derived.Test.YtlfohbajeecdeaaDoorOprOpen
namespace Go.Proofs.YtlfohbajeecdeaaDoor
open Go.ChangeShapes Go.WideShapes Go.RowKit
set_option linter.unusedVariables false

theorem open_opn2 {H : Type} {enc : TypeId × Value → H} {W : World} {base : Nat} {v : Value} {d : DataW H} {p : List MemPlace} (hv : Value.okWide Tryd.prog W .any base 31 v) (h : DataW.Trod enc Tryd.prog W 0 (fun _ => true) true 31 v d p) (hB : Rows.uptoBulk d ≤ 1048576) :
    ∃ (x : Opn) (_ : Unit), v = .agg #[.int .i64 x.k, .int .i64 x.c, .int .i64 x.n, .int .i64 x.t] ∧ OpF x := by
  obtain ⟨x, h1, h2⟩ := open_opn hv h hB
  exact ⟨x, (), h1, h2⟩
end Go.Proofs.YtlfohbajeecdeaaDoor
