
/- A pair is the same as itself. -/
import Derived.Test.YtojfbcfbnadboaaGraIn
import Derived.Laws.StructEq
namespace Go.Proofs.Ytojfbcfbnadboaa.Gra
open Go.ChangeShapes Go.WideShapes Go.RowKit
set_option linter.unusedVariables false

theorem prt0 (x y : Int) (w : World) : (part 3 #[.int .i64 x, .int .i64 y] 0).run Try.prog w = .ok (.int .i64 x) w := by kernel_rfl
theorem prt1 (x y : Int) (w : World) : (part 3 #[.int .i64 x, .int .i64 y] 1).run Try.prog w = .ok (.int .i64 y) w := by kernel_rfl
theorem sz3 (w : World) : (sizeOf 3).run Try.prog w = .ok 1 w := by kernel_rfl
theorem arr2 : Try.prog.underlying 41 = some (.array 2 3) := by kernel_rfl
theorem eq2d (d : Nat) (x y : Int) (W : World) : (Op.equalIn ((d + 1) + 1) 41 (.agg #[.int .i64 x, .int .i64 y]) (.agg #[.int .i64 x, .int .i64 y])).run Try.prog W = .ok true W := by
  have h : ∀ (z : Int) (W : World), (Op.equalIn (d + 1) 3 (.int .i64 z) (.int .i64 z)).run Try.prog W = .ok true W := fun z W => by
    rw [run_equalIn_int _ _ _ _ _ _ _ Try.underlying3]
    simp
  generalize hk : d + 1 = k at h ⊢
  simp only [Op.equalIn, Sem.run_bind, run_underlying arr2, Result.andThen_ok, sz3]
  simp [Std.Legacy.Range.forIn_eq_forIn_range', Std.Legacy.Range.size, List.range'_succ, Sem.run_bind, prt0, prt1, h, Result.andThen, Sem.run_ite]
theorem eq2 (x y : Int) (W : World) : (Op.equalIn 10000 41 (.agg #[.int .i64 x, .int .i64 y]) (.agg #[.int .i64 x, .int .i64 y])).run Try.prog W = .ok true W := eq2d 9998 x y W
end Go.Proofs.Ytojfbcfbnadboaa.Gra
