/- Two items compared. -/
import Derived.Test.YthnpjaklcebgfaaDrain
import Derived.Laws.StructEq
namespace Go.Proofs.Ythnpjaklcebgfaa
open Go.ChangeShapes Go.WideShapes Go.RowKit
set_option linter.unusedVariables false

theorem fields28 : Try.prog.underlying 28 = some (.struct (Try.prog.fieldsOf 28)) := by kernel_rfl
theorem held28 : Try.prog.stoodInHeld 28 = false := by kernel_rfl
theorem part0 (x y : Int) (w : World) : (part 3 #[.int .i64 x, .int .i64 y] 0).run Try.prog w = .ok (.int .i64 x) w := by kernel_rfl
theorem part1 (x y : Int) (w : World) : (part 3 #[.int .i64 x, .int .i64 y] 1).run Try.prog w = .ok (.int .i64 y) w := by kernel_rfl
theorem names28 : (Try.prog.fieldsOf 28).toList.map (fun f => (f.name, f.type, f.offset)) = [("Key", 3, 0), ("Value", 3, 1)] := by kernel_rfl
theorem eqf (x y a b : Int) (w : World) (d : Nat) (fs : List Field) (h : fs.map (fun f => (f.name, f.type, f.offset)) = [("Key", 3, 0), ("Value", 3, 1)]) :
    (Op.eqFields (d + 1) #[.int .i64 x, .int .i64 y] #[.int .i64 a, .int .i64 b] fs).run Try.prog w = .ok (x == a && y == b) w := by
  obtain ⟨f, g, rfl⟩ : ∃ f g, fs = [f, g] := by
    have hl : fs.length = 2 := by have := congrArg List.length h; simpa using this
    match fs, hl with
    | [f, g], _ => exact ⟨f, g, rfl⟩
  · simp only [List.map_cons, List.map_nil, List.cons.injEq, Prod.mk.injEq] at h
    obtain ⟨⟨f1, f2, f3⟩, ⟨g1, g2, g3⟩, _⟩ := h
    simp [Op.eqFields, f1, f2, f3, g1, g2, g3, part0, part1, run_equalIn_int _ _ _ _ _ _ _ Try.underlying3, Result.andThen]
    cases h1 : x == a <;> cases h2 : y == b <;> simp_all
theorem same_pair (x y a b : Int) : (x == a && y == b) = decide ((x, y) = (a, b)) := by
  rw [Bool.eq_iff_iff]; simp
theorem eqIn28 (x y a b : Int) (r : Bool) (hr : decide ((x, y) = (a, b)) = r) (W : World) : (Op.equalIn 10000 28 (.agg #[.int .i64 x, .int .i64 y]) (.agg #[.int .i64 a, .int .i64 b])).run Try.prog W = .ok r W := by
  rw [run_equalIn_struct W (P := Try.prog) 9999 28 _ _ fields28 held28, eqf x y a b W 9998 _ names28, same_pair, hr]
theorem eql28 (x y a b : Int) (r : Bool) (hr : decide ((x, y) = (a, b)) = r) (W : World) : (binOp .eql 28 (.agg #[.int .i64 x, .int .i64 y]) (.agg #[.int .i64 a, .int .i64 b])).run Try.prog W = .ok (.bool r) W := by
  rw [run_eql_struct, eqIn28 x y a b r hr W]; rfl
theorem neq28 (x y a b : Int) (r : Bool) (hr : decide ((x, y) = (a, b)) = !r) (W : World) : (binOp .neq 28 (.agg #[.int .i64 x, .int .i64 y]) (.agg #[.int .i64 a, .int .i64 b])).run Try.prog W = .ok (.bool r) W := by
  rw [run_neq_struct, eqIn28 x y a b _ hr W]; cases r <;> rfl
end Go.Proofs.Ythnpjaklcebgfaa
