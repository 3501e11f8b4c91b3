/- A pile that is nil: what the statement on it answers. -/
import Derived.Test.YthnpjaklcebgfaaWorks
namespace Go.Proofs.Ythnpjaklcebgfaa
open Go.ChangeShapes Go.WideShapes Go.RowKit
set_option linter.unusedVariables false

set_option maxHeartbeats 1000000 in
theorem none_v (a b n : Int) (w : World) : Calls Try.prog 5 #[.agg #[.int .i64 a, .int .i64 b], .int .i64 n] w fun e w' => e = .returned (.bool true) ∧ w.grownBy w' none := by
  go_enter Try.func5, Try.ntmps5
  go_wp2_with fail
  have gA := galloc w (.cells #[.int .i64 a, .int .i64 b] 28) none
  obtain ⟨b1, b2⟩ := box_new w 28 (.int .i64 a) (.int .i64 b)
  have hr : w.heap.size < (w.alloc (.cells #[.int .i64 a, .int .i64 b] 28)).heap.size := by simp
  generalize w.alloc (.cells #[.int .i64 a, .int .i64 b] 28) = W at *
  refine (ppush_nil a b _).mono ?_
  rintro e w1 ⟨rfl, g1⟩
  have d1 := (g1.cell_far ⟨w.heap.size, 1, none⟩ hr (by simp)).trans b2
  have h1 := Nat.lt_of_lt_of_le hr g1.size
  have H1 := Lib.hid (gtrans gA g1)
  clear gA b1 b2 hr g1
  go_wp2_with fail
  refine (pop_nil _).mono ?_
  rintro e w2 ⟨rfl, g2⟩
  have d2 := (g2.cell_far ⟨w.heap.size, 1, none⟩ h1 (by simp)).trans d1
  have h2 := Nat.lt_of_lt_of_le h1 g2.size
  have H2 := Lib.hid (gtrans H1.out g2)
  clear g2 d1 h1
  go_wp2_with fail
  have gB := galloc w2 (.cells #[.int .i64 0, .int .i64 0] 28) none
  have d3 := (gB.cell_far ⟨w.heap.size, 1, none⟩ h2 (by simp)).trans d2
  have h3 := Nat.lt_of_lt_of_le h2 gB.size
  have H3 := Lib.hid (gtrans H2.out gB)
  clear gB d2 h2
  generalize w2.alloc (.cells #[.int .i64 0, .int .i64 0] 28) = W2 at *
  refine (peek_nil _).mono ?_
  rintro e w3 ⟨rfl, g4⟩
  have d4 := (g4.cell_far ⟨w.heap.size, 1, none⟩ h3 (by simp)).trans d3
  have h4 := Nat.lt_of_lt_of_le h3 g4.size
  have H4 := Lib.hid (gtrans H3.out g4)
  clear g4 d3 h3
  go_wp2_with fail
  refine (plen_nil _).mono ?_
  rintro e w5 ⟨rfl, rfl⟩
  go_wp2_with fail
  refine (pchange_nil b n _).mono ?_
  rintro e w5 ⟨rfl, rfl⟩
  go_wp2_with fail
  refine (drain_nil n _).mono ?_
  rintro e w6 ⟨rfl, g6⟩
  have H6 := Lib.hid (gtrans H4.out (gtrans (galloc _ _ none) g6))
  clear g6
  go_wp2_with fail
  refine (works_v _).mono ?_
  rintro e w7 ⟨rfl, g7⟩
  have H7 := Lib.hid (gtrans H6.out g7)
  clear g7
  go_wp2_with fail
  go_ret
  exact ⟨rfl, H7.out⟩
theorem none_walk (a b n : Int) (w : World) : Calls Try.prog 5 #[.agg #[.int .i64 a, .int .i64 b], .int .i64 n] w fun e w' => e = .returned (.bool true) ∧ Below w.heap.size w w' :=
  (none_v a b n w).mono fun e w' ⟨h1, h2⟩ => ⟨h1, (Below.refl _ _).grown h2 (Nat.le_refl _) (by simp)⟩
end Go.Proofs.Ythnpjaklcebgfaa
