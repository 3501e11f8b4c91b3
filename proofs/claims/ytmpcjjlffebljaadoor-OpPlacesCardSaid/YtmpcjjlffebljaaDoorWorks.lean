/- The laws' own example: works. -/
import Derived.Test.YtmpcjjlffebljaaDoorCls
import Derived.Test.YtmpcjjlffebljaaDoorNames
namespace Go.Proofs.YtmpcjjlffebljaaDoor
open Go.ChangeShapes Go.WideShapes Go.RowKit
set_option linter.unusedVariables false

theorem takes_work (w : World) : Calls Tryd.prog 18 #[.int .i64 1, .int .i64 1, .int .i64 4, .bool false] w fun e w' => e = .returned (.bool true) ∧ w = w' := by
  go_enter Tryd.func18, Tryd.ntmps18
  go_wp2_with fail
  refine (at_v 1 1 5 rfl _).mono ?_
  rintro e w1 ⟨rfl, rfl⟩
  go_wp2_with fail
  go_ret
  exact ⟨rfl, rfl⟩
theorem store_18 : nameOf 18 = ⟨#[115, 116, 111, 114, 101]⟩ := rfl
theorem works_v (w : World) (hG : Glob w) : Calls Tryd.prog 6 #[] w fun e w' => e = .returned (.bool true) ∧ Below w.heap.size w w' := by
  have HG := Lib.hid hG
  clear hG
  go_enter Tryd.func6, Tryd.ntmps6
  go_wp2_with fail
  refine (find_v _ _ HG.out).mono ?_
  rintro e w1 ⟨r, b, hf, rfl, rfl⟩
  obtain ⟨rfl, rfl⟩ := hf.of_op (n := 18) (by decide) (by decide) store_18
  clear hf
  go_wp2_with fail
  refine (gives_v 19 false true (by decide +kernel) (by decide +kernel) _).mono ?_
  rintro e w1 ⟨rfl, rfl⟩
  go_wp2_with fail
  refine (args_v 19 0 8 rfl rfl _).mono ?_
  rintro e w1 ⟨rfl, rfl⟩
  go_wp2_with fail
  refine (name_v 9 ⟨#[115, 97, 114]⟩ rfl _ HG.out).mono ?_
  rintro e w1 ⟨rfl, rfl⟩
  go_wp2_with fail
  refine (last_v 23 true rfl _).mono ?_
  rintro e w1 ⟨rfl, rfl⟩
  go_wp2_with fail
  refine (mach_v 27 true rfl _).mono ?_
  rintro e w1 ⟨rfl, rfl⟩
  go_wp2_with fail
  refine (labs_v 22 3 (by decide) (by decide) 4 rfl _).mono ?_
  rintro e w1 ⟨rfl, rfl⟩
  go_wp2_with fail
  refine (fits_v 18 1 1 true rfl _).mono ?_
  rintro e w1 ⟨rfl, rfl⟩
  go_wp2_with fail
  refine (takes_work _).mono ?_
  rintro e w1 ⟨rfl, rfl⟩
  go_wp2_with fail
  refine (classes_v 16 (-1) 3 rfl _).mono ?_
  rintro e w1 ⟨A, c, rfl, ho, hb⟩
  have B1 := Lib.hid hb
  have e2 : (clsR 3 2).length = 2 := rfl
  rw [e2]
  clear hb ho e2
  go_wp2_with fail
  refine (is_v 27 true rfl _).mono ?_
  rintro e w2 ⟨rfl, rfl⟩
  go_wp2_with fail
  go_ret
  exact ⟨rfl, B1.out⟩
end Go.Proofs.YtmpcjjlffebljaaDoor
