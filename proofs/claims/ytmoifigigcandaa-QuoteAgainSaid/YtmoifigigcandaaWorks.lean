/- The statements' own small check of the program answers true. -/
import Derived.Test.YtmoifigigcandaaGet
namespace Go.Proofs.Ytmoifigigcandaa
open Go.ChangeShapes Go.WideShapes Go.RowKit
set_option linter.unusedVariables false

theorem r_get : scanAt ⟨#[34, 97, 92, 120, 52, 49, 92, 110, 34]⟩ 0 = ([97, 65, 10], 9, 0) := by decide +kernel
theorem r_scan : scanAt ⟨#[120, 34, 97, 92, 113, 34]⟩ 1 = ([], 3, 11) := by decide +kernel
theorem r_put : put [97, 34, 0] = [34, 97, 92, 34, 92, 120, 48, 48, 34] := by decide +kernel
theorem w_get (w : World) : Calls Try.prog 9 #[.string ⟨#[34, 97, 92, 120, 52, 49, 92, 110, 34]⟩] w fun e w' => e = .returned (.tuple #[.string ⟨#[97, 65, 10]⟩, .int .i64 0]) ∧ Below w.heap.size w w' :=
  get_v _ _ _ _ [97, 65, 10] 0 (by decide) r_get (by decide) w
theorem w_scan (w : World) : Calls Try.prog 7 #[.string ⟨#[120, 34, 97, 92, 113, 34]⟩, .int .i64 1] w fun e w' => e = .returned (.tuple #[.string ⟨#[]⟩, .int .i64 3, .int .i64 11]) ∧ Below w.heap.size w w' :=
  scan_z _ 1 1 rfl [] 3 11 (by decide) r_scan w
theorem w_put (w : World) : Calls Try.prog 6 #[.string ⟨#[97, 34, 0]⟩] w fun e w' => e = .returned (.string ⟨#[34, 97, 92, 34, 92, 120, 48, 48, 34]⟩) ∧ Below w.heap.size w w' :=
  put_v _ _ r_put (by decide) w
theorem works_is (w : World) : Calls Try.prog 5 #[] w fun e w' => e = .returned (.bool true) ∧ Below w.heap.size w w' := by
  go_enter Try.func5, Try.ntmps5
  go_wp2_with fail
  refine (w_get _).mono ?_
  rintro e w1 ⟨rfl, hb1⟩
  have B1 := Lib.hid hb1
  clear hb1
  go_wp2_with fail
  refine (w_scan _).mono ?_
  rintro e w2 ⟨rfl, hb2⟩
  have B2 := Lib.hid hb2
  clear hb2
  go_wp2_with fail
  refine (w_put _).mono ?_
  rintro e w3 ⟨rfl, hb3⟩
  have B3 := Lib.hid hb3
  clear hb3
  go_wp2_with fail
  go_ret
  have h2 := B1.out.trans (B2.out.mono B1.out.size)
  exact ⟨rfl, h2.trans (B3.out.mono h2.size)⟩
end Go.Proofs.Ytmoifigigcandaa
