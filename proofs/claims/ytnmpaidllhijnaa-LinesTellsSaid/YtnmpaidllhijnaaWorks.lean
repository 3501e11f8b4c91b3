/- The small check that each of the three statements runs. -/
import Derived.Test.YtnmpaidllhijnaaStarts
import Derived.Test.YtnmpaidllhijnaaMark
namespace Go.Proofs.Ytnmpaidllhijnaa
open Go.ChangeShapes Go.WideShapes Go.RowKit
set_option linter.unusedVariables false

theorem cut_w : Cut ((ByteArray.mk #[97, 98, 10, 99, 100]).data.toList.take 4) [[97, 98]] [99] := ⟨rfl, by simp, by simp⟩
theorem rows_w : rows (ByteArray.mk #[97, 98, 10, 99, 100]).data.toList = [[97, 98], [99, 100]] := by decide +kernel
theorem mark_w : markOf (Deci.txt ((2 : Nat) : Int)) (Deci.txt ((2 : Nat) : Int)) [99, 100] (blank [99]) = (ByteArray.mk #[50, 58, 50, 10, 99, 100, 10, 32, 94, 10]).data.toList := by
  have : Deci.txt ((2 : Nat) : Int) = [50] := by
    unfold Deci.txt
    rw [if_neg (by omega), show ((2 : Nat) : Int).natAbs = 2 from rfl, Deci.digs_lt (by omega)]; rfl
  rw [this]; rfl
theorem cut_s : Cut (ByteArray.mk #[97, 10]).data.toList [[97]] [] := ⟨rfl, by simp, by simp⟩
set_option maxRecDepth 100000 in
set_option maxHeartbeats 1000000 in
theorem works_v (w : World) : Calls Try.prog 6 #[] w fun e w' => e = .returned (.bool true) ∧ Below w.heap.size w w' := by
  go_enter Try.func6, Try.ntmps6
  go_wp2_with fail
  refine (spot_v ⟨#[97, 98, 10, 99, 100]⟩ 4 2 2 [[97, 98]] [99] (by decide) (by decide) cut_w rfl rfl w).mono ?_
  rintro e w1 ⟨rfl, hb⟩
  have B1 := Lib.hid hb
  clear hb
  go_wp2_with fail
  refine (at_v ⟨#[97, 98, 10, 99, 100]⟩ 2 2 4 true (by decide) (by rw [rows_w]; decide +kernel) w1).mono ?_
  rintro e w2 ⟨rfl, hb⟩
  have B2 := Lib.hid (step_B B1.out hb)
  clear hb
  go_wp2_with fail
  refine (line_v ⟨#[97, 98, 10, 99, 100]⟩ 1 [97, 98] true (by decide) (by rw [rows_w]; decide +kernel) w2).mono ?_
  rintro e w3 ⟨rfl, hb⟩
  have B3 := Lib.hid (step_B B2.out hb)
  clear hb
  go_wp2_with fail
  refine (count_v ⟨#[]⟩ 1 (by decide) (by decide +kernel) w3).mono ?_
  rintro e w4 ⟨rfl, hb⟩
  have B4 := Lib.hid (step_B B3.out hb)
  clear hb
  go_wp2_with fail
  refine (mark_v ⟨#[97, 98, 10, 99, 100]⟩ 4 2 2 [[97, 98]] [99] [99, 100] [] ⟨#[50, 58, 50, 10, 99, 100, 10, 32, 94, 10]⟩ (by decide) (by decide) cut_w rows_w rfl rfl rfl mark_w w4).mono ?_
  rintro e w5 ⟨rfl, hb⟩
  have B5 := Lib.hid (step_B B4.out hb)
  clear hb
  go_wp2_with fail
  refine (starts_v ⟨#[97, 10]⟩ [[97]] [] [0, 2] (by decide) cut_s (by decide +kernel) w5).mono ?_
  rintro e w6 ⟨A, c, rfl, _, hb⟩
  have B6 := Lib.hid (step_B B5.out hb)
  clear hb
  go_wp2_with fail
  go_ret
  exact ⟨rfl, B6.out⟩
end Go.Proofs.Ytnmpaidllhijnaa
