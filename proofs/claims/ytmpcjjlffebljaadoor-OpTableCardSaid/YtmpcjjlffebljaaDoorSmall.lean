/- What the small functions of op answer: Is, Machine, Last, Labels, and what a place may have. -/
import Derived.Test.YtmpcjjlffebljaaDoorMath
import Derived.Test.YtmpcjjlffebljaaDoorProg
import Derived.WalkKit
import Derived.LaidEql
import Derived.RowKitTokens
import Derived.Below
import Derived.Deep.Light
import Derived.StillTailTactics
import Derived.Lib.Hide
namespace Go.Proofs.YtmpcjjlffebljaaDoor
open Go.ChangeShapes Go.WideShapes Go.RowKit
set_option linter.unusedVariables false

theorem is_v (n : Int) (b : Bool) (h : isOp n = b) (w : World) : Calls Tryd.prog 10 #[.int .i64 n] w fun e w' => e = .returned (.bool b) ∧ w = w' := by
  unfold isOp at h
  by_cases h1 : 1 ≤ n
  · have c1 : decide (1 ≤ n) = true := decide_eq_true h1
    by_cases h2 : n ≤ 27
    · have c2 : decide (n ≤ 27) = true := decide_eq_true h2
      have hb : b = true := by rw [← h, c1, c2]; rfl
      subst hb
      clear h
      go_enter Tryd.func10, Tryd.ntmps10
      go_wp2_with fail
      go_ret
      exact ⟨rfl, rfl⟩
    · have c2 : decide (n ≤ 27) = false := decide_eq_false h2
      have hb : b = false := by rw [← h, c1, c2]; rfl
      subst hb
      clear h h2
      go_enter Tryd.func10, Tryd.ntmps10
      go_wp2_with fail
      go_ret
      exact ⟨rfl, rfl⟩
  · have c1 : decide (1 ≤ n) = false := decide_eq_false h1
    have hb : b = false := by rw [← h, c1]; rfl
    subst hb
    clear h h1
    go_enter Tryd.func10, Tryd.ntmps10
    go_wp2_with fail
    go_ret
    exact ⟨rfl, rfl⟩
theorem reck_v (n : Int) (b : Bool) (h : isR n = b) (w : World) : Calls Tryd.prog 27 #[.int .i64 n] w fun e w' => e = .returned (.bool b) ∧ w = w' := by
  unfold isR at h
  by_cases h1 : 1 ≤ n
  · have c1 : decide (1 ≤ n) = true := decide_eq_true h1
    by_cases h2 : n ≤ 15
    · have c2 : decide (n ≤ 15) = true := decide_eq_true h2
      have hb : b = true := by rw [← h, c1, c2]; rfl
      subst hb
      clear h
      go_enter Tryd.func27, Tryd.ntmps27
      go_wp2_with fail
      go_ret
      exact ⟨rfl, rfl⟩
    · have c2 : decide (n ≤ 15) = false := decide_eq_false h2
      have hb : b = false := by rw [← h, c1, c2]; rfl
      subst hb
      clear h h2
      go_enter Tryd.func27, Tryd.ntmps27
      go_wp2_with fail
      go_ret
      exact ⟨rfl, rfl⟩
  · have c1 : decide (1 ≤ n) = false := decide_eq_false h1
    have hb : b = false := by rw [← h, c1]; rfl
    subst hb
    clear h h1
    go_enter Tryd.func27, Tryd.ntmps27
    go_wp2_with fail
    go_ret
    exact ⟨rfl, rfl⟩
def machOf (n : Int) : Bool := (n == 24) || (n == 25) || (n == 26) || (n == 27)
def lastOf (n : Int) : Bool := (n == 20) || (n == 21) || (n == 22) || (n == 23)
def labsOf (n cs : Int) : Int := if n = 20 then 1 else if n = 21 then 2 else if n = 22 then cs + 1 else 0
theorem mach_24 (w : World) : Calls Tryd.prog 12 #[.int .i64 24] w fun e w' => e = .returned (.bool true) ∧ w = w' := by
  go_enter Tryd.func12, Tryd.ntmps12
  go_wp2_with fail
  go_ret
  exact ⟨rfl, rfl⟩
theorem mach_25 (w : World) : Calls Tryd.prog 12 #[.int .i64 25] w fun e w' => e = .returned (.bool true) ∧ w = w' := by
  go_enter Tryd.func12, Tryd.ntmps12
  go_wp2_with fail
  go_ret
  exact ⟨rfl, rfl⟩
theorem mach_26 (w : World) : Calls Tryd.prog 12 #[.int .i64 26] w fun e w' => e = .returned (.bool true) ∧ w = w' := by
  go_enter Tryd.func12, Tryd.ntmps12
  go_wp2_with fail
  go_ret
  exact ⟨rfl, rfl⟩
theorem mach_27 (w : World) : Calls Tryd.prog 12 #[.int .i64 27] w fun e w' => e = .returned (.bool true) ∧ w = w' := by
  go_enter Tryd.func12, Tryd.ntmps12
  go_wp2_with fail
  go_ret
  exact ⟨rfl, rfl⟩
theorem mach_else (n : Int) (h24 : n ≠ 24) (h25 : n ≠ 25) (h26 : n ≠ 26) (h27 : n ≠ 27) (w : World) : Calls Tryd.prog 12 #[.int .i64 n] w fun e w' => e = .returned (.bool false) ∧ w = w' := by
  have c24 : (n == 24) = false := by rw [beq_eq_false_iff_ne]; omega
  have c25 : (n == 25) = false := by rw [beq_eq_false_iff_ne]; omega
  have c26 : (n == 26) = false := by rw [beq_eq_false_iff_ne]; omega
  have c27 : (n == 27) = false := by rw [beq_eq_false_iff_ne]; omega
  clear h24 h25 h26 h27
  go_enter Tryd.func12, Tryd.ntmps12
  go_wp2_with fail
  go_ret
  exact ⟨rfl, rfl⟩
theorem mach_v (n : Int) (v : Bool) (h : machOf n = v) (w : World) : Calls Tryd.prog 12 #[.int .i64 n] w fun e w' => e = .returned (.bool v) ∧ w = w' := by
  subst h
  by_cases h24 : n = 24
  · subst h24
    exact mach_24 w
  by_cases h25 : n = 25
  · subst h25
    exact mach_25 w
  by_cases h26 : n = 26
  · subst h26
    exact mach_26 w
  by_cases h27 : n = 27
  · subst h27
    exact mach_27 w
  have e : machOf n = false := by
    unfold machOf
    simp [h24, h25, h26, h27]
  rw [e]
  exact mach_else n h24 h25 h26 h27 w
theorem last_20 (w : World) : Calls Tryd.prog 13 #[.int .i64 20] w fun e w' => e = .returned (.bool true) ∧ w = w' := by
  go_enter Tryd.func13, Tryd.ntmps13
  go_wp2_with fail
  go_ret
  exact ⟨rfl, rfl⟩
theorem last_21 (w : World) : Calls Tryd.prog 13 #[.int .i64 21] w fun e w' => e = .returned (.bool true) ∧ w = w' := by
  go_enter Tryd.func13, Tryd.ntmps13
  go_wp2_with fail
  go_ret
  exact ⟨rfl, rfl⟩
theorem last_22 (w : World) : Calls Tryd.prog 13 #[.int .i64 22] w fun e w' => e = .returned (.bool true) ∧ w = w' := by
  go_enter Tryd.func13, Tryd.ntmps13
  go_wp2_with fail
  go_ret
  exact ⟨rfl, rfl⟩
theorem last_23 (w : World) : Calls Tryd.prog 13 #[.int .i64 23] w fun e w' => e = .returned (.bool true) ∧ w = w' := by
  go_enter Tryd.func13, Tryd.ntmps13
  go_wp2_with fail
  go_ret
  exact ⟨rfl, rfl⟩
theorem last_else (n : Int) (h20 : n ≠ 20) (h21 : n ≠ 21) (h22 : n ≠ 22) (h23 : n ≠ 23) (w : World) : Calls Tryd.prog 13 #[.int .i64 n] w fun e w' => e = .returned (.bool false) ∧ w = w' := by
  have c20 : (n == 20) = false := by rw [beq_eq_false_iff_ne]; omega
  have c21 : (n == 21) = false := by rw [beq_eq_false_iff_ne]; omega
  have c22 : (n == 22) = false := by rw [beq_eq_false_iff_ne]; omega
  have c23 : (n == 23) = false := by rw [beq_eq_false_iff_ne]; omega
  clear h20 h21 h22 h23
  go_enter Tryd.func13, Tryd.ntmps13
  go_wp2_with fail
  go_ret
  exact ⟨rfl, rfl⟩
theorem last_v (n : Int) (v : Bool) (h : lastOf n = v) (w : World) : Calls Tryd.prog 13 #[.int .i64 n] w fun e w' => e = .returned (.bool v) ∧ w = w' := by
  subst h
  by_cases h20 : n = 20
  · subst h20
    exact last_20 w
  by_cases h21 : n = 21
  · subst h21
    exact last_21 w
  by_cases h22 : n = 22
  · subst h22
    exact last_22 w
  by_cases h23 : n = 23
  · subst h23
    exact last_23 w
  have e : lastOf n = false := by
    unfold lastOf
    simp [h20, h21, h22, h23]
  rw [e]
  exact last_else n h20 h21 h22 h23 w
theorem labs_20 (cs : Int) (hcs : 0 ≤ cs) (hcs2 : cs ≤ 4096) (w : World) : Calls Tryd.prog 14 #[.int .i64 20, .int .i64 cs] w fun e w' => e = .returned (.int .i64 1) ∧ w = w' := by
  go_enter Tryd.func14, Tryd.ntmps14
  go_wp2_with fail
  go_ret
  exact ⟨rfl, rfl⟩
theorem labs_21 (cs : Int) (hcs : 0 ≤ cs) (hcs2 : cs ≤ 4096) (w : World) : Calls Tryd.prog 14 #[.int .i64 21, .int .i64 cs] w fun e w' => e = .returned (.int .i64 2) ∧ w = w' := by
  go_enter Tryd.func14, Tryd.ntmps14
  go_wp2_with fail
  go_ret
  exact ⟨rfl, rfl⟩
theorem labs_22 (cs : Int) (hcs : 0 ≤ cs) (hcs2 : cs ≤ 4096) (w : World) : Calls Tryd.prog 14 #[.int .i64 22, .int .i64 cs] w fun e w' => e = .returned (.int .i64 (cs + 1)) ∧ w = w' := by
  go_enter Tryd.func14, Tryd.ntmps14
  go_wp2_with fail
  go_ret
  exact ⟨rfl, rfl⟩
theorem labs_else (n : Int) (cs : Int) (hcs : 0 ≤ cs) (hcs2 : cs ≤ 4096) (h20 : n ≠ 20) (h21 : n ≠ 21) (h22 : n ≠ 22) (w : World) : Calls Tryd.prog 14 #[.int .i64 n, .int .i64 cs] w fun e w' => e = .returned (.int .i64 0) ∧ w = w' := by
  have c20 : (n == 20) = false := by rw [beq_eq_false_iff_ne]; omega
  have c21 : (n == 21) = false := by rw [beq_eq_false_iff_ne]; omega
  have c22 : (n == 22) = false := by rw [beq_eq_false_iff_ne]; omega
  clear h20 h21 h22
  go_enter Tryd.func14, Tryd.ntmps14
  go_wp2_with fail
  go_ret
  exact ⟨rfl, rfl⟩
theorem labs_v (n : Int) (cs : Int) (hcs : 0 ≤ cs) (hcs2 : cs ≤ 4096) (v : Int) (h : labsOf n cs = v) (w : World) : Calls Tryd.prog 14 #[.int .i64 n, .int .i64 cs] w fun e w' => e = .returned (.int .i64 v) ∧ w = w' := by
  subst h
  by_cases h20 : n = 20
  · subst h20
    exact labs_20 cs hcs hcs2 w
  by_cases h21 : n = 21
  · subst h21
    exact labs_21 cs hcs hcs2 w
  by_cases h22 : n = 22
  · subst h22
    exact labs_22 cs hcs hcs2 w
  have e : labsOf n cs = 0 := by
    unfold labsOf
    simp [h20, h21, h22]
  rw [e]
  exact labs_else n cs hcs hcs2 h20 h21 h22 w
theorem to_16 (w : World) : Calls Tryd.prog 25 #[.int .i64 16] w fun e w' => e = .returned (.int .u8 3) ∧ w = w' := by
  go_enter Tryd.func25, Tryd.ntmps25
  go_wp2_with fail
  refine (reck_v 16 false rfl _).mono ?_
  rintro e w1 ⟨rfl, rfl⟩
  go_wp2_with fail
  go_ret
  exact ⟨rfl, rfl⟩
theorem to_17 (w : World) : Calls Tryd.prog 25 #[.int .i64 17] w fun e w' => e = .returned (.int .u8 1) ∧ w = w' := by
  go_enter Tryd.func25, Tryd.ntmps25
  go_wp2_with fail
  refine (reck_v 17 false rfl _).mono ?_
  rintro e w1 ⟨rfl, rfl⟩
  go_wp2_with fail
  go_ret
  exact ⟨rfl, rfl⟩
theorem to_19 (w : World) : Calls Tryd.prog 25 #[.int .i64 19] w fun e w' => e = .returned (.int .u8 17) ∧ w = w' := by
  go_enter Tryd.func25, Tryd.ntmps25
  go_wp2_with fail
  refine (reck_v 19 false rfl _).mono ?_
  rintro e w1 ⟨rfl, rfl⟩
  go_wp2_with fail
  go_ret
  exact ⟨rfl, rfl⟩
theorem to_24 (w : World) : Calls Tryd.prog 25 #[.int .i64 24] w fun e w' => e = .returned (.int .u8 3) ∧ w = w' := by
  go_enter Tryd.func25, Tryd.ntmps25
  go_wp2_with fail
  refine (reck_v 24 false rfl _).mono ?_
  rintro e w1 ⟨rfl, rfl⟩
  go_wp2_with fail
  go_ret
  exact ⟨rfl, rfl⟩
theorem to_25 (w : World) : Calls Tryd.prog 25 #[.int .i64 25] w fun e w' => e = .returned (.int .u8 8) ∧ w = w' := by
  go_enter Tryd.func25, Tryd.ntmps25
  go_wp2_with fail
  refine (reck_v 25 false rfl _).mono ?_
  rintro e w1 ⟨rfl, rfl⟩
  go_wp2_with fail
  go_ret
  exact ⟨rfl, rfl⟩
theorem to_26 (w : World) : Calls Tryd.prog 25 #[.int .i64 26] w fun e w' => e = .returned (.int .u8 3) ∧ w = w' := by
  go_enter Tryd.func25, Tryd.ntmps25
  go_wp2_with fail
  refine (reck_v 26 false rfl _).mono ?_
  rintro e w1 ⟨rfl, rfl⟩
  go_wp2_with fail
  go_ret
  exact ⟨rfl, rfl⟩
theorem to_two (n : Int) (h : isR n = true) (w : World) : Calls Tryd.prog 25 #[.int .i64 n] w fun e w' => e = .returned (.int .u8 1) ∧ w = w' := by
  have H := Lib.hid h
  clear h
  go_enter Tryd.func25, Tryd.ntmps25
  go_wp2_with fail
  refine (reck_v n true H.out _).mono ?_
  rintro e w1 ⟨rfl, rfl⟩
  go_wp2_with fail
  go_ret
  exact ⟨rfl, rfl⟩
theorem to_else (n : Int) (h : isR n = false) (h16 : n ≠ 16) (h17 : n ≠ 17) (h19 : n ≠ 19) (h24 : n ≠ 24) (h25 : n ≠ 25) (h26 : n ≠ 26) (w : World) : Calls Tryd.prog 25 #[.int .i64 n] w fun e w' => e = .returned (.int .u8 0) ∧ w = w' := by
  have c16 : (n == 16) = false := by rw [beq_eq_false_iff_ne]; omega
  have c17 : (n == 17) = false := by rw [beq_eq_false_iff_ne]; omega
  have c19 : (n == 19) = false := by rw [beq_eq_false_iff_ne]; omega
  have c24 : (n == 24) = false := by rw [beq_eq_false_iff_ne]; omega
  have c25 : (n == 25) = false := by rw [beq_eq_false_iff_ne]; omega
  have c26 : (n == 26) = false := by rw [beq_eq_false_iff_ne]; omega
  have H := Lib.hid h
  clear h
  clear h16 h17 h19 h24 h25 h26
  go_enter Tryd.func25, Tryd.ntmps25
  go_wp2_with fail
  refine (reck_v n false H.out _).mono ?_
  rintro e w1 ⟨rfl, rfl⟩
  go_wp2_with fail
  go_ret
  exact ⟨rfl, rfl⟩
theorem to_v (n : Int) (v : Int) (h : toR n = v) (w : World) : Calls Tryd.prog 25 #[.int .i64 n] w fun e w' => e = .returned (.int .u8 v) ∧ w = w' := by
  subst h
  by_cases h16 : n = 16
  · subst h16
    exact to_16 w
  by_cases h17 : n = 17
  · subst h17
    exact to_17 w
  by_cases h19 : n = 19
  · subst h19
    exact to_19 w
  by_cases h24 : n = 24
  · subst h24
    exact to_24 w
  by_cases h25 : n = 25
  · subst h25
    exact to_25 w
  by_cases h26 : n = 26
  · subst h26
    exact to_26 w
  by_cases hr : 1 ≤ n ∧ n ≤ 15
  · have e : toR n = 1 := by unfold toR; rw [if_pos hr]
    rw [e]
    exact to_two n (by unfold isR; simp [hr]) w
  have e : toR n = 0 := by
    unfold toR
    rw [if_neg hr]
    simp [h16, h17, h19, h24, h25, h26]
  rw [e]
  exact to_else n (by unfold isR; simpa using hr) h16 h17 h19 h24 h25 h26 w
theorem first_16 (w : World) : Calls Tryd.prog 28 #[.int .i64 16] w fun e w' => e = .returned (.int .u8 7) ∧ w = w' := by
  go_enter Tryd.func28, Tryd.ntmps28
  go_wp2_with fail
  refine (reck_v 16 false rfl _).mono ?_
  rintro e w1 ⟨rfl, rfl⟩
  go_wp2_with fail
  go_ret
  exact ⟨rfl, rfl⟩
theorem first_17 (w : World) : Calls Tryd.prog 28 #[.int .i64 17] w fun e w' => e = .returned (.int .u8 2) ∧ w = w' := by
  go_enter Tryd.func28, Tryd.ntmps28
  go_wp2_with fail
  refine (reck_v 17 false rfl _).mono ?_
  rintro e w1 ⟨rfl, rfl⟩
  go_wp2_with fail
  go_ret
  exact ⟨rfl, rfl⟩
theorem first_18 (w : World) : Calls Tryd.prog 28 #[.int .i64 18] w fun e w' => e = .returned (.int .u8 1) ∧ w = w' := by
  go_enter Tryd.func28, Tryd.ntmps28
  go_wp2_with fail
  refine (reck_v 18 false rfl _).mono ?_
  rintro e w1 ⟨rfl, rfl⟩
  go_wp2_with fail
  go_ret
  exact ⟨rfl, rfl⟩
theorem first_21 (w : World) : Calls Tryd.prog 28 #[.int .i64 21] w fun e w' => e = .returned (.int .u8 1) ∧ w = w' := by
  go_enter Tryd.func28, Tryd.ntmps28
  go_wp2_with fail
  refine (reck_v 21 false rfl _).mono ?_
  rintro e w1 ⟨rfl, rfl⟩
  go_wp2_with fail
  go_ret
  exact ⟨rfl, rfl⟩
theorem first_22 (w : World) : Calls Tryd.prog 28 #[.int .i64 22] w fun e w' => e = .returned (.int .u8 1) ∧ w = w' := by
  go_enter Tryd.func28, Tryd.ntmps28
  go_wp2_with fail
  refine (reck_v 22 false rfl _).mono ?_
  rintro e w1 ⟨rfl, rfl⟩
  go_wp2_with fail
  go_ret
  exact ⟨rfl, rfl⟩
theorem first_23 (w : World) : Calls Tryd.prog 28 #[.int .i64 23] w fun e w' => e = .returned (.int .u8 5) ∧ w = w' := by
  go_enter Tryd.func28, Tryd.ntmps28
  go_wp2_with fail
  refine (reck_v 23 false rfl _).mono ?_
  rintro e w1 ⟨rfl, rfl⟩
  go_wp2_with fail
  go_ret
  exact ⟨rfl, rfl⟩
theorem first_24 (w : World) : Calls Tryd.prog 28 #[.int .i64 24] w fun e w' => e = .returned (.int .u8 3) ∧ w = w' := by
  go_enter Tryd.func28, Tryd.ntmps28
  go_wp2_with fail
  refine (reck_v 24 false rfl _).mono ?_
  rintro e w1 ⟨rfl, rfl⟩
  go_wp2_with fail
  go_ret
  exact ⟨rfl, rfl⟩
theorem first_25 (w : World) : Calls Tryd.prog 28 #[.int .i64 25] w fun e w' => e = .returned (.int .u8 3) ∧ w = w' := by
  go_enter Tryd.func28, Tryd.ntmps28
  go_wp2_with fail
  refine (reck_v 25 false rfl _).mono ?_
  rintro e w1 ⟨rfl, rfl⟩
  go_wp2_with fail
  go_ret
  exact ⟨rfl, rfl⟩
theorem first_26 (w : World) : Calls Tryd.prog 28 #[.int .i64 26] w fun e w' => e = .returned (.int .u8 8) ∧ w = w' := by
  go_enter Tryd.func28, Tryd.ntmps28
  go_wp2_with fail
  refine (reck_v 26 false rfl _).mono ?_
  rintro e w1 ⟨rfl, rfl⟩
  go_wp2_with fail
  go_ret
  exact ⟨rfl, rfl⟩
theorem first_27 (w : World) : Calls Tryd.prog 28 #[.int .i64 27] w fun e w' => e = .returned (.int .u8 11) ∧ w = w' := by
  go_enter Tryd.func28, Tryd.ntmps28
  go_wp2_with fail
  refine (reck_v 27 false rfl _).mono ?_
  rintro e w1 ⟨rfl, rfl⟩
  go_wp2_with fail
  go_ret
  exact ⟨rfl, rfl⟩
theorem first_two (n : Int) (h : isR n = true) (w : World) : Calls Tryd.prog 28 #[.int .i64 n] w fun e w' => e = .returned (.int .u8 1) ∧ w = w' := by
  have H := Lib.hid h
  clear h
  go_enter Tryd.func28, Tryd.ntmps28
  go_wp2_with fail
  refine (reck_v n true H.out _).mono ?_
  rintro e w1 ⟨rfl, rfl⟩
  go_wp2_with fail
  go_ret
  exact ⟨rfl, rfl⟩
theorem first_else (n : Int) (h : isR n = false) (h16 : n ≠ 16) (h17 : n ≠ 17) (h18 : n ≠ 18) (h21 : n ≠ 21) (h22 : n ≠ 22) (h23 : n ≠ 23) (h24 : n ≠ 24) (h25 : n ≠ 25) (h26 : n ≠ 26) (h27 : n ≠ 27) (w : World) : Calls Tryd.prog 28 #[.int .i64 n] w fun e w' => e = .returned (.int .u8 0) ∧ w = w' := by
  have c16 : (n == 16) = false := by rw [beq_eq_false_iff_ne]; omega
  have c17 : (n == 17) = false := by rw [beq_eq_false_iff_ne]; omega
  have c18 : (n == 18) = false := by rw [beq_eq_false_iff_ne]; omega
  have c21 : (n == 21) = false := by rw [beq_eq_false_iff_ne]; omega
  have c22 : (n == 22) = false := by rw [beq_eq_false_iff_ne]; omega
  have c23 : (n == 23) = false := by rw [beq_eq_false_iff_ne]; omega
  have c24 : (n == 24) = false := by rw [beq_eq_false_iff_ne]; omega
  have c25 : (n == 25) = false := by rw [beq_eq_false_iff_ne]; omega
  have c26 : (n == 26) = false := by rw [beq_eq_false_iff_ne]; omega
  have c27 : (n == 27) = false := by rw [beq_eq_false_iff_ne]; omega
  have H := Lib.hid h
  clear h
  clear h16 h17 h18 h21 h22 h23 h24 h25 h26 h27
  go_enter Tryd.func28, Tryd.ntmps28
  go_wp2_with fail
  refine (reck_v n false H.out _).mono ?_
  rintro e w1 ⟨rfl, rfl⟩
  go_wp2_with fail
  go_ret
  exact ⟨rfl, rfl⟩
theorem first_v (n : Int) (v : Int) (h : firstR n = v) (w : World) : Calls Tryd.prog 28 #[.int .i64 n] w fun e w' => e = .returned (.int .u8 v) ∧ w = w' := by
  subst h
  by_cases h16 : n = 16
  · subst h16
    exact first_16 w
  by_cases h17 : n = 17
  · subst h17
    exact first_17 w
  by_cases h18 : n = 18
  · subst h18
    exact first_18 w
  by_cases h21 : n = 21
  · subst h21
    exact first_21 w
  by_cases h22 : n = 22
  · subst h22
    exact first_22 w
  by_cases h23 : n = 23
  · subst h23
    exact first_23 w
  by_cases h24 : n = 24
  · subst h24
    exact first_24 w
  by_cases h25 : n = 25
  · subst h25
    exact first_25 w
  by_cases h26 : n = 26
  · subst h26
    exact first_26 w
  by_cases h27 : n = 27
  · subst h27
    exact first_27 w
  by_cases hr : 1 ≤ n ∧ n ≤ 15
  · have e : firstR n = 1 := by unfold firstR; rw [if_pos hr]
    rw [e]
    exact first_two n (by unfold isR; simp [hr]) w
  have e : firstR n = 0 := by
    unfold firstR
    rw [if_neg hr]
    simp [h16, h17, h18, h21, h22, h23, h24, h25, h26, h27]
  rw [e]
  exact first_else n (by unfold isR; simpa using hr) h16 h17 h18 h21 h22 h23 h24 h25 h26 h27 w
theorem second_18 (w : World) : Calls Tryd.prog 29 #[.int .i64 18] w fun e w' => e = .returned (.int .u8 2) ∧ w = w' := by
  go_enter Tryd.func29, Tryd.ntmps29
  go_wp2_with fail
  refine (reck_v 18 false rfl _).mono ?_
  rintro e w1 ⟨rfl, rfl⟩
  go_wp2_with fail
  go_ret
  exact ⟨rfl, rfl⟩
theorem second_27 (w : World) : Calls Tryd.prog 29 #[.int .i64 27] w fun e w' => e = .returned (.int .u8 11) ∧ w = w' := by
  go_enter Tryd.func29, Tryd.ntmps29
  go_wp2_with fail
  refine (reck_v 27 false rfl _).mono ?_
  rintro e w1 ⟨rfl, rfl⟩
  go_wp2_with fail
  go_ret
  exact ⟨rfl, rfl⟩
theorem second_two (n : Int) (h : isR n = true) (w : World) : Calls Tryd.prog 29 #[.int .i64 n] w fun e w' => e = .returned (.int .u8 5) ∧ w = w' := by
  have H := Lib.hid h
  clear h
  go_enter Tryd.func29, Tryd.ntmps29
  go_wp2_with fail
  refine (reck_v n true H.out _).mono ?_
  rintro e w1 ⟨rfl, rfl⟩
  go_wp2_with fail
  go_ret
  exact ⟨rfl, rfl⟩
theorem second_else (n : Int) (h : isR n = false) (h18 : n ≠ 18) (h27 : n ≠ 27) (w : World) : Calls Tryd.prog 29 #[.int .i64 n] w fun e w' => e = .returned (.int .u8 0) ∧ w = w' := by
  have c18 : (n == 18) = false := by rw [beq_eq_false_iff_ne]; omega
  have c27 : (n == 27) = false := by rw [beq_eq_false_iff_ne]; omega
  have H := Lib.hid h
  clear h
  clear h18 h27
  go_enter Tryd.func29, Tryd.ntmps29
  go_wp2_with fail
  refine (reck_v n false H.out _).mono ?_
  rintro e w1 ⟨rfl, rfl⟩
  go_wp2_with fail
  go_ret
  exact ⟨rfl, rfl⟩
theorem second_v (n : Int) (v : Int) (h : secondR n = v) (w : World) : Calls Tryd.prog 29 #[.int .i64 n] w fun e w' => e = .returned (.int .u8 v) ∧ w = w' := by
  subst h
  by_cases h18 : n = 18
  · subst h18
    exact second_18 w
  by_cases h27 : n = 27
  · subst h27
    exact second_27 w
  by_cases hr : 1 ≤ n ∧ n ≤ 15
  · have e : secondR n = 5 := by unfold secondR; rw [if_pos hr]
    rw [e]
    exact second_two n (by unfold isR; simp [hr]) w
  have e : secondR n = 0 := by
    unfold secondR
    rw [if_neg hr]
    simp [h18, h27]
  rw [e]
  exact second_else n (by unfold isR; simpa using hr) h18 h27 w
theorem from_call (i : Int) (h0 : 0 ≤ i) (h8 : i < 8) (w : World) : Calls Tryd.prog 26 #[.int .i64 19, .int .i64 i] w fun e w' => e = .returned (.int .u8 13) ∧ w = w' := by
  have c0 : decide (0 ≤ i) = true := decide_eq_true h0
  have c8 : decide (i < 8) = true := decide_eq_true h8
  go_enter Tryd.func26, Tryd.ntmps26
  go_wp2_with fail
  go_ret
  exact ⟨rfl, rfl⟩
theorem from_low (i : Int) (h0 : ¬ 0 ≤ i) (w : World) : Calls Tryd.prog 26 #[.int .i64 19, .int .i64 i] w fun e w' => e = .returned (.int .u8 0) ∧ w = w' := by
  have c0 : decide (0 ≤ i) = false := decide_eq_false h0
  have d0 : (i == 0) = false := by rw [beq_eq_false_iff_ne]; omega
  have d1 : (i == 1) = false := by rw [beq_eq_false_iff_ne]; omega
  clear h0
  go_enter Tryd.func26, Tryd.ntmps26
  go_wp2_with fail
  go_ret
  exact ⟨rfl, rfl⟩
theorem from_high (i : Int) (h0 : 0 ≤ i) (h8 : ¬ i < 8) (w : World) : Calls Tryd.prog 26 #[.int .i64 19, .int .i64 i] w fun e w' => e = .returned (.int .u8 0) ∧ w = w' := by
  have c0 : decide (0 ≤ i) = true := decide_eq_true h0
  have c8 : decide (i < 8) = false := decide_eq_false h8
  have d0 : (i == 0) = false := by rw [beq_eq_false_iff_ne]; omega
  have d1 : (i == 1) = false := by rw [beq_eq_false_iff_ne]; omega
  clear h8
  go_enter Tryd.func26, Tryd.ntmps26
  go_wp2_with fail
  go_ret
  exact ⟨rfl, rfl⟩
theorem from_first (n : Int) (hn : n ≠ 19) (v : Int) (h : firstR n = v) (w : World) : Calls Tryd.prog 26 #[.int .i64 n, .int .i64 0] w fun e w' => e = .returned (.int .u8 v) ∧ w = w' := by
  have c : (n == 19) = false := by rw [beq_eq_false_iff_ne]; exact hn
  have H := Lib.hid h
  clear h hn
  go_enter Tryd.func26, Tryd.ntmps26
  go_wp2_with fail
  refine (first_v n v H.out _).mono ?_
  rintro e w1 ⟨rfl, rfl⟩
  go_wp2_with fail
  go_ret
  exact ⟨rfl, rfl⟩
theorem from_second (n : Int) (hn : n ≠ 19) (v : Int) (h : secondR n = v) (w : World) : Calls Tryd.prog 26 #[.int .i64 n, .int .i64 1] w fun e w' => e = .returned (.int .u8 v) ∧ w = w' := by
  have c : (n == 19) = false := by rw [beq_eq_false_iff_ne]; exact hn
  have H := Lib.hid h
  clear h hn
  go_enter Tryd.func26, Tryd.ntmps26
  go_wp2_with fail
  refine (second_v n v H.out _).mono ?_
  rintro e w1 ⟨rfl, rfl⟩
  go_wp2_with fail
  go_ret
  exact ⟨rfl, rfl⟩
theorem from_none (n i : Int) (hn : n ≠ 19) (h0 : i ≠ 0) (h1 : i ≠ 1) (w : World) : Calls Tryd.prog 26 #[.int .i64 n, .int .i64 i] w fun e w' => e = .returned (.int .u8 0) ∧ w = w' := by
  have c : (n == 19) = false := by rw [beq_eq_false_iff_ne]; exact hn
  have d0 : (i == 0) = false := by rw [beq_eq_false_iff_ne]; exact h0
  have d1 : (i == 1) = false := by rw [beq_eq_false_iff_ne]; exact h1
  clear hn h0 h1
  go_enter Tryd.func26, Tryd.ntmps26
  go_wp2_with fail
  go_ret
  exact ⟨rfl, rfl⟩
theorem from_v (n i v : Int) (h : fromR n i = v) (w : World) : Calls Tryd.prog 26 #[.int .i64 n, .int .i64 i] w fun e w' => e = .returned (.int .u8 v) ∧ w = w' := by
  subst h
  by_cases hn : n = 19
  · subst hn
    by_cases h0 : 0 ≤ i
    · by_cases h8 : i < 8
      · have e : fromR 19 i = 13 := by unfold fromR; rw [if_pos ⟨rfl, h0, h8⟩]
        rw [e]; exact from_call i h0 h8 w
      · have e : fromR 19 i = 0 := by unfold fromR; rw [if_neg (by omega), if_neg (by omega), if_neg (by omega)]
        rw [e]; exact from_high i h0 h8 w
    · have e : fromR 19 i = 0 := by unfold fromR; rw [if_neg (by omega), if_neg (by omega), if_neg (by omega)]
      rw [e]; exact from_low i h0 w
  · have e0 : fromR n i = if i = 0 then firstR n else if i = 1 then secondR n else 0 := by unfold fromR; rw [if_neg (fun k => hn k.1)]
    rw [e0]
    by_cases h0 : i = 0
    · subst h0; rw [if_pos rfl]; exact from_first n hn _ rfl w
    · rw [if_neg h0]
      by_cases h1 : i = 1
      · subst h1; rw [if_pos rfl]; exact from_second n hn _ rfl w
      · rw [if_neg h1]; exact from_none n i hn h0 h1 w
theorem at_to (n v : Int) (h : toR n = v) (w : World) : Calls Tryd.prog 22 #[.int .i64 n, .int .i64 (-1)] w fun e w' => e = .returned (.int .u8 v) ∧ w = w' := by
  have H := Lib.hid h
  clear h
  go_enter Tryd.func22, Tryd.ntmps22
  go_wp2_with fail
  refine (to_v n v H.out _).mono ?_
  rintro e w1 ⟨rfl, rfl⟩
  go_wp2_with fail
  go_ret
  exact ⟨rfl, rfl⟩
theorem at_from (n i v : Int) (hi : i ≠ -1) (h : fromR n i = v) (w : World) : Calls Tryd.prog 22 #[.int .i64 n, .int .i64 i] w fun e w' => e = .returned (.int .u8 v) ∧ w = w' := by
  have d : (i == -1) = false := by rw [beq_eq_false_iff_ne]; exact hi
  have H := Lib.hid h
  clear h hi
  go_enter Tryd.func22, Tryd.ntmps22
  go_wp2_with fail
  refine (from_v n i v H.out _).mono ?_
  rintro e w1 ⟨rfl, rfl⟩
  go_wp2_with fail
  go_ret
  exact ⟨rfl, rfl⟩
theorem at_v (n i v : Int) (h : atR n i = v) (w : World) : Calls Tryd.prog 22 #[.int .i64 n, .int .i64 i] w fun e w' => e = .returned (.int .u8 v) ∧ w = w' := by
  unfold atR at h
  by_cases hi : i = -1
  · subst hi
    rw [if_pos rfl] at h
    exact at_to n v h w
  · rw [if_neg hi] at h
    exact at_from n i v hi h w
end Go.Proofs.YtmpcjjlffebljaaDoor
