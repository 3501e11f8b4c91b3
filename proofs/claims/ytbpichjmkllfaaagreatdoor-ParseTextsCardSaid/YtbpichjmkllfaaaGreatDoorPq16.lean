/- Packed texts of one proof. Conditions: none. -/
import Derived.Test.YtbpichjmkllfaaaGreatDoorPq03
import Derived.LaidEql
import Derived.RowKitTokens
import Derived.Deep.Light
import Derived.StillTailTactics
import Derived.Deep.MidRow
namespace Go.Proofs.YtbpichjmkllfaaaGreatDoor.Opr
open Go.ChangeShapes Go.WideShapes Go.RowKit
set_option linter.unusedVariables false
set_option maxRecDepth 20000
theorem is_v (n : Int) (b : Bool) (h : isOp n = b) (w : World) : Calls Tryz.prog 156 #[.int .i64 n] w fun e w' => e = .returned (.bool b) ∧ w = w' := by
 unfold isOp at h
 by_cases h1 : 1 ≤ n
 ·have c1 : decide (1 ≤ n) = true := decide_eq_true h1
  by_cases h2 : n ≤ 27
  ·have c2 : decide (n ≤ 27) = true := decide_eq_true h2
   have hb : b = true := by rw [← h, c1, c2]; rfl
   subst hb
   clear h
   go_enter Tryz.func156, Tryz.ntmps156
   go_wp2_with fail
   go_ret
   exact ⟨rfl, rfl⟩
  ·have c2 : decide (n ≤ 27) = false := decide_eq_false h2
   have hb : b = false := by rw [← h, c1, c2]; rfl
   subst hb
   clear h h2
   go_enter Tryz.func156, Tryz.ntmps156
   go_wp2_with fail
   go_ret
   exact ⟨rfl, rfl⟩
 ·have c1 : decide (1 ≤ n) = false := decide_eq_false h1
  have hb : b = false := by rw [← h, c1]; rfl
  subst hb
  clear h h1
  go_enter Tryz.func156, Tryz.ntmps156
  go_wp2_with fail
  go_ret
  exact ⟨rfl, rfl⟩
theorem reck_v (n : Int) (b : Bool) (h : isR n = b) (w : World) : Calls Tryz.prog 196 #[.int .i64 n] w fun e w' => e = .returned (.bool b) ∧ w = w' := by
 unfold isR at h
 by_cases h1 : 1 ≤ n
 ·have c1 : decide (1 ≤ n) = true := decide_eq_true h1
  by_cases h2 : n ≤ 15
  ·have c2 : decide (n ≤ 15) = true := decide_eq_true h2
   have hb : b = true := by rw [← h, c1, c2]; rfl
   subst hb
   clear h
   go_enter Tryz.func196, Tryz.ntmps196
   go_wp2_with fail
   go_ret
   exact ⟨rfl, rfl⟩
  ·have c2 : decide (n ≤ 15) = false := decide_eq_false h2
   have hb : b = false := by rw [← h, c1, c2]; rfl
   subst hb
   clear h h2
   go_enter Tryz.func196, Tryz.ntmps196
   go_wp2_with fail
   go_ret
   exact ⟨rfl, rfl⟩
 ·have c1 : decide (1 ≤ n) = false := decide_eq_false h1
  have hb : b = false := by rw [← h, c1]; rfl
  subst hb
  clear h h1
  go_enter Tryz.func196, Tryz.ntmps196
  go_wp2_with fail
  go_ret
  exact ⟨rfl, rfl⟩
theorem to_16 (w : World) : Calls Tryz.prog 186 #[.int .i64 16] w fun e w' => e = .returned (.int .u8 3) ∧ w = w' := by
 go_enter Tryz.func186, Tryz.ntmps186
 go_wp2_with fail
 refine (reck_v 16 false rfl _).mono ?_
 rintro e w1 ⟨rfl, rfl⟩
 go_wp2_with fail
 go_ret
 exact ⟨rfl, rfl⟩
theorem to_17 (w : World) : Calls Tryz.prog 186 #[.int .i64 17] w fun e w' => e = .returned (.int .u8 1) ∧ w = w' := by
 go_enter Tryz.func186, Tryz.ntmps186
 go_wp2_with fail
 refine (reck_v 17 false rfl _).mono ?_
 rintro e w1 ⟨rfl, rfl⟩
 go_wp2_with fail
 go_ret
 exact ⟨rfl, rfl⟩
theorem to_19 (w : World) : Calls Tryz.prog 186 #[.int .i64 19] w fun e w' => e = .returned (.int .u8 17) ∧ w = w' := by
 go_enter Tryz.func186, Tryz.ntmps186
 go_wp2_with fail
 refine (reck_v 19 false rfl _).mono ?_
 rintro e w1 ⟨rfl, rfl⟩
 go_wp2_with fail
 go_ret
 exact ⟨rfl, rfl⟩
theorem to_24 (w : World) : Calls Tryz.prog 186 #[.int .i64 24] w fun e w' => e = .returned (.int .u8 3) ∧ w = w' := by
 go_enter Tryz.func186, Tryz.ntmps186
 go_wp2_with fail
 refine (reck_v 24 false rfl _).mono ?_
 rintro e w1 ⟨rfl, rfl⟩
 go_wp2_with fail
 go_ret
 exact ⟨rfl, rfl⟩
theorem to_25 (w : World) : Calls Tryz.prog 186 #[.int .i64 25] w fun e w' => e = .returned (.int .u8 8) ∧ w = w' := by
 go_enter Tryz.func186, Tryz.ntmps186
 go_wp2_with fail
 refine (reck_v 25 false rfl _).mono ?_
 rintro e w1 ⟨rfl, rfl⟩
 go_wp2_with fail
 go_ret
 exact ⟨rfl, rfl⟩
theorem to_26 (w : World) : Calls Tryz.prog 186 #[.int .i64 26] w fun e w' => e = .returned (.int .u8 3) ∧ w = w' := by
 go_enter Tryz.func186, Tryz.ntmps186
 go_wp2_with fail
 refine (reck_v 26 false rfl _).mono ?_
 rintro e w1 ⟨rfl, rfl⟩
 go_wp2_with fail
 go_ret
 exact ⟨rfl, rfl⟩
theorem to_two (n : Int) (h : isR n = true) (w : World) : Calls Tryz.prog 186 #[.int .i64 n] w fun e w' => e = .returned (.int .u8 1) ∧ w = w' := by
 have H := Hh h
 clear h
 go_enter Tryz.func186, Tryz.ntmps186
 go_wp2_with fail
 refine (reck_v n true H.out _).mono ?_
 rintro e w1 ⟨rfl, rfl⟩
 go_wp2_with fail
 go_ret
 exact ⟨rfl, rfl⟩
theorem to_else (n : Int) (h : isR n = false) (h16 : n ≠ 16) (h17 : n ≠ 17) (h19 : n ≠ 19) (h24 : n ≠ 24) (h25 : n ≠ 25) (h26 : n ≠ 26) (w : World) : Calls Tryz.prog 186 #[.int .i64 n] w fun e w' => e = .returned (.int .u8 0) ∧ w = w' := by
 have c16 : (n == 16) = false := by rw [Bqf]; omega
 have c17 : (n == 17) = false := by rw [Bqf]; omega
 have c19 : (n == 19) = false := by rw [Bqf]; omega
 have c24 : (n == 24) = false := by rw [Bqf]; omega
 have c25 : (n == 25) = false := by rw [Bqf]; omega
 have c26 : (n == 26) = false := by rw [Bqf]; omega
 have H := Hh h
 clear h
 clear h16 h17 h19 h24 h25 h26
 go_enter Tryz.func186, Tryz.ntmps186
 go_wp2_with fail
 refine (reck_v n false H.out _).mono ?_
 rintro e w1 ⟨rfl, rfl⟩
 go_wp2_with fail
 go_ret
 exact ⟨rfl, rfl⟩
theorem to_v (n : Int) (v : Int) (h : toR n = v) (w : World) : Calls Tryz.prog 186 #[.int .i64 n] w fun e w' => e = .returned (.int .u8 v) ∧ w = w' := by
 subst h
 by_cases h16 : n = 16
 ·subst h16
  exact to_16 w
 by_cases h17 : n = 17
 ·subst h17
  exact to_17 w
 by_cases h19 : n = 19
 ·subst h19
  exact to_19 w
 by_cases h24 : n = 24
 ·subst h24
  exact to_24 w
 by_cases h25 : n = 25
 ·subst h25
  exact to_25 w
 by_cases h26 : n = 26
 ·subst h26
  exact to_26 w
 by_cases hr : 1 ≤ n ∧ n ≤ 15
 ·have e : toR n = 1 := by unfold toR; rw [if_pos hr]
  rw [e]
  exact to_two n (by unfold isR; simp [hr]) w
 have e : toR n = 0 := by
  unfold toR
  rw [if_neg hr]
  simp [h16, h17, h19, h24, h25, h26]
 rw [e]
 exact to_else n (by unfold isR; simpa using hr) h16 h17 h19 h24 h25 h26 w
theorem first_16 (w : World) : Calls Tryz.prog 197 #[.int .i64 16] w fun e w' => e = .returned (.int .u8 7) ∧ w = w' := by
 go_enter Tryz.func197, Tryz.ntmps197
 go_wp2_with fail
 refine (reck_v 16 false rfl _).mono ?_
 rintro e w1 ⟨rfl, rfl⟩
 go_wp2_with fail
 go_ret
 exact ⟨rfl, rfl⟩
theorem first_17 (w : World) : Calls Tryz.prog 197 #[.int .i64 17] w fun e w' => e = .returned (.int .u8 2) ∧ w = w' := by
 go_enter Tryz.func197, Tryz.ntmps197
 go_wp2_with fail
 refine (reck_v 17 false rfl _).mono ?_
 rintro e w1 ⟨rfl, rfl⟩
 go_wp2_with fail
 go_ret
 exact ⟨rfl, rfl⟩
theorem first_18 (w : World) : Calls Tryz.prog 197 #[.int .i64 18] w fun e w' => e = .returned (.int .u8 1) ∧ w = w' := by
 go_enter Tryz.func197, Tryz.ntmps197
 go_wp2_with fail
 refine (reck_v 18 false rfl _).mono ?_
 rintro e w1 ⟨rfl, rfl⟩
 go_wp2_with fail
 go_ret
 exact ⟨rfl, rfl⟩
theorem first_21 (w : World) : Calls Tryz.prog 197 #[.int .i64 21] w fun e w' => e = .returned (.int .u8 1) ∧ w = w' := by
 go_enter Tryz.func197, Tryz.ntmps197
 go_wp2_with fail
 refine (reck_v 21 false rfl _).mono ?_
 rintro e w1 ⟨rfl, rfl⟩
 go_wp2_with fail
 go_ret
 exact ⟨rfl, rfl⟩
theorem first_22 (w : World) : Calls Tryz.prog 197 #[.int .i64 22] w fun e w' => e = .returned (.int .u8 1) ∧ w = w' := by
 go_enter Tryz.func197, Tryz.ntmps197
 go_wp2_with fail
 refine (reck_v 22 false rfl _).mono ?_
 rintro e w1 ⟨rfl, rfl⟩
 go_wp2_with fail
 go_ret
 exact ⟨rfl, rfl⟩
theorem first_23 (w : World) : Calls Tryz.prog 197 #[.int .i64 23] w fun e w' => e = .returned (.int .u8 5) ∧ w = w' := by
 go_enter Tryz.func197, Tryz.ntmps197
 go_wp2_with fail
 refine (reck_v 23 false rfl _).mono ?_
 rintro e w1 ⟨rfl, rfl⟩
 go_wp2_with fail
 go_ret
 exact ⟨rfl, rfl⟩
theorem first_24 (w : World) : Calls Tryz.prog 197 #[.int .i64 24] w fun e w' => e = .returned (.int .u8 3) ∧ w = w' := by
 go_enter Tryz.func197, Tryz.ntmps197
 go_wp2_with fail
 refine (reck_v 24 false rfl _).mono ?_
 rintro e w1 ⟨rfl, rfl⟩
 go_wp2_with fail
 go_ret
 exact ⟨rfl, rfl⟩
theorem first_25 (w : World) : Calls Tryz.prog 197 #[.int .i64 25] w fun e w' => e = .returned (.int .u8 3) ∧ w = w' := by
 go_enter Tryz.func197, Tryz.ntmps197
 go_wp2_with fail
 refine (reck_v 25 false rfl _).mono ?_
 rintro e w1 ⟨rfl, rfl⟩
 go_wp2_with fail
 go_ret
 exact ⟨rfl, rfl⟩
theorem first_26 (w : World) : Calls Tryz.prog 197 #[.int .i64 26] w fun e w' => e = .returned (.int .u8 8) ∧ w = w' := by
 go_enter Tryz.func197, Tryz.ntmps197
 go_wp2_with fail
 refine (reck_v 26 false rfl _).mono ?_
 rintro e w1 ⟨rfl, rfl⟩
 go_wp2_with fail
 go_ret
 exact ⟨rfl, rfl⟩
theorem first_27 (w : World) : Calls Tryz.prog 197 #[.int .i64 27] w fun e w' => e = .returned (.int .u8 11) ∧ w = w' := by
 go_enter Tryz.func197, Tryz.ntmps197
 go_wp2_with fail
 refine (reck_v 27 false rfl _).mono ?_
 rintro e w1 ⟨rfl, rfl⟩
 go_wp2_with fail
 go_ret
 exact ⟨rfl, rfl⟩
theorem first_two (n : Int) (h : isR n = true) (w : World) : Calls Tryz.prog 197 #[.int .i64 n] w fun e w' => e = .returned (.int .u8 1) ∧ w = w' := by
 have H := Hh h
 clear h
 go_enter Tryz.func197, Tryz.ntmps197
 go_wp2_with fail
 refine (reck_v n true H.out _).mono ?_
 rintro e w1 ⟨rfl, rfl⟩
 go_wp2_with fail
 go_ret
 exact ⟨rfl, rfl⟩
theorem first_else (n : Int) (h : isR n = false) (h16 : n ≠ 16) (h17 : n ≠ 17) (h18 : n ≠ 18) (h21 : n ≠ 21) (h22 : n ≠ 22) (h23 : n ≠ 23) (h24 : n ≠ 24) (h25 : n ≠ 25) (h26 : n ≠ 26) (h27 : n ≠ 27) (w : World) : Calls Tryz.prog 197 #[.int .i64 n] w fun e w' => e = .returned (.int .u8 0) ∧ w = w' := by
 have c16 : (n == 16) = false := by rw [Bqf]; omega
 have c17 : (n == 17) = false := by rw [Bqf]; omega
 have c18 : (n == 18) = false := by rw [Bqf]; omega
 have c21 : (n == 21) = false := by rw [Bqf]; omega
 have c22 : (n == 22) = false := by rw [Bqf]; omega
 have c23 : (n == 23) = false := by rw [Bqf]; omega
 have c24 : (n == 24) = false := by rw [Bqf]; omega
 have c25 : (n == 25) = false := by rw [Bqf]; omega
 have c26 : (n == 26) = false := by rw [Bqf]; omega
 have c27 : (n == 27) = false := by rw [Bqf]; omega
 have H := Hh h
 clear h
 clear h16 h17 h18 h21 h22 h23 h24 h25 h26 h27
 go_enter Tryz.func197, Tryz.ntmps197
 go_wp2_with fail
 refine (reck_v n false H.out _).mono ?_
 rintro e w1 ⟨rfl, rfl⟩
 go_wp2_with fail
 go_ret
 exact ⟨rfl, rfl⟩
theorem first_v (n : Int) (v : Int) (h : firstR n = v) (w : World) : Calls Tryz.prog 197 #[.int .i64 n] w fun e w' => e = .returned (.int .u8 v) ∧ w = w' := by
 subst h
 by_cases h16 : n = 16
 ·subst h16
  exact first_16 w
 by_cases h17 : n = 17
 ·subst h17
  exact first_17 w
 by_cases h18 : n = 18
 ·subst h18
  exact first_18 w
 by_cases h21 : n = 21
 ·subst h21
  exact first_21 w
 by_cases h22 : n = 22
 ·subst h22
  exact first_22 w
 by_cases h23 : n = 23
 ·subst h23
  exact first_23 w
 by_cases h24 : n = 24
 ·subst h24
  exact first_24 w
 by_cases h25 : n = 25
 ·subst h25
  exact first_25 w
 by_cases h26 : n = 26
 ·subst h26
  exact first_26 w
 by_cases h27 : n = 27
 ·subst h27
  exact first_27 w
 by_cases hr : 1 ≤ n ∧ n ≤ 15
 ·have e : firstR n = 1 := by unfold firstR; rw [if_pos hr]
  rw [e]
  exact first_two n (by unfold isR; simp [hr]) w
 have e : firstR n = 0 := by
  unfold firstR
  rw [if_neg hr]
  simp [h16, h17, h18, h21, h22, h23, h24, h25, h26, h27]
 rw [e]
 exact first_else n (by unfold isR; simpa using hr) h16 h17 h18 h21 h22 h23 h24 h25 h26 h27 w
theorem second_18 (w : World) : Calls Tryz.prog 198 #[.int .i64 18] w fun e w' => e = .returned (.int .u8 2) ∧ w = w' := by
 go_enter Tryz.func198, Tryz.ntmps198
 go_wp2_with fail
 refine (reck_v 18 false rfl _).mono ?_
 rintro e w1 ⟨rfl, rfl⟩
 go_wp2_with fail
 go_ret
 exact ⟨rfl, rfl⟩
theorem second_27 (w : World) : Calls Tryz.prog 198 #[.int .i64 27] w fun e w' => e = .returned (.int .u8 11) ∧ w = w' := by
 go_enter Tryz.func198, Tryz.ntmps198
 go_wp2_with fail
 refine (reck_v 27 false rfl _).mono ?_
 rintro e w1 ⟨rfl, rfl⟩
 go_wp2_with fail
 go_ret
 exact ⟨rfl, rfl⟩
theorem second_two (n : Int) (h : isR n = true) (w : World) : Calls Tryz.prog 198 #[.int .i64 n] w fun e w' => e = .returned (.int .u8 5) ∧ w = w' := by
 have H := Hh h
 clear h
 go_enter Tryz.func198, Tryz.ntmps198
 go_wp2_with fail
 refine (reck_v n true H.out _).mono ?_
 rintro e w1 ⟨rfl, rfl⟩
 go_wp2_with fail
 go_ret
 exact ⟨rfl, rfl⟩
theorem second_else (n : Int) (h : isR n = false) (h18 : n ≠ 18) (h27 : n ≠ 27) (w : World) : Calls Tryz.prog 198 #[.int .i64 n] w fun e w' => e = .returned (.int .u8 0) ∧ w = w' := by
 have c18 : (n == 18) = false := by rw [Bqf]; omega
 have c27 : (n == 27) = false := by rw [Bqf]; omega
 have H := Hh h
 clear h
 clear h18 h27
 go_enter Tryz.func198, Tryz.ntmps198
 go_wp2_with fail
 refine (reck_v n false H.out _).mono ?_
 rintro e w1 ⟨rfl, rfl⟩
 go_wp2_with fail
 go_ret
 exact ⟨rfl, rfl⟩
theorem second_v (n : Int) (v : Int) (h : secondR n = v) (w : World) : Calls Tryz.prog 198 #[.int .i64 n] w fun e w' => e = .returned (.int .u8 v) ∧ w = w' := by
 subst h
 by_cases h18 : n = 18
 ·subst h18
  exact second_18 w
 by_cases h27 : n = 27
 ·subst h27
  exact second_27 w
 by_cases hr : 1 ≤ n ∧ n ≤ 15
 ·have e : secondR n = 5 := by unfold secondR; rw [if_pos hr]
  rw [e]
  exact second_two n (by unfold isR; simp [hr]) w
 have e : secondR n = 0 := by
  unfold secondR
  rw [if_neg hr]
  simp [h18, h27]
 rw [e]
 exact second_else n (by unfold isR; simpa using hr) h18 h27 w
theorem from_call (i : Int) (h0 : 0 ≤ i) (h8 : i < 8) (w : World) : Calls Tryz.prog 187 #[.int .i64 19, .int .i64 i] w fun e w' => e = .returned (.int .u8 13) ∧ w = w' := by
 have c0 : decide (0 ≤ i) = true := decide_eq_true h0
 have c8 : decide (i < 8) = true := decide_eq_true h8
 go_enter Tryz.func187, Tryz.ntmps187
 go_wp2_with fail
 go_ret
 exact ⟨rfl, rfl⟩
theorem from_low (i : Int) (h0 : ¬ 0 ≤ i) (w : World) : Calls Tryz.prog 187 #[.int .i64 19, .int .i64 i] w fun e w' => e = .returned (.int .u8 0) ∧ w = w' := by
 have c0 : decide (0 ≤ i) = false := decide_eq_false h0
 have d0 : (i == 0) = false := by rw [Bqf]; omega
 have d1 : (i == 1) = false := by rw [Bqf]; omega
 clear h0
 go_enter Tryz.func187, Tryz.ntmps187
 go_wp2_with fail
 go_ret
 exact ⟨rfl, rfl⟩
theorem from_high (i : Int) (h0 : 0 ≤ i) (h8 : ¬ i < 8) (w : World) : Calls Tryz.prog 187 #[.int .i64 19, .int .i64 i] w fun e w' => e = .returned (.int .u8 0) ∧ w = w' := by
 have c0 : decide (0 ≤ i) = true := decide_eq_true h0
 have c8 : decide (i < 8) = false := decide_eq_false h8
 have d0 : (i == 0) = false := by rw [Bqf]; omega
 have d1 : (i == 1) = false := by rw [Bqf]; omega
 clear h8
 go_enter Tryz.func187, Tryz.ntmps187
 go_wp2_with fail
 go_ret
 exact ⟨rfl, rfl⟩
theorem from_first (n : Int) (hn : n ≠ 19) (v : Int) (h : firstR n = v) (w : World) : Calls Tryz.prog 187 #[.int .i64 n, .int .i64 0] w fun e w' => e = .returned (.int .u8 v) ∧ w = w' := by
 have c : (n == 19) = false := by rw [Bqf]; exact hn
 have H := Hh h
 clear h hn
 go_enter Tryz.func187, Tryz.ntmps187
 go_wp2_with fail
 refine (first_v n v H.out _).mono ?_
 rintro e w1 ⟨rfl, rfl⟩
 go_wp2_with fail
 go_ret
 exact ⟨rfl, rfl⟩
theorem from_second (n : Int) (hn : n ≠ 19) (v : Int) (h : secondR n = v) (w : World) : Calls Tryz.prog 187 #[.int .i64 n, .int .i64 1] w fun e w' => e = .returned (.int .u8 v) ∧ w = w' := by
 have c : (n == 19) = false := by rw [Bqf]; exact hn
 have H := Hh h
 clear h hn
 go_enter Tryz.func187, Tryz.ntmps187
 go_wp2_with fail
 refine (second_v n v H.out _).mono ?_
 rintro e w1 ⟨rfl, rfl⟩
 go_wp2_with fail
 go_ret
 exact ⟨rfl, rfl⟩
theorem from_none (n i : Int) (hn : n ≠ 19) (h0 : i ≠ 0) (h1 : i ≠ 1) (w : World) : Calls Tryz.prog 187 #[.int .i64 n, .int .i64 i] w fun e w' => e = .returned (.int .u8 0) ∧ w = w' := by
 have c : (n == 19) = false := by rw [Bqf]; exact hn
 have d0 : (i == 0) = false := by rw [Bqf]; exact h0
 have d1 : (i == 1) = false := by rw [Bqf]; exact h1
 clear hn h0 h1
 go_enter Tryz.func187, Tryz.ntmps187
 go_wp2_with fail
 go_ret
 exact ⟨rfl, rfl⟩
theorem from_v (n i v : Int) (h : fromR n i = v) (w : World) : Calls Tryz.prog 187 #[.int .i64 n, .int .i64 i] w fun e w' => e = .returned (.int .u8 v) ∧ w = w' := by
 subst h
 by_cases hn : n = 19
 ·subst hn
  by_cases h0 : 0 ≤ i
  ·by_cases h8 : i < 8
   ·have e : fromR 19 i = 13 := by unfold fromR; rw [if_pos ⟨rfl, h0, h8⟩]
    rw [e]; exact from_call i h0 h8 w
   ·have e : fromR 19 i = 0 := by unfold fromR; rw [if_neg (by omega), if_neg (by omega), if_neg (by omega)]
    rw [e]; exact from_high i h0 h8 w
  ·have e : fromR 19 i = 0 := by unfold fromR; rw [if_neg (by omega), if_neg (by omega), if_neg (by omega)]
   rw [e]; exact from_low i h0 w
 ·have e0 : fromR n i = if i = 0 then firstR n else if i = 1 then secondR n else 0 := by unfold fromR; rw [if_neg (fun k => hn k.1)]
  rw [e0]
  by_cases h0 : i = 0
  ·subst h0; rw [if_pos rfl]; exact from_first n hn _ rfl w
  ·rw [if_neg h0]
   by_cases h1 : i = 1
   ·subst h1; rw [if_pos rfl]; exact from_second n hn _ rfl w
   ·rw [if_neg h1]; exact from_none n i hn h0 h1 w
theorem at_to (n v : Int) (h : toR n = v) (w : World) : Calls Tryz.prog 181 #[.int .i64 n, .int .i64 (-1)] w fun e w' => e = .returned (.int .u8 v) ∧ w = w' := by
 have H := Hh h
 clear h
 go_enter Tryz.func181, Tryz.ntmps181
 go_wp2_with fail
 refine (to_v n v H.out _).mono ?_
 rintro e w1 ⟨rfl, rfl⟩
 go_wp2_with fail
 go_ret
 exact ⟨rfl, rfl⟩
theorem at_from (n i v : Int) (hi : i ≠ -1) (h : fromR n i = v) (w : World) : Calls Tryz.prog 181 #[.int .i64 n, .int .i64 i] w fun e w' => e = .returned (.int .u8 v) ∧ w = w' := by
 have d : (i == -1) = false := by rw [Bqf]; exact hi
 have H := Hh h
 clear h hi
 go_enter Tryz.func181, Tryz.ntmps181
 go_wp2_with fail
 refine (from_v n i v H.out _).mono ?_
 rintro e w1 ⟨rfl, rfl⟩
 go_wp2_with fail
 go_ret
 exact ⟨rfl, rfl⟩
theorem at_v (n i v : Int) (h : atR n i = v) (w : World) : Calls Tryz.prog 181 #[.int .i64 n, .int .i64 i] w fun e w' => e = .returned (.int .u8 v) ∧ w = w' := by
 unfold atR at h
 by_cases hi : i = -1
 ·subst hi
  rw [if_pos rfl] at h
  exact at_to n v h w
 ·rw [if_neg hi] at h
  exact at_from n i v hi h w
theorem args_v (n : Int) (lo M : Nat) (hM : many n = M) (hlo : (if n = 19 then 0 else M) = lo) (w : World) : Calls Tryz.prog 168 #[.int .i64 n] w fun e w' => e = .returned (.tuple #[.int .i64 (lo : Int), .int .i64 (M : Int)]) ∧ w = w' := by
 have hm := many_at n
 rw [hM] at hm
 have HM := Hh hm
 have hM8 : M ≤ 8 := hm.2.2
 clear hm hM
 have HL := Hh hlo
 clear hlo
 go_enter Tryz.func168, Tryz.ntmps168
 go_wp2_with fail
 go_loopg [3] M (fun gk u wr => ∃ (k : Nat), k + gk = M ∧ u = .int .i64 (k : Int) ∧ wr = w)
 case atStart => exact ⟨0, by omega, rfl, rfl⟩
 case round =>
  obtain ⟨k, hk, rfl, rfl⟩ := hrel
  by_cases hlt : k < M
  ·obtain ⟨v, hv⟩ : ∃ v, atR n (k : Int) = v := ⟨_, rfl⟩
   have h0 := HM.out.1 k hlt
   rw [hv] at h0
   have c0 : (v != 0) = true := by rw [bne_iff_ne]; exact h0
   have HV := Hh hv
   clear hv h0
   go_wp2_with fail
   refine (at_v n (k : Int) v HV.out _).mono ?_
   rintro e w1 ⟨rfl, rfl⟩
   go_wp2_with fail
   go_roundg (gk - 1)
   case measure => omega
   case rel => exact ⟨k + 1, by omega, by go_num, rfl⟩
  ·obtain rfl : k = M := by omega
   have HV := Hh HM.out.2.1
   clear hlt
   go_wp2_with fail
   refine (at_v n (k : Int) 0 HV.out _).mono ?_
   rintro e w1 ⟨rfl, rfl⟩
   by_cases h19 : n = 19
   ·subst h19
    have e0 : lo = 0 := HL.out.symm.trans (if_pos rfl)
    subst e0
    go_wp2_with fail
    go_ret2
    exact ⟨rfl, rfl⟩
   ·have c19 : (n == 19) = false := by rw [Bqf]; exact h19
    have e0 : lo = k := HL.out.symm.trans (if_neg h19)
    subst e0
    clear h19
    go_wp2_with fail
    go_ret2
    exact ⟨rfl, rfl⟩
def nameOf (n : Int) : ByteArray := (rowOf n).nm
def nameRow : Array Value := #[.string ⟨#[]⟩, .string ⟨#[97, 100, 100]⟩, .string ⟨#[115, 117, 98]⟩, .string ⟨#[109, 117, 108]⟩, .string ⟨#[97, 110, 100]⟩, .string ⟨#[111, 114]⟩, .string ⟨#[120, 111, 114]⟩, .string ⟨#[115, 104, 108]⟩, .string ⟨#[115, 104, 114]⟩, .string ⟨#[115, 97, 114]⟩, .string ⟨#[100, 105, 118]⟩, .string ⟨#[114, 101, 109]⟩, .string ⟨#[101, 113]⟩, .string ⟨#[110, 101]⟩, .string ⟨#[108, 116]⟩, .string ⟨#[108, 101]⟩, .string ⟨#[99, 111, 112, 121]⟩, .string ⟨#[108, 111, 97, 100]⟩, .string ⟨#[115, 116, 111, 114, 101]⟩, .string ⟨#[99, 97, 108, 108]⟩, .string ⟨#[98, 114]⟩, .string ⟨#[98, 114, 105, 102]⟩, .string ⟨#[115, 119, 105, 116, 99, 104]⟩, .string ⟨#[114, 101, 116]⟩, .string ⟨#[109, 111, 118, 101]⟩, .string ⟨#[115, 112, 105, 108, 108]⟩, .string ⟨#[114, 101, 108, 111, 97, 100]⟩, .string ⟨#[115, 119, 97, 112]⟩]
theorem nameRow_at (k : Nat) (hk : k < 28) : nameRow[k]? = some (.string (nameOf (k : Int))) := by
 have h : k = 0 ∨ k = 1 ∨ k = 2 ∨ k = 3 ∨ k = 4 ∨ k = 5 ∨ k = 6 ∨ k = 7 ∨ k = 8 ∨ k = 9 ∨ k = 10 ∨ k = 11 ∨ k = 12 ∨ k = 13 ∨ k = 14 ∨ k = 15 ∨ k = 16 ∨ k = 17 ∨ k = 18 ∨ k = 19 ∨ k = 20 ∨ k = 21 ∨ k = 22 ∨ k = 23 ∨ k = 24 ∨ k = 25 ∨ k = 26 ∨ k = 27 := by omega
 clear hk
 rcases h with rfl | rfl | rfl | rfl | rfl | rfl | rfl | rfl | rfl | rfl | rfl | rfl | rfl | rfl | rfl | rfl | rfl | rfl | rfl | rfl | rfl | rfl | rfl | rfl | rfl | rfl | rfl | rfl
 all_goals rfl
def Glob (w : World) : Prop := 1 < w.heap.size ∧ w.rangeAt 1 0 nameRow.toList
theorem Glob.below {B : Nat} {w w' : World} (h : Glob w) (hb : Below B w w') (hB : 1 < B) : Glob w' :=
 ⟨Nat.lt_of_lt_of_le h.1 hb.size, fun j v hj => (hb.cell (p := ⟨1, 0 + j, none⟩) hB).trans (h.2 j v hj)⟩
theorem size47 : (Tryz.prog.info? 220).map (·.size) = some nameRow.toList.length := by kernel_rfl
theorem load_names {ops : Array Oper} {rest : List Oper} {o : Oper} {a : Act} {w : World} {Q : Exit → Act → World → Prop} (hgd : o.guard = none) (x : Operand) (ho : o.op = .load 220 x)
  (hx : a.eval x = .pointer (some ⟨1, 0, none⟩)) (hG : Glob w) (h : wpList Tryz.prog ops Q rest (a.put o.dst (.agg nameRow)) w) : wpList Tryz.prog ops Q (o :: rest) a w :=
 wpList_load_mid hgd 220 x ho 1 0 hx nameRow.toList _ hG.2 Tryz.underlying220 rfl size47 h
theorem index_0 (W : World) : (Instr.index 220 (.agg nameRow) (.int .i64 0)).run Tryz.prog W = .ok (.string (nameOf 0)) W := by kernel_rfl
theorem index_1 (W : World) : (Instr.index 220 (.agg nameRow) (.int .i64 1)).run Tryz.prog W = .ok (.string (nameOf 1)) W := by kernel_rfl
theorem index_2 (W : World) : (Instr.index 220 (.agg nameRow) (.int .i64 2)).run Tryz.prog W = .ok (.string (nameOf 2)) W := by kernel_rfl
theorem index_3 (W : World) : (Instr.index 220 (.agg nameRow) (.int .i64 3)).run Tryz.prog W = .ok (.string (nameOf 3)) W := by kernel_rfl
theorem index_4 (W : World) : (Instr.index 220 (.agg nameRow) (.int .i64 4)).run Tryz.prog W = .ok (.string (nameOf 4)) W := by kernel_rfl
theorem index_5 (W : World) : (Instr.index 220 (.agg nameRow) (.int .i64 5)).run Tryz.prog W = .ok (.string (nameOf 5)) W := by kernel_rfl
theorem index_6 (W : World) : (Instr.index 220 (.agg nameRow) (.int .i64 6)).run Tryz.prog W = .ok (.string (nameOf 6)) W := by kernel_rfl
theorem index_7 (W : World) : (Instr.index 220 (.agg nameRow) (.int .i64 7)).run Tryz.prog W = .ok (.string (nameOf 7)) W := by kernel_rfl
theorem index_8 (W : World) : (Instr.index 220 (.agg nameRow) (.int .i64 8)).run Tryz.prog W = .ok (.string (nameOf 8)) W := by kernel_rfl
theorem index_9 (W : World) : (Instr.index 220 (.agg nameRow) (.int .i64 9)).run Tryz.prog W = .ok (.string (nameOf 9)) W := by kernel_rfl
theorem index_10 (W : World) : (Instr.index 220 (.agg nameRow) (.int .i64 10)).run Tryz.prog W = .ok (.string (nameOf 10)) W := by kernel_rfl
theorem index_11 (W : World) : (Instr.index 220 (.agg nameRow) (.int .i64 11)).run Tryz.prog W = .ok (.string (nameOf 11)) W := by kernel_rfl
theorem index_12 (W : World) : (Instr.index 220 (.agg nameRow) (.int .i64 12)).run Tryz.prog W = .ok (.string (nameOf 12)) W := by kernel_rfl
theorem index_13 (W : World) : (Instr.index 220 (.agg nameRow) (.int .i64 13)).run Tryz.prog W = .ok (.string (nameOf 13)) W := by kernel_rfl
theorem index_14 (W : World) : (Instr.index 220 (.agg nameRow) (.int .i64 14)).run Tryz.prog W = .ok (.string (nameOf 14)) W := by kernel_rfl
theorem index_15 (W : World) : (Instr.index 220 (.agg nameRow) (.int .i64 15)).run Tryz.prog W = .ok (.string (nameOf 15)) W := by kernel_rfl
theorem index_16 (W : World) : (Instr.index 220 (.agg nameRow) (.int .i64 16)).run Tryz.prog W = .ok (.string (nameOf 16)) W := by kernel_rfl
theorem index_17 (W : World) : (Instr.index 220 (.agg nameRow) (.int .i64 17)).run Tryz.prog W = .ok (.string (nameOf 17)) W := by kernel_rfl
theorem index_18 (W : World) : (Instr.index 220 (.agg nameRow) (.int .i64 18)).run Tryz.prog W = .ok (.string (nameOf 18)) W := by kernel_rfl
theorem index_19 (W : World) : (Instr.index 220 (.agg nameRow) (.int .i64 19)).run Tryz.prog W = .ok (.string (nameOf 19)) W := by kernel_rfl
theorem index_20 (W : World) : (Instr.index 220 (.agg nameRow) (.int .i64 20)).run Tryz.prog W = .ok (.string (nameOf 20)) W := by kernel_rfl
theorem index_21 (W : World) : (Instr.index 220 (.agg nameRow) (.int .i64 21)).run Tryz.prog W = .ok (.string (nameOf 21)) W := by kernel_rfl
theorem index_22 (W : World) : (Instr.index 220 (.agg nameRow) (.int .i64 22)).run Tryz.prog W = .ok (.string (nameOf 22)) W := by kernel_rfl
theorem index_23 (W : World) : (Instr.index 220 (.agg nameRow) (.int .i64 23)).run Tryz.prog W = .ok (.string (nameOf 23)) W := by kernel_rfl
theorem index_24 (W : World) : (Instr.index 220 (.agg nameRow) (.int .i64 24)).run Tryz.prog W = .ok (.string (nameOf 24)) W := by kernel_rfl
theorem index_25 (W : World) : (Instr.index 220 (.agg nameRow) (.int .i64 25)).run Tryz.prog W = .ok (.string (nameOf 25)) W := by kernel_rfl
theorem index_26 (W : World) : (Instr.index 220 (.agg nameRow) (.int .i64 26)).run Tryz.prog W = .ok (.string (nameOf 26)) W := by kernel_rfl
theorem index_27 (W : World) : (Instr.index 220 (.agg nameRow) (.int .i64 27)).run Tryz.prog W = .ok (.string (nameOf 27)) W := by kernel_rfl
theorem index_run (k : Nat) (hk : k < 28) (s : ByteArray) (hs : nameOf (k : Int) = s) (W : World) : (Instr.index 220 (.agg nameRow) (.int .i64 (k : Int))).run Tryz.prog W = .ok (.string s) W := by
 subst hs
 have h : k = 0 ∨ k = 1 ∨ k = 2 ∨ k = 3 ∨ k = 4 ∨ k = 5 ∨ k = 6 ∨ k = 7 ∨ k = 8 ∨ k = 9 ∨ k = 10 ∨ k = 11 ∨ k = 12 ∨ k = 13 ∨ k = 14 ∨ k = 15 ∨ k = 16 ∨ k = 17 ∨ k = 18 ∨ k = 19 ∨ k = 20 ∨ k = 21 ∨ k = 22 ∨ k = 23 ∨ k = 24 ∨ k = 25 ∨ k = 26 ∨ k = 27 := by omega
 clear hk
 rcases h with rfl | rfl | rfl | rfl | rfl | rfl | rfl | rfl | rfl | rfl | rfl | rfl | rfl | rfl | rfl | rfl | rfl | rfl | rfl | rfl | rfl | rfl | rfl | rfl | rfl | rfl | rfl | rfl
 ·exact index_0 W
 ·exact index_1 W
 ·exact index_2 W
 ·exact index_3 W
 ·exact index_4 W
 ·exact index_5 W
 ·exact index_6 W
 ·exact index_7 W
 ·exact index_8 W
 ·exact index_9 W
 ·exact index_10 W
 ·exact index_11 W
 ·exact index_12 W
 ·exact index_13 W
 ·exact index_14 W
 ·exact index_15 W
 ·exact index_16 W
 ·exact index_17 W
 ·exact index_18 W
 ·exact index_19 W
 ·exact index_20 W
 ·exact index_21 W
 ·exact index_22 W
 ·exact index_23 W
 ·exact index_24 W
 ·exact index_25 W
 ·exact index_26 W
 ·exact index_27 W
def FindS (s : ByteArray) (r : Int) (b : Bool) : Prop := (b = true ∧ 1 ≤ r ∧ r ≤ 27 ∧ nameOf r = s) ∨ (b = false ∧ r = 0 ∧ ∀ k : Nat, 1 ≤ k → k < 28 → nameOf (k : Int) ≠ s)
def FindQ (s : ByteArray) (w : World) (e : Ending) (w' : World) : Prop := ∃ r b, FindS s r b ∧ e = .returned (.tuple #[.int .i64 r, .bool b]) ∧ w = w'
theorem find_v (s : ByteArray) (w : World) (hG : Glob w) : Calls Tryz.prog 145 #[.string s] w (FindQ s w) := by
 have HG := Hh hG
 clear hG
 have tok1 : True := trivial
 go_enter Tryz.func145, Tryz.ntmps145
 go_wp2_with ((have _t := tok1); refine load_names rfl (.global 1) rfl rfl HG.out ?_; clear tok1)
 go_loopg [7] 28 (fun gk u wr => ∃ (k : Nat), k + gk = 28 ∧ u = .int .i64 (k : Int) ∧ wr = w ∧ Hid (∀ j : Nat, 1 ≤ j → j < k → nameOf (j : Int) ≠ s))
 case atStart => exact ⟨0, by omega, rfl, rfl, fun j h1 h2 => by omega⟩
 case round =>
  obtain ⟨k, hk, rfl, rfl, HH⟩ := hrel
  by_cases hlt : k < 28
  ·obtain ⟨t, ht⟩ : ∃ t, nameOf (k : Int) = t := ⟨_, rfl⟩
   have hi := index_run k hlt t ht
   have HT := Hh ht
   clear ht
   by_cases h0 : k = 0
   ·have HO := Hh (show isOp (k : Int) = false by rw [h0]; rfl)
    have HK := Hh h0
    clear h0
    go_wp2_with fail
    refine (is_v (k : Int) false HO.out _).mono ?_
    rintro e w1 ⟨rfl, rfl⟩
    go_wp2_with fail
    go_roundg (gk - 1)
    case measure => omega
    case rel => exact ⟨k + 1, by omega, by go_num, rfl, fun j h1 h2 => by have := HK.out; omega⟩
   ·have ho : isOp (k : Int) = true := by unfold isOp; simp; omega
    have HO := Hh ho
    have HK := Hh h0
    clear ho h0
    cases hb : (t.toList == s.toList) with
    | true =>
     go_wp2_with fail
     refine (is_v (k : Int) true HO.out _).mono ?_
     rintro e w1 ⟨rfl, rfl⟩
     go_wp2_with fail
     go_ret2
     have hts : t = s := by rw [beq_iff_eq, ByteArray.toList_eq, ByteArray.toList_eq] at hb; exact ByteArray.ext (Array.ext' hb)
     exact ⟨(k : Int), true, .inl ⟨rfl, by have := HK.out; omega, by omega, HT.out.trans hts⟩, rfl, rfl⟩
    | false =>
     go_wp2_with fail
     refine (is_v (k : Int) true HO.out _).mono ?_
     rintro e w1 ⟨rfl, rfl⟩
     go_wp2_with fail
     go_roundg (gk - 1)
     case measure => omega
     case rel =>
      have hts : t ≠ s := by rintro rfl; rw [beq_self_eq_true] at hb; cases hb
      refine ⟨k + 1, by omega, by go_num, rfl, fun j h1 h2 => ?_⟩
      by_cases hj : j = k
      ·subst hj; rw [HT.out]; exact hts
      ·exact HH.out j h1 (by omega)
  ·obtain rfl : k = 28 := by omega
   clear hlt
   go_wp2_with fail
   go_ret2
   exact ⟨0, false, .inr ⟨rfl, rfl, HH.out⟩, rfl, rfl⟩
theorem names_apart : ∀ j k : Fin 28, 1 ≤ j.val → 1 ≤ k.val → nameOf (j.val : Int) = nameOf (k.val : Int) → j = k := by decide +kernel
end Go.Proofs.YtbpichjmkllfaaaGreatDoor.Opr
