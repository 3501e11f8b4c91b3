/- What Takes of op answers. -/
import Derived.Test.YtmpcjjlffebljaaDoorMid
import Derived.Test.YtmpcjjlffebljaaDoorPlaMath
namespace Go.Proofs.YtmpcjjlffebljaaDoor
open Go.ChangeShapes Go.WideShapes Go.RowKit
set_option linter.unusedVariables false

/-- What Takes answers, by the bits. -/
def regR (v : Int) : Bool := decide (v % 2 = 1) || decide (v / 2 % 2 = 1)
def takesR (n i k : Int) (m : Bool) : Bool :=
  if k = 0 then decide (i = -1) && !mustOf n else if k = 1 then regR (atR n i) && !m && !machOf n else if k = 2 then regR (atR n i) && m
  else if k = 3 then decide (atR n i / 8 % 2 = 1) && m else if k = 4 then decide (atR n i / 4 % 2 = 1) else false
theorem takes_0 (n i v : Int) (m mu ma ci : Bool) (hmu : mustOf n = mu) (hma : mayOf n = ma) (c1 : (i == -1) = ci) (hv : (v = 0 ∨ v = 1 ∨ v = 2 ∨ v = 3 ∨ v = 5 ∨ v = 7 ∨ v = 8 ∨ v = 11 ∨ v = 13 ∨ v = 17)) (h : atR n i = v) (w : World) : Calls Tryd.prog 18 #[.int .i64 n, .int .i64 i, .int .i64 0, .bool m] w fun e w' => e = .returned (.bool (ci && !mu)) ∧ w = w' := by
  have HM := Lib.hid (And.intro hmu hma)
  clear hmu hma
  cases ci
  · have H := Lib.hid h
    clear h
    rcases hv with rfl | rfl | rfl | rfl | rfl | rfl | rfl | rfl | rfl | rfl
    all_goals go_enter Tryd.func18, Tryd.ntmps18
    all_goals go_wp2_with fail
    all_goals refine (at_v n i _ H.out _).mono ?_
    all_goals rintro e w1 ⟨rfl, rfl⟩
    all_goals go_wp2_with fail
    all_goals refine (gives_v n mu ma HM.out.1 HM.out.2 _).mono ?_
    all_goals rintro e w1 ⟨rfl, rfl⟩
    all_goals go_wp2_with fail
    all_goals go_ret
    all_goals exact ⟨rfl, rfl⟩
  · have H := Lib.hid h
    clear h
    rcases hv with rfl | rfl | rfl | rfl | rfl | rfl | rfl | rfl | rfl | rfl
    all_goals go_enter Tryd.func18, Tryd.ntmps18
    all_goals go_wp2_with fail
    all_goals refine (at_v n i _ H.out _).mono ?_
    all_goals rintro e w1 ⟨rfl, rfl⟩
    all_goals go_wp2_with fail
    all_goals refine (gives_v n mu ma HM.out.1 HM.out.2 _).mono ?_
    all_goals rintro e w1 ⟨rfl, rfl⟩
    all_goals go_wp2_with fail
    all_goals go_ret
    all_goals exact ⟨rfl, rfl⟩
theorem takes_1f (n i v : Int) (b : Bool) (hb : machOf n = b) (hv : (v = 0 ∨ v = 1 ∨ v = 2 ∨ v = 3 ∨ v = 5 ∨ v = 7 ∨ v = 8 ∨ v = 11 ∨ v = 13 ∨ v = 17)) (h : atR n i = v) (w : World) : Calls Tryd.prog 18 #[.int .i64 n, .int .i64 i, .int .i64 1, .bool false] w fun e w' => e = .returned (.bool (regR v && !false && !b)) ∧ w = w' := by
  have H := Lib.hid h
  have HB := Lib.hid hb
  clear hb
  clear h
  rcases hv with rfl | rfl | rfl | rfl | rfl | rfl | rfl | rfl | rfl | rfl
  all_goals go_enter Tryd.func18, Tryd.ntmps18
  all_goals go_wp2_with fail
  all_goals refine (at_v n i _ H.out _).mono ?_
  all_goals rintro e w1 ⟨rfl, rfl⟩
  all_goals go_wp2_with fail
  all_goals first
    | (go_ret; exact ⟨rfl, rfl⟩)
    | (refine (mach_v n b HB.out _).mono ?_; rintro e w1 ⟨rfl, rfl⟩; go_wp2_with fail; go_ret; exact ⟨rfl, rfl⟩)
theorem takes_1t (n i v : Int) (b : Bool) (hv : (v = 0 ∨ v = 1 ∨ v = 2 ∨ v = 3 ∨ v = 5 ∨ v = 7 ∨ v = 8 ∨ v = 11 ∨ v = 13 ∨ v = 17)) (h : atR n i = v) (w : World) : Calls Tryd.prog 18 #[.int .i64 n, .int .i64 i, .int .i64 1, .bool true] w fun e w' => e = .returned (.bool (regR v && !true && !b)) ∧ w = w' := by
  have H := Lib.hid h
  clear h
  rcases hv with rfl | rfl | rfl | rfl | rfl | rfl | rfl | rfl | rfl | rfl
  all_goals go_enter Tryd.func18, Tryd.ntmps18
  all_goals go_wp2_with fail
  all_goals refine (at_v n i _ H.out _).mono ?_
  all_goals rintro e w1 ⟨rfl, rfl⟩
  all_goals go_wp2_with fail
  all_goals go_ret
  all_goals (cases b <;> exact ⟨rfl, rfl⟩)
theorem takes_2f (n i v : Int) (hv : (v = 0 ∨ v = 1 ∨ v = 2 ∨ v = 3 ∨ v = 5 ∨ v = 7 ∨ v = 8 ∨ v = 11 ∨ v = 13 ∨ v = 17)) (h : atR n i = v) (w : World) : Calls Tryd.prog 18 #[.int .i64 n, .int .i64 i, .int .i64 2, .bool false] w fun e w' => e = .returned (.bool (regR v && false)) ∧ w = w' := by
  have H := Lib.hid h
  clear h
  rcases hv with rfl | rfl | rfl | rfl | rfl | rfl | rfl | rfl | rfl | rfl
  all_goals go_enter Tryd.func18, Tryd.ntmps18
  all_goals go_wp2_with fail
  all_goals refine (at_v n i _ H.out _).mono ?_
  all_goals rintro e w1 ⟨rfl, rfl⟩
  all_goals go_wp2_with fail
  all_goals go_ret
  all_goals exact ⟨rfl, rfl⟩
theorem takes_3f (n i v : Int) (hv : (v = 0 ∨ v = 1 ∨ v = 2 ∨ v = 3 ∨ v = 5 ∨ v = 7 ∨ v = 8 ∨ v = 11 ∨ v = 13 ∨ v = 17)) (h : atR n i = v) (w : World) : Calls Tryd.prog 18 #[.int .i64 n, .int .i64 i, .int .i64 3, .bool false] w fun e w' => e = .returned (.bool (decide (v / 8 % 2 = 1) && false)) ∧ w = w' := by
  have H := Lib.hid h
  clear h
  rcases hv with rfl | rfl | rfl | rfl | rfl | rfl | rfl | rfl | rfl | rfl
  all_goals go_enter Tryd.func18, Tryd.ntmps18
  all_goals go_wp2_with fail
  all_goals refine (at_v n i _ H.out _).mono ?_
  all_goals rintro e w1 ⟨rfl, rfl⟩
  all_goals go_wp2_with fail
  all_goals go_ret
  all_goals exact ⟨rfl, rfl⟩
theorem takes_2t (n i v : Int) (hv : (v = 0 ∨ v = 1 ∨ v = 2 ∨ v = 3 ∨ v = 5 ∨ v = 7 ∨ v = 8 ∨ v = 11 ∨ v = 13 ∨ v = 17)) (h : atR n i = v) (w : World) : Calls Tryd.prog 18 #[.int .i64 n, .int .i64 i, .int .i64 2, .bool true] w fun e w' => e = .returned (.bool (regR v && true)) ∧ w = w' := by
  have H := Lib.hid h
  clear h
  rcases hv with rfl | rfl | rfl | rfl | rfl | rfl | rfl | rfl | rfl | rfl
  all_goals go_enter Tryd.func18, Tryd.ntmps18
  all_goals go_wp2_with fail
  all_goals refine (at_v n i _ H.out _).mono ?_
  all_goals rintro e w1 ⟨rfl, rfl⟩
  all_goals go_wp2_with fail
  all_goals go_ret
  all_goals exact ⟨rfl, rfl⟩
theorem takes_3t (n i v : Int) (hv : (v = 0 ∨ v = 1 ∨ v = 2 ∨ v = 3 ∨ v = 5 ∨ v = 7 ∨ v = 8 ∨ v = 11 ∨ v = 13 ∨ v = 17)) (h : atR n i = v) (w : World) : Calls Tryd.prog 18 #[.int .i64 n, .int .i64 i, .int .i64 3, .bool true] w fun e w' => e = .returned (.bool (decide (v / 8 % 2 = 1) && true)) ∧ w = w' := by
  have H := Lib.hid h
  clear h
  rcases hv with rfl | rfl | rfl | rfl | rfl | rfl | rfl | rfl | rfl | rfl
  all_goals go_enter Tryd.func18, Tryd.ntmps18
  all_goals go_wp2_with fail
  all_goals refine (at_v n i _ H.out _).mono ?_
  all_goals rintro e w1 ⟨rfl, rfl⟩
  all_goals go_wp2_with fail
  all_goals go_ret
  all_goals exact ⟨rfl, rfl⟩
theorem takes_4 (n i v : Int) (m : Bool) (hv : (v = 0 ∨ v = 1 ∨ v = 2 ∨ v = 3 ∨ v = 5 ∨ v = 7 ∨ v = 8 ∨ v = 11 ∨ v = 13 ∨ v = 17)) (h : atR n i = v) (w : World) : Calls Tryd.prog 18 #[.int .i64 n, .int .i64 i, .int .i64 4, .bool m] w fun e w' => e = .returned (.bool (decide (v / 4 % 2 = 1))) ∧ w = w' := by
  have H := Lib.hid h
  clear h
  rcases hv with rfl | rfl | rfl | rfl | rfl | rfl | rfl | rfl | rfl | rfl
  all_goals go_enter Tryd.func18, Tryd.ntmps18
  all_goals go_wp2_with fail
  all_goals refine (at_v n i _ H.out _).mono ?_
  all_goals rintro e w1 ⟨rfl, rfl⟩
  all_goals go_wp2_with fail
  all_goals go_ret
  all_goals exact ⟨rfl, rfl⟩
theorem takes_else (n i v k : Int) (m : Bool) (h0 : k ≠ 0) (h1 : k ≠ 1) (h2 : k ≠ 2) (h3 : k ≠ 3) (h4 : k ≠ 4) (hv : (v = 0 ∨ v = 1 ∨ v = 2 ∨ v = 3 ∨ v = 5 ∨ v = 7 ∨ v = 8 ∨ v = 11 ∨ v = 13 ∨ v = 17)) (h : atR n i = v) (w : World) : Calls Tryd.prog 18 #[.int .i64 n, .int .i64 i, .int .i64 k, .bool m] w fun e w' => e = .returned (.bool false) ∧ w = w' := by
  have d0 : (k == 0) = false := by rw [beq_eq_false_iff_ne]; exact h0
  have d1 : (k == 1) = false := by rw [beq_eq_false_iff_ne]; exact h1
  have d2 : (k == 2) = false := by rw [beq_eq_false_iff_ne]; exact h2
  have d3 : (k == 3) = false := by rw [beq_eq_false_iff_ne]; exact h3
  have d4 : (k == 4) = false := by rw [beq_eq_false_iff_ne]; exact h4
  clear h0 h1 h2 h3 h4
  have H := Lib.hid h
  clear h
  rcases hv with rfl | rfl | rfl | rfl | rfl | rfl | rfl | rfl | rfl | rfl
  all_goals go_enter Tryd.func18, Tryd.ntmps18
  all_goals go_wp2_with fail
  all_goals refine (at_v n i _ H.out _).mono ?_
  all_goals rintro e w1 ⟨rfl, rfl⟩
  all_goals go_wp2_with fail
  all_goals go_ret
  all_goals exact ⟨rfl, rfl⟩
theorem takes_v (n i k : Int) (m : Bool) (w : World) : Calls Tryd.prog 18 #[.int .i64 n, .int .i64 i, .int .i64 k, .bool m] w fun e w' => e = .returned (.bool (takesR n i k m)) ∧ w = w' := by
  have hv := at_some n i
  unfold takesR
  by_cases h0 : k = 0
  · subst h0
    rw [if_pos rfl]
    exact takes_0 n i _ m _ _ _ rfl rfl rfl hv rfl w
  rw [if_neg h0]
  by_cases h1 : k = 1
  · subst h1
    rw [if_pos rfl]
    cases m
    · exact takes_1f n i _ _ rfl hv rfl w
    · exact takes_1t n i _ _ hv rfl w
  rw [if_neg h1]
  by_cases h2 : k = 2
  · subst h2
    rw [if_pos rfl]
    cases m
    · exact takes_2f n i _ hv rfl w
    · exact takes_2t n i _ hv rfl w
  rw [if_neg h2]
  by_cases h3 : k = 3
  · subst h3
    rw [if_pos rfl]
    cases m
    · exact takes_3f n i _ hv rfl w
    · exact takes_3t n i _ hv rfl w
  rw [if_neg h3]
  by_cases h4 : k = 4
  · subst h4
    rw [if_pos rfl]
    exact takes_4 n i _ m hv rfl w
  rw [if_neg h4]
  exact takes_else n i _ k m h0 h1 h2 h3 h4 hv rfl w
end Go.Proofs.YtmpcjjlffebljaaDoor
