/- What Gives, Args and Fits of op answer. -/
import Derived.Test.YtmpcjjlffebljaaDoorSmall
namespace Go.Proofs.YtmpcjjlffebljaaDoor
open Go.ChangeShapes Go.WideShapes Go.RowKit
set_option linter.unusedVariables false

theorem gives_0 (n : Int) (h : toR n = 0) (w : World) : Calls Tryd.prog 9 #[.int .i64 n] w fun e w' => e = .returned (.tuple #[.bool false, .bool false]) ∧ w = w' := by
  have H := Lib.hid h
  clear h
  go_enter Tryd.func9, Tryd.ntmps9
  go_wp2_with fail
  refine (at_to n 0 H.out _).mono ?_
  rintro e w1 ⟨rfl, rfl⟩
  go_wp2_with fail
  go_ret2
  exact ⟨rfl, rfl⟩
theorem gives_1 (n : Int) (h : toR n = 1) (w : World) : Calls Tryd.prog 9 #[.int .i64 n] w fun e w' => e = .returned (.tuple #[.bool true, .bool true]) ∧ w = w' := by
  have H := Lib.hid h
  clear h
  go_enter Tryd.func9, Tryd.ntmps9
  go_wp2_with fail
  refine (at_to n 1 H.out _).mono ?_
  rintro e w1 ⟨rfl, rfl⟩
  go_wp2_with fail
  go_ret2
  exact ⟨rfl, rfl⟩
theorem gives_3 (n : Int) (h : toR n = 3) (w : World) : Calls Tryd.prog 9 #[.int .i64 n] w fun e w' => e = .returned (.tuple #[.bool true, .bool true]) ∧ w = w' := by
  have H := Lib.hid h
  clear h
  go_enter Tryd.func9, Tryd.ntmps9
  go_wp2_with fail
  refine (at_to n 3 H.out _).mono ?_
  rintro e w1 ⟨rfl, rfl⟩
  go_wp2_with fail
  go_ret2
  exact ⟨rfl, rfl⟩
theorem gives_8 (n : Int) (h : toR n = 8) (w : World) : Calls Tryd.prog 9 #[.int .i64 n] w fun e w' => e = .returned (.tuple #[.bool true, .bool true]) ∧ w = w' := by
  have H := Lib.hid h
  clear h
  go_enter Tryd.func9, Tryd.ntmps9
  go_wp2_with fail
  refine (at_to n 8 H.out _).mono ?_
  rintro e w1 ⟨rfl, rfl⟩
  go_wp2_with fail
  go_ret2
  exact ⟨rfl, rfl⟩
theorem gives_17 (n : Int) (h : toR n = 17) (w : World) : Calls Tryd.prog 9 #[.int .i64 n] w fun e w' => e = .returned (.tuple #[.bool false, .bool true]) ∧ w = w' := by
  have H := Lib.hid h
  clear h
  go_enter Tryd.func9, Tryd.ntmps9
  go_wp2_with fail
  refine (at_to n 17 H.out _).mono ?_
  rintro e w1 ⟨rfl, rfl⟩
  go_wp2_with fail
  go_ret2
  exact ⟨rfl, rfl⟩
theorem gives_v (n : Int) (mu ma : Bool) (h1 : mustOf n = mu) (h2 : mayOf n = ma) (w : World) : Calls Tryd.prog 9 #[.int .i64 n] w fun e w' => e = .returned (.tuple #[.bool mu, .bool ma]) ∧ w = w' := by
  subst h1 h2
  rcases gives_at n with ⟨a, b, c⟩ | ⟨a | a | a, b, c⟩ | ⟨a, b, c⟩
  all_goals rw [b, c]
  · exact gives_0 n a w
  · exact gives_1 n a w
  · exact gives_3 n a w
  · exact gives_8 n a w
  · exact gives_17 n a w
theorem args_v (n : Int) (lo M : Nat) (hM : many n = M) (hlo : (if n = 19 then 0 else M) = lo) (w : World) : Calls Tryd.prog 8 #[.int .i64 n] w fun e w' => e = .returned (.tuple #[.int .i64 (lo : Int), .int .i64 (M : Int)]) ∧ w = w' := by
  have hm := many_at n
  rw [hM] at hm
  have HM := Lib.hid hm
  have hM8 : M ≤ 8 := hm.2.2
  clear hm hM
  have HL := Lib.hid hlo
  clear hlo
  go_enter Tryd.func8, Tryd.ntmps8
  go_wp2_with fail
  go_loopg [3] M (fun gk u wr => ∃ (k : Nat), k + gk = M ∧ u = .int .i64 (k : Int) ∧ wr = w)
  case atStart => exact ⟨0, by omega, rfl, rfl⟩
  case round =>
    obtain ⟨k, hk, rfl, rfl⟩ := hrel
    by_cases hlt : k < M
    · obtain ⟨v, hv⟩ : ∃ v, atR n (k : Int) = v := ⟨_, rfl⟩
      have h0 := HM.out.1 k hlt
      rw [hv] at h0
      have c0 : (v != 0) = true := by rw [bne_iff_ne]; exact h0
      have HV := Lib.hid hv
      clear hv h0
      go_wp2_with fail
      refine (at_v n (k : Int) v HV.out _).mono ?_
      rintro e w1 ⟨rfl, rfl⟩
      go_wp2_with fail
      go_roundg (gk - 1)
      case measure => omega
      case rel => exact ⟨k + 1, by omega, by go_num, rfl⟩
    · obtain rfl : k = M := by omega
      have HV := Lib.hid HM.out.2.1
      clear hlt
      go_wp2_with fail
      refine (at_v n (k : Int) 0 HV.out _).mono ?_
      rintro e w1 ⟨rfl, rfl⟩
      by_cases h19 : n = 19
      · subst h19
        have e0 : lo = 0 := HL.out.symm.trans (if_pos rfl)
        subst e0
        go_wp2_with fail
        go_ret2
        exact ⟨rfl, rfl⟩
      · have c19 : (n == 19) = false := by rw [beq_eq_false_iff_ne]; exact h19
        have e0 : lo = k := HL.out.symm.trans (if_neg h19)
        subst e0
        clear h19
        go_wp2_with fail
        go_ret2
        exact ⟨rfl, rfl⟩
/-- What Fits answers, by the bits. -/
def fitR (v c : Int) : Bool := if c = 0 then decide (v % 2 = 1) else if c = 1 then decide (v / 2 % 2 = 1) else false
theorem at_some (n i : Int) : atR n i = 0 ∨ atR n i = 1 ∨ atR n i = 2 ∨ atR n i = 3 ∨ atR n i = 5 ∨ atR n i = 7 ∨ atR n i = 8 ∨ atR n i = 11 ∨ atR n i = 13 ∨ atR n i = 17 := by
  unfold atR fromR toR firstR secondR
  repeat' split
  all_goals decide
theorem fits_else (n i c : Int) (h0 : c ≠ 0) (h1 : c ≠ 1) (w : World) : Calls Tryd.prog 17 #[.int .i64 n, .int .i64 i, .int .i64 c] w fun e w' => e = .returned (.bool false) ∧ w = w' := by
  have d0 : (c == 0) = false := by rw [beq_eq_false_iff_ne]; exact h0
  have d1 : (c == 1) = false := by rw [beq_eq_false_iff_ne]; exact h1
  clear h0 h1
  go_enter Tryd.func17, Tryd.ntmps17
  go_wp2_with fail
  go_ret
  exact ⟨rfl, rfl⟩
theorem fits_0_0 (n i : Int) (h : atR n i = 0) (w : World) : Calls Tryd.prog 17 #[.int .i64 n, .int .i64 i, .int .i64 0] w fun e w' => e = .returned (.bool false) ∧ w = w' := by
  have H := Lib.hid h
  clear h
  go_enter Tryd.func17, Tryd.ntmps17
  go_wp2_with fail
  refine (at_v n i 0 H.out _).mono ?_
  rintro e w1 ⟨rfl, rfl⟩
  go_wp2_with fail
  go_ret
  exact ⟨rfl, rfl⟩
theorem fits_0_1 (n i : Int) (h : atR n i = 1) (w : World) : Calls Tryd.prog 17 #[.int .i64 n, .int .i64 i, .int .i64 0] w fun e w' => e = .returned (.bool true) ∧ w = w' := by
  have H := Lib.hid h
  clear h
  go_enter Tryd.func17, Tryd.ntmps17
  go_wp2_with fail
  refine (at_v n i 1 H.out _).mono ?_
  rintro e w1 ⟨rfl, rfl⟩
  go_wp2_with fail
  go_ret
  exact ⟨rfl, rfl⟩
theorem fits_0_2 (n i : Int) (h : atR n i = 2) (w : World) : Calls Tryd.prog 17 #[.int .i64 n, .int .i64 i, .int .i64 0] w fun e w' => e = .returned (.bool false) ∧ w = w' := by
  have H := Lib.hid h
  clear h
  go_enter Tryd.func17, Tryd.ntmps17
  go_wp2_with fail
  refine (at_v n i 2 H.out _).mono ?_
  rintro e w1 ⟨rfl, rfl⟩
  go_wp2_with fail
  go_ret
  exact ⟨rfl, rfl⟩
theorem fits_0_3 (n i : Int) (h : atR n i = 3) (w : World) : Calls Tryd.prog 17 #[.int .i64 n, .int .i64 i, .int .i64 0] w fun e w' => e = .returned (.bool true) ∧ w = w' := by
  have H := Lib.hid h
  clear h
  go_enter Tryd.func17, Tryd.ntmps17
  go_wp2_with fail
  refine (at_v n i 3 H.out _).mono ?_
  rintro e w1 ⟨rfl, rfl⟩
  go_wp2_with fail
  go_ret
  exact ⟨rfl, rfl⟩
theorem fits_0_5 (n i : Int) (h : atR n i = 5) (w : World) : Calls Tryd.prog 17 #[.int .i64 n, .int .i64 i, .int .i64 0] w fun e w' => e = .returned (.bool true) ∧ w = w' := by
  have H := Lib.hid h
  clear h
  go_enter Tryd.func17, Tryd.ntmps17
  go_wp2_with fail
  refine (at_v n i 5 H.out _).mono ?_
  rintro e w1 ⟨rfl, rfl⟩
  go_wp2_with fail
  go_ret
  exact ⟨rfl, rfl⟩
theorem fits_0_7 (n i : Int) (h : atR n i = 7) (w : World) : Calls Tryd.prog 17 #[.int .i64 n, .int .i64 i, .int .i64 0] w fun e w' => e = .returned (.bool true) ∧ w = w' := by
  have H := Lib.hid h
  clear h
  go_enter Tryd.func17, Tryd.ntmps17
  go_wp2_with fail
  refine (at_v n i 7 H.out _).mono ?_
  rintro e w1 ⟨rfl, rfl⟩
  go_wp2_with fail
  go_ret
  exact ⟨rfl, rfl⟩
theorem fits_0_8 (n i : Int) (h : atR n i = 8) (w : World) : Calls Tryd.prog 17 #[.int .i64 n, .int .i64 i, .int .i64 0] w fun e w' => e = .returned (.bool false) ∧ w = w' := by
  have H := Lib.hid h
  clear h
  go_enter Tryd.func17, Tryd.ntmps17
  go_wp2_with fail
  refine (at_v n i 8 H.out _).mono ?_
  rintro e w1 ⟨rfl, rfl⟩
  go_wp2_with fail
  go_ret
  exact ⟨rfl, rfl⟩
theorem fits_0_11 (n i : Int) (h : atR n i = 11) (w : World) : Calls Tryd.prog 17 #[.int .i64 n, .int .i64 i, .int .i64 0] w fun e w' => e = .returned (.bool true) ∧ w = w' := by
  have H := Lib.hid h
  clear h
  go_enter Tryd.func17, Tryd.ntmps17
  go_wp2_with fail
  refine (at_v n i 11 H.out _).mono ?_
  rintro e w1 ⟨rfl, rfl⟩
  go_wp2_with fail
  go_ret
  exact ⟨rfl, rfl⟩
theorem fits_0_13 (n i : Int) (h : atR n i = 13) (w : World) : Calls Tryd.prog 17 #[.int .i64 n, .int .i64 i, .int .i64 0] w fun e w' => e = .returned (.bool true) ∧ w = w' := by
  have H := Lib.hid h
  clear h
  go_enter Tryd.func17, Tryd.ntmps17
  go_wp2_with fail
  refine (at_v n i 13 H.out _).mono ?_
  rintro e w1 ⟨rfl, rfl⟩
  go_wp2_with fail
  go_ret
  exact ⟨rfl, rfl⟩
theorem fits_0_17 (n i : Int) (h : atR n i = 17) (w : World) : Calls Tryd.prog 17 #[.int .i64 n, .int .i64 i, .int .i64 0] w fun e w' => e = .returned (.bool true) ∧ w = w' := by
  have H := Lib.hid h
  clear h
  go_enter Tryd.func17, Tryd.ntmps17
  go_wp2_with fail
  refine (at_v n i 17 H.out _).mono ?_
  rintro e w1 ⟨rfl, rfl⟩
  go_wp2_with fail
  go_ret
  exact ⟨rfl, rfl⟩
theorem fits_1_0 (n i : Int) (h : atR n i = 0) (w : World) : Calls Tryd.prog 17 #[.int .i64 n, .int .i64 i, .int .i64 1] w fun e w' => e = .returned (.bool false) ∧ w = w' := by
  have H := Lib.hid h
  clear h
  go_enter Tryd.func17, Tryd.ntmps17
  go_wp2_with fail
  refine (at_v n i 0 H.out _).mono ?_
  rintro e w1 ⟨rfl, rfl⟩
  go_wp2_with fail
  go_ret
  exact ⟨rfl, rfl⟩
theorem fits_1_1 (n i : Int) (h : atR n i = 1) (w : World) : Calls Tryd.prog 17 #[.int .i64 n, .int .i64 i, .int .i64 1] w fun e w' => e = .returned (.bool false) ∧ w = w' := by
  have H := Lib.hid h
  clear h
  go_enter Tryd.func17, Tryd.ntmps17
  go_wp2_with fail
  refine (at_v n i 1 H.out _).mono ?_
  rintro e w1 ⟨rfl, rfl⟩
  go_wp2_with fail
  go_ret
  exact ⟨rfl, rfl⟩
theorem fits_1_2 (n i : Int) (h : atR n i = 2) (w : World) : Calls Tryd.prog 17 #[.int .i64 n, .int .i64 i, .int .i64 1] w fun e w' => e = .returned (.bool true) ∧ w = w' := by
  have H := Lib.hid h
  clear h
  go_enter Tryd.func17, Tryd.ntmps17
  go_wp2_with fail
  refine (at_v n i 2 H.out _).mono ?_
  rintro e w1 ⟨rfl, rfl⟩
  go_wp2_with fail
  go_ret
  exact ⟨rfl, rfl⟩
theorem fits_1_3 (n i : Int) (h : atR n i = 3) (w : World) : Calls Tryd.prog 17 #[.int .i64 n, .int .i64 i, .int .i64 1] w fun e w' => e = .returned (.bool true) ∧ w = w' := by
  have H := Lib.hid h
  clear h
  go_enter Tryd.func17, Tryd.ntmps17
  go_wp2_with fail
  refine (at_v n i 3 H.out _).mono ?_
  rintro e w1 ⟨rfl, rfl⟩
  go_wp2_with fail
  go_ret
  exact ⟨rfl, rfl⟩
theorem fits_1_5 (n i : Int) (h : atR n i = 5) (w : World) : Calls Tryd.prog 17 #[.int .i64 n, .int .i64 i, .int .i64 1] w fun e w' => e = .returned (.bool false) ∧ w = w' := by
  have H := Lib.hid h
  clear h
  go_enter Tryd.func17, Tryd.ntmps17
  go_wp2_with fail
  refine (at_v n i 5 H.out _).mono ?_
  rintro e w1 ⟨rfl, rfl⟩
  go_wp2_with fail
  go_ret
  exact ⟨rfl, rfl⟩
theorem fits_1_7 (n i : Int) (h : atR n i = 7) (w : World) : Calls Tryd.prog 17 #[.int .i64 n, .int .i64 i, .int .i64 1] w fun e w' => e = .returned (.bool true) ∧ w = w' := by
  have H := Lib.hid h
  clear h
  go_enter Tryd.func17, Tryd.ntmps17
  go_wp2_with fail
  refine (at_v n i 7 H.out _).mono ?_
  rintro e w1 ⟨rfl, rfl⟩
  go_wp2_with fail
  go_ret
  exact ⟨rfl, rfl⟩
theorem fits_1_8 (n i : Int) (h : atR n i = 8) (w : World) : Calls Tryd.prog 17 #[.int .i64 n, .int .i64 i, .int .i64 1] w fun e w' => e = .returned (.bool false) ∧ w = w' := by
  have H := Lib.hid h
  clear h
  go_enter Tryd.func17, Tryd.ntmps17
  go_wp2_with fail
  refine (at_v n i 8 H.out _).mono ?_
  rintro e w1 ⟨rfl, rfl⟩
  go_wp2_with fail
  go_ret
  exact ⟨rfl, rfl⟩
theorem fits_1_11 (n i : Int) (h : atR n i = 11) (w : World) : Calls Tryd.prog 17 #[.int .i64 n, .int .i64 i, .int .i64 1] w fun e w' => e = .returned (.bool true) ∧ w = w' := by
  have H := Lib.hid h
  clear h
  go_enter Tryd.func17, Tryd.ntmps17
  go_wp2_with fail
  refine (at_v n i 11 H.out _).mono ?_
  rintro e w1 ⟨rfl, rfl⟩
  go_wp2_with fail
  go_ret
  exact ⟨rfl, rfl⟩
theorem fits_1_13 (n i : Int) (h : atR n i = 13) (w : World) : Calls Tryd.prog 17 #[.int .i64 n, .int .i64 i, .int .i64 1] w fun e w' => e = .returned (.bool false) ∧ w = w' := by
  have H := Lib.hid h
  clear h
  go_enter Tryd.func17, Tryd.ntmps17
  go_wp2_with fail
  refine (at_v n i 13 H.out _).mono ?_
  rintro e w1 ⟨rfl, rfl⟩
  go_wp2_with fail
  go_ret
  exact ⟨rfl, rfl⟩
theorem fits_1_17 (n i : Int) (h : atR n i = 17) (w : World) : Calls Tryd.prog 17 #[.int .i64 n, .int .i64 i, .int .i64 1] w fun e w' => e = .returned (.bool false) ∧ w = w' := by
  have H := Lib.hid h
  clear h
  go_enter Tryd.func17, Tryd.ntmps17
  go_wp2_with fail
  refine (at_v n i 17 H.out _).mono ?_
  rintro e w1 ⟨rfl, rfl⟩
  go_wp2_with fail
  go_ret
  exact ⟨rfl, rfl⟩
theorem fits_v (n i c : Int) (b : Bool) (h : fitR (atR n i) c = b) (w : World) : Calls Tryd.prog 17 #[.int .i64 n, .int .i64 i, .int .i64 c] w fun e w' => e = .returned (.bool b) ∧ w = w' := by
  subst h
  unfold fitR
  by_cases h0 : c = 0
  · subst h0
    rw [if_pos rfl]
    rcases at_some n i with h | h | h | h | h | h | h | h | h | h
    all_goals rw [h]
    · exact fits_0_0 n i h w
    · exact fits_0_1 n i h w
    · exact fits_0_2 n i h w
    · exact fits_0_3 n i h w
    · exact fits_0_5 n i h w
    · exact fits_0_7 n i h w
    · exact fits_0_8 n i h w
    · exact fits_0_11 n i h w
    · exact fits_0_13 n i h w
    · exact fits_0_17 n i h w
  · rw [if_neg h0]
    by_cases h1 : c = 1
    · subst h1
      rw [if_pos rfl]
      rcases at_some n i with h | h | h | h | h | h | h | h | h | h
      all_goals rw [h]
      · exact fits_1_0 n i h w
      · exact fits_1_1 n i h w
      · exact fits_1_2 n i h w
      · exact fits_1_3 n i h w
      · exact fits_1_5 n i h w
      · exact fits_1_7 n i h w
      · exact fits_1_8 n i h w
      · exact fits_1_11 n i h w
      · exact fits_1_13 n i h w
      · exact fits_1_17 n i h w
    · rw [if_neg h1]
      exact fits_else n i c h0 h1 w
end Go.Proofs.YtmpcjjlffebljaaDoor
