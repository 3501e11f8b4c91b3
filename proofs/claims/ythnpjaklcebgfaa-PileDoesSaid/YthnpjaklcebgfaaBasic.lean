/- What the small functions of what waits answer: ahead, Len, Less. -/
import Derived.Test.YthnpjaklcebgfaaLaid
import Derived.Deep.QuietTactic
import Derived.BigQuiet
import Derived.Deep.RegionWith
import Derived.Deep.RegionHeld3
import Derived.WalkSmall
import Derived.StillTailTactics
namespace Go.Proofs.Ythnpjaklcebgfaa
open Go.ChangeShapes Go.WideShapes Go.RowKit
set_option linter.unusedVariables false

theorem ahead_v (a b c d : Int) (r : Bool) (hr : decide (bef (a, b) (c, d)) = r) (w : World) :
    Calls Try.prog 18 #[.agg #[.int .i64 a, .int .i64 b], .agg #[.int .i64 c, .int .i64 d]] w fun e w' => e = .returned (.bool r) ∧ w.grownBy w' none := by
  have HR := Lib.hid hr
  clear hr
  by_cases h1 : c < a
  · obtain rfl : r = true := by rw [← HR.out, decide_eq_true_iff]; exact .inl h1
    go_enter Try.func18, Try.ntmps18
    go_wp2_with fail
    go_ret
    exact ⟨rfl, gtrans (galloc _ _ _) (galloc _ _ _)⟩
  · by_cases h2 : a = c
    · subst h2
      by_cases h3 : b < d
      · obtain rfl : r = true := by rw [← HR.out, decide_eq_true_iff]; exact .inr ⟨rfl, h3⟩
        go_enter Try.func18, Try.ntmps18
        go_wp2_with fail
        go_ret
        exact ⟨rfl, gtrans (galloc _ _ _) (galloc _ _ _)⟩
      · obtain rfl : r = false := by rw [← HR.out, decide_eq_false_iff_not]; unfold bef; show ¬ (a < a ∨ _ ∧ b < d); omega
        have h4 : decide (b < d) = false := by simpa using h3
        clear h3
        go_enter Try.func18, Try.ntmps18
        go_wp2_with fail
        go_ret
        exact ⟨rfl, gtrans (galloc _ _ _) (galloc _ _ _)⟩
    · obtain rfl : r = false := by rw [← HR.out, decide_eq_false_iff_not]; unfold bef; show ¬ (c < a ∨ a = c ∧ b < d); omega
      have h4 : decide (c < a) = false := by simpa using h1
      have h5 : (a == c) = false := by simpa using h2
      clear h1 h2
      go_enter Try.func18, Try.ntmps18
      go_wp2_with fail
      go_ret
      exact ⟨rfl, gtrans (galloc _ _ _) (galloc _ _ _)⟩
theorem len_v (B q g cap n : Nat) (l : List It) (hn : l.length = n) (w : World) (h : PAt B w q g cap l) :
    Calls Try.prog 25 #[.pointer (some ⟨q, 0, none⟩)] w fun e w' => e = .returned (.int .i64 (n : Int)) ∧ w = w' := by
  have c0 := h.slice
  rw [hn] at c0
  clear h hn
  go_enter Try.func25, Try.ntmps25
  go_wp2
  go_ret
  exact ⟨rfl, rfl⟩
theorem less_v (B q g cap i j : Nat) (l : List It) (r : Bool) (hr : decide (bef (ia l i) (ia l j)) = r) (hi : i < l.length) (hj : j < l.length) (w : World) (h : PAt B w q g cap l) :
    Calls Try.prog 44 #[.pointer (some ⟨q, 0, none⟩), .int .i64 (i : Int), .int .i64 (j : Int)] w fun e w' => e = .returned (.bool r) ∧ w.grownBy w' none := by
  have c0 := h.slice
  have c1 := h.ord
  have k1 := h.key hi
  have k2 := h.val hi
  have k3 := h.key hj
  have k4 := h.val hj
  have hc := h.cap_le
  have hs := h.small
  obtain ⟨n, hn⟩ : ∃ n, l.length = n := ⟨_, rfl⟩
  rw [hn] at c0 hi hj hc hs
  generalize hx : ia l i = x at *
  generalize hy : ia l j = y at *
  obtain ⟨a, b⟩ := x
  obtain ⟨c, d⟩ := y
  have i1 : (i : Int) < (n : Int) := by omega
  have i2 : (j : Int) < (n : Int) := by omega
  have HR := Lib.hid hr
  clear h hn hr hx hy
  go_enter Try.func44, Try.ntmps44
  go_wp2_with fail
  refine wp_region_still_tail 18 (by kernel_rfl) (by kernel_rfl) ?_
  simp only [List.take_succ_cons, List.take_zero, List.drop_succ_cons, List.drop_zero]
  repeat still_step
  refine wpStill_nil ?_
  go_wp2_with fail
  refine (ahead_v a b c d r HR.out _).mono ?_
  rintro e w1 ⟨rfl, hg⟩
  have HG := Lib.hid hg
  clear hg
  go_wp2_with fail
  go_ret
  exact ⟨rfl, gtrans (gdrew _ _) HG.out⟩
end Go.Proofs.Ythnpjaklcebgfaa
