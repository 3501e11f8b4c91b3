/- What the small functions of fold answer. -/
import Derived.Test.YtgjaajofhfhadaaDoorFoldMath
import Derived.Test.YtgjaajofhfhadaaDoorLexRest
import Derived.Test.YtgjaajofhfhadaaDoorNum
import Derived.Deep.QuietTactic
import Derived.BigQuiet
import Derived.StillTailTactics
namespace Go.Proofs.YtgjaajofhfhadaaDoor.Fol
open Go.ChangeShapes Go.WideShapes Go.RowKit Lex
set_option linter.unusedVariables false
set_option maxRecDepth 20000

theorem is_sgn (k : Int) (s t : ByteArray) (n c a : Int) (hk : (k == 1) = true ∨ (k == 7) = true) (b : Bool) (h : (s.toList == t.toList) = b) (w : World) : Calls Tryd.prog 17 #[tk k s n c a, .string t] w fun e w' => e = .returned (.bool b) ∧ Below w.heap.size w w' := by
  have b0 := (Below.refl w.heap.size w).alloc (Nat.le_refl _) (.cells (tc k s n c a) 46)
  unfold tc at b0
  have B0 := Lib.hid b0
  clear b0
  rcases hk with hk | hk
  · have hk1 : k = 1 := by simpa using hk
    subst hk1
    clear hk
    cases b
    all_goals
      go_enter Tryd.func17, Tryd.ntmps17
      unfold tk tc
      go_wp2_with fail
      go_ret
      exact ⟨rfl, B0.out⟩
  · have hk1 : k = 7 := by simpa using hk
    subst hk1
    clear hk
    cases b
    all_goals
      go_enter Tryd.func17, Tryd.ntmps17
      unfold tk tc
      go_wp2_with fail
      go_ret
      exact ⟨rfl, B0.out⟩
theorem is_not (k : Int) (s t : ByteArray) (n c a : Int) (h1 : (k == 1) = false) (h7 : (k == 7) = false) (w : World) : Calls Tryd.prog 17 #[tk k s n c a, .string t] w fun e w' => e = .returned (.bool false) ∧ Below w.heap.size w w' := by
  have b0 := (Below.refl w.heap.size w).alloc (Nat.le_refl _) (.cells (tc k s n c a) 46)
  unfold tc at b0
  have B0 := Lib.hid b0
  clear b0
  go_enter Tryd.func17, Tryd.ntmps17
  unfold tk tc
  go_wp2_with fail
  go_ret
  exact ⟨rfl, B0.out⟩
theorem is_v (t : Tok) (s : ByteArray) (b : Bool) (h : isT t s.data.toList = b) (w : World) : Calls Tryd.prog 17 #[tkv t, .string s] w fun e w' => e = .returned (.bool b) ∧ Below w.heap.size w w' := by
  unfold tkv
  unfold isT at h
  by_cases hk : t.kind = 1 ∨ t.kind = 7
  · refine is_sgn _ _ _ _ _ _ ?_ b ?_ w
    · rcases hk with hk | hk
      · exact .inl (by rw [hk]; rfl)
      · exact .inr (by rw [hk]; rfl)
    · rw [← h]
      have : (decide (t.kind = 1) || decide (t.kind = 7)) = true := by simpa using hk
      rw [this, Bool.true_and, Bool.eq_iff_iff, beq_iff_eq, decide_eq_true_iff, ByteArray.toList_eq, ByteArray.toList_eq]
  · have h1 : ¬ t.kind = 1 := fun k => hk (.inl k)
    have h7 : ¬ t.kind = 7 := fun k => hk (.inr k)
    have : b = false := by rw [← h]; simp [h1, h7]
    subst this
    exact is_not _ _ _ _ _ _ (by rw [beq_eq_false_iff_ne]; omega) (by rw [beq_eq_false_iff_ne]; omega) w
theorem reck_v (op a b v : Int) (h : reck op a b = v) (w : World) : Calls Tryd.prog 30 #[.int .i64 op, .int .i64 a, .int .i64 b] w fun e w' => e = .returned (.int .i64 v) ∧ w = w' := by
  obtain ⟨x, y, hd⟩ : ∃ x y, doV op a b = (x, y) := ⟨_, _, rfl⟩
  have hv : x = v := by rw [← h, reck, hd]
  subst hv
  have hc := do_any op a b
  rw [hd] at hc
  have HC := Lib.hid hc
  clear hc hd h
  go_enter Tryd.func30, Tryd.ntmps30
  go_wp2_with fail
  refine (HC.out _).mono ?_
  rintro e w1 ⟨rfl, rfl⟩
  go_wp2_with fail
  go_ret
  exact ⟨rfl, rfl⟩
theorem may_v (many : Nat) (minus : Bool) (v : Int) (h : mayT many minus = v) (w : World) : Calls Tryd.prog 18 #[.int .i64 (many : Int), .bool minus] w fun e w' => e = .returned (.int .i64 v) ∧ w = w' := by
  unfold mayT at h
  by_cases h0 : many = 0
  · subst h0
    cases minus
    · have hv : v = 0 := by rw [← h]; rfl
      subst hv
      clear h
      go_enter Tryd.func18, Tryd.ntmps18
      go_wp2_with fail
      go_ret
      exact ⟨rfl, rfl⟩
    · have hv : v = 20 := by rw [← h]; rfl
      subst hv
      clear h
      go_enter Tryd.func18, Tryd.ntmps18
      go_wp2_with fail
      go_ret
      exact ⟨rfl, rfl⟩
  · have c0 : ((many : Int) == 0) = false := by rw [beq_eq_false_iff_ne]; omega
    rw [if_neg (fun k => h0 k.1)] at h
    by_cases h32 : many = 32
    · subst h32
      have hv : v = 21 := by rw [← h]; rfl
      subst hv
      clear h0 h c0
      go_enter Tryd.func18, Tryd.ntmps18
      go_wp2_with fail
      go_ret
      exact ⟨rfl, rfl⟩
    · have c32 : ((many : Int) == 32) = false := by rw [beq_eq_false_iff_ne]; omega
      rw [if_neg h32] at h
      subst h
      clear h0 h32
      go_enter Tryd.func18, Tryd.ntmps18
      go_wp2_with fail
      go_ret
      exact ⟨rfl, rfl⟩
theorem num_no (k : Int) (s : ByteArray) (n c a : Int) (m : Bool) (hk : (k == 2) = false) (hk2 : (k != 2) = true) (w : World) : Calls Tryd.prog 21 #[tk k s n c a, .bool m] w fun e w' => e = .returned (.tuple #[.int .i64 0, .int .i64 20]) ∧ Below w.heap.size w w' := by
  have B0 := Lib.hid ((Below.refl w.heap.size w).alloc (Nat.le_refl _) (.cells (tc k s n c a) 46))
  unfold tk tc
  go_enter Tryd.func21, Tryd.ntmps21
  go_wp2_with fail
  go_ret2
  exact ⟨rfl, B0.out⟩
theorem num_minus (s : ByteArray) (n c a v : Int) (h : reck 2 0 n = v) (w : World) : Calls Tryd.prog 21 #[tk 2 s n c a, .bool true] w fun e w' => e = .returned (.tuple #[.int .i64 v, .int .i64 0]) ∧ Below w.heap.size w w' := by
  have B0 := Lib.hid ((Below.refl w.heap.size w).alloc (Nat.le_refl _) (.cells (tc 2 s n c a) 46))
  have H := Lib.hid h
  clear h
  unfold tk tc
  go_enter Tryd.func21, Tryd.ntmps21
  go_wp2_with fail
  refine (reck_v _ _ _ v H.out _).mono ?_
  rintro e w1 ⟨rfl, rfl⟩
  go_wp2_with fail
  go_ret2
  exact ⟨rfl, B0.out⟩
theorem num_least (s : ByteArray) (c a : Int) (w : World) : Calls Tryd.prog 21 #[tk 2 s (-9223372036854775808) c a, .bool false] w fun e w' => e = .returned (.tuple #[.int .i64 0, .int .i64 2]) ∧ Below w.heap.size w w' := by
  have B0 := Lib.hid ((Below.refl w.heap.size w).alloc (Nat.le_refl _) (.cells (tc 2 s (-9223372036854775808) c a) 46))
  unfold tk tc
  go_enter Tryd.func21, Tryd.ntmps21
  go_wp2_with fail
  go_ret2
  exact ⟨rfl, B0.out⟩
theorem num_yes (s : ByteArray) (n c a : Int) (h : (n == -9223372036854775808) = false) (w : World) : Calls Tryd.prog 21 #[tk 2 s n c a, .bool false] w fun e w' => e = .returned (.tuple #[.int .i64 n, .int .i64 0]) ∧ Below w.heap.size w w' := by
  have B0 := Lib.hid ((Below.refl w.heap.size w).alloc (Nat.le_refl _) (.cells (tc 2 s n c a) 46))
  unfold tk tc
  go_enter Tryd.func21, Tryd.ntmps21
  go_wp2_with fail
  go_ret2
  exact ⟨rfl, B0.out⟩
theorem num_v (t : Tok) (m : Bool) (n c : Int) (h : numT t m = (n, c)) (w : World) : Calls Tryd.prog 21 #[tkv t, .bool m] w fun e w' => e = .returned (.tuple #[.int .i64 n, .int .i64 c]) ∧ Below w.heap.size w w' := by
  obtain ⟨kind, text, tn, cls, at_⟩ := t
  unfold tkv
  unfold numT at h
  by_cases hk : kind = 2
  · subst hk
    rw [if_neg (fun k => k rfl)] at h
    cases m
    · rw [if_neg (by decide)] at h
      by_cases hl : tn = -9223372036854775808
      · subst hl
        rw [if_pos rfl] at h
        injection h with h1 h2
        subst h1; subst h2
        exact num_least _ _ _ w
      · rw [if_neg hl] at h
        injection h with h1 h2
        subst h1; subst h2
        exact num_yes _ _ _ _ (by rw [beq_eq_false_iff_ne]; exact hl) w
    · rw [if_pos rfl] at h
      injection h with h1 h2
      subst h2
      exact num_minus _ _ _ _ n h1 w
  · rw [if_pos hk] at h
    injection h with h1 h2
    subst h1; subst h2
    exact num_no _ _ _ _ _ _ (by rw [beq_eq_false_iff_ne]; show ¬ (kind : Int) = 2; omega) (by rw [bne_iff_ne]; show ¬ (kind : Int) = 2; omega) w
theorem opened_v (m : Bool) (w : World) : Calls Tryd.prog 20 #[.bool m] w fun e w' => e = .returned (.agg #[.bool m, .int .i64 0, .int .i64 1, .int .i64 1]) ∧ Below w.heap.size w w' := by
  have B0 := Lib.hid ((Below.refl w.heap.size w).alloc (Nat.le_refl _) (.cells #[.bool m, .int .i64 0, .int .i64 1, .int .i64 1] 55))
  go_enter Tryd.func20, Tryd.ntmps20
  go_wp2_with fail
  refine bodyPost_ret (results_cell_row (fn := Tryd.f20) rfl _ _ w.heap.size 55 #[.bool m, .int .i64 0, .int .i64 1, .int .i64 1] (0, 0) _ rfl (heap_alloc_new w _) Tryd.underlying55 rfl (by kernel_rfl)) rfl ?_
  exact ⟨rfl, B0.out⟩
theorem times_v (g i : Nat) (p n v : Int) (h : reck 3 p n = v) (w : World) (hc : w.cell? ⟨g, i + 3, none⟩ = some (.int .i64 p)) (hf : w.frozen? ⟨g, i + 3, none⟩ = false) :
    Calls Tryd.prog 22 #[.pointer (some ⟨g, i, none⟩), .int .i64 n] w fun e w' => e = .returned (.tuple #[]) ∧ w' = w.setCell ⟨g, i + 3, none⟩ (.int .i64 v) := by
  have H := Lib.hid h
  clear h
  go_enter Tryd.func22, Tryd.ntmps22
  go_wp2_with fail
  refine (reck_v _ _ _ v H.out _).mono ?_
  rintro e w1 ⟨rfl, rfl⟩
  go_wp2_with fail
  go_end0
  exact ⟨rfl, rfl⟩
end Go.Proofs.YtgjaajofhfhadaaDoor.Fol
