/- What num.Fold answers for any slices of numbers; and that the statements' own small check of the program answers true. -/
import Derived.Test.YtmfhgdaiafklnaaNum
import Derived.LoopTactic
import Derived.Below
import Derived.Deep.Light
namespace Go.Proofs.Ytmfhgdaiafklnaa
open Go.ChangeShapes Go.WideShapes Go.ChangeAt Go.RowKit
set_option linter.unusedVariables false

/-- What so many operations make, the first of them at place i; none where one makes none. -/
def foldN (f g : Nat → Int) : Nat → Nat → Int → Option Int
  | 0, _, a => some a
  | k + 1, i, a => if (doV (f i) a (g i)).2 then foldN f g k (i + 1) (doV (f i) a (g i)).1 else none
theorem foldN_yes {f g : Nat → Int} {n i : Nat} {a : Int} (h : i < n) (hd : (doV (f i) a (g i)).2 = true) : foldN f g (n - i) i a = foldN f g (n - (i + 1)) (i + 1) (doV (f i) a (g i)).1 := by
  have e : n - i = (n - (i + 1)) + 1 := by omega
  rw [e, foldN, if_pos hd]
theorem foldN_no {f g : Nat → Int} {n i : Nat} {a : Int} (h : i < n) (hd : (doV (f i) a (g i)).2 = false) : foldN f g (n - i) i a = none := by
  have e : n - i = (n - (i + 1)) + 1 := by omega
  rw [e, foldN, if_neg (by simp [hd])]
theorem foldN_end {f g : Nat → Int} {n : Nat} {a : Int} : foldN f g (n - n) n a = some a := by
  rw [Nat.sub_self, foldN]
/-- What Fold hands back. -/
def foldE (r : Option Int) : Ending := .returned (.tuple #[.int .i64 (r.getD 0), .bool r.isSome])

theorem fold_len (a : Int) (a1 a2 : Option Addr) (n1 n2 c1 c2 : Nat) (w : World) (h : ((n1 : Int) != (n2 : Int)) = true) :
    Calls Try.prog 14 #[.int .i64 a, .slice a1 n1 c1, .slice a2 n2 c2] w fun e w' => e = foldE none ∧ w = w' := by
  go_enter Try.func14, Try.ntmps14
  go_wp2
  go_ret2
  exact ⟨rfl, rfl⟩
theorem fold_empty (a : Int) (a1 a2 : Option Addr) (c1 c2 : Nat) (w : World) :
    Calls Try.prog 14 #[.int .i64 a, .slice a1 0 c1, .slice a2 0 c2] w fun e w' => e = foldE (some a) ∧ w = w' := by
  go_enter Try.func14, Try.ntmps14
  go_wp2
  go_loop [0, 19] (fun t i => t = .int .i64 a ∧ i = .int .i64 0) (fun _ _ => 0)
  case atStart => exact ⟨rfl, rfl⟩
  case round =>
    obtain ⟨rfl, rfl⟩ := hrel
    go_wp2
    go_ret2
    exact ⟨rfl, rfl⟩
theorem fold_some (a : Int) (b1 o1 b2 o2 n c1 c2 : Nat) (f g : Nat → Int) (w : World) (hn : n ≤ 9223372036854775807)
    (hf : ∀ i, i < n → w.cell? ⟨b1, o1 + i, none⟩ = some (.int .i64 (f i))) (hg : ∀ i, i < n → w.cell? ⟨b2, o2 + i, none⟩ = some (.int .i64 (g i))) :
    Calls Try.prog 14 #[.int .i64 a, .slice (some ⟨b1, o1, none⟩) n c1, .slice (some ⟨b2, o2, none⟩) n c2] w fun e w' => e = foldE (foldN f g n 0 a) ∧ w = w' := by
  have HF : Hid (∀ i, i < n → w.cell? ⟨b1, o1 + i, none⟩ = some (.int .i64 (f i))) := hf
  have HG : Hid (∀ i, i < n → w.cell? ⟨b2, o2 + i, none⟩ = some (.int .i64 (g i))) := hg
  clear hf hg
  go_enter Try.func14, Try.ntmps14
  go_wp2
  go_loop [0, 19] (fun t i => ∃ (k : Nat) (x : Int), k ≤ n ∧ i = .int .i64 k ∧ t = .int .i64 x ∧ Hid (foldN f g (n - k) k x = foldN f g n 0 a)) (fun _ i => n - (intOf i).toNat)
  case atStart => exact ⟨0, a, Nat.zero_le _, rfl, rfl, rfl⟩
  case round =>
    obtain ⟨k, x, hk, rfl, rfl, HX⟩ := hrel
    by_cases hlt : k < n
    · have c1 := HF.out k hlt
      have c2 := HG.out k hlt
      cases hd : (doV (f k) x (g k)).2
      · go_wp2_with (go_at_call 8; refine (do_any _ _ _ _).mono ?_; rintro e w' ⟨rfl, rfl⟩)
        go_ret2
        refine ⟨?_, rfl⟩
        rw [← HX.out, foldN_no hlt hd]; rfl
      · have Hd : Hid ((doV (f k) x (g k)).2 = true) := hd
        go_wp2_with (go_at_call 8; refine (do_any _ _ _ _).mono ?_; rintro e w' ⟨rfl, rfl⟩)
        go_round
        case rel => exact ⟨k + 1, _, by omega, by go_num, rfl, by rw [← HX.out, foldN_yes hlt Hd.out]; exact rfl⟩
        case measure => simp [intOf]; omega
    · obtain rfl : k = n := by omega
      go_wp2
      go_ret2
      refine ⟨?_, rfl⟩
      rw [← HX.out, foldN_end]; rfl

theorem div_w (w : World) : Calls Try.prog 8 #[.int .i64 10, .int .i64 (-7), .int .i64 2] w fun e w' => e = .returned (.tuple #[.int .i64 (-3), .bool true]) ∧ w = w' := by
  have h : divV (-7) 2 = -3 := by unfold divV; rw [IntWalk.wrap64_in _ (by decide)]; decide
  have k := do_div (-7) 2 (by decide) (by decide) w
  rw [h] at k
  exact k
theorem shift_w (w : World) : Calls Try.prog 15 #[.int .i64 (-1)] w fun e w' => e = .returned (.int .i64 63) ∧ w = w' := by
  have h : shV (-1) = 63 := by rw [sh_mod]; decide
  have k := shift_is (-1) w
  rw [h] at k
  exact k
theorem is_w15 (w : World) : Calls Try.prog 10 #[.int .i64 15] w fun e w' => e = .returned (.bool true) ∧ w = w' := is_any 15 w
theorem is_w16 (w : World) : Calls Try.prog 10 #[.int .i64 16] w fun e w' => e = .returned (.bool false) ∧ w = w' := is_any 16 w
theorem fold_w (b1 b2 c1 c2 : Nat) (w : World) (h0 : w.cell? ⟨b1, 0, none⟩ = some (.int .i64 1)) (h1 : w.cell? ⟨b1, 1, none⟩ = some (.int .i64 3))
    (g0 : w.cell? ⟨b2, 0, none⟩ = some (.int .i64 3)) (g1 : w.cell? ⟨b2, 1, none⟩ = some (.int .i64 4)) :
    Calls Try.prog 14 #[.int .i64 2, .slice (some ⟨b1, 0, none⟩) 2 c1, .slice (some ⟨b2, 0, none⟩) 2 c2] w fun e w' => e = .returned (.tuple #[.int .i64 20, .bool true]) ∧ w = w' := by
  have hfo : foldN (fun i => if i = 0 then 1 else 3) (fun i => if i = 0 then 3 else 4) 2 0 2 = some 20 := by
    simp [foldN, doV, addV, mulV]
    rw [IntWalk.wrap64_in 5 (by decide), IntWalk.wrap64_in _ (by decide)]; decide
  have k := fold_some 2 b1 0 b2 0 2 c1 c2 (fun i => if i = 0 then 1 else 3) (fun i => if i = 0 then 3 else 4) w (by omega)
    (fun i hi => by
      have : i = 0 ∨ i = 1 := by omega
      rcases this with rfl | rfl
      · exact h0
      · exact h1)
    (fun i hi => by
      have : i = 0 ∨ i = 1 := by omega
      rcases this with rfl | rfl
      · exact g0
      · exact g1)
  rw [hfo] at k
  exact k

theorem works_is (w : World) : Calls Try.prog 11 #[] w fun e w' => e = .returned (.bool true) ∧ Below w.heap.size w w' := by
  go_enter Try.func11, Try.ntmps11
  go_wp2_with (first
    | (go_at_call 8; (with_reducible refine (div_w _).mono ?_); rintro e w' ⟨rfl, rfl⟩)
    | (go_at_call 8; (with_reducible refine (do_rem0 _ _).mono ?_); rintro e w' ⟨rfl, rfl⟩)
    | (go_at_call 14; (with_reducible refine (fold_w _ _ _ _ _ ?_ ?_ ?_ ?_).mono ?_); rotate_left 4; rintro e w' ⟨rfl, rfl⟩)
    | (go_at_call 18; (with_reducible refine (flag_t _).mono ?_); rintro e w' ⟨rfl, rfl⟩)
    | (go_at_call 15; (with_reducible refine (shift_w _).mono ?_); rintro e w' ⟨rfl, rfl⟩)
    | (go_at_call 10; (with_reducible refine (is_w15 _).mono ?_); rintro e w' ⟨rfl, rfl⟩)
    | (go_at_call 10; (with_reducible refine (is_w16 _).mono ?_); rintro e w' ⟨rfl, rfl⟩))
  · go_ret
    exact ⟨rfl, ((Below.refl _ _).alloc (Nat.le_refl _) _).alloc (by simp) _⟩
  all_goals (go_light; simp)
end Go.Proofs.Ytmfhgdaiafklnaa
