/- What the program's Letter and Sign answer, and the document's Letter. -/
import Derived.Test.YtmckplgbaalpbaaDoorRows
import Derived.Test.YtmckplgbaalpbaaDoorNamMath
import Derived.Outline
import Derived.WalkKit
import Derived.WalkLawsBesides
import Derived.LoopTactic
import Derived.Below
import Derived.IntWalk
import Derived.Deep.Light
import Derived.Deep.LoopGhost
import Derived.Deep.WholeRow
import Derived.Lib.Hide
import Derived.Laws.IdiomStrings
import Derived.OwnWalk
namespace Go.Proofs.YtmckplgbaalpbaaDoor.Nam
open Go.ChangeShapes Go.WideShapes Go.RowKit
set_option linter.unusedVariables false

theorem len_list (s : ByteArray) : s.data.toList.length = s.size := rfl
theorem nat_beq {c : UInt8} {n : Nat} (h : c.toNat = n) : ((c.toNat : Int) == (n : Int)) = true := by rw [beq_iff_eq]; omega
theorem nat_bne {c : UInt8} {n : Nat} (h : c.toNat ≠ n) : ((c.toNat : Int) == (n : Int)) = false := by rw [beq_eq_false_iff_ne]; omega
theorem ret_b {x y : Bool} (h : x = y) : Ending.returned (.bool x) = .returned (.bool y) := by rw [h]
theorem letter_yes {c : UInt8} (h : (97 ≤ c.toNat ∧ c.toNat ≤ 122) ∨ c.toNat = 95) : letter c = true := by unfold letter; simp; exact h
theorem letter_no {c : UInt8} (h : ¬ ((97 ≤ c.toNat ∧ c.toNat ≤ 122) ∨ c.toNat = 95)) : letter c = false := by
  unfold letter; rw [Bool.or_eq_false_iff, decide_eq_false_iff_not, decide_eq_false_iff_not]; exact ⟨fun k => h (.inl k), fun k => h (.inr k)⟩
theorem letter_v (c : UInt8) (b : Bool) (hb : letter c = b) (w : World) : Calls Tryd.prog 27 #[.int .u8 (c.toNat : Int)] w fun e w' => e = .returned (.bool b) ∧ w = w' := by
  have ways : (97 ≤ c.toNat ∧ c.toNat ≤ 122) ∨ c.toNat = 95 ∨ (c.toNat < 97 ∧ c.toNat ≠ 95) ∨ 122 < c.toNat := by omega
  rcases ways with ⟨h1, h2⟩ | h | ⟨h1, h2⟩ | h
  · rw [letter_yes (.inl ⟨h1, h2⟩)] at hb; subst hb
    go_enter Tryd.func27, Tryd.ntmps27
    go_wp2
    go_ret
    exact ⟨ret_b (by first | rfl | assumption | (rw [decide_eq_true_iff]; omega) | (rw [decide_eq_false_iff_not]; omega) | (rw [Bool.or_eq_false_iff, decide_eq_false_iff_not, beq_eq_false_iff_ne]; omega)), rfl⟩
  · rw [letter_yes (.inr h)] at hb; subst hb
    have c1 := nat_beq h
    have h1 : c.toNat < 97 := by omega
    have h2 : c.toNat ≤ 122 := by omega
    clear h
    go_enter Tryd.func27, Tryd.ntmps27
    go_wp2
    go_ret
    exact ⟨ret_b (by first | rfl | assumption | (rw [decide_eq_true_iff]; omega) | (rw [decide_eq_false_iff_not]; omega) | (rw [Bool.or_eq_false_iff, decide_eq_false_iff_not, beq_eq_false_iff_ne]; omega)), rfl⟩
  · rw [letter_no (by omega)] at hb; subst hb
    have c1 := nat_bne h2
    clear h2
    go_enter Tryd.func27, Tryd.ntmps27
    go_wp2
    go_ret
    exact ⟨ret_b (by first | rfl | assumption | (rw [decide_eq_true_iff]; omega) | (rw [decide_eq_false_iff_not]; omega) | (rw [Bool.or_eq_false_iff, decide_eq_false_iff_not, beq_eq_false_iff_ne]; omega)), rfl⟩
  · rw [letter_no (by omega)] at hb; subst hb
    have c1 : ((c.toNat : Int) == ((95 : Nat) : Int)) = false := nat_bne (by omega)
    have h1 : 97 ≤ c.toNat := by omega
    go_enter Tryd.func27, Tryd.ntmps27
    go_wp2
    go_ret
    exact ⟨ret_b (by first | rfl | assumption | (rw [decide_eq_true_iff]; omega) | (rw [decide_eq_false_iff_not]; omega) | (rw [Bool.or_eq_false_iff, decide_eq_false_iff_not, beq_eq_false_iff_ne]; omega)), rfl⟩
theorem refletter_v (c : UInt8) (b : Bool) (hb : letter c = b) (w : World) : Calls Tryd.prog 55 #[.int .u8 (c.toNat : Int)] w fun e w' => e = .returned (.bool b) ∧ w = w' := by
  have ways : (97 ≤ c.toNat ∧ c.toNat ≤ 122) ∨ c.toNat = 95 ∨ (c.toNat < 97 ∧ c.toNat ≠ 95) ∨ 122 < c.toNat := by omega
  rcases ways with ⟨h1, h2⟩ | h | ⟨h1, h2⟩ | h
  · rw [letter_yes (.inl ⟨h1, h2⟩)] at hb; subst hb
    go_enter Tryd.func55, Tryd.ntmps55
    go_wp2
    go_ret
    exact ⟨ret_b (by first | rfl | assumption | (rw [decide_eq_true_iff]; omega) | (rw [decide_eq_false_iff_not]; omega) | (rw [Bool.or_eq_false_iff, decide_eq_false_iff_not, beq_eq_false_iff_ne]; omega)), rfl⟩
  · rw [letter_yes (.inr h)] at hb; subst hb
    have c1 := nat_beq h
    have h1 : c.toNat < 97 := by omega
    have h2 : c.toNat ≤ 122 := by omega
    clear h
    go_enter Tryd.func55, Tryd.ntmps55
    go_wp2
    go_ret
    exact ⟨ret_b (by first | rfl | assumption | (rw [decide_eq_true_iff]; omega) | (rw [decide_eq_false_iff_not]; omega) | (rw [Bool.or_eq_false_iff, decide_eq_false_iff_not, beq_eq_false_iff_ne]; omega)), rfl⟩
  · rw [letter_no (by omega)] at hb; subst hb
    have c1 := nat_bne h2
    clear h2
    go_enter Tryd.func55, Tryd.ntmps55
    go_wp2
    go_ret
    exact ⟨ret_b (by first | rfl | assumption | (rw [decide_eq_true_iff]; omega) | (rw [decide_eq_false_iff_not]; omega) | (rw [Bool.or_eq_false_iff, decide_eq_false_iff_not, beq_eq_false_iff_ne]; omega)), rfl⟩
  · rw [letter_no (by omega)] at hb; subst hb
    have c1 : ((c.toNat : Int) == ((95 : Nat) : Int)) = false := nat_bne (by omega)
    have h1 : 97 ≤ c.toNat := by omega
    go_enter Tryd.func55, Tryd.ntmps55
    go_wp2
    go_ret
    exact ⟨ret_b (by first | rfl | assumption | (rw [decide_eq_true_iff]; omega) | (rw [decide_eq_false_iff_not]; omega) | (rw [Bool.or_eq_false_iff, decide_eq_false_iff_not, beq_eq_false_iff_ne]; omega)), rfl⟩
theorem sign_v (c : UInt8) (b : Bool) (hb : sign c = b) (w : World) : Calls Tryd.prog 60 #[.int .u8 (c.toNat : Int)] w fun e w' => e = .returned (.bool b) ∧ w = w' := by
  obtain ⟨x, hx⟩ : ∃ x, letter c = x := ⟨_, rfl⟩
  have HX := Lib.hid hx
  cases x
  · have hs : sign c = decide (48 ≤ c.toNat ∧ c.toNat ≤ 57) := by unfold sign; rw [hx]; rfl
    rw [hs] at hb
    clear hs hx
    have ways : (48 ≤ c.toNat ∧ c.toNat ≤ 57) ∨ c.toNat < 48 ∨ 57 < c.toNat := by omega
    rcases ways with h | h | h
    · rw [decide_eq_true h] at hb; subst hb
      obtain ⟨h1, h2⟩ := h
      go_enter Tryd.func60, Tryd.ntmps60
      go_wp2_with fail
      refine (letter_v c _ HX.out _).mono ?_
      rintro e w1 ⟨rfl, rfl⟩
      go_wp2_with fail
      go_ret
      exact ⟨ret_b (by first | rfl | assumption | (rw [decide_eq_true_iff]; omega) | (rw [decide_eq_false_iff_not]; omega) | (rw [Bool.or_eq_false_iff, decide_eq_false_iff_not, beq_eq_false_iff_ne]; omega)), rfl⟩
    · rw [decide_eq_false (by omega)] at hb; subst hb
      go_enter Tryd.func60, Tryd.ntmps60
      go_wp2_with fail
      refine (letter_v c _ HX.out _).mono ?_
      rintro e w1 ⟨rfl, rfl⟩
      go_wp2_with fail
      go_ret
      exact ⟨ret_b (by first | rfl | assumption | (rw [decide_eq_true_iff]; omega) | (rw [decide_eq_false_iff_not]; omega) | (rw [Bool.or_eq_false_iff, decide_eq_false_iff_not, beq_eq_false_iff_ne]; omega)), rfl⟩
    · rw [decide_eq_false (by omega)] at hb; subst hb
      have h1 : 48 ≤ c.toNat := by omega
      go_enter Tryd.func60, Tryd.ntmps60
      go_wp2_with fail
      refine (letter_v c _ HX.out _).mono ?_
      rintro e w1 ⟨rfl, rfl⟩
      go_wp2_with fail
      go_ret
      exact ⟨ret_b (by first | rfl | assumption | (rw [decide_eq_true_iff]; omega) | (rw [decide_eq_false_iff_not]; omega) | (rw [Bool.or_eq_false_iff, decide_eq_false_iff_not, beq_eq_false_iff_ne]; omega)), rfl⟩
  · rw [letter_sign hx] at hb; subst hb
    clear hx
    go_enter Tryd.func60, Tryd.ntmps60
    go_wp2_with fail
    refine (letter_v c _ HX.out _).mono ?_
    rintro e w1 ⟨rfl, rfl⟩
    go_wp2_with fail
    go_ret
    exact ⟨ret_b (by first | rfl | assumption | (rw [decide_eq_true_iff]; omega) | (rw [decide_eq_false_iff_not]; omega) | (rw [Bool.or_eq_false_iff, decide_eq_false_iff_not, beq_eq_false_iff_ne]; omega)), rfl⟩
end Go.Proofs.YtmckplgbaalpbaaDoor.Nam
