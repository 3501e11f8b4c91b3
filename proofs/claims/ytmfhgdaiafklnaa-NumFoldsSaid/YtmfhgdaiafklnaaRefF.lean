/- The document's own dividing of sizes, bit by bit: the quotient, and what is left. -/
import Derived.Test.YtmfhgdaiafklnaaBits
namespace Go.Proofs.Ytmfhgdaiafklnaa
open Go.ChangeShapes Go.WideShapes Go.ChangeAt Go.RowKit
set_option linter.unusedVariables false

theorem dstep_no (M D t : Nat) (hD : 0 < D) (h : 2 * (M % D) + t < D) : (2 * M + t) / D = 2 * (M / D) ∧ (2 * M + t) % D = 2 * (M % D) + t := by
  have e : 2 * M + t = (2 * (M % D) + t) + D * (2 * (M / D)) := by
    have := Nat.div_add_mod M D
    rw [Nat.mul_left_comm]
    omega
  rw [e]
  refine ⟨?_, ?_⟩
  · rw [Nat.add_mul_div_left _ _ hD, Nat.div_eq_of_lt h]; omega
  · rw [Nat.add_mul_mod_self_left, Nat.mod_eq_of_lt h]
theorem dstep_yes (M D t : Nat) (hD : 0 < D) (ht : t ≤ 1) (h : D ≤ 2 * (M % D) + t) : (2 * M + t) / D = 2 * (M / D) + 1 ∧ (2 * M + t) % D = 2 * (M % D) + t - D := by
  have hm := Nat.mod_lt M hD
  have e : 2 * M + t = (2 * (M % D) + t - D) + D * (2 * (M / D) + 1) := by
    have := Nat.div_add_mod M D
    rw [Nat.mul_add, Nat.mul_left_comm]
    omega
  have h2 : 2 * (M % D) + t - D < D := by omega
  rw [e]
  refine ⟨?_, ?_⟩
  · rw [Nat.add_mul_div_left _ _ hD, Nat.div_eq_of_lt h2]; omega
  · rw [Nat.add_mul_mod_self_left, Nat.mod_eq_of_lt h2]
theorem up_two (N m : Nat) : N / 2 ^ m = 2 * (N / 2 ^ (m + 1)) + N / 2 ^ m % 2 := by
  rw [Nat.pow_succ, ← Nat.div_div_eq_div_mul]
  omega
theorem bit_cast (A m : Nat) : (A : Int) / 2 ^ m % 2 = ((A / 2 ^ m % 2 : Nat) : Int) := by simp
theorem bit_tmod (A m : Nat) : ((A : Int) / 2 ^ m).tmod 2 = ((A / 2 ^ m % 2 : Nat) : Int) := by
  rw [Int.tmod_eq_emod_of_nonneg (Int.ediv_nonneg (by omega) (Int.le_of_lt (Int.pow_pos (by omega))))]; exact bit_cast A m
theorem over_is (R t D : Nat) (hR : 9223372036854775808 ≤ R) (hlt : R < D) (hD : D ≤ 18446744073709551615) (ht : t ≤ 1) :
    IntKind.u64.wrap (IntKind.u64.wrap (IntKind.u64.wrap (2 * (R : Int)) + (t : Int)) - (D : Int)) = ((2 * R + t - D : Nat) : Int) := by
  rw [IntKind.wrap_u64, IntKind.wrap_u64, IntKind.wrap_u64]
  omega

/-- What is known of the quotient and the rest when m bits are still to come. -/
def Far (A D m Q R : Nat) : Prop := Q = A / 2 ^ m / D ∧ R = A / 2 ^ m % D
theorem far_no {A D m Q R : Nat} (hD : 0 < D) (h : Far A D (m + 1) Q R) (hl : 2 * R + A / 2 ^ m % 2 < D) : Far A D m (2 * Q) (2 * R + A / 2 ^ m % 2) := by
  obtain ⟨h1, h2⟩ := h
  have hd := dstep_no (A / 2 ^ (m + 1)) D (A / 2 ^ m % 2) hD (by rw [← h2]; exact hl)
  rw [← up_two A m] at hd
  exact ⟨by rw [hd.1, h1], by rw [hd.2, h2]⟩
theorem far_yes {A D m Q R : Nat} (hD : 0 < D) (h : Far A D (m + 1) Q R) (hl : D ≤ 2 * R + A / 2 ^ m % 2) : Far A D m (2 * Q + 1) (2 * R + A / 2 ^ m % 2 - D) := by
  obtain ⟨h1, h2⟩ := h
  have hd := dstep_yes (A / 2 ^ (m + 1)) D (A / 2 ^ m % 2) hD (by omega) (by rw [← h2]; exact hl)
  rw [← up_two A m] at hd
  exact ⟨by rw [hd.1, h1], by rw [hd.2, h2]⟩
theorem far_bd {A D m Q R : Nat} (hD : 0 < D) (hA : A < 2 ^ 64) (h : Far A D (m + 1) Q R) : Q ≤ 9223372036854775807 ∧ R < D := by
  obtain ⟨h1, h2⟩ := h
  have := div_small A m hA
  have h3 := Nat.div_le_self (A / 2 ^ (m + 1)) D
  exact ⟨by omega, by rw [h2]; exact Nat.mod_lt _ hD⟩
theorem far_0 {A D Q R : Nat} (h : Far A D 0 Q R) : Q = A / D ∧ R = A % D := by
  obtain ⟨h1, h2⟩ := h
  simp at h1 h2
  exact ⟨h1, h2⟩
theorem far_64 {A D : Nat} (hA : A < 2 ^ 64) : Far A D 64 0 0 := by
  unfold Far; rw [Nat.div_eq_of_lt hA]; simp
theorem ret2_int {k l : IntKind} {a b c d : Int} (h : a = b) (g : c = d) : Ending.returned (.tuple #[.int k a, .int l c]) = .returned (.tuple #[.int k b, .int l d]) := by rw [h, g]

theorem divide_is (A D : Nat) (hA : A < 2 ^ 64) (hD : 0 < D) (hD2 : D ≤ 18446744073709551615) (w : World) :
    Calls Try.prog 25 #[.int .u64 (A : Int), .int .u64 (D : Int)] w fun e w' => e = .returned (.tuple #[.int .u64 ((A / D : Nat) : Int), .int .u64 ((A % D : Nat) : Int)]) ∧ Below w.heap.size w w' := by
  obtain ⟨q0, hq0⟩ : ∃ q0, A / D = q0 := ⟨_, rfl⟩
  obtain ⟨r0, hr0⟩ : ∃ r0, A % D = r0 := ⟨_, rfl⟩
  rw [hq0, hr0]
  have HQ := Lib.hid hq0
  have HR := Lib.hid hr0
  have HA := Lib.hid hA
  have HAb : (A : Int) ≤ 18446744073709551615 := by omega
  clear hq0 hr0 hA
  go_enter Try.func25, Try.ntmps25
  go_wp2_with fail
  go_loopg [6, 7, 8] 64 (fun gk q r i wr => ∃ (z : Int) (Q R : Nat), z + 1 = gk ∧ gk ≤ 64 ∧ i = .int .i64 z ∧ q = .int .u64 (Q : Int) ∧ r = .int .u64 (R : Int) ∧ Hid (Far A D gk Q R ∧ w = wr))
  case atStart => exact ⟨63, 0, 0, rfl, by omega, rfl, rfl, rfl, far_64 HA.out, rfl⟩
  case round =>
    obtain ⟨z, Q, R, hz, hg, rfl, rfl, rfl, HH⟩ := hrel
    obtain rfl : w = wr := HH.out.2
    by_cases h0 : gk = 0
    · subst h0
      obtain rfl : z = -1 := by omega
      have hf := far_0 HH.out.1
      have e1 : Q = q0 := by rw [hf.1]; exact HQ.out
      have e2 : R = r0 := by rw [hf.2]; exact HR.out
      have E1 := Lib.hid e1
      have E2 := Lib.hid e2
      clear hf e1 e2
      go_wp2_with fail
      go_ret2
      exact ⟨ret2_int (by rw [E1.out]) (by rw [E2.out]), Below.refl _ _⟩
    · obtain ⟨m, rfl⟩ : ∃ m, gk = m + 1 := ⟨gk - 1, by omega⟩
      obtain rfl : z = m := by omega
      obtain ⟨b1, b2⟩ := far_bd hD HA.out HH.out.1
      have hm : (m : Int) < 64 := by omega
      have hm2 : m < 64 := by omega
      obtain ⟨t, ht⟩ : ∃ t, A / 2 ^ m % 2 = t := ⟨_, rfl⟩
      have t1 : t ≤ 1 := by omega
      have hbit : ((A : Int) / 2 ^ m).tmod 2 = (t : Int) := by rw [bit_tmod, ht]
      have no := far_no hD HH.out.1
      have yes := far_yes hD HH.out.1
      rw [ht] at no yes
      have NO := Lib.hid no
      have YES := Lib.hid yes
      clear no yes ht hz
      by_cases ho : 9223372036854775808 ≤ R
      · have OV := Lib.hid (over_is R t D ho b2 hD2 t1)
        have y1 := YES.out (by omega)
        have Y1 := Lib.hid y1
        have ho2 : decide ((9223372036854775808 : Int) ≤ (R : Int)) = true := by rw [decide_eq_true_iff]; omega
        clear y1 NO YES ho
        go_wp2_with fail
        go_roundg m
        case measure => omega
        case rel => exact ⟨(m : Int) - 1, 2 * Q + 1, 2 * R + t - D, by omega, by omega, rfl, by first | rfl | go_num, by rw [OV.out], Y1.out, rfl⟩
      · have ho1 : R ≤ 9223372036854775807 := by omega
        have ho2 : decide ((9223372036854775808 : Int) ≤ (R : Int)) = false := by rw [decide_eq_false_iff_not]; omega
        clear ho
        by_cases hc : D ≤ 2 * R + t
        · have Y1 := Lib.hid (YES.out hc)
          have hc1 : decide ((D : Int) ≤ 2 * (R : Int) + (t : Int)) = true := by rw [decide_eq_true_iff]; omega
          clear NO YES
          go_wp2_with fail
          go_roundg m
          case measure => omega
          case rel => exact ⟨(m : Int) - 1, 2 * Q + 1, 2 * R + t - D, by omega, by omega, rfl, by first | rfl | go_num, by congr 1; omega, Y1.out, rfl⟩
        · have N1 := Lib.hid (NO.out (by omega))
          have hc1 : decide ((D : Int) ≤ 2 * (R : Int) + (t : Int)) = false := by rw [decide_eq_false_iff_not]; omega
          clear NO YES hc
          go_wp2_with fail
          go_roundg m
          case measure => omega
          case rel => exact ⟨(m : Int) - 1, 2 * Q, 2 * R + t, by omega, by omega, rfl, by first | rfl | go_num, by first | rfl | go_num, N1.out, rfl⟩
end Go.Proofs.Ytmfhgdaiafklnaa
