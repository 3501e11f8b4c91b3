/- Shifts on words of 64 bits, and what is lost by them. -/
import Derived.Test.YtmfhgdaiafklnaaMath
namespace Go.Proofs.Ytmfhgdaiafklnaa
open Go.RowKit

theorem B_toNat (a : Int) : ((B a).toNat : Int) = IntKind.u64.wrap a := by
  rw [IntKind.wrap_u64, B, BitVec.toNat_ofInt]
  omega
theorem shl_B (a : Int) (n : Nat) : shlV a n = (B a <<< n).toInt := by
  unfold shlV
  rw [wrap_toInt, Int.toNat_natCast, B, BitVec.ofInt_mul]
  congr 1
  apply BitVec.eq_of_toNat_eq
  rw [BitVec.toNat_mul, BitVec.toNat_shiftLeft, Nat.shiftLeft_eq]
  have : (BitVec.ofInt 64 ((2 : Int) ^ n)).toNat = 2 ^ n % 2 ^ 64 := by
    rw [show ((2 : Int) ^ n) = ((2 ^ n : Nat) : Int) by simp, BitVec.ofInt_natCast, BitVec.toNat_ofNat]
  rw [this, Nat.mul_mod_mod]
theorem shr_B (a : Int) (n : Nat) : shrV a n = (B a >>> n).toInt := by
  unfold shrV
  rw [← B_toNat, wrap_toInt, Int.toNat_natCast]
  have e : ((B a).toNat : Int) / 2 ^ n = (((B a).toNat / 2 ^ n : Nat) : Int) := by simp
  rw [e, B, BitVec.ofInt_natCast]
  congr 1
  apply BitVec.eq_of_toNat_eq
  rw [BitVec.toNat_ofNat, BitVec.toNat_ushiftRight, Nat.shiftRight_eq_div_pow]
  exact Nat.mod_eq_of_lt (Nat.lt_of_le_of_lt (Nat.div_le_self _ _) (B a).isLt)
theorem sar_B (a : Int) (h : fit a) (n : Nat) : sarV a n = ((B a).sshiftRight n).toInt := by
  unfold sarV
  rw [BitVec.toInt_sshiftRight, toInt_B h, Int.shiftRight_eq_div_pow, Int.toNat_natCast]
  simp
/-- a, with its n highest bits struck. -/
def keptV (a : Int) (n : Nat) : Int := ((B a <<< n) >>> n).toInt
theorem kept_0 (a : Int) (h : fit a) : keptV a 0 = a := by
  unfold keptV; simp [toInt_B h]
theorem kept_n (a : Int) (n : Nat) : shrV (shlV a n) n = keptV a n := by
  rw [shr_B, shl_B, B_toInt]; rfl
theorem least_shr (i : Nat) : B ((-9223372036854775808 : Int) / 2 ^ i) = (B (-9223372036854775808)).sshiftRight i := by
  have h := sar_B (-9223372036854775808) (by unfold fit; omega) i
  unfold sarV at h
  rw [Int.toNat_natCast] at h
  rw [h, B_toInt]
theorem kept_step (a : Int) (i : Nat) (hi : i < 64) : bits .andNot .i64 (keptV a i) ((-9223372036854775808 : Int) / 2 ^ i) = keptV a (i + 1) := by
  show IntKind.i64.wrap ((B (keptV a i) &&& ~~~ B ((-9223372036854775808 : Int) / 2 ^ i)).toNat : Int) = _
  rw [bits_wrap, BitVec.ofNat_toNat, least_shr i]
  unfold keptV
  rw [B_toInt]
  congr 1
  apply BitVec.eq_of_getLsbD_eq
  intro j hj
  have e : B (-9223372036854775808) = BitVec.twoPow 64 63 := by decide
  rw [e]
  simp [BitVec.getLsbD_sshiftRight, BitVec.getLsbD_shiftLeft, BitVec.getLsbD_ushiftRight, BitVec.getLsbD_twoPow, BitVec.msb_eq_getLsbD_last]
  by_cases h1 : i + j < 64 <;> by_cases h2 : i + 1 + j < 64 <;> simp [h1, h2]
  · have n1 : ¬ i + j < i := by omega
    have n2 : ¬ 63 = i + j := by omega
    have n3 : ¬ i + 1 + j < i + 1 := by omega
    simp [n1, n2, n3, hj]
  · intro _ _; omega
  · omega
theorem low_is (a : Int) (h : fit a) (n : Nat) (hn : n ≤ 63) : subV a (shlV (sarV a n) n) = a % 2 ^ n := by
  unfold subV shlV sarV fit at *
  rw [Int.toNat_natCast]
  have hp : (0 : Int) < 2 ^ n := Int.pow_pos (by omega)
  have h1 := Int.emod_nonneg a (show (2 : Int) ^ n ≠ 0 by omega)
  have h2 := Int.emod_lt_of_pos a hp
  have h3 := Int.mul_ediv_add_emod a (2 ^ n)
  have hd : (2 : Int) ^ n ∣ 9223372036854775808 := ⟨2 ^ (63 - n), by rw [← Int.pow_add, Nat.add_sub_cancel' hn]; rfl⟩
  obtain ⟨c, hc⟩ := hd
  have h4 : -9223372036854775808 ≤ 2 ^ n * (a / 2 ^ n) := by
    have : -c ≤ a / 2 ^ n := by
      rw [Int.le_ediv_iff_mul_le hp]
      rw [Int.neg_mul, Int.mul_comm, ← hc]; exact h.1
    have := Int.mul_le_mul_of_nonneg_left this (Int.le_of_lt hp)
    rw [Int.mul_neg, ← hc] at this
    exact this
  rw [Int.mul_comm (a / 2 ^ n)]
  rw [IntWalk.wrap64_in (2 ^ n * (a / 2 ^ n)) ⟨h4, by omega⟩]
  have h5 : (2 : Int) ^ n ≤ 9223372036854775808 := Int.le_of_dvd (by omega) ⟨c, hc⟩
  rw [IntWalk.wrap64_in _ ⟨by omega, by omega⟩]
  omega
end Go.Proofs.Ytmfhgdaiafklnaa
