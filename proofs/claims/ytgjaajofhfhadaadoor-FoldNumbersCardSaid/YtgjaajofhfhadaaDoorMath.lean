/- What each operation makes of two numbers, as plain functions on integers, and that these are the operations on words of 64 bits. -/
import Derived.WalkKit
import Derived.ProofKit
import Derived.OpenShut
namespace Go.Proofs.YtgjaajofhfhadaaDoor
open Go.RowKit

def fit (n : Int) : Prop := -9223372036854775808 ≤ n ∧ n ≤ 9223372036854775807
def addV (a b : Int) : Int := wrap64 (a + b)
def subV (a b : Int) : Int := wrap64 (a - b)
def mulV (a b : Int) : Int := wrap64 (a * b)
def andV (a b : Int) : Int := bits .and .i64 a b
def orV (a b : Int) : Int := bits .or .i64 a b
def xorV (a b : Int) : Int := bits .xor .i64 a b
def shV (b : Int) : Int := bits .and .i64 b 63
def shlV (a n : Int) : Int := wrap64 (a * 2 ^ n.toNat)
def shrV (a n : Int) : Int := wrap64 (IntKind.u64.wrap a / 2 ^ n.toNat)
def sarV (a n : Int) : Int := a / 2 ^ n.toNat
def divV (a b : Int) : Int := wrap64 (a.tdiv b)
def remV (a b : Int) : Int := a.tmod b
def flagV (c : Bool) : Int := if c then 1 else 0
def doV (op a b : Int) : Int × Bool :=
  if op = 1 then (addV a b, true) else if op = 2 then (subV a b, true) else if op = 3 then (mulV a b, true)
  else if op = 4 then (andV a b, true) else if op = 5 then (orV a b, true) else if op = 6 then (xorV a b, true)
  else if op = 7 then (shlV a (shV b), true) else if op = 8 then (shrV a (shV b), true) else if op = 9 then (sarV a (shV b), true)
  else if op = 10 then (if b = 0 then (0, false) else (divV a b, true)) else if op = 11 then (if b = 0 then (0, false) else (remV a b, true))
  else if op = 12 then (flagV (a == b), true) else if op = 13 then (flagV (a != b), true) else if op = 14 then (flagV (decide (a < b)), true)
  else if op = 15 then (flagV (decide (a ≤ b)), true) else (0, false)

abbrev B (a : Int) : BitVec 64 := BitVec.ofInt 64 a

theorem wrap_toInt (n : Int) : wrap64 n = (B n).toInt := by
  rw [BitVec.toInt_ofInt]
  unfold wrap64 Int.bmod
  simp only [Nat.reducePow]
  split <;> omega
theorem toInt_B {a : Int} (h : fit a) : (B a).toInt = a := by
  rw [← wrap_toInt]; exact IntWalk.wrap64_in a h
theorem B_toInt (x : BitVec 64) : B x.toInt = x := BitVec.ofInt_toInt
theorem fit_toInt (x : BitVec 64) : fit x.toInt := by
  have h1 := BitVec.le_toInt x
  have h2 := BitVec.toInt_lt (x := x)
  simp at h1 h2
  unfold fit; omega
theorem fit_wrap (n : Int) : fit (wrap64 n) := by rw [wrap_toInt]; exact fit_toInt _
theorem fit_wf {n : Int} (h : fit n) : (Lit.int .i64 n).wf = true := WalkArith.wf_i64 h
theorem wf_fit {n : Int} (h : (Lit.int .i64 n).wf = true) : fit n := bounds_i64 h

theorem add_B (a b : Int) : addV a b = (B a + B b).toInt := by unfold addV; rw [wrap_toInt, B, BitVec.ofInt_add]
theorem mul_B (a b : Int) : mulV a b = (B a * B b).toInt := by unfold mulV; rw [wrap_toInt, B, BitVec.ofInt_mul]
theorem sub_B (a b : Int) : subV a b = (B a - B b).toInt := by
  unfold subV; rw [wrap_toInt, B, Int.sub_eq_add_neg, BitVec.ofInt_add, BitVec.ofInt_neg, BitVec.sub_eq_add_neg]
theorem B_add (a b : Int) : B (addV a b) = B a + B b := by rw [add_B, B_toInt]
theorem B_mul (a b : Int) : B (mulV a b) = B a * B b := by rw [mul_B, B_toInt]
theorem B_sub (a b : Int) : B (subV a b) = B a - B b := by rw [sub_B, B_toInt]

theorem bits_wrap (n : Nat) : IntKind.i64.wrap (n : Int) = (BitVec.ofNat 64 n).toInt := by
  rw [IntWalk.i64_left, wrap_toInt, B, BitVec.ofInt_natCast]
theorem and_B (a b : Int) : andV a b = (B a &&& B b).toInt := by
  show IntKind.i64.wrap ((B a &&& B b).toNat : Int) = _
  rw [bits_wrap, BitVec.ofNat_toNat]; simp
theorem or_B (a b : Int) : orV a b = (B a ||| B b).toInt := by
  show IntKind.i64.wrap ((B a ||| B b).toNat : Int) = _
  rw [bits_wrap, BitVec.ofNat_toNat]; simp
theorem xor_B (a b : Int) : xorV a b = (B a ^^^ B b).toInt := by
  show IntKind.i64.wrap ((B a ^^^ B b).toNat : Int) = _
  rw [bits_wrap, BitVec.ofNat_toNat]; simp
theorem sh_nat (b : Int) : shV b = ((B b).toNat % 64 : Nat) := by
  have h : shV b = (B b &&& B 63).toInt := and_B b 63
  rw [h]
  have e : (B b &&& B 63).toNat = (B b).toNat % 64 := by
    rw [BitVec.toNat_and]
    show (B b).toNat &&& (2 ^ 6 - 1) = _
    rw [Nat.and_two_pow_sub_one_eq_mod]
  have l : (B b).toNat % 64 < 64 := Nat.mod_lt _ (by omega)
  rw [BitVec.toInt_eq_toNat_of_lt (by rw [e]; omega), e]
theorem sh_mod (b : Int) : shV b = b % 64 := by
  rw [sh_nat, B, BitVec.toNat_ofInt]
  omega
theorem sh_bd (b : Int) : 0 ≤ shV b ∧ shV b ≤ 63 := by rw [sh_mod]; omega
end Go.Proofs.YtgjaajofhfhadaaDoor
