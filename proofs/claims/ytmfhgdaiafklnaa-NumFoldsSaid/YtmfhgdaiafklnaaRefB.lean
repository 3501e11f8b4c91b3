/- The document's own product, by sums: it is the words' own. -/
import Derived.Test.YtmfhgdaiafklnaaRefA
namespace Go.Proofs.Ytmfhgdaiafklnaa
open Go.ChangeShapes Go.WideShapes Go.ChangeAt Go.RowKit
set_option linter.unusedVariables false

def W (n : Nat) : BitVec 64 := BitVec.ofNat 64 n
theorem W_add (m n : Nat) : W (m + n) = W m + W n := BitVec.ofNat_add _ _
/-- a, doubled k times. -/
def dblV (a : Int) (k : Nat) : Int := (B a * W (2 ^ k)).toInt
/-- a times the k lowest bits of b. -/
def partV (a b : Int) (k : Nat) : Int := (B a * W ((B b).toNat % 2 ^ k)).toInt
theorem dbl_0 (a : Int) (h : fit a) : dblV a 0 = a := by
  unfold dblV W; simp [toInt_B h]
theorem dbl_step (a : Int) (k : Nat) : addV (dblV a k) (dblV a k) = dblV a (k + 1) := by
  rw [add_B]; unfold dblV
  rw [B_toInt, ← BitVec.mul_add, ← W_add, Nat.pow_succ, Nat.mul_two]
theorem part_0 (a b : Int) : partV a b 0 = 0 := by
  unfold partV W; simp [Nat.mod_one]
theorem mod_succ (x n : Nat) : x % 2 ^ (n + 1) = x % 2 ^ n + 2 ^ n * (x.testBit n).toNat := by
  rw [Nat.pow_succ, Nat.mod_mul, Nat.testBit_eq_decide_div_mod_eq]
  have : x / 2 ^ n % 2 = 0 ∨ x / 2 ^ n % 2 = 1 := by omega
  rcases this with h | h <;> simp [h]
theorem part_yes (a b : Int) (k : Nat) (h : (B b).getLsbD k = true) : addV (partV a b k) (dblV a k) = partV a b (k + 1) := by
  rw [add_B]; unfold partV dblV
  have h' : (B b).toNat.testBit k = true := h
  rw [B_toInt, B_toInt, ← BitVec.mul_add, ← W_add, mod_succ, h']; simp
theorem part_no (a b : Int) (k : Nat) (h : (B b).getLsbD k = false) : partV a b k = partV a b (k + 1) := by
  unfold partV
  have h' : (B b).toNat.testBit k = false := h
  rw [mod_succ, h']; simp
theorem part_64 (a b : Int) : partV a b 64 = mulV a b := by
  rw [mul_B]; unfold partV W
  rw [Nat.mod_eq_of_lt (B b).isLt, BitVec.ofNat_toNat]; simp

theorem mul_is (a b : Int) (ha : fit a) (w : World) :
    Calls Try.prog 22 #[.int .i64 a, .int .i64 b] w fun e w' => e = .returned (.int .i64 (mulV a b)) ∧ Below w.heap.size w w' := by
  obtain ⟨y, hy⟩ : ∃ y, (B b).getLsbD = y := ⟨_, rfl⟩
  have HY := Lib.hid hy
  have HA := Lib.hid (dbl_0 a ha)
  have H0 := Lib.hid (part_0 a b)
  clear hy ha
  go_enter Try.func22, Try.ntmps22
  go_wp2_with fail
  refine (bits_x _ _ HY.out _).mono ?_
  rintro e w2 ⟨rfl, hb⟩
  have hs : w.heap.size ≤ w2.heap.size := hb.size
  have HB := Lib.hid hb
  clear hb
  have tok1 : True := trivial
  go_wp2_with ((have _t := tok1); refine wpList_store_row rfl 39 _ _ rfl w2.heap.size (arr y) rfl rfl 39 zeros (z_row w2) (arr_info y) (z_size y) (arr_one y) ?_; clear tok1)
  go_loopg [0, 6, 7] 64 (fun gk u o i wr => ∃ (k : Nat) (p q : Int), k + gk = 64 ∧ i = .int .i64 k ∧ u = .int .i64 p ∧ o = .int .i64 q ∧ Hid (p = dblV a k ∧ q = partV a b k ∧ At wr w2.heap.size y ∧ Below w.heap.size w wr ∧ w2.heap.size < wr.heap.size))
  case atStart =>
    obtain ⟨r1, r4⟩ := rows1 w2 y
    exact ⟨0, a, 0, rfl, rfl, rfl, rfl, HA.out.symm, H0.out.symm, r1, HB.out.trans (r4.mono hs), r1.lt⟩
  case round =>
    obtain ⟨k, p, q, hk, rfl, rfl, rfl, HH⟩ := hrel
    by_cases hlt : k < 64
    · obtain ⟨c, hc⟩ : ∃ c, y k = c := ⟨_, rfl⟩
      have c1 := HH.out.2.2.1.cell k hlt
      rw [hc] at c1
      have HC := Lib.hid hc
      clear hc
      cases c
      · go_wp2_with fail
        refine (add_is _ _ _).mono ?_
        rintro e w3 ⟨rfl, hb3⟩
        have B3 := Lib.hid hb3
        clear hb3
        go_wp2_with fail
        go_roundg (gk - 1)
        case measure => omega
        case rel =>
          obtain ⟨e1, e2, e3, e4, e5⟩ := HH.out
          refine ⟨k + 1, _, _, by omega, by go_num, rfl, rfl, by rw [e1]; exact dbl_step a k, ?_, e3.below B3.out e5, e4.trans (B3.out.mono e4.size), Nat.lt_of_lt_of_le e5 B3.out.size⟩
          rw [e2]; exact part_no a b k (by rw [HY.out]; exact HC.out)
      · go_wp2_with fail
        refine (add_is _ _ _).mono ?_
        rintro e w3 ⟨rfl, hb3⟩
        have B3 := Lib.hid hb3
        clear hb3
        go_wp2_with fail
        refine (add_is _ _ _).mono ?_
        rintro e w4 ⟨rfl, hb4⟩
        have B4 := Lib.hid hb4
        clear hb4
        go_wp2_with fail
        go_roundg (gk - 1)
        case measure => omega
        case rel =>
          obtain ⟨e1, e2, e3, e4, e5⟩ := HH.out
          have b5 := e4.trans (B3.out.mono e4.size)
          have l3 := Nat.lt_of_lt_of_le e5 B3.out.size
          refine ⟨k + 1, _, _, by omega, by go_num, rfl, rfl, by rw [e1]; exact dbl_step a k, ?_, (e3.below B3.out e5).below B4.out l3, b5.trans (B4.out.mono b5.size), Nat.lt_of_lt_of_le l3 B4.out.size⟩
          rw [e2, e1]; exact part_yes a b k (by rw [HY.out]; exact HC.out)
    · obtain rfl : k = 64 := by omega
      obtain ⟨e1, e2, e3, e4, e5⟩ := HH.out
      have E2 := Lib.hid e2
      clear e1 e2 e3 e5 HH
      go_wp2_with fail
      go_ret
      exact ⟨ret_int (by rw [E2.out]; exact part_64 a b), e4⟩
end Go.Proofs.Ytmfhgdaiafklnaa
