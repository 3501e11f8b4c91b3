
/- How many bits a number of 64 bits has: what the library's reckoning comes to, over plain numbers. -/
import Derived.Test.YtojfbcfbnadboaaBitMath
namespace Go.Proofs.Ytojfbcfbnadboaa.Bit
set_option linter.unusedVariables false

theorem and_split (a M : Nat) : a &&& M = (a % 256 &&& M % 256) + 256 * (a / 256 &&& M / 256) := by
  have h1 : (a &&& M) % 2 ^ 8 = a % 2 ^ 8 &&& M % 2 ^ 8 := Nat.and_mod_two_pow
  have h2 : (a &&& M) / 2 ^ 8 = a / 2 ^ 8 &&& M / 2 ^ 8 := Nat.and_div_two_pow
  have h3 := Nat.mod_add_div (a &&& M) (2 ^ 8)
  rw [h1, h2] at h3
  exact h3.symm
def p1 (b : Nat) : Nat := (b / 2 &&& 85) + (b &&& 85)
def p2 (b : Nat) : Nat := (b / 4 &&& 51) + (b &&& 51)
def p3 (b : Nat) : Nat := (b / 16 + b) &&& 15
def mask (c : Nat) : Nat → Nat
  | 0 => 0
  | n + 1 => c + 256 * mask c n
theorem mask_succ (c n : Nat) : mask c (n + 1) = c + 256 * mask c n := rfl
def q1 : Nat → Nat → Nat
  | 0, _ => 0
  | n + 1, x => p1 (x % 256) + 256 * q1 n (x / 256)
def q2 : Nat → Nat → Nat
  | 0, _ => 0
  | n + 1, x => p2 (p1 (x % 256)) + 256 * q2 n (x / 256)
def q3 : Nat → Nat → Nat
  | 0, _ => 0
  | n + 1, x => ones (x % 256) 8 + 256 * q3 n (x / 256)
theorem byte1 : ∀ b, b < 256 → ∀ r, r < 2 → ((b / 2 + 128 * r) &&& 85) = (b / 2 &&& 85) := by decide +kernel
theorem byte2 : ∀ b, b < 256 → ∀ r, r < 4 → ((b / 4 + 64 * r) &&& 51) = (b / 4 &&& 51) := by decide +kernel
theorem bytes : ∀ b, b < 256 → p1 b < 256 ∧ p2 (p1 b) ≤ 68 ∧ p2 (p1 b) % 16 ≤ 4 ∧ p3 (p2 (p1 b)) = ones b 8 ∧ ones b 8 ≤ 8 := by decide +kernel
theorem byte3 : ∀ b, b ≤ 68 → ∀ r, r ≤ 4 → ((b / 16 + b + 16 * r) &&& 15) = ((b / 16 + b) &&& 15) := by decide +kernel
theorem stage1 : ∀ (n x : Nat), x < 256 ^ n → (x / 2 &&& mask 85 n) + (x &&& mask 85 n) = q1 n x
  | 0, x, h => by simp [mask, q1]
  | n + 1, x, h => by
    have hb : x % 256 < 256 := Nat.mod_lt _ (by omega)
    have ih := stage1 n (x / 256) (by rw [Nat.pow_succ] at h; omega)
    have e1 : mask 85 (n + 1) % 256 = 85 := by rw [mask_succ]; omega
    have e2 : mask 85 (n + 1) / 256 = mask 85 n := by rw [mask_succ]; omega
    have f1 : x / 2 % 256 = x % 256 / 2 + 128 * (x / 256 % 2) := by omega
    have f2 : x / 2 / 256 = x / 256 / 2 := by omega
    rw [and_split (x / 2), and_split x, e1, e2, f1, f2, byte1 _ hb _ (Nat.mod_lt _ (by omega))]
    unfold q1 p1
    rw [← ih]
    omega
theorem q1_mod (n x : Nat) : q1 (n + 1) x % 256 = p1 (x % 256) := by
  have := (bytes (x % 256) (Nat.mod_lt _ (by omega))).1
  unfold q1; omega
theorem q1_div (n x : Nat) : q1 (n + 1) x / 256 = q1 n (x / 256) := by
  have := (bytes (x % 256) (Nat.mod_lt _ (by omega))).1
  conv => lhs; unfold q1
  omega
theorem stage2 : ∀ (n x : Nat), (q1 n x / 4 &&& mask 51 n) + (q1 n x &&& mask 51 n) = q2 n x
  | 0, x => by simp [mask, q2]
  | n + 1, x => by
    have ih := stage2 n (x / 256)
    have e1 : mask 51 (n + 1) % 256 = 51 := by rw [mask_succ]; omega
    have e2 : mask 51 (n + 1) / 256 = mask 51 n := by rw [mask_succ]; omega
    have g1 := q1_mod n x
    have g2 := q1_div n x
    have hb := (bytes (x % 256) (Nat.mod_lt _ (by omega))).1
    obtain ⟨z, hz⟩ : ∃ z, q1 (n + 1) x = z := ⟨_, rfl⟩
    rw [hz] at g1 g2 ⊢
    have f1 : z / 4 % 256 = z % 256 / 4 + 64 * (z / 256 % 4) := by omega
    have f2 : z / 4 / 256 = z / 256 / 4 := by omega
    rw [and_split (z / 4), and_split z, e1, e2, f1, f2, g1, g2, byte2 _ hb _ (Nat.mod_lt _ (by omega))]
    unfold q2 p2
    rw [← ih]
    omega
theorem q2_mod (n x : Nat) : q2 (n + 1) x % 256 = p2 (p1 (x % 256)) := by
  have := (bytes (x % 256) (Nat.mod_lt _ (by omega))).2.1
  unfold q2; omega
theorem q2_div (n x : Nat) : q2 (n + 1) x / 256 = q2 n (x / 256) := by
  have := (bytes (x % 256) (Nat.mod_lt _ (by omega))).2.1
  conv => lhs; unfold q2
  omega
theorem q2_low : ∀ n x, q2 n x % 16 ≤ 4
  | 0, x => by simp [q2]
  | n + 1, x => by
    have := (bytes (x % 256) (Nat.mod_lt _ (by omega))).2.2.1
    unfold q2; omega
theorem stage3 : ∀ (n x : Nat), ((q2 n x / 16 + q2 n x) &&& mask 15 n) = q3 n x
  | 0, x => by simp [mask, q3]
  | n + 1, x => by
    have ih := stage3 n (x / 256)
    have e1 : mask 15 (n + 1) % 256 = 15 := by rw [mask_succ]; omega
    have e2 : mask 15 (n + 1) / 256 = mask 15 n := by rw [mask_succ]; omega
    have g1 := q2_mod n x
    have g2 := q2_div n x
    have hl := q2_low n (x / 256)
    obtain ⟨hb0, hb, hb2, hb3, _⟩ := bytes (x % 256) (Nat.mod_lt _ (by omega))
    obtain ⟨z, hz⟩ : ∃ z, q2 (n + 1) x = z := ⟨_, rfl⟩
    rw [hz] at g1 g2 ⊢
    have f1 : (z / 16 + z) % 256 = z % 256 / 16 + z % 256 + 16 * (z / 256 % 16) := by rw [g1, g2]; omega
    have f2 : (z / 16 + z) / 256 = z / 256 / 16 + z / 256 := by omega
    rw [and_split, e1, e2, f1, f2, g1, g2, byte3 _ hb _ hl, ih]
    show p3 (p2 (p1 (x % 256))) + _ = _
    rw [hb3]
    rfl
theorem ones_split (x n : Nat) : ones x (8 + n) = ones (x % 256) 8 + ones (x / 256) n := by
  unfold ones
  rw [List.range_add, List.filter_append, List.length_append]
  congr 1
  · congr 1
    apply List.filter_congr
    intro j hj
    have hj : j < 8 := by simpa using hj
    rw [show (256 : Nat) = 2 ^ 8 from rfl, Nat.testBit_mod_two_pow]; simp [hj]
  · rw [List.filter_map, List.length_map]
    congr 1
    apply List.filter_congr
    intro j hj
    show x.testBit (8 + j) = (x / 256).testBit j
    rw [show (256 : Nat) = 2 ^ 8 from rfl, Nat.testBit_div_two_pow]; congr 1; omega
end Go.Proofs.Ytojfbcfbnadboaa.Bit
