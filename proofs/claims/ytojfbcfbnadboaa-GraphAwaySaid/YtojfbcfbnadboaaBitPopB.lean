
/- How many bits a number of 64 bits has: all bytes together. -/
import Derived.Test.YtojfbcfbnadboaaBitPop
namespace Go.Proofs.Ytojfbcfbnadboaa.Bit
set_option linter.unusedVariables false
set_option maxHeartbeats 400000
theorem q3_ends (x : Nat) : ∃ a b c d e f g h, q3 8 x = a + 256 * (b + 256 * (c + 256 * (d + 256 * (e + 256 * (f + 256 * (g + 256 * h)))))) ∧ ones x 64 = a + (b + (c + (d + (e + (f + (g + h)))))) ∧
    a ≤ 8 ∧ b ≤ 8 ∧ c ≤ 8 ∧ d ≤ 8 ∧ e ≤ 8 ∧ f ≤ 8 ∧ g ≤ 8 ∧ h ≤ 8 := by
  have hb : ∀ y, ones (y % 256) 8 ≤ 8 := fun y => (bytes (y % 256) (Nat.mod_lt _ (by omega))).2.2.2.2
  refine ⟨_, _, _, _, _, _, _, _, rfl, ?_, hb _, hb _, hb _, hb _, hb _, hb _, hb _, hb _⟩
  have s := ones_split
  rw [show (64 : Nat) = 8 + 56 from rfl, s x, show (56 : Nat) = 8 + 48 from rfl, s, show (48 : Nat) = 8 + 40 from rfl, s, show (40 : Nat) = 8 + 32 from rfl, s, show (32 : Nat) = 8 + 24 from rfl, s,
    show (24 : Nat) = 8 + 16 from rfl, s, show ones (x / 256 / 256 / 256 / 256 / 256 / 256) 16 = ones (x / 256 / 256 / 256 / 256 / 256 / 256) (8 + 8) from rfl, s, show ones (x / 256 / 256 / 256 / 256 / 256 / 256 / 256) 8 = ones (x / 256 / 256 / 256 / 256 / 256 / 256 / 256) (8 + 0) from rfl, s]
  rfl
end Go.Proofs.Ytojfbcfbnadboaa.Bit
