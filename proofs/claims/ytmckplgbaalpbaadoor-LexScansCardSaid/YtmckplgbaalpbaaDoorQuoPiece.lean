/- What the program's digit, twoDigits and piece answer. -/
import Derived.Test.YtmckplgbaalpbaaDoorRows
import Derived.Test.YtmckplgbaalpbaaDoorQuoMath
import Derived.Outline
import Derived.WalkKit
import Derived.WalkLawsBesides
import Derived.LoopTactic
import Derived.Below
import Derived.IntWalk
import Derived.Deep.Light
import Derived.Deep.LoopGhost
import Derived.Deep.WholeRow
import Derived.Lib.Hide
import Derived.Laws.IdiomStrings
import Derived.OwnWalk
namespace Go.Proofs.YtmckplgbaalpbaaDoor.Quo
open Go.ChangeShapes Go.WideShapes Go.RowKit
set_option linter.unusedVariables false

theorem ret_two {a b : Int} {k l : IntKind} {c d : Int} (h : a = c) (h2 : b = d) : Ending.returned (.tuple #[.int k a, .int l b]) = .returned (.tuple #[.int k c, .int l d]) := by rw [h, h2]
theorem ret_ib {a : Int} {k : IntKind} {c : Int} {x : Bool} (h : a = c) : Ending.returned (.tuple #[.int k a, .bool x]) = .returned (.tuple #[.int k c, .bool x]) := by rw [h]
theorem digit_yes (c : UInt8) (h : dig c < 16) (w : World) : Calls Tryd.prog 71 #[.int .u8 (c.toNat : Int)] w fun e w' => e = .returned (.tuple #[.int .u8 (dig c : Int), .bool true]) ∧ w = w' := by
  have hl := c.toNat_lt
  obtain ⟨n, hn⟩ : ∃ n, dig c = n := ⟨_, rfl⟩
  rw [hn]
  by_cases h1 : 48 ≤ c.toNat ∧ c.toNat ≤ 57
  · have e : n = c.toNat - 48 := by rw [← hn]; unfold dig; rw [if_pos h1]
    obtain ⟨a1, a2⟩ := h1
    have H := Lib.hid e
    clear hn h e
    go_enter Tryd.func71, Tryd.ntmps71
    go_wp2
    go_ret2
    exact ⟨ret_ib (by have := H.out; omega), rfl⟩
  · by_cases h2 : 97 ≤ c.toNat ∧ c.toNat ≤ 102
    · have e : n = c.toNat - 87 := by rw [← hn]; unfold dig; rw [if_neg h1, if_pos h2]
      obtain ⟨a1, a2⟩ := h2
      have H := Lib.hid e
      clear hn h e h1
      go_enter Tryd.func71, Tryd.ntmps71
      go_wp2
      go_ret2
      exact ⟨ret_ib (by have := H.out; omega), rfl⟩
    · by_cases h3 : 65 ≤ c.toNat ∧ c.toNat ≤ 70
      · have e : n = c.toNat - 55 := by rw [← hn]; unfold dig; rw [if_neg h1, if_neg h2, if_pos h3]
        obtain ⟨a1, a2⟩ := h3
        have H := Lib.hid e
        clear hn h e h1 h2
        go_enter Tryd.func71, Tryd.ntmps71
        go_wp2
        go_ret2
        exact ⟨ret_ib (by have := H.out; omega), rfl⟩
      · unfold dig at h; rw [if_neg h1, if_neg h2, if_neg h3] at h; omega
theorem digit_no (c : UInt8) (h : ¬ dig c < 16) (w : World) : Calls Tryd.prog 71 #[.int .u8 (c.toNat : Int)] w fun e w' => e = .returned (.tuple #[.int .u8 0, .bool false]) ∧ w = w' := by
  have hl := c.toNat_lt
  have h1 : ¬ (48 ≤ c.toNat ∧ c.toNat ≤ 57) := fun k => h (by unfold dig; rw [if_pos k]; omega)
  have h2 : ¬ (97 ≤ c.toNat ∧ c.toNat ≤ 102) := fun k => h (by unfold dig; rw [if_neg h1, if_pos k]; omega)
  have h3 : ¬ (65 ≤ c.toNat ∧ c.toNat ≤ 70) := fun k => h (by unfold dig; rw [if_neg h1, if_neg h2, if_pos k]; omega)
  clear h
  have ways : c.toNat < 48 ∨ (57 < c.toNat ∧ c.toNat < 65) ∨ (70 < c.toNat ∧ c.toNat < 97) ∨ 102 < c.toNat := by omega
  clear h1 h2 h3
  rcases ways with a | ⟨a, b⟩ | ⟨a, b⟩ | a
  all_goals
    go_enter Tryd.func71, Tryd.ntmps71
    go_wp2
    go_ret2
    exact ⟨rfl, rfl⟩
end Go.Proofs.YtmckplgbaalpbaaDoor.Quo
