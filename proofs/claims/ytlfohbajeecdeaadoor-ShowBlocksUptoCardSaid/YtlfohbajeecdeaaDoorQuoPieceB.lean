
/- What the program's twoDigits and piece answer. -/
import Derived.Test.YtlfohbajeecdeaaDoorQuoPiece
namespace Go.Proofs.YtlfohbajeecdeaaDoor.Quo
open Go.ChangeShapes Go.WideShapes Go.RowKit
set_option linter.unusedVariables false

theorem len_list (s : ByteArray) : s.data.toList.length = s.size := rfl
theorem at_list (s : ByteArray) (i : Nat) (h : i < s.size) : s.data.toList[i]'(by rw [len_list]; exact h) = s[i] := by rfl
theorem drop_cons (s : ByteArray) (i : Nat) (h : i < s.size) : s.data.toList.drop i = s[i] :: s.data.toList.drop (i + 1) := by
  rw [List.drop_eq_getElem_cons (by rw [len_list]; exact h), at_list]
theorem ofNat_two (a b : Nat) (ha : a < 16) (hb : b < 16) : ((UInt8.ofNat (16 * a + b)).toNat : Int) = 16 * a + b := by
  rw [UInt8.toNat_ofNat']; omega
/-- What two digits stand for. -/
def two2 (h l : UInt8) : UInt8 × Nat := if dig h < 16 ∧ dig l < 16 then (UInt8.ofNat (16 * dig h + dig l), 4) else (0, 0)
theorem or_two : ∀ a : Nat, a < 16 → ∀ b : Nat, b < 16 → bits BinOp.or IntKind.u8 ((a : Int) * 16) (b : Int) = 16 * (a : Int) + (b : Int) := by decide +kernel
/-- A byte and a size handed back. -/
def E2 (t : UInt8 × Nat) : Ending := .returned (.tuple #[.int .u8 (t.1.toNat : Int), .int .i64 (t.2 : Int)])
theorem nat_eq {c d : UInt8} (h : c = d) : (c.toNat : Int) = (d.toNat : Int) := by rw [h]
theorem nat_beq {c : UInt8} {n : Nat} (h : c.toNat = n) : ((c.toNat : Int) == (n : Int)) = true := by rw [beq_iff_eq]; omega
theorem nat_bne {c : UInt8} {n : Nat} (h : c.toNat ≠ n) : ((c.toNat : Int) == (n : Int)) = false := by rw [beq_eq_false_iff_ne]; omega
theorem byte_ne {c d : UInt8} (h : c ≠ d) : c.toNat ≠ d.toNat := fun k => h (UInt8.toNat_inj.1 k)
theorem byte_is (c : UInt8) (n : Nat) (hn : n < 256) : c = UInt8.ofNat n ↔ c.toNat = n := by
  constructor
  · rintro rfl; rw [UInt8.toNat_ofNat']; omega
  · intro h; rw [← h, UInt8.ofNat_toNat]
end Go.Proofs.YtlfohbajeecdeaaDoor.Quo
