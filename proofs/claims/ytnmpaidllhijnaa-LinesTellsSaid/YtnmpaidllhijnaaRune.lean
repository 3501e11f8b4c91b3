/- What a range over a text meets: a byte 10 as itself, and of all else no byte 10. -/
import Derived.Test.YtnmpaidllhijnaaRows
import Derived.Test.YtnmpaidllhijnaaMath
import Derived.Outline
import Derived.WalkKit
import Derived.WalkLawsBesides
import Derived.LoopTactic
import Derived.Below
import Derived.IntWalk
import Derived.Deep.Light
import Derived.Deep.LoopGhost
import Derived.Lib.Hide
import Derived.Lib.OthersKept
import Derived.Laws.RangeString
import Derived.Laws.RangeAny
import Derived.Laws.Strings3
namespace Go.Proofs.Ytnmpaidllhijnaa
open Go.ChangeShapes Go.WideShapes Go.RowKit
set_option linter.unusedVariables false

theorem size_list (s : ByteArray) : s.data.toList.length = s.size := Array.length_toList
theorem get_nat (s : ByteArray) (i : Nat) (h : i < s.size) : s.get! i = s.data.toList[i]'(by simpa using h) := by
  simp [ByteArray.get!, getElem!_pos, h]
theorem at_nat (s : ByteArray) (i : Nat) (h : i < s.size) : (s[i]'h) = s.data.toList[i]'(by simpa using h) := rfl
theorem decode_ten (s : ByteArray) (pos : Nat) (h : pos < s.size) (hc : s.data.toList[pos]'(by simpa using h) = 10) : Utf8.decode s pos = (10, 1) := by
  have e : (s[pos]'h) = 10 := hc
  rw [decode_ascii s pos h (by rw [e]; decide), e]; rfl
/-- What a letter is made of: its first byte, and others that are none of the first 128. -/
theorem decode_in (s : ByteArray) (pos : Nat) (h : pos < s.size) : 1 ≤ (Utf8.decode s pos).2 ∧ ∀ k, 0 < k → k < (Utf8.decode s pos).2 → pos + k < s.size ∧ (s.get! (pos + k)).toNat / 64 = 2 := by
  simp only [Utf8.decode]
  repeat' split
  all_goals refine ⟨by simp, ?_⟩
  all_goals intro k h0 h1
  all_goals simp only [Bool.and_eq_true, beq_iff_eq, decide_eq_true_eq] at *
  all_goals first
    | omega
    | (have e : k = 1 := by omega
       subst e; simp_all)
    | (have e : k = 1 ∨ k = 2 := by omega
       rcases e with rfl | rfl <;> simp_all)
    | (have e : k = 1 ∨ k = 2 ∨ k = 3 := by omega
       rcases e with rfl | rfl | rfl <;> simp_all)
/-- A letter that does not begin with a byte 10 is none, and has none. -/
theorem decode_else (s : ByteArray) (pos : Nat) (h : pos < s.size) (hc : s.data.toList[pos]'(by simpa using h) ≠ 10) :
    (Utf8.decode s pos).1 ≠ 10 ∧ 1 ≤ (Utf8.decode s pos).2 ∧ pos + (Utf8.decode s pos).2 ≤ s.size ∧
      ∃ m, s.data.toList.take (pos + (Utf8.decode s pos).2) = s.data.toList.take pos ++ m ∧ (10 : UInt8) ∉ m := by
  obtain ⟨hw, hk⟩ := decode_in s pos h
  have hsz := size_list s
  have hle : pos + (Utf8.decode s pos).2 ≤ s.size := by
    by_cases h1 : (Utf8.decode s pos).2 = 1
    · omega
    · have := (hk ((Utf8.decode s pos).2 - 1) (by omega) (by omega)).1; omega
  refine ⟨?_, hw, hle, ?_⟩
  · by_cases ha : (s[pos]'h).toNat < 128
    · rw [decode_ascii s pos h ha]
      intro e
      exact hc (by rw [← at_nat s pos h]; apply UInt8.toNat_inj.1; simpa using e)
    · have := (decode_high s pos h (by omega)).1; omega
  · refine ⟨(s.data.toList.drop pos).take (Utf8.decode s pos).2, by rw [List.take_add], ?_⟩
    intro hm
    obtain ⟨k, hk1, hk2⟩ := List.getElem_of_mem hm
    simp only [List.length_take, List.length_drop] at hk1
    rw [List.getElem_take, List.getElem_drop] at hk2
    by_cases h0 : k = 0
    · subst h0; exact hc hk2
    · obtain ⟨h3, h4⟩ := hk k (by omega) (by omega)
      rw [get_nat s _ h3, hk2] at h4
      revert h4; decide
theorem toList_mk (l : List UInt8) : (ByteArray.mk l.toArray).data.toList = l := rfl
theorem size_mk (l : List UInt8) : (ByteArray.mk l.toArray).size = l.length := by simp [ByteArray.size]
theorem mk_list (s : ByteArray) : ByteArray.mk s.data.toList.toArray = s := rfl
theorem extract_ab (s : ByteArray) (a b : Nat) : s.extract a b = ⟨((s.data.toList.drop a).take (b - a)).toArray⟩ := by
  apply ByteArray.ext
  rw [ByteArray.data_extract]
  apply Array.toList_inj.1
  rw [Array.toList_extract, List.extract_eq_take_drop]
theorem slice_to (s : ByteArray) (n : Nat) (h : n ≤ s.size) (W : World) : (Instr.slice 9 (.string s) none (some (.int .i64 (n : Int))) none).run Try.prog W = .ok (.string ⟨(s.data.toList.take n).toArray⟩) W := by
  rw [run_slice_string_to_if W 9 s .i64 _ Try.underlying9, if_pos (by omega), show ((n : Int)).toNat = n by omega, extract_ab]; rfl
theorem slice_ab (s : ByteArray) (a b : Nat) (h1 : a ≤ b) (h : b ≤ s.size) (W : World) : (Instr.slice 9 (.string s) (some (.int .i64 (a : Int))) (some (.int .i64 (b : Int))) none).run Try.prog W = .ok (.string ⟨((s.data.toList.drop a).take (b - a)).toArray⟩) W := by
  rw [run_slice_string W 9 s .i64 .i64 _ _ Try.underlying9 (by omega) (by omega) (by omega), show ((a : Int)).toNat = a by omega, show ((b : Int)).toNat = b by omega, extract_ab]
theorem slice_from (s : ByteArray) (n : Nat) (h : n ≤ s.size) (W : World) : (Instr.slice 9 (.string s) (some (.int .i64 (n : Int))) none none).run Try.prog W = .ok (.string ⟨(s.data.toList.drop n).toArray⟩) W := by
  rw [run_slice_string_from_if W 9 s .i64 _ Try.underlying9, if_pos (by omega), show ((n : Int)).toNat = n by omega, extract_ab, List.take_of_length_le (by rw [List.length_drop, size_list]; exact Nat.le_refl _)]
end Go.Proofs.Ytnmpaidllhijnaa
