/- The statement on letters: each class has a letter, which is no other one's; nothing else has. -/
import Derived.Test.YtmfodjdgekafoaaWorks
namespace Go.Proofs.Ytmfodjdgekafoaa
open Go.ChangeShapes Go.WideShapes Go.RowKit
set_option linter.unusedVariables false
set_option maxRecDepth 20000

set_option maxHeartbeats 1000000 in
theorem let_g0 (w : World) : Calls Try.prog 5 #[.int .i64 0, .string ⟨#[103]⟩] w fun e w' => e = .returned (.bool true) ∧ Below w.heap.size w w' := by
  go_enter Try.func5, Try.ntmps5
  go_wp2_with fail
  refine (letter_v 0 ⟨#[103]⟩ rfl _).mono ?_
  rintro e w1 ⟨rfl, rfl⟩
  go_wp2_with fail
  refine (clsOf_v ⟨#[103]⟩ 0 true (by decide +kernel) _).mono ?_
  rintro e w1 ⟨rfl, rfl⟩
  go_wp2_with fail
  refine (clsOf_v ⟨#[103]⟩ 0 true (by decide +kernel) _).mono ?_
  rintro e w1 ⟨rfl, rfl⟩
  go_wp2_with fail
  refine (letter_v 0 ⟨#[103]⟩ rfl _).mono ?_
  rintro e w1 ⟨rfl, rfl⟩
  go_wp2_with fail
  refine (works_v _).mono ?_
  rintro e w1 ⟨rfl, hb⟩
  have HB := Lib.hid hb
  clear hb
  go_wp2_with fail
  go_ret
  exact ⟨rfl, HB.out⟩
set_option maxHeartbeats 1000000 in
theorem let_g1 (w : World) : Calls Try.prog 5 #[.int .i64 1, .string ⟨#[103]⟩] w fun e w' => e = .returned (.bool true) ∧ Below w.heap.size w w' := by
  go_enter Try.func5, Try.ntmps5
  go_wp2_with fail
  refine (letter_v 1 ⟨#[120]⟩ rfl _).mono ?_
  rintro e w1 ⟨rfl, rfl⟩
  go_wp2_with fail
  refine (clsOf_v ⟨#[103]⟩ 0 true (by decide +kernel) _).mono ?_
  rintro e w1 ⟨rfl, rfl⟩
  go_wp2_with fail
  refine (clsOf_v ⟨#[120]⟩ 1 true (by decide +kernel) _).mono ?_
  rintro e w1 ⟨rfl, rfl⟩
  go_wp2_with fail
  refine (letter_v 0 ⟨#[103]⟩ rfl _).mono ?_
  rintro e w1 ⟨rfl, rfl⟩
  go_wp2_with fail
  refine (works_v _).mono ?_
  rintro e w1 ⟨rfl, hb⟩
  have HB := Lib.hid hb
  clear hb
  go_wp2_with fail
  go_ret
  exact ⟨rfl, HB.out⟩
set_option maxHeartbeats 1000000 in
theorem let_go (cl : Int) (c0 : (cl == 0) = false) (c1 : (cl == 1) = false) (hl : (ByteArray.mk (letter cl).toArray) = ⟨#[]⟩) (w : World) : Calls Try.prog 5 #[.int .i64 cl, .string ⟨#[103]⟩] w fun e w' => e = .returned (.bool true) ∧ Below w.heap.size w w' := by
  have HL := Lib.hid hl
  clear hl
  go_enter Try.func5, Try.ntmps5
  go_wp2_with fail
  refine (letter_v cl ⟨#[]⟩ HL.out _).mono ?_
  rintro e w1 ⟨rfl, rfl⟩
  go_wp2_with fail
  refine (clsOf_v ⟨#[103]⟩ 0 true (by decide +kernel) _).mono ?_
  rintro e w1 ⟨rfl, rfl⟩
  go_wp2_with fail
  refine (clsOf_v ⟨#[]⟩ 0 false (by decide +kernel) _).mono ?_
  rintro e w1 ⟨rfl, rfl⟩
  go_wp2_with fail
  refine (letter_v 0 ⟨#[103]⟩ rfl _).mono ?_
  rintro e w1 ⟨rfl, rfl⟩
  go_wp2_with fail
  refine (works_v _).mono ?_
  rintro e w1 ⟨rfl, hb⟩
  have HB := Lib.hid hb
  clear hb
  go_wp2_with fail
  go_ret
  exact ⟨rfl, HB.out⟩
set_option maxHeartbeats 1000000 in
theorem let_x0 (w : World) : Calls Try.prog 5 #[.int .i64 0, .string ⟨#[120]⟩] w fun e w' => e = .returned (.bool true) ∧ Below w.heap.size w w' := by
  go_enter Try.func5, Try.ntmps5
  go_wp2_with fail
  refine (letter_v 0 ⟨#[103]⟩ rfl _).mono ?_
  rintro e w1 ⟨rfl, rfl⟩
  go_wp2_with fail
  refine (clsOf_v ⟨#[120]⟩ 1 true (by decide +kernel) _).mono ?_
  rintro e w1 ⟨rfl, rfl⟩
  go_wp2_with fail
  refine (clsOf_v ⟨#[103]⟩ 0 true (by decide +kernel) _).mono ?_
  rintro e w1 ⟨rfl, rfl⟩
  go_wp2_with fail
  refine (letter_v 1 ⟨#[120]⟩ rfl _).mono ?_
  rintro e w1 ⟨rfl, rfl⟩
  go_wp2_with fail
  refine (works_v _).mono ?_
  rintro e w1 ⟨rfl, hb⟩
  have HB := Lib.hid hb
  clear hb
  go_wp2_with fail
  go_ret
  exact ⟨rfl, HB.out⟩
set_option maxHeartbeats 1000000 in
theorem let_x1 (w : World) : Calls Try.prog 5 #[.int .i64 1, .string ⟨#[120]⟩] w fun e w' => e = .returned (.bool true) ∧ Below w.heap.size w w' := by
  go_enter Try.func5, Try.ntmps5
  go_wp2_with fail
  refine (letter_v 1 ⟨#[120]⟩ rfl _).mono ?_
  rintro e w1 ⟨rfl, rfl⟩
  go_wp2_with fail
  refine (clsOf_v ⟨#[120]⟩ 1 true (by decide +kernel) _).mono ?_
  rintro e w1 ⟨rfl, rfl⟩
  go_wp2_with fail
  refine (clsOf_v ⟨#[120]⟩ 1 true (by decide +kernel) _).mono ?_
  rintro e w1 ⟨rfl, rfl⟩
  go_wp2_with fail
  refine (letter_v 1 ⟨#[120]⟩ rfl _).mono ?_
  rintro e w1 ⟨rfl, rfl⟩
  go_wp2_with fail
  refine (works_v _).mono ?_
  rintro e w1 ⟨rfl, hb⟩
  have HB := Lib.hid hb
  clear hb
  go_wp2_with fail
  go_ret
  exact ⟨rfl, HB.out⟩
set_option maxHeartbeats 1000000 in
theorem let_xo (cl : Int) (c0 : (cl == 0) = false) (c1 : (cl == 1) = false) (hl : (ByteArray.mk (letter cl).toArray) = ⟨#[]⟩) (w : World) : Calls Try.prog 5 #[.int .i64 cl, .string ⟨#[120]⟩] w fun e w' => e = .returned (.bool true) ∧ Below w.heap.size w w' := by
  have HL := Lib.hid hl
  clear hl
  go_enter Try.func5, Try.ntmps5
  go_wp2_with fail
  refine (letter_v cl ⟨#[]⟩ HL.out _).mono ?_
  rintro e w1 ⟨rfl, rfl⟩
  go_wp2_with fail
  refine (clsOf_v ⟨#[120]⟩ 1 true (by decide +kernel) _).mono ?_
  rintro e w1 ⟨rfl, rfl⟩
  go_wp2_with fail
  refine (clsOf_v ⟨#[]⟩ 0 false (by decide +kernel) _).mono ?_
  rintro e w1 ⟨rfl, rfl⟩
  go_wp2_with fail
  refine (letter_v 1 ⟨#[120]⟩ rfl _).mono ?_
  rintro e w1 ⟨rfl, rfl⟩
  go_wp2_with fail
  refine (works_v _).mono ?_
  rintro e w1 ⟨rfl, hb⟩
  have HB := Lib.hid hb
  clear hb
  go_wp2_with fail
  go_ret
  exact ⟨rfl, HB.out⟩
set_option maxHeartbeats 1000000 in
theorem let_o0 (s : ByteArray) (s0 : (s.toList == (ByteArray.mk #[103]).toList) = false) (s1 : (s.toList == (ByteArray.mk #[120]).toList) = false) (hz : classOf s = (0, false)) (w : World) : Calls Try.prog 5 #[.int .i64 0, .string s] w fun e w' => e = .returned (.bool true) ∧ Below w.heap.size w w' := by
  have HZ := Lib.hid hz
  have e0 : (ByteArray.mk #[103]).toList = [103] := by rw [ByteArray.toList_eq]
  have e1 : (ByteArray.mk #[120]).toList = [120] := by rw [ByteArray.toList_eq]
  rw [e0] at s0
  rw [e1] at s1
  have s0' : ¬ s.toList = [103] := by simpa using s0
  have s1' : ¬ s.toList = [120] := by simpa using s1
  clear hz e0 e1
  go_enter Try.func5, Try.ntmps5
  go_wp2_with fail
  refine (letter_v 0 ⟨#[103]⟩ rfl _).mono ?_
  rintro e w1 ⟨rfl, rfl⟩
  go_wp2_with fail
  refine (clsOf_v s 0 false HZ.out _).mono ?_
  rintro e w1 ⟨rfl, rfl⟩
  go_wp2_with fail
  refine (clsOf_v ⟨#[103]⟩ 0 true (by decide +kernel) _).mono ?_
  rintro e w1 ⟨rfl, rfl⟩
  go_wp2_with fail
  refine (works_v _).mono ?_
  rintro e w1 ⟨rfl, hb⟩
  have HB := Lib.hid hb
  clear hb
  go_wp2_with fail
  go_ret
  exact ⟨rfl, HB.out⟩
set_option maxHeartbeats 1000000 in
theorem let_o1 (s : ByteArray) (s0 : (s.toList == (ByteArray.mk #[103]).toList) = false) (s1 : (s.toList == (ByteArray.mk #[120]).toList) = false) (hz : classOf s = (0, false)) (w : World) : Calls Try.prog 5 #[.int .i64 1, .string s] w fun e w' => e = .returned (.bool true) ∧ Below w.heap.size w w' := by
  have HZ := Lib.hid hz
  have e0 : (ByteArray.mk #[103]).toList = [103] := by rw [ByteArray.toList_eq]
  have e1 : (ByteArray.mk #[120]).toList = [120] := by rw [ByteArray.toList_eq]
  rw [e0] at s0
  rw [e1] at s1
  have s0' : ¬ s.toList = [103] := by simpa using s0
  have s1' : ¬ s.toList = [120] := by simpa using s1
  clear hz e0 e1
  go_enter Try.func5, Try.ntmps5
  go_wp2_with fail
  refine (letter_v 1 ⟨#[120]⟩ rfl _).mono ?_
  rintro e w1 ⟨rfl, rfl⟩
  go_wp2_with fail
  refine (clsOf_v s 0 false HZ.out _).mono ?_
  rintro e w1 ⟨rfl, rfl⟩
  go_wp2_with fail
  refine (clsOf_v ⟨#[120]⟩ 1 true (by decide +kernel) _).mono ?_
  rintro e w1 ⟨rfl, rfl⟩
  go_wp2_with fail
  refine (works_v _).mono ?_
  rintro e w1 ⟨rfl, hb⟩
  have HB := Lib.hid hb
  clear hb
  go_wp2_with fail
  go_ret
  exact ⟨rfl, HB.out⟩
set_option maxHeartbeats 1000000 in
theorem let_oo (s : ByteArray) (s0 : (s.toList == (ByteArray.mk #[103]).toList) = false) (s1 : (s.toList == (ByteArray.mk #[120]).toList) = false) (hz : classOf s = (0, false)) (cl : Int) (c0 : (cl == 0) = false) (c1 : (cl == 1) = false) (hl : (ByteArray.mk (letter cl).toArray) = ⟨#[]⟩) (w : World) : Calls Try.prog 5 #[.int .i64 cl, .string s] w fun e w' => e = .returned (.bool true) ∧ Below w.heap.size w w' := by
  have HZ := Lib.hid hz
  have e0 : (ByteArray.mk #[103]).toList = [103] := by rw [ByteArray.toList_eq]
  have e1 : (ByteArray.mk #[120]).toList = [120] := by rw [ByteArray.toList_eq]
  rw [e0] at s0
  rw [e1] at s1
  have s0' : ¬ s.toList = [103] := by simpa using s0
  have s1' : ¬ s.toList = [120] := by simpa using s1
  clear hz e0 e1
  have HL := Lib.hid hl
  clear hl
  go_enter Try.func5, Try.ntmps5
  go_wp2_with fail
  refine (letter_v cl ⟨#[]⟩ HL.out _).mono ?_
  rintro e w1 ⟨rfl, rfl⟩
  go_wp2_with fail
  refine (clsOf_v s 0 false HZ.out _).mono ?_
  rintro e w1 ⟨rfl, rfl⟩
  go_wp2_with fail
  refine (clsOf_v ⟨#[]⟩ 0 false (by decide +kernel) _).mono ?_
  rintro e w1 ⟨rfl, rfl⟩
  go_wp2_with fail
  refine (works_v _).mono ?_
  rintro e w1 ⟨rfl, hb⟩
  have HB := Lib.hid hb
  clear hb
  go_wp2_with fail
  go_ret
  exact ⟨rfl, HB.out⟩
theorem list_inj {s t : ByteArray} (h : s.toList = t.toList) : s = t := by
  rw [ByteArray.toList_eq, ByteArray.toList_eq] at h
  apply ByteArray.ext
  exact Array.toList_inj.1 h
theorem letters_v (cl : Int) (s : ByteArray) (w : World) : Calls Try.prog 5 #[.int .i64 cl, .string s] w fun e w' => e = .returned (.bool true) ∧ Below w.heap.size w w' := by
  have hs : s = ⟨#[103]⟩ ∨ s = ⟨#[120]⟩ ∨ ((s.toList == (ByteArray.mk #[103]).toList) = false ∧ (s.toList == (ByteArray.mk #[120]).toList) = false ∧ classOf s = (0, false)) := by
    cases h0 : (s.toList == (ByteArray.mk #[103]).toList)
    · cases h1 : (s.toList == (ByteArray.mk #[120]).toList)
      · refine .inr (.inr ⟨rfl, rfl, class_miss s (fun j hj => ?_)⟩)
        have : j = 0 ∨ j = 1 := by omega
        unfold isL
        rcases this with rfl | rfl
        · rw [beq_eq_false_iff_ne] at h0 ⊢; exact fun e => h0 e.symm
        · rw [beq_eq_false_iff_ne] at h1 ⊢; exact fun e => h1 e.symm
      · exact .inr (.inl (list_inj (by simpa using h1)))
    · exact .inl (list_inj (by simpa using h0))
  have hc : cl = 0 ∨ cl = 1 ∨ ((cl == 0) = false ∧ (cl == 1) = false ∧ (ByteArray.mk (letter cl).toArray) = ⟨#[]⟩) := by
    by_cases h0 : cl = 0
    · exact .inl h0
    by_cases h1 : cl = 1
    · exact .inr (.inl h1)
    · exact .inr (.inr ⟨by rw [beq_eq_false_iff_ne]; exact h0, by rw [beq_eq_false_iff_ne]; exact h1, by unfold letter; rw [if_neg h0, if_neg h1]⟩)
  rcases hs with rfl | rfl | ⟨s0, s1, hz⟩ <;> rcases hc with rfl | rfl | ⟨c0, c1, hl⟩
  · exact let_g0 w
  · exact let_g1 w
  · exact let_go cl c0 c1 hl w
  · exact let_x0 w
  · exact let_x1 w
  · exact let_xo cl c0 c1 hl w
  · exact let_o0 s s0 s1 hz w
  · exact let_o1 s s0 s1 hz w
  · exact let_oo s s0 s1 hz cl c0 c1 hl w
end Go.Proofs.Ytmfodjdgekafoaa
