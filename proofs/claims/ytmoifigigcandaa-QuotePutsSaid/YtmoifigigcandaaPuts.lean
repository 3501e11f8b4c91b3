/- The walk of the statement QuotePuts: a text between quotes is what the document says, and is read as it was, wherever it stands, if it is not too long. -/
import Derived.Test.YtmoifigigcandaaRef
import Derived.Test.YtmoifigigcandaaWorks
namespace Go.Proofs.Ytmoifigigcandaa
open Go.ChangeShapes Go.WideShapes Go.RowKit
set_option linter.unusedVariables false

theorem mk_list (B : ByteArray) : (⟨B.data.toList.toArray⟩ : ByteArray) = B := by cases B; simp
theorem scan_back (S A B : ByteArray) (p : List UInt8) (hp : put S.data.toList = p) (h : S.size ≤ 64) (hA : A.size ≤ 60) (hB : B.size ≤ 60) (w : World) :
    Calls Try.prog 7 #[.string (A ++ ⟨p.toArray⟩ ++ B), .int .i64 (A.size : Int)] w fun e w' => e = .returned (.tuple #[.string S, .int .i64 ((A.size : Int) + (p.length : Int)), .int .i64 0]) ∧ Below w.heap.size w w' := by
  have hl := put_len S.data.toList
  rw [len_list] at hl
  have hlist : (A ++ ⟨p.toArray⟩ ++ B).data.toList = A.data.toList ++ (put S.data.toList ++ B.data.toList) := by rw [hp]; simp
  have hsz : (A ++ ⟨p.toArray⟩ ++ B).size ≤ 100000 := by
    rw [← len_list, hlist]; simp only [List.length_append, len_list]; omega
  have hR := scanAt_put _ A.data.toList B.data.toList S.data.toList hlist (by rw [len_list]; omega)
  rw [len_list] at hR
  have k := scan_any _ A.size _ _ _ hsz hR w
  rw [mk_list, hp] at k
  have e : ((A.size + p.length : Nat) : Int) = (A.size : Int) + (p.length : Int) := by omega
  rw [e] at k
  exact k
theorem scan_much (S A B : ByteArray) (p : List UInt8) (hp : put S.data.toList = p) (h : 64 < S.size) (h2 : S.size ≤ 100) (hA : A.size ≤ 60) (hB : B.size ≤ 60) : ∃ q : Nat, ∀ w : World,
    Calls Try.prog 7 #[.string (A ++ ⟨p.toArray⟩ ++ B), .int .i64 (A.size : Int)] w fun e w' => e = .returned (.tuple #[.string ⟨#[]⟩, .int .i64 (q : Int), .int .i64 3]) ∧ Below w.heap.size w w' := by
  have hl := put_len S.data.toList
  rw [len_list] at hl
  have hlist : (A ++ ⟨p.toArray⟩ ++ B).data.toList = A.data.toList ++ (put S.data.toList ++ B.data.toList) := by rw [hp]; simp
  have hsz : (A ++ ⟨p.toArray⟩ ++ B).size ≤ 100000 := by
    rw [← len_list, hlist]; simp only [List.length_append, len_list]; omega
  obtain ⟨q, hR⟩ := scanAt_long _ A.data.toList B.data.toList S.data.toList hlist (by rw [len_list]; omega)
  rw [len_list] at hR
  exact ⟨q, fun w => scan_any _ A.size _ _ _ hsz hR w⟩
theorem puts_w1 (S A B : ByteArray) (h : (100 : Int) < (S.size : Int)) (w : World) : Calls Try.prog 3 #[.string S, .string A, .string B] w fun e w' => e = .returned (.bool true) ∧ Below w.heap.size w w' := by
  go_enter Try.func3, Try.ntmps3
  go_wp2_with fail
  refine (works_is _).mono ?_
  rintro e w3 ⟨rfl, hb3⟩
  go_wp2_with fail
  go_ret
  exact ⟨rfl, hb3⟩
theorem puts_w2 (S A B : ByteArray) (h : (S.size : Int) ≤ 100) (h2 : (60 : Int) < (A.size : Int)) (w : World) : Calls Try.prog 3 #[.string S, .string A, .string B] w fun e w' => e = .returned (.bool true) ∧ Below w.heap.size w w' := by
  go_enter Try.func3, Try.ntmps3
  go_wp2_with fail
  refine (works_is _).mono ?_
  rintro e w3 ⟨rfl, hb3⟩
  go_wp2_with fail
  go_ret
  exact ⟨rfl, hb3⟩
theorem puts_w3 (S A B : ByteArray) (h : (S.size : Int) ≤ 100) (h2 : (A.size : Int) ≤ 60) (h3 : (60 : Int) < (B.size : Int)) (w : World) : Calls Try.prog 3 #[.string S, .string A, .string B] w fun e w' => e = .returned (.bool true) ∧ Below w.heap.size w w' := by
  go_enter Try.func3, Try.ntmps3
  go_wp2_with fail
  refine (works_is _).mono ?_
  rintro e w3 ⟨rfl, hb3⟩
  go_wp2_with fail
  go_ret
  exact ⟨rfl, hb3⟩
set_option maxHeartbeats 1000000 in
theorem puts_short (S A B : ByteArray) (h : (S.size : Int) ≤ 64) (h2 : (A.size : Int) ≤ 60) (h3 : (B.size : Int) ≤ 60) (w : World) : Calls Try.prog 3 #[.string S, .string A, .string B] w fun e w' => e = .returned (.bool true) ∧ Below w.heap.size w w' := by
  obtain ⟨p, hp⟩ : ∃ p, put S.data.toList = p := ⟨_, rfl⟩
  have hpl : p.length ≤ 402 := by
    have := put_len S.data.toList
    rw [hp, len_list] at this; omega
  have HS := Lib.hid (scan_back S A B p hp (by omega) (by omega) (by omega))
  have HP := Lib.hid hp
  have h4 : (S.size : Int) ≤ 100 := by omega
  clear hp
  go_enter Try.func3, Try.ntmps3
  go_wp2_with fail
  refine (put_v S p HP.out (by omega) _).mono ?_
  rintro e w1 ⟨rfl, hb⟩
  have B1 := Lib.hid hb
  clear hb
  go_wp2_with fail
  refine (HS.out _).mono ?_
  rintro e w2 ⟨rfl, hb⟩
  have B2 := Lib.hid (B1.out.trans (hb.mono B1.out.size))
  clear hb B1
  go_wp2_with fail
  refine (refput_v S p HP.out (by omega) _).mono ?_
  rintro e w3 ⟨rfl, hb⟩
  have B3 := Lib.hid (B2.out.trans (hb.mono B2.out.size))
  clear hb B2
  go_wp2_with fail
  refine (works_is _).mono ?_
  rintro e w4 ⟨rfl, hb⟩
  have B4 := Lib.hid (B3.out.trans (hb.mono B3.out.size))
  clear hb B3
  go_wp2_with fail
  go_ret
  exact ⟨rfl, B4.out⟩
set_option maxHeartbeats 1000000 in
theorem puts_long (S A B : ByteArray) (h0 : (64 : Int) < (S.size : Int)) (h : (S.size : Int) ≤ 100) (h2 : (A.size : Int) ≤ 60) (h3 : (B.size : Int) ≤ 60) (w : World) : Calls Try.prog 3 #[.string S, .string A, .string B] w fun e w' => e = .returned (.bool true) ∧ Below w.heap.size w w' := by
  obtain ⟨p, hp⟩ : ∃ p, put S.data.toList = p := ⟨_, rfl⟩
  have hpl : p.length ≤ 402 := by
    have := put_len S.data.toList
    rw [hp, len_list] at this; omega
  obtain ⟨q, hq⟩ := scan_much S A B p hp (by omega) (by omega) (by omega) (by omega)
  have HS := Lib.hid hq
  have HP := Lib.hid hp
  clear hp hq
  go_enter Try.func3, Try.ntmps3
  go_wp2_with fail
  refine (put_v S p HP.out (by omega) _).mono ?_
  rintro e w1 ⟨rfl, hb⟩
  have B1 := Lib.hid hb
  clear hb
  go_wp2_with fail
  refine (HS.out _).mono ?_
  rintro e w2 ⟨rfl, hb⟩
  have B2 := Lib.hid (B1.out.trans (hb.mono B1.out.size))
  clear hb B1
  go_wp2_with fail
  refine (refput_v S p HP.out (by omega) _).mono ?_
  rintro e w3 ⟨rfl, hb⟩
  have B3 := Lib.hid (B2.out.trans (hb.mono B2.out.size))
  clear hb B2
  go_wp2_with fail
  refine (works_is _).mono ?_
  rintro e w4 ⟨rfl, hb⟩
  have B4 := Lib.hid (B3.out.trans (hb.mono B3.out.size))
  clear hb B3
  go_wp2_with fail
  go_ret
  exact ⟨rfl, B4.out⟩
theorem puts_walk (S A B : ByteArray) (w : World) : Calls Try.prog 3 #[.string S, .string A, .string B] w fun e w' => e = .returned (.bool true) ∧ Below w.heap.size w w' := by
  by_cases h1 : (S.size : Int) ≤ 100
  · by_cases h2 : (A.size : Int) ≤ 60
    · by_cases h3 : (B.size : Int) ≤ 60
      · by_cases h4 : (S.size : Int) ≤ 64
        · exact puts_short S A B h4 h2 h3 w
        · exact puts_long S A B (by omega) h1 h2 h3 w
      · exact puts_w3 S A B h1 h2 (by omega) w
    · exact puts_w2 S A B h1 (by omega) w
  · exact puts_w1 S A B (by omega) w
end Go.Proofs.Ytmoifigigcandaa
