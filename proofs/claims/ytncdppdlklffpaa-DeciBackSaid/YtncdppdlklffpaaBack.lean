/- The walk of the statement DeciBack: a number is read of its text as it was, wherever that stands; what is read is the number's text. -/
import Derived.Test.YtncdppdlklffpaaBackMath
import Derived.Test.YtncdppdlklffpaaWorks
namespace Go.Proofs.Ytncdppdlklffpaa
open Go.ChangeShapes Go.WideShapes Go.RowKit
set_option linter.unusedVariables false

/-- What Get answers is a number with its text, or no number. -/
theorem get_back (s : ByteArray) (hs : s.size ≤ 9223372036854775807) : ∃ x c : Int,
    (∀ w : World, Calls Try.prog 14 #[.string s] w fun e w' => e = .returned (.tuple #[.int .i64 x, .int .i64 c]) ∧ w = w') ∧ (c = 0 → txt x = s.data.toList ∧ fit x) := by
  obtain ⟨m, fr, fin, hS⟩ := Scn.exists s 0 (by omega)
  obtain ⟨x, y, c, ht⟩ : ∃ x y c, scanT (dgs s fr fin) m fin = (x, y, c) := ⟨_, _, _, rfl⟩
  obtain ⟨k, g, hg⟩ : ∃ k g, getT s.size (x, y, c) = (k, g) := ⟨_, _, rfl⟩
  refine ⟨k, g, get_v s m fr fin x y c k g hs hS ht hg, fun h0 => ?_⟩
  subst h0
  unfold getT at hg
  by_cases hc : c = 0
  · subst hc
    by_cases hy : y < (s.size : Int)
    · rw [if_pos rfl, if_pos hy] at hg; injection hg with _ h; cases h
    · rw [if_pos rfl, if_neg hy] at hg; injection hg with h _
      subst h
      obtain ⟨h1, h2, h3⟩ := txt_read s m fr fin _ _ hS ht hy
      exact ⟨h1, h2, h3⟩
  · rw [if_neg hc] at hg; injection hg with _ h; exact absurd h hc
theorem scan_back (A B : ByteArray) (n : Int) (l : List UInt8) (hl : txt n = l) (hn : fit n) (hA : A.size ≤ 100) (hB : B.size ≤ 100) (hb : ∀ h : 0 < B.size, ¬ isDig B[0]) (w : World) :
    Calls Try.prog 12 #[.string (A ++ ⟨l.toArray⟩ ++ B), .int .i64 (A.size : Int)] w fun e w' => e = .returned (.tuple #[.int .i64 n, .int .i64 ((A.size : Int) + (l.length : Int)), .int .i64 0]) ∧ w = w' := by
  have hll : l.length ≤ 20 := by rw [← hl]; exact txt_len n hn.1 hn.2
  have hlist : (A ++ ⟨l.toArray⟩ ++ B).data.toList = A.data.toList ++ (txt n ++ B.data.toList) := by rw [hl]; simp
  obtain ⟨m, fr, fin, hS, ht⟩ := read_txt (A ++ ⟨l.toArray⟩ ++ B) A.data.toList B.data.toList n hn.1 hn.2 hlist (fun c hc => by
    have hp : 0 < B.size := by
      rcases Nat.eq_zero_or_pos B.size with h | h
      · rw [← len_list] at h; rw [List.eq_nil_of_length_eq_zero h] at hc; simp at hc
      · exact h
    rw [head_of B hp] at hc; injection hc with hc; rw [← hc]; exact hb hp)
  rw [len_list] at hS ht
  have hsz : (A ++ ⟨l.toArray⟩ ++ B).size ≤ 9223372036854775807 := by
    rw [← len_list, hlist, hl]; simp only [List.length_append, len_list]; omega
  have k := scan_v _ A.size m fr fin _ _ _ hsz hS ht w
  rw [hl] at k
  have e : ((A.size + l.length : Nat) : Int) = (A.size : Int) + (l.length : Int) := by omega
  rw [e] at k
  exact k
theorem put_b (n : Int) (B : ByteArray) (hl : txt n = B.data.toList) (h : fit n) (w : World) :
    Calls Try.prog 7 #[.int .i64 n] w fun e w' => e = .returned (.string B) ∧ Below w.heap.size w w' := by
  have k := put_v n B.data.toList hl h w
  have e : (⟨B.data.toList.toArray⟩ : ByteArray) = B := by cases B; simp
  rw [e] at k; exact k
theorem back_ahead (n : Int) (A B : ByteArray) (h : (100 : Int) < (A.size : Int)) (w : World) : Calls Try.prog 5 #[.int .i64 n, .string A, .string B] w fun e w' => e = .returned (.bool true) ∧ Below w.heap.size w w' := by
  go_enter Try.func5, Try.ntmps5
  go_wp2_with fail
  refine (works_is _).mono ?_
  rintro e w3 ⟨rfl, hb3⟩
  go_wp2_with fail
  go_ret
  exact ⟨rfl, hb3⟩
theorem back_behind (n : Int) (A B : ByteArray) (h : (A.size : Int) ≤ 100) (h2 : (100 : Int) < (B.size : Int)) (w : World) : Calls Try.prog 5 #[.int .i64 n, .string A, .string B] w fun e w' => e = .returned (.bool true) ∧ Below w.heap.size w w' := by
  go_enter Try.func5, Try.ntmps5
  go_wp2_with fail
  refine (works_is _).mono ?_
  rintro e w3 ⟨rfl, hb3⟩
  go_wp2_with fail
  go_ret
  exact ⟨rfl, hb3⟩
theorem back_digit (n : Int) (A B : ByteArray) (h : (A.size : Int) ≤ 100) (h2 : (B.size : Int) ≤ 100) (hp : 0 < B.size) (hd : isDig B[0]) (w : World) : Calls Try.prog 5 #[.int .i64 n, .string A, .string B] w fun e w' => e = .returned (.bool true) ∧ Below w.heap.size w w' := by
  have h3 : (48 : Int) ≤ (B[0].toNat : Int) := by have := hd.1; omega
  have h4 : (B[0].toNat : Int) ≤ 57 := by have := hd.2; omega
  have hp' : (0 : Int) < (B.size : Int) := by omega
  clear hd
  go_enter Try.func5, Try.ntmps5
  go_wp2_with fail
  refine (works_is _).mono ?_
  rintro e w3 ⟨rfl, hb3⟩
  go_wp2_with fail
  go_ret
  exact ⟨rfl, hb3⟩
theorem back_ways (B : ByteArray) (h : ∀ h : 0 < B.size, ¬ isDig B[0]) : B.size = 0 ∨ (∃ h : 0 < B.size, (B[0].toNat : Int) < 48) ∨ (∃ h : 0 < B.size, (48 : Int) ≤ (B[0].toNat : Int) ∧ (57 : Int) < (B[0].toNat : Int)) := by
  by_cases hk : 0 < B.size
  · by_cases h48 : 48 ≤ B[0].toNat
    · exact .inr (.inr ⟨hk, by omega, by
        have h2 : ¬ B[0].toNat ≤ 57 := fun h57 => h hk ⟨h48, h57⟩
        omega⟩)
    · exact .inr (.inl ⟨hk, by omega⟩)
  · exact .inl (by omega)
set_option maxHeartbeats 1000000 in
theorem back_main (n : Int) (A B : ByteArray) (hn : fit n) (h : (A.size : Int) ≤ 100) (h2 : (B.size : Int) ≤ 100) (hnd : ∀ h : 0 < B.size, ¬ isDig B[0]) (w : World) : Calls Try.prog 5 #[.int .i64 n, .string A, .string B] w fun e w' => e = .returned (.bool true) ∧ Below w.heap.size w w' := by
  obtain ⟨l, hl⟩ : ∃ l, txt n = l := ⟨_, rfl⟩
  obtain ⟨k, c, k1, k2⟩ := get_back B (by omega)
  have hll : l.length ≤ 20 := by rw [← hl]; exact txt_len n hn.1 hn.2
  have ways := back_ways B hnd
  have K1 := Lib.hid k1
  have K2 := Lib.hid k2
  have HS := Lib.hid (scan_back A B n l hl hn (by omega) (by omega) hnd)
  have HL := Lib.hid hl
  have HN := Lib.hid hn
  clear k1 k2 hl hn hnd
  by_cases hc : c = 0
  · subst hc
    have K3 := Lib.hid (K2.out rfl)
    clear K2
    rcases ways with hB | ⟨hp, h3⟩ | ⟨hp, h3, h4⟩
    · have hB3 : ¬ 0 < B.size := by omega
      clear hB
      go_enter Try.func5, Try.ntmps5
      go_wp2_with fail
      refine (put_v n l HL.out HN.out _).mono ?_
      rintro e w1 ⟨rfl, hb⟩
      have B1 := Lib.hid hb
      clear hb
      go_wp2_with fail
      refine (HS.out _).mono ?_
      rintro e w' ⟨rfl, rfl⟩
      go_wp2_with fail
      refine (K1.out _).mono ?_
      rintro e w' ⟨rfl, rfl⟩
      go_wp2_with fail
      refine (put_b k B K3.out.1 K3.out.2 _).mono ?_
      rintro e w2 ⟨rfl, hb⟩
      have B2 := Lib.hid (B1.out.trans (hb.mono B1.out.size))
      clear hb B1
      go_wp2_with fail
      refine (works_is _).mono ?_
      rintro e w3 ⟨rfl, hb⟩
      have B3 := Lib.hid (B2.out.trans (hb.mono B2.out.size))
      clear hb
      go_wp2_with fail
      go_ret
      exact ⟨rfl, B3.out⟩
    · have hp' : (0 : Int) < (B.size : Int) := by omega
      go_enter Try.func5, Try.ntmps5
      go_wp2_with fail
      refine (put_v n l HL.out HN.out _).mono ?_
      rintro e w1 ⟨rfl, hb⟩
      have B1 := Lib.hid hb
      clear hb
      go_wp2_with fail
      refine (HS.out _).mono ?_
      rintro e w' ⟨rfl, rfl⟩
      go_wp2_with fail
      refine (K1.out _).mono ?_
      rintro e w' ⟨rfl, rfl⟩
      go_wp2_with fail
      refine (put_b k B K3.out.1 K3.out.2 _).mono ?_
      rintro e w2 ⟨rfl, hb⟩
      have B2 := Lib.hid (B1.out.trans (hb.mono B1.out.size))
      clear hb B1
      go_wp2_with fail
      refine (works_is _).mono ?_
      rintro e w3 ⟨rfl, hb⟩
      have B3 := Lib.hid (B2.out.trans (hb.mono B2.out.size))
      clear hb
      go_wp2_with fail
      go_ret
      exact ⟨rfl, B3.out⟩
    · have hp' : (0 : Int) < (B.size : Int) := by omega
      go_enter Try.func5, Try.ntmps5
      go_wp2_with fail
      refine (put_v n l HL.out HN.out _).mono ?_
      rintro e w1 ⟨rfl, hb⟩
      have B1 := Lib.hid hb
      clear hb
      go_wp2_with fail
      refine (HS.out _).mono ?_
      rintro e w' ⟨rfl, rfl⟩
      go_wp2_with fail
      refine (K1.out _).mono ?_
      rintro e w' ⟨rfl, rfl⟩
      go_wp2_with fail
      refine (put_b k B K3.out.1 K3.out.2 _).mono ?_
      rintro e w2 ⟨rfl, hb⟩
      have B2 := Lib.hid (B1.out.trans (hb.mono B1.out.size))
      clear hb B1
      go_wp2_with fail
      refine (works_is _).mono ?_
      rintro e w3 ⟨rfl, hb⟩
      have B3 := Lib.hid (B2.out.trans (hb.mono B2.out.size))
      clear hb
      go_wp2_with fail
      go_ret
      exact ⟨rfl, B3.out⟩
  · have hc1 : (c == 0) = false := by rw [beq_eq_false_iff_ne]; exact hc
    clear hc
    rcases ways with hB | ⟨hp, h3⟩ | ⟨hp, h3, h4⟩
    · have hB3 : ¬ 0 < B.size := by omega
      clear hB
      go_enter Try.func5, Try.ntmps5
      go_wp2_with fail
      refine (put_v n l HL.out HN.out _).mono ?_
      rintro e w1 ⟨rfl, hb⟩
      have B1 := Lib.hid hb
      clear hb
      go_wp2_with fail
      refine (HS.out _).mono ?_
      rintro e w' ⟨rfl, rfl⟩
      go_wp2_with fail
      refine (K1.out _).mono ?_
      rintro e w' ⟨rfl, rfl⟩
      go_wp2_with fail
      refine (works_is _).mono ?_
      rintro e w3 ⟨rfl, hb⟩
      have B3 := Lib.hid (B1.out.trans (hb.mono B1.out.size))
      clear hb
      go_wp2_with fail
      go_ret
      exact ⟨rfl, B3.out⟩
    · have hp' : (0 : Int) < (B.size : Int) := by omega
      go_enter Try.func5, Try.ntmps5
      go_wp2_with fail
      refine (put_v n l HL.out HN.out _).mono ?_
      rintro e w1 ⟨rfl, hb⟩
      have B1 := Lib.hid hb
      clear hb
      go_wp2_with fail
      refine (HS.out _).mono ?_
      rintro e w' ⟨rfl, rfl⟩
      go_wp2_with fail
      refine (K1.out _).mono ?_
      rintro e w' ⟨rfl, rfl⟩
      go_wp2_with fail
      refine (works_is _).mono ?_
      rintro e w3 ⟨rfl, hb⟩
      have B3 := Lib.hid (B1.out.trans (hb.mono B1.out.size))
      clear hb
      go_wp2_with fail
      go_ret
      exact ⟨rfl, B3.out⟩
    · have hp' : (0 : Int) < (B.size : Int) := by omega
      go_enter Try.func5, Try.ntmps5
      go_wp2_with fail
      refine (put_v n l HL.out HN.out _).mono ?_
      rintro e w1 ⟨rfl, hb⟩
      have B1 := Lib.hid hb
      clear hb
      go_wp2_with fail
      refine (HS.out _).mono ?_
      rintro e w' ⟨rfl, rfl⟩
      go_wp2_with fail
      refine (K1.out _).mono ?_
      rintro e w' ⟨rfl, rfl⟩
      go_wp2_with fail
      refine (works_is _).mono ?_
      rintro e w3 ⟨rfl, hb⟩
      have B3 := Lib.hid (B1.out.trans (hb.mono B1.out.size))
      clear hb
      go_wp2_with fail
      go_ret
      exact ⟨rfl, B3.out⟩
theorem back_walk (n : Int) (A B : ByteArray) (hn : fit n) (w : World) : Calls Try.prog 5 #[.int .i64 n, .string A, .string B] w fun e w' => e = .returned (.bool true) ∧ Below w.heap.size w w' := by
  by_cases h : (100 : Int) < (A.size : Int)
  · exact back_ahead n A B h w
  by_cases h2 : (100 : Int) < (B.size : Int)
  · exact back_behind n A B (by omega) h2 w
  by_cases h3 : ∃ h : 0 < B.size, isDig B[0]
  · obtain ⟨hp, hd⟩ := h3
    exact back_digit n A B (by omega) (by omega) hp hd w
  · exact back_main n A B hn (by omega) (by omega) (fun hp hd => h3 ⟨hp, hd⟩) w
end Go.Proofs.Ytncdppdlklffpaa
