/- What the program's Right answers, and the document's Right and Scan. -/
import Derived.Test.YtmckplgbaalpbaaDoorNamScan
namespace Go.Proofs.YtmckplgbaalpbaaDoor.Nam
open Go.ChangeShapes Go.WideShapes Go.RowKit
set_option linter.unusedVariables false

/-! the document's own -/
theorem refscan_far (s : ByteArray) (z : Int) (h : z < 0 ∨ (s.size : Int) ≤ z) (w : World) : Calls Tryd.prog 40 #[.string s, .int .i64 z] w fun e w' => e = .returned (.int .i64 z) ∧ w = w' := by
  by_cases h0 : z < 0
  · have h1 : decide (z < 0) = true := by rw [decide_eq_true_iff]; exact h0
    clear h
    go_enter Tryd.func40, Tryd.ntmps40
    go_wp2_with fail
    go_ret
    exact ⟨rfl, rfl⟩
  · have h1 : (s.size : Int) ≤ z := by omega
    have h2 : 0 ≤ z := by omega
    clear h h0
    go_enter Tryd.func40, Tryd.ntmps40
    go_wp2_with fail
    go_ret
    exact ⟨rfl, rfl⟩
theorem refscan_no (s : ByteArray) (a : Nat) (h : a < s.size) (hc : letter s[a] = false) (w : World) : Calls Tryd.prog 40 #[.string s, .int .i64 (a : Int)] w fun e w' => e = .returned (.int .i64 (a : Int)) ∧ w = w' := by
  have HC := Lib.hid hc
  have h1 : decide ((a : Int) < 0) = false := by rw [decide_eq_false_iff_not]; omega
  have h2 : decide (s.size ≤ a) = false := by rw [decide_eq_false_iff_not]; omega
  have h3 : (a : Int) < (s.size : Int) := by omega
  clear hc
  go_enter Tryd.func40, Tryd.ntmps40
  go_wp2_with fail
  refine (refletter_v s[a] _ HC.out _).mono ?_
  rintro e w1 ⟨rfl, rfl⟩
  go_wp2_with fail
  go_ret
  exact ⟨rfl, rfl⟩
theorem sign_letter {c : UInt8} (h : letter c = true) : sign c = true := letter_sign h
theorem sign_digit {c : UInt8} (h : letter c = false) (h1 : 48 ≤ c.toNat) (h2 : c.toNat ≤ 57) : sign c = true := by unfold sign; rw [h, decide_eq_true ⟨h1, h2⟩]; rfl
theorem sign_low {c : UInt8} (h : letter c = false) (h1 : c.toNat < 48) : sign c = false := by unfold sign; rw [h, decide_eq_false (by omega)]; rfl
theorem sign_high {c : UInt8} (h : letter c = false) (h1 : 57 < c.toNat) : sign c = false := by unfold sign; rw [h, decide_eq_false (by omega)]; rfl
theorem run_stop' {l : List UInt8} {n y : Nat} (h : n < l.length) (hc : sign l[n] = false) (hy : n + run (l.drop n) = y) : n = y := by rw [run_stop l n h hc] at hy; exact hy
theorem run_at' {l : List UInt8} {n y : Nat} (h : n < l.length) (hc : sign l[n] = true) (hy : n + run (l.drop n) = y) : (n + 1) + run (l.drop (n + 1)) = y := by rw [run_at l n h hc] at hy; exact hy
set_option maxHeartbeats 400000 in
theorem refscan_yes (s : ByteArray) (a y : Nat) (hs : s.size ≤ 9223372036854775806) (h : a < s.size) (hc : letter s[a] = true) (hy : a + run (s.data.toList.drop a) = y) (w : World) : Calls Tryd.prog 40 #[.string s, .int .i64 (a : Int)] w fun e w' => e = .returned (.int .i64 (y : Int)) ∧ w = w' := by
  have HC := Lib.hid hc
  have HY := Lib.hid (run_at' (l := s.data.toList) (by rw [len_list]; exact h) (by rw [at_list s a h]; exact letter_sign hc) hy)
  have h1 : decide ((a : Int) < 0) = false := by rw [decide_eq_false_iff_not]; omega
  have h2 : decide (s.size ≤ a) = false := by rw [decide_eq_false_iff_not]; omega
  have h3 : (a : Int) < (s.size : Int) := by omega
  clear hc hy
  go_enter Tryd.func40, Tryd.ntmps40
  go_wp2_with fail
  refine (refletter_v s[a] _ HC.out _).mono ?_
  rintro e w1 ⟨rfl, rfl⟩
  go_wp2_with fail
  clear h1 h2
  go_loopg [5] (s.size - (a + 1)) (fun gk x wr => ∃ n : Nat, n ≤ s.size ∧ x = .int .i64 (n : Int) ∧ Hid (gk = s.size - n ∧ n + run (s.data.toList.drop n) = y ∧ w = wr))
  case atStart => exact ⟨a + 1, by omega, by go_num, rfl, HY.out, rfl⟩
  case round =>
    obtain ⟨n, hn, rfl, HH⟩ := hrel
    by_cases hl : n < s.size
    · have hl' : (n : Int) < (s.size : Int) := by omega
      have HL : Hid (n < s.data.toList.length) := Lib.hid (by rw [len_list]; exact hl)
      obtain ⟨b, hb⟩ : ∃ b, letter s[n] = b := ⟨_, rfl⟩
      have HB := Lib.hid hb
      cases b
      · by_cases d1 : 48 ≤ s[n].toNat
        · by_cases d2 : s[n].toNat ≤ 57
          · have HS := Lib.hid (run_at' HL.out (by rw [at_list s n hl]; exact sign_digit hb d1 d2) HH.out.2.1)
            clear hb
            go_wp2_with fail
            refine (refletter_v s[n] _ HB.out _).mono ?_
            rintro e w1 ⟨rfl, rfl⟩
            go_wp2_with fail
            go_roundg (s.size - (n + 1))
            case measure => have := HH.out.1; omega
            case rel => exact ⟨n + 1, by omega, by go_num, rfl, HS.out, HH.out.2.2⟩
          · have HS := Lib.hid (run_stop' HL.out (by rw [at_list s n hl]; exact sign_high hb (by omega)) HH.out.2.1)
            have d3 : 57 < s[n].toNat := by omega
            clear hb d2
            go_wp2_with fail
            refine (refletter_v s[n] _ HB.out _).mono ?_
            rintro e w1 ⟨rfl, rfl⟩
            go_wp2_with fail
            go_ret
            exact ⟨ret_i (by have := HS.out; omega), HH.out.2.2⟩
        · have HS := Lib.hid (run_stop' HL.out (by rw [at_list s n hl]; exact sign_low hb (by omega)) HH.out.2.1)
          have d3 : s[n].toNat < 48 := by omega
          clear hb d1
          go_wp2_with fail
          refine (refletter_v s[n] _ HB.out _).mono ?_
          rintro e w1 ⟨rfl, rfl⟩
          go_wp2_with fail
          go_ret
          exact ⟨ret_i (by have := HS.out; omega), HH.out.2.2⟩
      · have HS := Lib.hid (run_at' HL.out (by rw [at_list s n hl]; exact letter_sign hb) HH.out.2.1)
        clear hb
        go_wp2_with fail
        refine (refletter_v s[n] _ HB.out _).mono ?_
        rintro e w1 ⟨rfl, rfl⟩
        go_wp2_with fail
        go_roundg (s.size - (n + 1))
        case measure => have := HH.out.1; omega
        case rel => exact ⟨n + 1, by omega, by go_num, rfl, HS.out, HH.out.2.2⟩
    · obtain rfl : n = s.size := by omega
      clear hn
      go_wp2_with fail
      go_ret
      refine ⟨ret_i ?_, HH.out.2.2⟩
      have := HH.out.2.1
      rw [run_end _ _ (by rw [len_list]; exact Nat.le_refl _)] at this
      omega
theorem refscan_v (s : ByteArray) (z y : Int) (hs : s.size ≤ 9223372036854775806) (hy : scanZ s.data.toList z = y) (w : World) : Calls Tryd.prog 40 #[.string s, .int .i64 z] w fun e w' => e = .returned (.int .i64 y) ∧ w = w' := by
  subst hy
  unfold scanZ
  by_cases h0 : z < 0
  · rw [if_pos h0]; exact refscan_far s z (.inl h0) w
  · rw [if_neg h0]
    obtain ⟨a, rfl⟩ : ∃ a : Nat, z = a := ⟨z.toNat, by omega⟩
    rw [show ((a : Int)).toNat = a by omega]
    by_cases h1 : a < s.size
    · have hl : a < s.data.toList.length := by rw [len_list]; exact h1
      cases hc : letter s[a]
      · rw [scan_not _ a hl (by rw [at_list s a h1]; exact hc)]; exact refscan_no s a h1 hc w
      · rw [scan_name _ a hl (by rw [at_list s a h1]; exact hc)]; exact refscan_yes s a _ hs h1 hc rfl w
    · rw [scan_out _ a (by rw [len_list]; omega)]; exact refscan_far s a (.inr (by omega)) w
end Go.Proofs.YtmckplgbaalpbaaDoor.Nam
