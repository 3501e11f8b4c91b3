/- What the program's Scan and Right answer. -/
import Derived.Test.YtmckplgbaalpbaaDoorNamByte
namespace Go.Proofs.YtmckplgbaalpbaaDoor.Nam
open Go.ChangeShapes Go.WideShapes Go.RowKit
set_option linter.unusedVariables false

theorem at_list (s : ByteArray) (a : Nat) (h : a < s.size) : s.data.toList[a]'(by rw [len_list]; exact h) = s[a] := by
  rw [ByteArray.getElem_eq_getElem_data]; simp
theorem scan_far (s : ByteArray) (z : Int) (h : z < 0 ∨ (s.size : Int) ≤ z) (w : World) : Calls Tryd.prog 47 #[.string s, .int .i64 z] w fun e w' => e = .returned (.int .i64 z) ∧ w = w' := by
  by_cases h0 : z < 0
  · have h1 : decide (z < 0) = true := by rw [decide_eq_true_iff]; exact h0
    clear h
    go_enter Tryd.func47, Tryd.ntmps47
    go_wp2_with fail
    go_ret
    exact ⟨rfl, rfl⟩
  · have h1 : (s.size : Int) ≤ z := by omega
    have h2 : 0 ≤ z := by omega
    clear h h0
    go_enter Tryd.func47, Tryd.ntmps47
    go_wp2_with fail
    go_ret
    exact ⟨rfl, rfl⟩
theorem scan_no (s : ByteArray) (a : Nat) (h : a < s.size) (hc : letter s[a] = false) (w : World) : Calls Tryd.prog 47 #[.string s, .int .i64 (a : Int)] w fun e w' => e = .returned (.int .i64 (a : Int)) ∧ w = w' := by
  have HC := Lib.hid hc
  have h1 : decide ((a : Int) < 0) = false := by rw [decide_eq_false_iff_not]; omega
  have h2 : decide (s.size ≤ a) = false := by rw [decide_eq_false_iff_not]; omega
  have h3 : (a : Int) < (s.size : Int) := by omega
  clear hc
  go_enter Tryd.func47, Tryd.ntmps47
  go_wp2_with fail
  refine (letter_v s[a] _ HC.out _).mono ?_
  rintro e w1 ⟨rfl, rfl⟩
  go_wp2_with fail
  go_ret
  exact ⟨rfl, rfl⟩
theorem ret_i {x y : Int} {k : IntKind} (h : x = y) : Ending.returned (.int k x) = .returned (.int k y) := by rw [h]
set_option maxHeartbeats 400000 in
theorem scan_yes (s : ByteArray) (a y : Nat) (hs : s.size ≤ 9223372036854775806) (h : a < s.size) (hc : letter s[a] = true) (hy : a + run (s.data.toList.drop a) = y) (w : World) : Calls Tryd.prog 47 #[.string s, .int .i64 (a : Int)] w fun e w' => e = .returned (.int .i64 (y : Int)) ∧ w = w' := by
  have HC := Lib.hid hc
  have HY := Lib.hid hy
  have h1 : decide ((a : Int) < 0) = false := by rw [decide_eq_false_iff_not]; omega
  have h2 : decide (s.size ≤ a) = false := by rw [decide_eq_false_iff_not]; omega
  have h3 : (a : Int) < (s.size : Int) := by omega
  clear hc hy
  go_enter Tryd.func47, Tryd.ntmps47
  go_wp2_with fail
  refine (letter_v s[a] _ HC.out _).mono ?_
  rintro e w1 ⟨rfl, rfl⟩
  go_wp2_with fail
  clear h1 h2
  go_loopg [1] (s.size - a) (fun gk x wr => ∃ n : Nat, n ≤ s.size ∧ x = .int .i64 (n : Int) ∧ Hid (gk = s.size - n ∧ n + run (s.data.toList.drop n) = y ∧ w = wr))
  case atStart => exact ⟨a, by omega, rfl, rfl, HY.out, rfl⟩
  case round =>
    obtain ⟨n, hn, rfl, HH⟩ := hrel
    by_cases hl : n < s.size
    · have hl' : (n : Int) < (s.size : Int) := by omega
      obtain ⟨b, hb⟩ : ∃ b, sign s[n] = b := ⟨_, rfl⟩
      have HB := Lib.hid hb
      cases b
      · clear hb
        go_wp2_with fail
        refine (sign_v s[n] _ HB.out _).mono ?_
        rintro e w1 ⟨rfl, rfl⟩
        go_wp2_with fail
        go_ret
        refine ⟨ret_i ?_, HH.out.2.2⟩
        have := HH.out.2.1
        rw [run_stop _ n (by rw [len_list]; exact hl) (by rw [at_list s n hl]; exact HB.out)] at this
        omega
      · clear hb
        go_wp2_with fail
        refine (sign_v s[n] _ HB.out _).mono ?_
        rintro e w1 ⟨rfl, rfl⟩
        go_wp2_with fail
        go_roundg (s.size - (n + 1))
        case measure => have := HH.out.1; omega
        case rel =>
          refine ⟨n + 1, by omega, by go_num, rfl, ?_, HH.out.2.2⟩
          have := HH.out.2.1
          rw [run_at _ n (by rw [len_list]; exact hl) (by rw [at_list s n hl]; exact HB.out)] at this
          exact this
    · obtain rfl : n = s.size := by omega
      clear hn
      go_wp2_with fail
      go_ret
      refine ⟨ret_i ?_, HH.out.2.2⟩
      have := HH.out.2.1
      rw [run_end _ _ (by rw [len_list]; exact Nat.le_refl _)] at this
      omega
/-- Where the name ends that begins at a place, whatever the place. -/
def scanZ (l : List UInt8) (z : Int) : Int := if z < 0 then z else (scan l z.toNat : Int)
theorem scan_v (s : ByteArray) (z y : Int) (hs : s.size ≤ 9223372036854775806) (hy : scanZ s.data.toList z = y) (w : World) : Calls Tryd.prog 47 #[.string s, .int .i64 z] w fun e w' => e = .returned (.int .i64 y) ∧ w = w' := by
  subst hy
  unfold scanZ
  by_cases h0 : z < 0
  · rw [if_pos h0]; exact scan_far s z (.inl h0) w
  · rw [if_neg h0]
    obtain ⟨a, rfl⟩ : ∃ a : Nat, z = a := ⟨z.toNat, by omega⟩
    rw [show ((a : Int)).toNat = a by omega]
    by_cases h1 : a < s.size
    · have hl : a < s.data.toList.length := by rw [len_list]; exact h1
      cases hc : letter s[a]
      · rw [scan_not _ a hl (by rw [at_list s a h1]; exact hc)]; exact scan_no s a h1 hc w
      · rw [scan_name _ a hl (by rw [at_list s a h1]; exact hc)]; exact scan_yes s a _ hs h1 hc rfl w
    · rw [scan_out _ a (by rw [len_list]; omega)]; exact scan_far s a (.inr (by omega)) w
end Go.Proofs.YtmckplgbaalpbaaDoor.Nam
