/- What the document's Right answers. -/
import Derived.Test.YtpdodiloddkabaaDoorRight
namespace Go.Proofs.YtpdodiloddkabaaDoor
open Go.ChangeShapes Go.WideShapes Go.RowKit
set_option linter.unusedVariables false

theorem right_start (l : List UInt8) (h0 : 0 < l.length) (h1 : l.length ≤ 24) (hc : letter l[0] = true) : right l = (l.drop 1).all sign := by
  cases l with
  | nil => simp at h0
  | cons c r =>
    simp at hc h1
    show (letter c && r.all sign && decide (r.length < 24)) = r.all sign
    rw [hc, decide_eq_true (by omega : r.length < 24)]; simp
theorem right_bad (l : List UInt8) (h0 : 0 < l.length) (hc : letter l[0] = false) : right l = false := by
  cases l with
  | nil => simp at h0
  | cons c r => simp at hc; simp [right, hc]
theorem all_at {l : List UInt8} {n : Nat} {b : Bool} (h : n < l.length) (hc : sign l[n] = true) (hb : b = (l.drop n).all sign) : b = (l.drop (n + 1)).all sign := by
  rw [hb, List.drop_eq_getElem_cons h, List.all_cons, hc, Bool.true_and]
theorem all_stop {l : List UInt8} {n : Nat} {b : Bool} (h : n < l.length) (hc : sign l[n] = false) (hb : b = (l.drop n).all sign) : b = false := by
  rw [hb, List.drop_eq_getElem_cons h, List.all_cons, hc, Bool.false_and]
theorem all_end {l : List UInt8} {n : Nat} {b : Bool} (h : l.length ≤ n) (hb : b = (l.drop n).all sign) : b = true := by
  rw [hb, List.drop_eq_nil_of_le h]; rfl
theorem refright_short (s : ByteArray) (h : s.size = 0 ∨ 24 < s.size) (w : World) : Calls Tryd.prog 9 #[.string s] w fun e w' => e = .returned (.bool false) ∧ w = w' := by
  rcases h with h | h
  · have h1 : s.size < 1 := by omega
    go_enter Tryd.func9, Tryd.ntmps9
    go_wp2_with fail
    go_ret
    exact ⟨rfl, rfl⟩
  · have h1 : decide (s.size < 1) = false := by rw [decide_eq_false_iff_not]; omega
    have h2 : decide (24 < s.size) = true := by rw [decide_eq_true_iff]; omega
    have h3 : 1 ≤ s.size := by omega
    go_enter Tryd.func9, Tryd.ntmps9
    go_wp2_with fail
    go_ret
    exact ⟨rfl, rfl⟩
theorem refright_bad (s : ByteArray) (h0 : 0 < s.size) (h1 : s.size ≤ 24) (hc : letter s[0] = false) (w : World) : Calls Tryd.prog 9 #[.string s] w fun e w' => e = .returned (.bool false) ∧ w = w' := by
  have HC := Lib.hid hc
  have h2 : decide (s.size < 1) = false := by rw [decide_eq_false_iff_not]; omega
  have h3 : decide (24 < s.size) = false := by rw [decide_eq_false_iff_not]; omega
  clear hc
  go_enter Tryd.func9, Tryd.ntmps9
  go_wp2_with fail
  refine (refletter_v s[0] _ HC.out _).mono ?_
  rintro e w1 ⟨rfl, rfl⟩
  go_wp2_with fail
  go_ret
  exact ⟨rfl, rfl⟩
set_option maxHeartbeats 400000 in
theorem refright_go (s : ByteArray) (b : Bool) (h0 : 0 < s.size) (h1 : s.size ≤ 24) (hc : letter s[0] = true) (hb : b = (s.data.toList.drop 1).all sign) (w : World) : Calls Tryd.prog 9 #[.string s] w fun e w' => e = .returned (.bool b) ∧ w = w' := by
  have HC := Lib.hid hc
  have HY := Lib.hid hb
  have h2 : decide (s.size < 1) = false := by rw [decide_eq_false_iff_not]; omega
  have h3 : decide (24 < s.size) = false := by rw [decide_eq_false_iff_not]; omega
  clear hc hb
  go_enter Tryd.func9, Tryd.ntmps9
  go_wp2_with fail
  refine (refletter_v s[0] _ HC.out _).mono ?_
  rintro e w1 ⟨rfl, rfl⟩
  go_wp2_with fail
  clear h2 h3
  go_loopg [3] (s.size - 1) (fun gk x wr => ∃ n : Nat, n ≤ s.size ∧ x = .int .i64 (n : Int) ∧ Hid (gk = s.size - n ∧ b = (s.data.toList.drop n).all sign ∧ w = wr))
  case atStart => exact ⟨1, by omega, rfl, rfl, HY.out, rfl⟩
  case round =>
    obtain ⟨n, hn, rfl, HH⟩ := hrel
    by_cases hl : n < s.size
    · have hl' : (n : Int) < (s.size : Int) := by omega
      have HL : Hid (n < s.data.toList.length) := Lib.hid (by rw [len_list]; exact hl)
      obtain ⟨x, hx⟩ : ∃ x, letter s[n] = x := ⟨_, rfl⟩
      have HB := Lib.hid hx
      cases x
      · by_cases d1 : 48 ≤ s[n].toNat
        · by_cases d2 : s[n].toNat ≤ 57
          · have HS := Lib.hid (all_at HL.out (by rw [at_list s n hl]; exact sign_digit hx d1 d2) HH.out.2.1)
            clear hx
            go_wp2_with fail
            refine (refletter_v s[n] _ HB.out _).mono ?_
            rintro e w1 ⟨rfl, rfl⟩
            go_wp2_with fail
            go_roundg (s.size - (n + 1))
            case measure => have := HH.out.1; omega
            case rel => exact ⟨n + 1, by omega, by go_num, rfl, HS.out, HH.out.2.2⟩
          · have HS := Lib.hid (all_stop HL.out (by rw [at_list s n hl]; exact sign_high hx (by omega)) HH.out.2.1)
            have d3 : 57 < s[n].toNat := by omega
            clear hx d2
            go_wp2_with fail
            refine (refletter_v s[n] _ HB.out _).mono ?_
            rintro e w1 ⟨rfl, rfl⟩
            go_wp2_with fail
            go_ret
            exact ⟨ret_b HS.out.symm, HH.out.2.2⟩
        · have HS := Lib.hid (all_stop HL.out (by rw [at_list s n hl]; exact sign_low hx (by omega)) HH.out.2.1)
          have d3 : s[n].toNat < 48 := by omega
          clear hx d1
          go_wp2_with fail
          refine (refletter_v s[n] _ HB.out _).mono ?_
          rintro e w1 ⟨rfl, rfl⟩
          go_wp2_with fail
          go_ret
          exact ⟨ret_b HS.out.symm, HH.out.2.2⟩
      · have HS := Lib.hid (all_at HL.out (by rw [at_list s n hl]; exact letter_sign hx) HH.out.2.1)
        clear hx
        go_wp2_with fail
        refine (refletter_v s[n] _ HB.out _).mono ?_
        rintro e w1 ⟨rfl, rfl⟩
        go_wp2_with fail
        go_roundg (s.size - (n + 1))
        case measure => have := HH.out.1; omega
        case rel => exact ⟨n + 1, by omega, by go_num, rfl, HS.out, HH.out.2.2⟩
    · obtain rfl : n = s.size := by omega
      clear hn
      go_wp2_with fail
      go_ret
      exact ⟨ret_b (all_end (by rw [len_list]; exact Nat.le_refl _) HH.out.2.1).symm, HH.out.2.2⟩
theorem refright_v (s : ByteArray) (b : Bool) (hb : right s.data.toList = b) (w : World) : Calls Tryd.prog 9 #[.string s] w fun e w' => e = .returned (.bool b) ∧ w = w' := by
  subst hb
  by_cases h0 : s.size = 0
  · have : s.data.toList = [] := List.eq_nil_of_length_eq_zero (by rw [len_list]; exact h0)
    rw [this]; exact refright_short s (.inl h0) w
  · by_cases h1 : s.size ≤ 24
    · have hp : 0 < s.size := by omega
      have hl : 0 < s.data.toList.length := by rw [len_list]; exact hp
      cases hc : letter s[0]
      · rw [right_bad _ hl (by rw [at_list s 0 hp]; exact hc)]; exact refright_bad s hp h1 hc w
      · rw [right_start _ hl (by rw [len_list]; exact h1) (by rw [at_list s 0 hp]; exact hc)]; exact refright_go s _ hp h1 hc rfl w
    · rw [right_long (by rw [len_list]; omega)]; exact refright_short s (.inr (by omega)) w
end Go.Proofs.YtpdodiloddkabaaDoor
