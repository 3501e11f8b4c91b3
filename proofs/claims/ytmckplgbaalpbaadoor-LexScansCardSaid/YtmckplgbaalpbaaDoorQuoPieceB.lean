/- What the program's twoDigits and piece answer. -/
import Derived.Test.YtmckplgbaalpbaaDoorQuoPiece
namespace Go.Proofs.YtmckplgbaalpbaaDoor.Quo
open Go.ChangeShapes Go.WideShapes Go.RowKit
set_option linter.unusedVariables false

theorem len_list (s : ByteArray) : s.data.toList.length = s.size := rfl
theorem at_list (s : ByteArray) (i : Nat) (h : i < s.size) : s.data.toList[i]'(by rw [len_list]; exact h) = s[i] := by rfl
theorem drop_cons (s : ByteArray) (i : Nat) (h : i < s.size) : s.data.toList.drop i = s[i] :: s.data.toList.drop (i + 1) := by
  rw [List.drop_eq_getElem_cons (by rw [len_list]; exact h), at_list]
theorem ofNat_two (a b : Nat) (ha : a < 16) (hb : b < 16) : ((UInt8.ofNat (16 * a + b)).toNat : Int) = 16 * a + b := by
  rw [UInt8.toNat_ofNat']; omega
/-- What two digits stand for. -/
def two2 (h l : UInt8) : UInt8 × Nat := if dig h < 16 ∧ dig l < 16 then (UInt8.ofNat (16 * dig h + dig l), 4) else (0, 0)
theorem twod_short (s : ByteArray) (h : s.size < 4) (w : World) : Calls Tryd.prog 70 #[.string s] w fun e w' => e = .returned (.tuple #[.int .u8 0, .int .i64 0]) ∧ w = w' := by
  go_enter Tryd.func70, Tryd.ntmps70
  go_wp2
  go_ret2
  exact ⟨rfl, rfl⟩
theorem digit_v (c : UInt8) (n : Nat) (hn : dig c = n) (h : n < 16) (w : World) : Calls Tryd.prog 71 #[.int .u8 (c.toNat : Int)] w fun e w' => e = .returned (.tuple #[.int .u8 (n : Int), .bool true]) ∧ w = w' := by
  subst hn; exact digit_yes c h w
theorem twod_first (s : ByteArray) (h : 4 ≤ s.size) (h1 : ¬ dig s[2] < 16) (w : World) : Calls Tryd.prog 70 #[.string s] w fun e w' => e = .returned (.tuple #[.int .u8 0, .int .i64 0]) ∧ w = w' := by
  have H1 := Lib.hid h1
  clear h1
  by_cases h2 : dig s[3] < 16
  · have H2 := Lib.hid h2
    clear h2
    go_enter Tryd.func70, Tryd.ntmps70
    go_wp2_with fail
    refine (digit_no _ H1.out _).mono ?_
    rintro e w' ⟨rfl, rfl⟩
    go_wp2_with fail
    refine (digit_yes _ H2.out _).mono ?_
    rintro e w' ⟨rfl, rfl⟩
    go_wp2_with fail
    go_ret2
    exact ⟨rfl, rfl⟩
  · have H2 := Lib.hid h2
    clear h2
    go_enter Tryd.func70, Tryd.ntmps70
    go_wp2_with fail
    refine (digit_no _ H1.out _).mono ?_
    rintro e w' ⟨rfl, rfl⟩
    go_wp2_with fail
    refine (digit_no _ H2.out _).mono ?_
    rintro e w' ⟨rfl, rfl⟩
    go_wp2_with fail
    go_ret2
    exact ⟨rfl, rfl⟩
theorem twod_second (s : ByteArray) (h : 4 ≤ s.size) (h1 : dig s[2] < 16) (h2 : ¬ dig s[3] < 16) (w : World) : Calls Tryd.prog 70 #[.string s] w fun e w' => e = .returned (.tuple #[.int .u8 0, .int .i64 0]) ∧ w = w' := by
  have H1 := Lib.hid h1
  have H2 := Lib.hid h2
  clear h1 h2
  go_enter Tryd.func70, Tryd.ntmps70
  go_wp2_with fail
  refine (digit_yes _ H1.out _).mono ?_
  rintro e w' ⟨rfl, rfl⟩
  go_wp2_with fail
  refine (digit_no _ H2.out _).mono ?_
  rintro e w' ⟨rfl, rfl⟩
  go_wp2_with fail
  go_ret2
  exact ⟨rfl, rfl⟩
theorem or_two : ∀ a : Nat, a < 16 → ∀ b : Nat, b < 16 → bits BinOp.or IntKind.u8 ((a : Int) * 16) (b : Int) = 16 * (a : Int) + (b : Int) := by decide +kernel
theorem twod_yes (s : ByteArray) (a b : Nat) (h : 4 ≤ s.size) (h1 : dig s[2] = a) (h2 : dig s[3] = b) (ha : a < 16) (hb : b < 16) (w : World) :
    Calls Tryd.prog 70 #[.string s] w fun e w' => e = .returned (.tuple #[.int .u8 (16 * (a : Int) + (b : Int)), .int .i64 4]) ∧ w = w' := by
  have H1 := Lib.hid h1
  have H2 := Lib.hid h2
  clear h1 h2
  go_enter Tryd.func70, Tryd.ntmps70
  go_wp2_with fail
  refine (digit_v _ a H1.out ha _).mono ?_
  rintro e w' ⟨rfl, rfl⟩
  go_wp2_with fail
  refine (digit_v _ b H2.out hb _).mono ?_
  rintro e w' ⟨rfl, rfl⟩
  go_wp2_with fail
  go_ret2
  exact ⟨ret_two (or_two a ha b hb) rfl, rfl⟩
/-- A byte and a size handed back. -/
def E2 (t : UInt8 × Nat) : Ending := .returned (.tuple #[.int .u8 (t.1.toNat : Int), .int .i64 (t.2 : Int)])
theorem twod_v (s : ByteArray) (t : UInt8 × Nat) (ht : two (s.data.toList.drop 2) = t) (w : World) : Calls Tryd.prog 70 #[.string s] w fun e w' => e = E2 t ∧ w = w' := by
  by_cases h : s.size < 4
  · have : t = (0, 0) := by
      rw [← ht]
      have hl : (s.data.toList.drop 2).length < 2 := by rw [List.length_drop, len_list]; omega
      unfold two
      split
      · rename_i e; rw [e] at hl; simp at hl; omega
      · rfl
    subst this
    exact twod_short s h w
  · rw [drop_cons s 2 (by omega), drop_cons s 3 (by omega)] at ht
    have ht2 : (if dig s[2] < 16 ∧ dig s[3] < 16 then (UInt8.ofNat (16 * dig s[2] + dig s[3]), 4) else (0, 0)) = t := ht
    by_cases h1 : dig s[2] < 16
    · by_cases h2 : dig s[3] < 16
      · rw [if_pos ⟨h1, h2⟩] at ht2
        subst ht2
        have k := twod_yes s _ _ (by omega) rfl rfl h1 h2 w
        unfold E2
        rw [ofNat_two _ _ h1 h2]
        exact k
      · rw [if_neg (fun k => h2 k.2)] at ht2
        subst ht2
        exact twod_second s (by omega) h1 h2 w
    · rw [if_neg (fun k => h1 k.1)] at ht2
      subst ht2
      exact twod_first s (by omega) h1 w
theorem nat_eq {c d : UInt8} (h : c = d) : (c.toNat : Int) = (d.toNat : Int) := by rw [h]
theorem nat_beq {c : UInt8} {n : Nat} (h : c.toNat = n) : ((c.toNat : Int) == (n : Int)) = true := by rw [beq_iff_eq]; omega
theorem nat_bne {c : UInt8} {n : Nat} (h : c.toNat ≠ n) : ((c.toNat : Int) == (n : Int)) = false := by rw [beq_eq_false_iff_ne]; omega
theorem byte_ne {c d : UInt8} (h : c ≠ d) : c.toNat ≠ d.toNat := fun k => h (UInt8.toNat_inj.1 k)
theorem piece_plain (s : ByteArray) (h0 : 0 < s.size) (h : s[0].toNat ≠ 92) (w : World) : Calls Tryd.prog 63 #[.string s] w fun e w' => e = E2 (s[0], 1) ∧ w = w' := by
  have h1 : ((s[0].toNat : Int) == 92) = false := nat_bne h
  have h2 : ((s[0].toNat : Int) != 92) = true := by rw [bne, h1]; rfl
  clear h
  go_enter Tryd.func63, Tryd.ntmps63
  go_wp2_with fail
  go_ret2
  exact ⟨rfl, rfl⟩
theorem piece_end (s : ByteArray) (h0 : 0 < s.size) (h : s[0].toNat = 92) (h2 : s.size < 2) (w : World) : Calls Tryd.prog 63 #[.string s] w fun e w' => e = E2 (0, 0) ∧ w = w' := by
  have h1 : ((s[0].toNat : Int) == 92) = true := nat_beq h
  have h3 : ((s[0].toNat : Int) != 92) = false := by rw [bne, h1]; rfl
  clear h
  go_enter Tryd.func63, Tryd.ntmps63
  go_wp2_with fail
  go_ret2
  exact ⟨rfl, rfl⟩
theorem piece_34 (s : ByteArray) (h0 : 0 < s.size) (h : s[0].toNat = 92) (h2 : 2 ≤ s.size) (hc : s[1].toNat = 34) (w : World) : Calls Tryd.prog 63 #[.string s] w fun e w' => e = E2 (s[1], 2) ∧ w = w' := by
  have h1 : ((s[0].toNat : Int) == 92) = true := nat_beq h
  have h3 : ((s[0].toNat : Int) != 92) = false := by rw [bne, h1]; rfl
  have c1 : ((s[1].toNat : Int) == 34) = true := nat_beq hc
  clear h hc
  go_enter Tryd.func63, Tryd.ntmps63
  go_wp2_with fail
  go_ret2
  exact ⟨rfl, rfl⟩
theorem piece_92 (s : ByteArray) (h0 : 0 < s.size) (h : s[0].toNat = 92) (h2 : 2 ≤ s.size) (hc : s[1].toNat = 92) (w : World) : Calls Tryd.prog 63 #[.string s] w fun e w' => e = E2 (s[1], 2) ∧ w = w' := by
  have h1 : ((s[0].toNat : Int) == 92) = true := nat_beq h
  have h3 : ((s[0].toNat : Int) != 92) = false := by rw [bne, h1]; rfl
  have c1 : ((s[1].toNat : Int) == 34) = false := nat_bne (n := 34) (by rw [hc]; decide)
  have c2 : ((s[1].toNat : Int) == 92) = true := nat_beq hc
  clear h hc
  go_enter Tryd.func63, Tryd.ntmps63
  go_wp2_with fail
  go_ret2
  exact ⟨rfl, rfl⟩
theorem piece_110 (s : ByteArray) (h0 : 0 < s.size) (h : s[0].toNat = 92) (h2 : 2 ≤ s.size) (hc : s[1].toNat = 110) (w : World) : Calls Tryd.prog 63 #[.string s] w fun e w' => e = E2 (10, 2) ∧ w = w' := by
  have h1 : ((s[0].toNat : Int) == 92) = true := nat_beq h
  have h3 : ((s[0].toNat : Int) != 92) = false := by rw [bne, h1]; rfl
  have c1 : ((s[1].toNat : Int) == 34) = false := nat_bne (n := 34) (by rw [hc]; decide)
  have c2 : ((s[1].toNat : Int) == 92) = false := nat_bne (n := 92) (by rw [hc]; decide)
  have c3 : ((s[1].toNat : Int) == 110) = true := nat_beq hc
  clear h hc
  go_enter Tryd.func63, Tryd.ntmps63
  go_wp2_with fail
  go_ret2
  exact ⟨rfl, rfl⟩
theorem piece_116 (s : ByteArray) (h0 : 0 < s.size) (h : s[0].toNat = 92) (h2 : 2 ≤ s.size) (hc : s[1].toNat = 116) (w : World) : Calls Tryd.prog 63 #[.string s] w fun e w' => e = E2 (9, 2) ∧ w = w' := by
  have h1 : ((s[0].toNat : Int) == 92) = true := nat_beq h
  have h3 : ((s[0].toNat : Int) != 92) = false := by rw [bne, h1]; rfl
  have c1 : ((s[1].toNat : Int) == 34) = false := nat_bne (n := 34) (by rw [hc]; decide)
  have c2 : ((s[1].toNat : Int) == 92) = false := nat_bne (n := 92) (by rw [hc]; decide)
  have c3 : ((s[1].toNat : Int) == 110) = false := nat_bne (n := 110) (by rw [hc]; decide)
  have c4 : ((s[1].toNat : Int) == 116) = true := nat_beq hc
  clear h hc
  go_enter Tryd.func63, Tryd.ntmps63
  go_wp2_with fail
  go_ret2
  exact ⟨rfl, rfl⟩
theorem piece_120 (s : ByteArray) (h0 : 0 < s.size) (h : s[0].toNat = 92) (h2 : 2 ≤ s.size) (hc : s[1].toNat = 120) (b : UInt8) (n : Nat) (ht : two (s.data.toList.drop 2) = (b, n)) (w : World) : Calls Tryd.prog 63 #[.string s] w fun e w' => e = E2 (b, n) ∧ w = w' := by
  have h1 : ((s[0].toNat : Int) == 92) = true := nat_beq h
  have h3 : ((s[0].toNat : Int) != 92) = false := by rw [bne, h1]; rfl
  have c1 : ((s[1].toNat : Int) == 34) = false := nat_bne (n := 34) (by rw [hc]; decide)
  have c2 : ((s[1].toNat : Int) == 92) = false := nat_bne (n := 92) (by rw [hc]; decide)
  have c3 : ((s[1].toNat : Int) == 110) = false := nat_bne (n := 110) (by rw [hc]; decide)
  have c4 : ((s[1].toNat : Int) == 116) = false := nat_bne (n := 116) (by rw [hc]; decide)
  have c5 : ((s[1].toNat : Int) == 120) = true := nat_beq hc
  have HT := Lib.hid ht
  clear h hc ht
  go_enter Tryd.func63, Tryd.ntmps63
  go_wp2_with fail
  refine (twod_v s (b, n) HT.out _).mono ?_
  rintro e w' ⟨rfl, rfl⟩
  unfold E2
  go_wp2_with fail
  go_ret2
  exact ⟨rfl, rfl⟩
theorem piece_other (s : ByteArray) (h0 : 0 < s.size) (h : s[0].toNat = 92) (h2 : 2 ≤ s.size) (d1 : s[1].toNat ≠ 34) (d2 : s[1].toNat ≠ 92) (d3 : s[1].toNat ≠ 110) (d4 : s[1].toNat ≠ 116) (d5 : s[1].toNat ≠ 120) (w : World) : Calls Tryd.prog 63 #[.string s] w fun e w' => e = E2 (0, 0) ∧ w = w' := by
  have h1 : ((s[0].toNat : Int) == 92) = true := nat_beq h
  have h3 : ((s[0].toNat : Int) != 92) = false := by rw [bne, h1]; rfl
  have c1 : ((s[1].toNat : Int) == 34) = false := nat_bne d1
  have c2 : ((s[1].toNat : Int) == 92) = false := nat_bne d2
  have c3 : ((s[1].toNat : Int) == 110) = false := nat_bne d3
  have c4 : ((s[1].toNat : Int) == 116) = false := nat_bne d4
  have c5 : ((s[1].toNat : Int) == 120) = false := nat_bne d5
  clear h d1 d2 d3 d4 d5
  go_enter Tryd.func63, Tryd.ntmps63
  go_wp2_with fail
  go_ret2
  exact ⟨rfl, rfl⟩
theorem byte_is (c : UInt8) (n : Nat) (hn : n < 256) : c = UInt8.ofNat n ↔ c.toNat = n := by
  constructor
  · rintro rfl; rw [UInt8.toNat_ofNat']; omega
  · intro h; rw [← h, UInt8.ofNat_toNat]
theorem piece_v (s : ByteArray) (h0 : 0 < s.size) (b : UInt8) (n : Nat) (hp : piece s.data.toList = (b, n)) (w : World) : Calls Tryd.prog 63 #[.string s] w fun e w' => e = .returned (.tuple #[.int .u8 (b.toNat : Int), .int .i64 (n : Int)]) ∧ w = w' := by
  change Calls Tryd.prog 63 #[.string s] w fun e w' => e = E2 (b, n) ∧ w = w'
  have e0 := drop_cons s 0 h0
  rw [List.drop_zero] at e0
  rw [e0] at hp
  have hp1 : (if s[0] = 92 then esc (s.data.toList.drop 1) else (s[0], 1)) = (b, n) := hp
  by_cases h : s[0] = 92
  · rw [if_pos h] at hp1
    have hn := (byte_is _ 92 (by decide)).1 h
    by_cases h2 : s.size < 2
    · rw [List.drop_eq_nil_of_le (by rw [len_list]; omega)] at hp1
      rw [← hp1]
      exact piece_end s h0 hn h2 w
    · have h2' : 2 ≤ s.size := by omega
      rw [drop_cons s 1 (by omega)] at hp1
      have hp2 : (if s[1] = 34 ∨ s[1] = 92 then (s[1], 2) else if s[1] = 110 then (10, 2) else if s[1] = 116 then (9, 2) else if s[1] = 120 then two (s.data.toList.drop 2) else (0, 0)) = (b, n) := hp1
      by_cases k1 : s[1] = 34
      · rw [if_pos (.inl k1)] at hp2
        rw [← hp2]
        exact piece_34 s h0 hn h2' ((byte_is _ 34 (by decide)).1 k1) w
      · by_cases k2 : s[1] = 92
        · rw [if_pos (.inr k2)] at hp2
          rw [← hp2]
          exact piece_92 s h0 hn h2' ((byte_is _ 92 (by decide)).1 k2) w
        · rw [if_neg (fun k => k.elim k1 k2)] at hp2
          by_cases k3 : s[1] = 110
          · rw [if_pos k3] at hp2
            rw [← hp2]
            exact piece_110 s h0 hn h2' ((byte_is _ 110 (by decide)).1 k3) w
          · rw [if_neg k3] at hp2
            by_cases k4 : s[1] = 116
            · rw [if_pos k4] at hp2
              rw [← hp2]
              exact piece_116 s h0 hn h2' ((byte_is _ 116 (by decide)).1 k4) w
            · rw [if_neg k4] at hp2
              by_cases k5 : s[1] = 120
              · rw [if_pos k5] at hp2
                exact piece_120 s h0 hn h2' ((byte_is _ 120 (by decide)).1 k5) b n hp2 w
              · rw [if_neg k5] at hp2
                rw [← hp2]
                exact piece_other s h0 hn h2' (fun k => k1 ((byte_is _ 34 (by decide)).2 k)) (fun k => k2 ((byte_is _ 92 (by decide)).2 k)) (fun k => k3 ((byte_is _ 110 (by decide)).2 k)) (fun k => k4 ((byte_is _ 116 (by decide)).2 k)) (fun k => k5 ((byte_is _ 120 (by decide)).2 k)) w
  · rw [if_neg h] at hp1
    rw [← hp1]
    exact piece_plain s h0 (fun k => h ((byte_is _ 92 (by decide)).2 k)) w
end Go.Proofs.YtmckplgbaalpbaaDoor.Quo
