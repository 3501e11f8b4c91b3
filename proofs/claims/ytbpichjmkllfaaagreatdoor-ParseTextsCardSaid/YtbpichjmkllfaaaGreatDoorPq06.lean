/- Packed texts of one proof. Conditions: none. -/
import Derived.Test.YtbpichjmkllfaaaGreatDoorRows
import Derived.Test.YtbpichjmkllfaaaGreatDoorPq02
import Derived.Outline
import Derived.WalkLawsBesides
import Derived.LoopTactic
import Derived.IntWalk
import Derived.Deep.Light
import Derived.Deep.LoopGhost
import Derived.Deep.WholeRow
import Derived.Laws.IdiomStrings
import Derived.Maps.AppendAt
import Derived.Deep.RegionLaw
import Derived.Lib.BufferRead
namespace Go.Proofs.YtbpichjmkllfaaaGreatDoor.Quo
open Go.ChangeShapes Go.WideShapes Go.RowKit
set_option linter.unusedVariables false
set_option maxRecDepth 20000
theorem ret_two {a b : Int} {k l : IntKind} {c d : Int} (h : a = c) (h2 : b = d) : Ending.returned (.tuple #[.int k a, .int l b]) = .returned (.tuple #[.int k c, .int l d]) := by rw [h, h2]
theorem ret_ib {a : Int} {k : IntKind} {c : Int} {x : Bool} (h : a = c) : Ending.returned (.tuple #[.int k a, .bool x]) = .returned (.tuple #[.int k c, .bool x]) := by rw [h]
theorem digit_yes (c : UInt8) (h : dig c < 16) (w : World) : Calls Tryz.prog 173 #[.int .u8 (c.toNat : Int)] w fun e w' => e = .returned (.tuple #[.int .u8 (dig c : Int), .bool true]) ∧ w = w' := by
 have hl := c.toNat_lt
 obtain ⟨n, hn⟩ : ∃ n, dig c = n := ⟨_, rfl⟩
 rw [hn]
 by_cases h1 : 48 ≤ c.toNat ∧ c.toNat ≤ 57
 ·have e : n = c.toNat - 48 := by rw [← hn]; unfold dig; rw [if_pos h1]
  obtain ⟨a1, a2⟩ := h1
  have H := Hh e
  clear hn h e
  go_enter Tryz.func173, Tryz.ntmps173
  go_wp2
  go_ret2
  exact ⟨ret_ib (by have := H.out; omega), rfl⟩
 ·by_cases h2 : 97 ≤ c.toNat ∧ c.toNat ≤ 102
  ·have e : n = c.toNat - 87 := by rw [← hn]; unfold dig; rw [if_neg h1, if_pos h2]
   obtain ⟨a1, a2⟩ := h2
   have H := Hh e
   clear hn h e h1
   go_enter Tryz.func173, Tryz.ntmps173
   go_wp2
   go_ret2
   exact ⟨ret_ib (by have := H.out; omega), rfl⟩
  ·by_cases h3 : 65 ≤ c.toNat ∧ c.toNat ≤ 70
   ·have e : n = c.toNat - 55 := by rw [← hn]; unfold dig; rw [if_neg h1, if_neg h2, if_pos h3]
    obtain ⟨a1, a2⟩ := h3
    have H := Hh e
    clear hn h e h1 h2
    go_enter Tryz.func173, Tryz.ntmps173
    go_wp2
    go_ret2
    exact ⟨ret_ib (by have := H.out; omega), rfl⟩
   ·unfold dig at h; rw [if_neg h1, if_neg h2, if_neg h3] at h; omega
theorem digit_no (c : UInt8) (h : ¬ dig c < 16) (w : World) : Calls Tryz.prog 173 #[.int .u8 (c.toNat : Int)] w fun e w' => e = .returned (.tuple #[.int .u8 0, .bool false]) ∧ w = w' := by
 have hl := c.toNat_lt
 have h1 : ¬ (48 ≤ c.toNat ∧ c.toNat ≤ 57) := fun k => h (by unfold dig; rw [if_pos k]; omega)
 have h2 : ¬ (97 ≤ c.toNat ∧ c.toNat ≤ 102) := fun k => h (by unfold dig; rw [if_neg h1, if_pos k]; omega)
 have h3 : ¬ (65 ≤ c.toNat ∧ c.toNat ≤ 70) := fun k => h (by unfold dig; rw [if_neg h1, if_neg h2, if_pos k]; omega)
 clear h
 have ways : c.toNat < 48 ∨ (57 < c.toNat ∧ c.toNat < 65) ∨ (70 < c.toNat ∧ c.toNat < 97) ∨ 102 < c.toNat := by omega
 clear h1 h2 h3
 rcases ways with a | ⟨a, b⟩ | ⟨a, b⟩ | a
 all_goals
  go_enter Tryz.func173, Tryz.ntmps173
  go_wp2
  go_ret2
  exact ⟨rfl, rfl⟩
theorem len_list (s : ByteArray) : s.data.toList.length = s.size := rfl
theorem at_list (s : ByteArray) (i : Nat) (h : i < s.size) : s.data.toList[i]'(by rw [len_list]; exact h) = s[i] := by rfl
theorem drop_cons (s : ByteArray) (i : Nat) (h : i < s.size) : s.data.toList.drop i = s[i] :: s.data.toList.drop (i + 1) := by
 rw [List.drop_eq_getElem_cons (by rw [len_list]; exact h), at_list]
theorem ofNat_two (a b : Nat) (ha : a < 16) (hb : b < 16) : ((UInt8.ofNat (16 * a + b)).toNat : Int) = 16 * a + b := by
 rw [UInt8.toNat_ofNat']; omega
theorem twod_short (s : ByteArray) (h : s.size < 4) (w : World) : Calls Tryz.prog 166 #[.string s] w fun e w' => e = .returned (.tuple #[.int .u8 0, .int .i64 0]) ∧ w = w' := by
 go_enter Tryz.func166, Tryz.ntmps166
 go_wp2
 go_ret2
 exact ⟨rfl, rfl⟩
theorem digit_v (c : UInt8) (n : Nat) (hn : dig c = n) (h : n < 16) (w : World) : Calls Tryz.prog 173 #[.int .u8 (c.toNat : Int)] w fun e w' => e = .returned (.tuple #[.int .u8 (n : Int), .bool true]) ∧ w = w' := by
 subst hn; exact digit_yes c h w
theorem twod_first (s : ByteArray) (h : 4 ≤ s.size) (h1 : ¬ dig s[2] < 16) (w : World) : Calls Tryz.prog 166 #[.string s] w fun e w' => e = .returned (.tuple #[.int .u8 0, .int .i64 0]) ∧ w = w' := by
 have H1 := Hh h1
 clear h1
 by_cases h2 : dig s[3] < 16
 ·have H2 := Hh h2
  clear h2
  go_enter Tryz.func166, Tryz.ntmps166
  go_wp2_with fail
  refine (digit_no _ H1.out _).mono ?_
  rintro e w' ⟨rfl, rfl⟩
  go_wp2_with fail
  refine (digit_yes _ H2.out _).mono ?_
  rintro e w' ⟨rfl, rfl⟩
  go_wp2_with fail
  go_ret2
  exact ⟨rfl, rfl⟩
 ·have H2 := Hh h2
  clear h2
  go_enter Tryz.func166, Tryz.ntmps166
  go_wp2_with fail
  refine (digit_no _ H1.out _).mono ?_
  rintro e w' ⟨rfl, rfl⟩
  go_wp2_with fail
  refine (digit_no _ H2.out _).mono ?_
  rintro e w' ⟨rfl, rfl⟩
  go_wp2_with fail
  go_ret2
  exact ⟨rfl, rfl⟩
theorem twod_second (s : ByteArray) (h : 4 ≤ s.size) (h1 : dig s[2] < 16) (h2 : ¬ dig s[3] < 16) (w : World) : Calls Tryz.prog 166 #[.string s] w fun e w' => e = .returned (.tuple #[.int .u8 0, .int .i64 0]) ∧ w = w' := by
 have H1 := Hh h1
 have H2 := Hh h2
 clear h1 h2
 go_enter Tryz.func166, Tryz.ntmps166
 go_wp2_with fail
 refine (digit_yes _ H1.out _).mono ?_
 rintro e w' ⟨rfl, rfl⟩
 go_wp2_with fail
 refine (digit_no _ H2.out _).mono ?_
 rintro e w' ⟨rfl, rfl⟩
 go_wp2_with fail
 go_ret2
 exact ⟨rfl, rfl⟩
theorem or_two : ∀ a : Nat, a < 16 → ∀ b : Nat, b < 16 → bits BinOp.or IntKind.u8 ((a : Int) * 16) (b : Int) = 16 * (a : Int) + (b : Int) := by decide +kernel
theorem twod_yes (s : ByteArray) (a b : Nat) (h : 4 ≤ s.size) (h1 : dig s[2] = a) (h2 : dig s[3] = b) (ha : a < 16) (hb : b < 16) (w : World) :
  Calls Tryz.prog 166 #[.string s] w fun e w' => e = .returned (.tuple #[.int .u8 (16 * (a : Int) + (b : Int)), .int .i64 4]) ∧ w = w' := by
 have H1 := Hh h1
 have H2 := Hh h2
 clear h1 h2
 go_enter Tryz.func166, Tryz.ntmps166
 go_wp2_with fail
 refine (digit_v _ a H1.out ha _).mono ?_
 rintro e w' ⟨rfl, rfl⟩
 go_wp2_with fail
 refine (digit_v _ b H2.out hb _).mono ?_
 rintro e w' ⟨rfl, rfl⟩
 go_wp2_with fail
 go_ret2
 exact ⟨ret_two (or_two a ha b hb) rfl, rfl⟩
def E2 (t : UInt8 × Nat) : Ending := .returned (.tuple #[.int .u8 (t.1.toNat : Int), .int .i64 (t.2 : Int)])
theorem twod_v (s : ByteArray) (t : UInt8 × Nat) (ht : two (s.data.toList.drop 2) = t) (w : World) : Calls Tryz.prog 166 #[.string s] w fun e w' => e = E2 t ∧ w = w' := by
 by_cases h : s.size < 4
 ·have : t = (0, 0) := by
   rw [← ht]
   have hl : (s.data.toList.drop 2).length < 2 := by rw [List.length_drop, len_list]; omega
   unfold two
   split
   ·rename_i e; rw [e] at hl; simp at hl; omega
   ·rfl
  subst this
  exact twod_short s h w
 ·rw [drop_cons s 2 (by omega), drop_cons s 3 (by omega)] at ht
  have ht2 : (if dig s[2] < 16 ∧ dig s[3] < 16 then (UInt8.ofNat (16 * dig s[2] + dig s[3]), 4) else (0, 0)) = t := ht
  by_cases h1 : dig s[2] < 16
  ·by_cases h2 : dig s[3] < 16
   ·rw [if_pos ⟨h1, h2⟩] at ht2
    subst ht2
    have k := twod_yes s _ _ (by omega) rfl rfl h1 h2 w
    unfold E2
    rw [ofNat_two _ _ h1 h2]
    exact k
   ·rw [if_neg (fun k => h2 k.2)] at ht2
    subst ht2
    exact twod_second s (by omega) h1 h2 w
  ·rw [if_neg (fun k => h1 k.1)] at ht2
   subst ht2
   exact twod_first s (by omega) h1 w
theorem nat_beq {c : UInt8} {n : Nat} (h : c.toNat = n) : ((c.toNat : Int) == (n : Int)) = true := by rw [beq_iff_eq]; omega
theorem nat_bne {c : UInt8} {n : Nat} (h : c.toNat ≠ n) : ((c.toNat : Int) == (n : Int)) = false := by rw [Bqf]; omega
theorem piece_plain (s : ByteArray) (h0 : 0 < s.size) (h : s[0].toNat ≠ 92) (w : World) : Calls Tryz.prog 152 #[.string s] w fun e w' => e = E2 (s[0], 1) ∧ w = w' := by
 have h1 : ((s[0].toNat : Int) == 92) = false := nat_bne h
 have h2 : ((s[0].toNat : Int) != 92) = true := by rw [bne, h1]; rfl
 clear h
 go_enter Tryz.func152, Tryz.ntmps152
 go_wp2_with fail
 go_ret2
 exact ⟨rfl, rfl⟩
theorem piece_end (s : ByteArray) (h0 : 0 < s.size) (h : s[0].toNat = 92) (h2 : s.size < 2) (w : World) : Calls Tryz.prog 152 #[.string s] w fun e w' => e = E2 (0, 0) ∧ w = w' := by
 have h1 : ((s[0].toNat : Int) == 92) = true := nat_beq h
 have h3 : ((s[0].toNat : Int) != 92) = false := by rw [bne, h1]; rfl
 clear h
 go_enter Tryz.func152, Tryz.ntmps152
 go_wp2_with fail
 go_ret2
 exact ⟨rfl, rfl⟩
theorem piece_34 (s : ByteArray) (h0 : 0 < s.size) (h : s[0].toNat = 92) (h2 : 2 ≤ s.size) (hc : s[1].toNat = 34) (w : World) : Calls Tryz.prog 152 #[.string s] w fun e w' => e = E2 (s[1], 2) ∧ w = w' := by
 have h1 : ((s[0].toNat : Int) == 92) = true := nat_beq h
 have h3 : ((s[0].toNat : Int) != 92) = false := by rw [bne, h1]; rfl
 have c1 : ((s[1].toNat : Int) == 34) = true := nat_beq hc
 clear h hc
 go_enter Tryz.func152, Tryz.ntmps152
 go_wp2_with fail
 go_ret2
 exact ⟨rfl, rfl⟩
theorem piece_92 (s : ByteArray) (h0 : 0 < s.size) (h : s[0].toNat = 92) (h2 : 2 ≤ s.size) (hc : s[1].toNat = 92) (w : World) : Calls Tryz.prog 152 #[.string s] w fun e w' => e = E2 (s[1], 2) ∧ w = w' := by
 have h1 : ((s[0].toNat : Int) == 92) = true := nat_beq h
 have h3 : ((s[0].toNat : Int) != 92) = false := by rw [bne, h1]; rfl
 have c1 : ((s[1].toNat : Int) == 34) = false := nat_bne (n := 34) (by rw [hc]; decide)
 have c2 : ((s[1].toNat : Int) == 92) = true := nat_beq hc
 clear h hc
 go_enter Tryz.func152, Tryz.ntmps152
 go_wp2_with fail
 go_ret2
 exact ⟨rfl, rfl⟩
theorem piece_110 (s : ByteArray) (h0 : 0 < s.size) (h : s[0].toNat = 92) (h2 : 2 ≤ s.size) (hc : s[1].toNat = 110) (w : World) : Calls Tryz.prog 152 #[.string s] w fun e w' => e = E2 (10, 2) ∧ w = w' := by
 have h1 : ((s[0].toNat : Int) == 92) = true := nat_beq h
 have h3 : ((s[0].toNat : Int) != 92) = false := by rw [bne, h1]; rfl
 have c1 : ((s[1].toNat : Int) == 34) = false := nat_bne (n := 34) (by rw [hc]; decide)
 have c2 : ((s[1].toNat : Int) == 92) = false := nat_bne (n := 92) (by rw [hc]; decide)
 have c3 : ((s[1].toNat : Int) == 110) = true := nat_beq hc
 clear h hc
 go_enter Tryz.func152, Tryz.ntmps152
 go_wp2_with fail
 go_ret2
 exact ⟨rfl, rfl⟩
theorem piece_116 (s : ByteArray) (h0 : 0 < s.size) (h : s[0].toNat = 92) (h2 : 2 ≤ s.size) (hc : s[1].toNat = 116) (w : World) : Calls Tryz.prog 152 #[.string s] w fun e w' => e = E2 (9, 2) ∧ w = w' := by
 have h1 : ((s[0].toNat : Int) == 92) = true := nat_beq h
 have h3 : ((s[0].toNat : Int) != 92) = false := by rw [bne, h1]; rfl
 have c1 : ((s[1].toNat : Int) == 34) = false := nat_bne (n := 34) (by rw [hc]; decide)
 have c2 : ((s[1].toNat : Int) == 92) = false := nat_bne (n := 92) (by rw [hc]; decide)
 have c3 : ((s[1].toNat : Int) == 110) = false := nat_bne (n := 110) (by rw [hc]; decide)
 have c4 : ((s[1].toNat : Int) == 116) = true := nat_beq hc
 clear h hc
 go_enter Tryz.func152, Tryz.ntmps152
 go_wp2_with fail
 go_ret2
 exact ⟨rfl, rfl⟩
theorem piece_120 (s : ByteArray) (h0 : 0 < s.size) (h : s[0].toNat = 92) (h2 : 2 ≤ s.size) (hc : s[1].toNat = 120) (b : UInt8) (n : Nat) (ht : two (s.data.toList.drop 2) = (b, n)) (w : World) : Calls Tryz.prog 152 #[.string s] w fun e w' => e = E2 (b, n) ∧ w = w' := by
 have h1 : ((s[0].toNat : Int) == 92) = true := nat_beq h
 have h3 : ((s[0].toNat : Int) != 92) = false := by rw [bne, h1]; rfl
 have c1 : ((s[1].toNat : Int) == 34) = false := nat_bne (n := 34) (by rw [hc]; decide)
 have c2 : ((s[1].toNat : Int) == 92) = false := nat_bne (n := 92) (by rw [hc]; decide)
 have c3 : ((s[1].toNat : Int) == 110) = false := nat_bne (n := 110) (by rw [hc]; decide)
 have c4 : ((s[1].toNat : Int) == 116) = false := nat_bne (n := 116) (by rw [hc]; decide)
 have c5 : ((s[1].toNat : Int) == 120) = true := nat_beq hc
 have HT := Hh ht
 clear h hc ht
 go_enter Tryz.func152, Tryz.ntmps152
 go_wp2_with fail
 refine (twod_v s (b, n) HT.out _).mono ?_
 rintro e w' ⟨rfl, rfl⟩
 unfold E2
 go_wp2_with fail
 go_ret2
 exact ⟨rfl, rfl⟩
theorem piece_other (s : ByteArray) (h0 : 0 < s.size) (h : s[0].toNat = 92) (h2 : 2 ≤ s.size) (d1 : s[1].toNat ≠ 34) (d2 : s[1].toNat ≠ 92) (d3 : s[1].toNat ≠ 110) (d4 : s[1].toNat ≠ 116) (d5 : s[1].toNat ≠ 120) (w : World) : Calls Tryz.prog 152 #[.string s] w fun e w' => e = E2 (0, 0) ∧ w = w' := by
 have h1 : ((s[0].toNat : Int) == 92) = true := nat_beq h
 have h3 : ((s[0].toNat : Int) != 92) = false := by rw [bne, h1]; rfl
 have c1 : ((s[1].toNat : Int) == 34) = false := nat_bne d1
 have c2 : ((s[1].toNat : Int) == 92) = false := nat_bne d2
 have c3 : ((s[1].toNat : Int) == 110) = false := nat_bne d3
 have c4 : ((s[1].toNat : Int) == 116) = false := nat_bne d4
 have c5 : ((s[1].toNat : Int) == 120) = false := nat_bne d5
 clear h d1 d2 d3 d4 d5
 go_enter Tryz.func152, Tryz.ntmps152
 go_wp2_with fail
 go_ret2
 exact ⟨rfl, rfl⟩
theorem byte_is (c : UInt8) (n : Nat) (hn : n < 256) : c = UInt8.ofNat n ↔ c.toNat = n := by
 constructor
 ·rintro rfl; rw [UInt8.toNat_ofNat']; omega
 ·intro h; rw [← h, UInt8.ofNat_toNat]
theorem piece_v (s : ByteArray) (h0 : 0 < s.size) (b : UInt8) (n : Nat) (hp : piece s.data.toList = (b, n)) (w : World) : Calls Tryz.prog 152 #[.string s] w fun e w' => e = .returned (.tuple #[.int .u8 (b.toNat : Int), .int .i64 (n : Int)]) ∧ w = w' := by
 change Calls Tryz.prog 152 #[.string s] w fun e w' => e = E2 (b, n) ∧ w = w'
 have e0 := drop_cons s 0 h0
 rw [List.drop_zero] at e0
 rw [e0] at hp
 have hp1 : (if s[0] = 92 then esc (s.data.toList.drop 1) else (s[0], 1)) = (b, n) := hp
 by_cases h : s[0] = 92
 ·rw [if_pos h] at hp1
  have hn := (byte_is _ 92 (by decide)).1 h
  by_cases h2 : s.size < 2
  ·rw [List.drop_eq_nil_of_le (by rw [len_list]; omega)] at hp1
   rw [← hp1]
   exact piece_end s h0 hn h2 w
  ·have h2' : 2 ≤ s.size := by omega
   rw [drop_cons s 1 (by omega)] at hp1
   have hp2 : (if s[1] = 34 ∨ s[1] = 92 then (s[1], 2) else if s[1] = 110 then (10, 2) else if s[1] = 116 then (9, 2) else if s[1] = 120 then two (s.data.toList.drop 2) else (0, 0)) = (b, n) := hp1
   by_cases k1 : s[1] = 34
   ·rw [if_pos (.inl k1)] at hp2
    rw [← hp2]
    exact piece_34 s h0 hn h2' ((byte_is _ 34 (by decide)).1 k1) w
   ·by_cases k2 : s[1] = 92
    ·rw [if_pos (.inr k2)] at hp2
     rw [← hp2]
     exact piece_92 s h0 hn h2' ((byte_is _ 92 (by decide)).1 k2) w
    ·rw [if_neg (fun k => k.elim k1 k2)] at hp2
     by_cases k3 : s[1] = 110
     ·rw [if_pos k3] at hp2
      rw [← hp2]
      exact piece_110 s h0 hn h2' ((byte_is _ 110 (by decide)).1 k3) w
     ·rw [if_neg k3] at hp2
      by_cases k4 : s[1] = 116
      ·rw [if_pos k4] at hp2
       rw [← hp2]
       exact piece_116 s h0 hn h2' ((byte_is _ 116 (by decide)).1 k4) w
      ·rw [if_neg k4] at hp2
       by_cases k5 : s[1] = 120
       ·rw [if_pos k5] at hp2
        exact piece_120 s h0 hn h2' ((byte_is _ 120 (by decide)).1 k5) b n hp2 w
       ·rw [if_neg k5] at hp2
        rw [← hp2]
        exact piece_other s h0 hn h2' (fun k => k1 ((byte_is _ 34 (by decide)).2 k)) (fun k => k2 ((byte_is _ 92 (by decide)).2 k)) (fun k => k3 ((byte_is _ 110 (by decide)).2 k)) (fun k => k4 ((byte_is _ 116 (by decide)).2 k)) (fun k => k5 ((byte_is _ 120 (by decide)).2 k)) w
 ·rw [if_neg h] at hp1
  rw [← hp1]
  exact piece_plain s h0 (fun k => h ((byte_is _ 92 (by decide)).2 k)) w
def cellsOf (l : List UInt8) : List Value := l.map fun c => .int .u8 (c.toNat : Int)
def Own (base : Nat) (w : World) (A : Option Addr) (c : Nat) (t : List UInt8) : Prop := w.ownsRow base 5 1 (.slice A t.length c) t.length (cellsOf t)
theorem info5 : (Tryz.prog.info? 5).map (fun i => (i.zero, i.size, i.bytes)) = some (some (.int .u8 0), 1, 1) := by kernel_rfl
theorem news_new (w : World) (cs : Array Value) (t : TypeId) (l : List Value) (hl : cs.toList = l) : ∀ j u, l[j]? = some u → (w.alloc (.cells cs t)).cell? ((⟨w.heap.size, 0, none⟩ : Addr).add j) = some u := by
 subst hl
 exact World.news_of_block (heap_alloc_new w _)
theorem own_next {base m : Nat} {w wr w1 : World} {A : Option Addr} {c : Nat} {t x : List UInt8} {v' : Value} {o : Obj} {xs : List Value}
  (ho : w1.ownsRow base 5 1 v' (t.length + m) (cellsOf t ++ xs)) (hx : xs = cellsOf x) (hm : x.length = m) (h0 : 0 < m)
  (hg : (wr.alloc o).grownBy w1 (Value.ownBlock (.slice A t.length c))) (hown : Own base wr A c t) (hb : Below base w wr) (hB : base ≤ wr.heap.size) :
  ∃ A' c', v' = .slice A' (t ++ x).length c' ∧ Own base w1 A' c' (t ++ x) ∧ Below base w w1 := by
 subst hx hm
 obtain ⟨g, cap, rfl, _, _⟩ := ho.form (by omega)
 have e1 : (t ++ x).length = t.length + x.length := by simp
 have e2 : cellsOf (t ++ x) = cellsOf t ++ cellsOf x := by unfold cellsOf; rw [List.map_append]
 unfold Own
 rw [e1, e2]
 refine ⟨_, _, rfl, ho, ?_⟩
 have h1 : Below base w (wr.alloc o) := hb.alloc hB o
 exact h1.grown hg (by simp; omega) (fun k hk => (hown.lt k hk).1)
theorem own_convert {base : Nat} {w : World} {A : Option Addr} {c : Nat} {t : List UInt8} (h : Own base w A c t) :
  (convert 148 9 (.slice A t.length c)).run Tryz.prog w = .ok (.string ⟨t.toArray⟩) w := by
 rcases h.2 with ⟨hv, h0⟩ | ⟨g, cap, cur, hv, _, hh, _⟩
 ·have : t = [] := List.eq_nil_of_length_eq_zero h0
  subst this
  injection hv with h1 h2 h3
  subst h1 h3
  exact Lib.run_convert_nil_bytes w 148 9 5 0 Tryz.underlying148 Tryz.underlying5 Tryz.underlying9
 ·injection hv with h1 h2 h3
  subst h1 h3
  refine run_convert_bytes_back w 148 9 5 _ c t Tryz.underlying148 Tryz.underlying5 Tryz.underlying9 (fun j hj => ?_)
  have k : w.ownsRow base 5 1 (.slice (some ⟨g, 0, none⟩) t.length c) t.length (cellsOf t) := h
  have e : (⟨g, 0, none⟩ : Addr).add j = ⟨g, j, none⟩ := by unfold Addr.add; split <;> simp_all
  rw [e, k.cellAt j (by omega)]
  simp [cellsOf, hj]
def E3 (x : List UInt8) (y : Nat) (c : Int) : Ending := .returned (.tuple #[.string ⟨x.toArray⟩, .int .i64 (y : Int), .int .i64 c])
theorem ret_E3 {x x' : List UInt8} {y : Nat} {z c c' : Int} (h1 : x = x') (h2 : z = (y : Int)) (h3 : c = c') : Ending.returned (.tuple #[.string ⟨x.toArray⟩, .int .i64 z, .int .i64 c]) = E3 x' y c' := by
 subst h1 h2 h3; rfl
theorem from_run (s : ByteArray) (n : Nat) (h : n ≤ s.size) (W : World) :
  (Instr.slice 9 (.string s) (some (.int .i64 (n : Int))) none none).run Tryz.prog W = .ok (.string (s.extract n s.size)) W := by
 rw [run_slice_string_from_if W 9 s .i64 _ Tryz.underlying9, if_pos (by omega), show ((n : Int)).toNat = n by omega]
theorem extract_list (s : ByteArray) (n : Nat) : (s.extract n s.size).data.toList = s.data.toList.drop n := by
 rw [ByteArray.data_extract]; simp
 rw [List.take_of_length_le]; rw [List.length_drop]; exact Nat.le_refl _
theorem extract_size (s : ByteArray) (n : Nat) : (s.extract n s.size).size = s.size - n := by
 rw [ByteArray.size_extract]; omega
theorem piece_z (s : ByteArray) (n : Nat) (z : Int) (h0 : n < s.size) (b : UInt8) (m : Nat) (hz : (m : Int) = z) (hp : piece (s.data.toList.drop n) = (b, m)) (w : World) :
  Calls Tryz.prog 152 #[.string (s.extract n s.size)] w fun e w' => e = .returned (.tuple #[.int .u8 (b.toNat : Int), .int .i64 z]) ∧ w = w' := by
 subst hz
 exact piece_v _ (by rw [extract_size]; omega) b m (by rw [extract_list]; exact hp) w
theorem is34 {c : UInt8} (h : c.toNat = 34) : c = 34 := (byte_is _ 34 (by decide)).2 h
theorem is10 {c : UInt8} (h : c.toNat = 10) : c = 10 := (byte_is _ 10 (by decide)).2 h
theorem not34 {c : UInt8} (h : c.toNat ≠ 34) : ¬ c = 34 := fun k => h ((byte_is _ 34 (by decide)).1 k)
theorem not10 {c : UInt8} (h : c.toNat ≠ 10) : ¬ c = 10 := fun k => h ((byte_is _ 10 (by decide)).1 k)
def Sc (s : ByteArray) (w wr : World) (n : Nat) (A : Option Addr) (c : Nat) (t x : List UInt8) (y : Nat) (e : Int) : Prop :=
 (∃ f, s.size ≤ n + f ∧ scan f (s.data.toList.drop n) n t = (x, y, e)) ∧ Own w.heap.size wr A c t ∧ Below w.heap.size w wr
theorem Sc.fin {s : ByteArray} {w wr : World} {A : Option Addr} {c : Nat} {t x : List UInt8} {y : Nat} {e : Int} (h : Sc s w wr s.size A c t x y e) : x = [] ∧ y = s.size ∧ e = 11 := by
 obtain ⟨⟨f, _, h⟩, _⟩ := h
 rw [List.drop_eq_nil_of_le (by rw [len_list]; omega)] at h
 cases f with
 | zero => simp [scan] at h; obtain ⟨h1, h2, h3⟩ := h; exact ⟨h1, h2.symm, h3.symm⟩
 | succ f => simp [scan] at h; obtain ⟨h1, h2, h3⟩ := h; exact ⟨h1, h2.symm, h3.symm⟩
theorem Sc.open {s : ByteArray} {w wr : World} {n : Nat} {A : Option Addr} {c : Nat} {t x : List UInt8} {y : Nat} {e : Int} (h : Sc s w wr n A c t x y e) (hn : n < s.size) :
  ∃ f, s.size ≤ n + (f + 1) ∧ scan (f + 1) (s[n] :: s.data.toList.drop (n + 1)) n t = (x, y, e) := by
 obtain ⟨⟨f, h1, h⟩, _⟩ := h
 obtain ⟨g, rfl⟩ : ∃ g, f = g + 1 := ⟨f - 1, by omega⟩
 rw [drop_cons s n hn] at h
 exact ⟨g, h1, h⟩
theorem Sc.quote {s : ByteArray} {w wr : World} {n : Nat} {A : Option Addr} {c : Nat} {t x : List UInt8} {y : Nat} {e : Int} (h : Sc s w wr n A c t x y e) (hn : n < s.size) (hq : s[n].toNat = 34) :
  t = x ∧ n + 1 = y ∧ 0 = e := by
 obtain ⟨f, _, h⟩ := h.open hn
 rw [scan, if_pos (is34 hq)] at h
 injection h with h1 h; injection h with h2 h3; exact ⟨h1, h2, h3⟩
theorem Sc.line {s : ByteArray} {w wr : World} {n : Nat} {A : Option Addr} {c : Nat} {t x : List UInt8} {y : Nat} {e : Int} (h : Sc s w wr n A c t x y e) (hn : n < s.size) (hq : s[n].toNat = 10) :
  [] = x ∧ n = y ∧ 11 = e := by
 obtain ⟨f, _, h⟩ := h.open hn
 have e1 : s[n] = 10 := is10 hq
 rw [scan, if_neg (by rw [e1]; decide), if_pos e1] at h
 injection h with h1 h; injection h with h2 h3; exact ⟨h1, h2, h3⟩
theorem Sc.long {s : ByteArray} {w wr : World} {n : Nat} {A : Option Addr} {c : Nat} {t x : List UInt8} {y : Nat} {e : Int} (h : Sc s w wr n A c t x y e) (hn : n < s.size) (h1 : s[n].toNat ≠ 34) (h2 : s[n].toNat ≠ 10) (h3 : t.length = 64) :
  [] = x ∧ n = y ∧ 3 = e := by
 obtain ⟨f, _, h⟩ := h.open hn
 rw [scan, if_neg (not34 h1), if_neg (not10 h2), if_pos h3] at h
 injection h with h1 h; injection h with h2 h3; exact ⟨h1, h2, h3⟩
theorem Sc.bad {s : ByteArray} {w wr : World} {n : Nat} {A : Option Addr} {c : Nat} {t x : List UInt8} {y : Nat} {e : Int} (h : Sc s w wr n A c t x y e) (hn : n < s.size) (h1 : s[n].toNat ≠ 34) (h2 : s[n].toNat ≠ 10) (h3 : t.length ≠ 64)
  {b : UInt8} (hp : piece (s.data.toList.drop n) = (b, 0)) : [] = x ∧ n = y ∧ 11 = e := by
 obtain ⟨f, _, h⟩ := h.open hn
 rw [drop_cons s n hn] at hp
 rw [scan, if_neg (not34 h1), if_neg (not10 h2), if_neg h3, hp, if_pos rfl] at h
 injection h with h1 h; injection h with h2 h3; exact ⟨h1, h2, h3⟩
theorem Sc.step {s : ByteArray} {w wr w' : World} {n : Nat} {A A' : Option Addr} {c c' : Nat} {t t' x : List UInt8} {y : Nat} {e : Int} (h : Sc s w wr n A c t x y e) (hn : n < s.size) (h1 : s[n].toNat ≠ 34) (h2 : s[n].toNat ≠ 10) (h3 : t.length ≠ 64)
  {b : UInt8} {m n' : Nat} (hp : piece (s.data.toList.drop n) = (b, m)) (hm : m ≠ 0) (hn' : n' = n + m) (ht : t' = t ++ [b]) (ho : Own w.heap.size w' A' c' t') (hb : Below w.heap.size w w') : Sc s w w' n' A' c' t' x y e := by
 subst hn' ht
 obtain ⟨f, hf, h⟩ := h.open hn
 rw [drop_cons s n hn] at hp
 rw [scan_step f _ _ n t (not34 h1) (not10 h2) h3 b m hp hm, ← drop_cons s n hn, List.drop_drop] at h
 exact ⟨⟨f, by omega, h⟩, ho, hb⟩
set_option maxHeartbeats 1000000 in
theorem scan_v (s : ByteArray) (a : Nat) (x : List UInt8) (y : Nat) (e : Int) (hs : s.size ≤ 100000) (ha : a < s.size) (hq : s[a].toNat = 34) (hR : scan s.size (s.data.toList.drop (a + 1)) (a + 1) [] = (x, y, e)) (w : World) :
  Calls Tryz.prog 134 #[.string s, .int .i64 (a : Int)] w fun e1 w' => e1 = E3 x y e ∧ Below w.heap.size w w' := by
 obtain ⟨i0, hi0, hz0, hz1, hz2⟩ := info_parts info5
 have I0 := Hh (Ai hi0 (Ai hz0 (Ai hz1 hz2)))
 clear hi0 hz0 hz1 hz2
 have h1 : ((s[a].toNat : Int) == 34) = true := nat_beq hq
 have h2 : ((s[a].toNat : Int) != 34) = false := by rw [bne, h1]; rfl
 have h3 : (a : Int) < (s.size : Int) := by omega
 have h4 : decide (s.size ≤ a) = false := by rw [decide_eq_false_iff_not]; omega
 have h5 : decide ((a : Int) < 0) = false := by rw [decide_eq_false_iff_not]; omega
 obtain ⟨fr, hfr⟩ : ∃ fr, a + 1 = fr := ⟨_, rfl⟩
 rw [hfr] at hR
 have hfr' : (a : Int) + 1 = (fr : Int) := by omega
 have hfl : fr ≤ s.size := by omega
 have HF := Hh hfr
 have HR : Hid (Sc s w w fr none 0 [] x y e) := ⟨⟨s.size, by omega, hR⟩, World.ownsRow_nil _ _ _ _, Below.refl _ _⟩
 clear hq hR hfr
 obtain ⟨N, hN⟩ : ∃ N, s.size = fr + N := ⟨s.size - fr, by omega⟩
 have hN2 : (s.size : Int) - (fr : Int) = (N : Int) := by omega
 have HN := Hh hN
 clear hN
 go_enter Tryz.func134, Tryz.ntmps134
 go_wp2_with fail
 clear h1 h2 h4 h5 hN2 hfr'
 go_loopg [8, 9, 35] N (fun gk nx v i wr => ∃ (k n : Nat) (A : Option Addr) (c : Nat) (t : List UInt8), k + gk = N ∧ fr + k ≤ n ∧ n ≤ s.size ∧ t.length ≤ 64 ∧ nx = .int .i64 (n : Int) ∧ v = .slice A t.length c ∧ i = .int .i64 (k : Int) ∧
  Hid (Sc s w wr n A c t x y e))
 case atStart => exact ⟨0, fr, none, 0, [], by omega, by omega, hfl, by simp, rfl, rfl, rfl, HR.out⟩
 case round =>
  obtain ⟨k, n, A, c, t, hk, hkn, hns, htl, rfl, rfl, rfl, HH⟩ := hrel
  by_cases hg : gk = 0
  ·subst hg
   obtain rfl : k = N := by omega
   obtain rfl : n = s.size := by have := HN.out; omega
   obtain ⟨rfl, rfl, rfl⟩ := HH.out.fin
   clear hk
   go_wp2_with fail
   go_ret3
   exact ⟨rfl, HH.out.2.2⟩
  ·obtain ⟨q, rfl⟩ : ∃ q, gk = q + 1 := ⟨gk - 1, by omega⟩
   have hkN : (k : Int) < (N : Int) := by omega
   have hkN' : k < N := by omega
   have HK := Hh hk
   have hfk : fr + k < s.size := by have := HN.out; omega
   clear hg hk
   by_cases hp : fr + k < n
   ·have hp' : (fr : Int) + (k : Int) < (n : Int) := by omega
    have hd : decide ((fr : Int) + (k : Int) < (n : Int)) = true := by rw [decide_eq_true_iff]; exact hp'
    go_wp2_with fail
    go_roundg q
    case measure => omega
    case rel => exact ⟨k + 1, n, A, c, t, by have := HK.out; omega, by omega, hns, htl, rfl, rfl, by go_num, HH.out⟩
   ·have hn : fr + k = n := by omega
    have hpl : (fr : Int) + (k : Int) = (n : Int) := by omega
    have hns' : n < s.size := by omega
    have hns2 : (n : Int) < (s.size : Int) := by omega
    have HN2 := Hh hn
    clear hp hkn hn hfk
    by_cases q34 : s[n].toNat = 34
    ·obtain ⟨rfl, rfl, rfl⟩ := HH.out.quote hns' q34
     have c1 : ((s[n].toNat : Int) == 34) = true := nat_beq q34
     have hconv := own_convert HH.out.2.1
     clear q34
     go_wp2_with fail
     go_ret3
     exact ⟨ret_E3 rfl (by omega) rfl, HH.out.2.2⟩
    ·have c1 : ((s[n].toNat : Int) == 34) = false := nat_bne q34
     by_cases q10 : s[n].toNat = 10
     ·obtain ⟨rfl, rfl, rfl⟩ := HH.out.line hns' q10
      have c2 : ((s[n].toNat : Int) == 10) = true := nat_beq q10
      clear q34 q10
      go_wp2_with fail
      go_ret3
      exact ⟨ret_E3 rfl (by omega) rfl, HH.out.2.2⟩
     ·have c2 : ((s[n].toNat : Int) == 10) = false := nat_bne q10
      by_cases q64 : t.length = 64
      ·obtain ⟨rfl, rfl, rfl⟩ := HH.out.long hns' q34 q10 q64
       have c3 : ((t.length : Int) == 64) = true := by rw [beq_iff_eq]; omega
       clear q34 q10 q64
       go_wp2_with fail
       go_ret3
       exact ⟨ret_E3 rfl (by omega) rfl, HH.out.2.2⟩
      ·have c3 : ((t.length : Int) == 64) = false := by rw [Bqf]; omega
       obtain ⟨b, m, hp⟩ : ∃ b m, piece (s.data.toList.drop n) = (b, m) := ⟨_, _, rfl⟩
       obtain ⟨z, hz⟩ : ∃ z : Int, (m : Int) = z := ⟨_, rfl⟩
       have hm2 : m ≤ s.size - n := by
        have := piece_size (s.data.toList.drop n)
        rw [hp, List.length_drop, len_list] at this; exact this
       have hsl := from_run s n (by omega)
       have HP := Hh (Ai hp hz)
       have Q := Hh (Ai q34 (Ai q10 q64))
       clear q34 q10 q64
       by_cases hm : m = 0
       ·subst hm
        obtain rfl : z = 0 := by omega
        obtain ⟨rfl, rfl, rfl⟩ := HH.out.bad hns' Q.out.1 Q.out.2.1 Q.out.2.2 hp
        clear hp hz
        go_wp2_with fail
        refine (piece_z s n 0 hns' b 0 rfl HP.out.1 _).mono ?_
        rintro e w' ⟨rfl, rfl⟩
        go_wp2_with fail
        go_ret3
        exact ⟨ret_E3 rfl (by omega) rfl, HH.out.2.2⟩
       ·have c4 : (z == 0) = false := by rw [Bqf]; omega
        have hz0 : 0 < z := by omega
        have hz1 : z ≤ 100000 := by omega
        obtain ⟨n', hn'⟩ : ∃ n', n + m = n' := ⟨_, rfl⟩
        have hzn : (n : Int) + z = (n' : Int) := by omega
        have HM := Hh (Ai hm (Ai hm2 hn'))
        clear hp hz hm hm2 hn'
        go_wp2_with fail
        refine (piece_z s n z hns' b m HP.out.2 HP.out.1 _).mono ?_
        rintro e w' ⟨rfl, rfl⟩
        go_wp2_with (at_builtin; refine wpList_append_own _ rfl _ _ 148 rfl w.heap.size 5 i0 (.int .u8 0) 1 1 Tryz.underlying148 I0.out.1 I0.out.2.1 I0.out.2.2.1 I0.out.2.2.2 rfl (by decide) _ _ _ rfl (HH.out.2.1.alloc _) ⟨wr.heap.size, 0, none⟩ 1 1 _ rfl rfl (news_new _ _ _ _ rfl) (by intro x hx; simp at hx; subst hx; rfl) (by unfold maxLen; omega) (by omega) (by have := HH.out.2.2.size; simp; omega) ?_)
        intro v' w3 hown' hgrow _
        obtain ⟨A3, c3, rfl, h2, h3⟩ := own_next (m := 1) (x := [b]) hown' rfl rfl (by omega) hgrow HH.out.2.1 HH.out.2.2 HH.out.2.2.size
        obtain ⟨t', ht'⟩ : ∃ t', t ++ [b] = t' := ⟨_, rfl⟩
        rw [ht'] at h2 ⊢
        have H3 := Hh (Ai h2 (Ai h3 ht'))
        clear hown' hgrow h2 h3 ht'
        go_wp2_with fail
        go_roundg q
        case measure => omega
        case rel => exact ⟨k + 1, n', A3, c3, t', by have := HK.out; omega, by have := HN2.out; have := HM.out; omega, by have := HM.out; omega, by rw [← H3.out.2.2]; have := Q.out.2.2; simp; omega, by go_num, rfl, by go_num, HH.out.step hns' Q.out.1 Q.out.2.1 Q.out.2.2 HP.out.1 HM.out.1 HM.out.2.2.symm H3.out.2.2.symm H3.out.1 H3.out.2.1⟩
end Go.Proofs.YtbpichjmkllfaaaGreatDoor.Quo
namespace Go.Proofs.YtbpichjmkllfaaaGreatDoor.Deci
set_option linter.unusedVariables false
set_option maxRecDepth 20000
def isDig (c : UInt8) : Prop := 48 ≤ c.toNat ∧ c.toNat ≤ 57
structure Scn (s : ByteArray) (a : Nat) (m : Bool) (fr fin : Nat) : Prop where
 ha : a ≤ s.size
 hy : m = true → ∃ h : a < s.size, s[a].toNat = 45
 hn : m = false → ∀ h : a < s.size, s[a].toNat ≠ 45
 hfr : fr = if m then a + 1 else a
 hle : fr ≤ fin
 hfin : fin ≤ s.size
 dig : ∀ i (h : i < s.size), fr ≤ i → i < fin → isDig s[i]
 stop : ∀ h : fin < s.size, ¬ isDig s[fin]
def dgs (s : ByteArray) (fr fin : Nat) : List UInt8 := (s.extract fr fin).data.toList
theorem dgs_len (s : ByteArray) (fr fin : Nat) (h : fin ≤ s.size) : (dgs s fr fin).length = fin - fr := by
 unfold dgs
 have := @ByteArray.size_extract s fr fin
 rw [Array.length_toList]; show (s.extract fr fin).size = _; rw [this]; omega
theorem dgs_get (s : ByteArray) (fr fin j : Nat) (h : j < (dgs s fr fin).length) (h2 : fr + j < s.size) : (dgs s fr fin)[j] = s[fr + j] := by
 have h3 : j < (s.extract fr fin).size := by unfold dgs at h; rw [Array.length_toList] at h; exact h
 have := @ByteArray.getElem_extract j s fr fin h3
 rw [← this]; rfl
theorem Scn.digs {s : ByteArray} {a : Nat} {m : Bool} {fr fin : Nat} (h : Scn s a m fr fin) : ∀ c ∈ dgs s fr fin, isDig c := by
 intro c hc
 obtain ⟨j, hj, rfl⟩ := List.getElem_of_mem hc
 have hl := dgs_len s fr fin h.hfin
 have h2 : fr + j < s.size := by have := h.hfin; omega
 rw [dgs_get s fr fin j hj h2]
 exact h.dig _ h2 (by omega) (by omega)
def well (l : List UInt8) (m : Bool) : Prop := l ≠ [] ∧ ∀ c, l.head? = some c → c.toNat = 48 → l.length = 1 ∧ m = false
def top (m : Bool) : Nat := if m then 9223372036854775808 else 9223372036854775807
def sgn (m : Bool) (u : Nat) : Int := if m then -(u : Int) else (u : Int)
open Classical in
noncomputable def scanT (l : List UInt8) (m : Bool) (fin : Nat) : Int × Int × Int :=
 if well l m then (if val l ≤ top m then (sgn m (val l), (fin : Int), 0) else (0, 0, 2)) else (0, 0, 12)
theorem scanT_bad {l : List UInt8} {m : Bool} {fin : Nat} (h : ¬ well l m) : scanT l m fin = (0, 0, 12) := by unfold scanT; rw [if_neg h]
theorem scanT_range {l : List UInt8} {m : Bool} {fin : Nat} (h : well l m) (h2 : ¬ val l ≤ top m) : scanT l m fin = (0, 0, 2) := by unfold scanT; rw [if_pos h, if_neg h2]
theorem scanT_ok {l : List UInt8} {m : Bool} {fin : Nat} (h : well l m) (h2 : val l ≤ top m) : scanT l m fin = (sgn m (val l), (fin : Int), 0) := by unfold scanT; rw [if_pos h, if_pos h2]
end Go.Proofs.YtbpichjmkllfaaaGreatDoor.Deci
