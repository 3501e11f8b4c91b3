
/- What the program's small functions on sets answer: Bound, laid, bit, may, room, word, Has. -/
import Derived.Test.YtojfbcfbnadboaaBitLaid
import Derived.Deep.QuietTactic
import Derived.BigQuiet
import Derived.Deep.RegionWith
import Derived.WalkSmall
import Derived.Laws.BitsAllLaws
namespace Go.Proofs.Ytojfbcfbnadboaa.Bit
open Go.ChangeShapes Go.WideShapes Go.RowKit
set_option linter.unusedVariables false

theorem bound_v (B p g : Nat) (bs : List Bool) (n : Nat) (hn : bs.length = n) (w : World) (h : SetAt B w p g bs) :
    Calls Try.prog 66 #[.pointer (some ⟨p, 0, none⟩)] w fun e w' => e = .returned (.int .i64 (n : Int)) ∧ w' = w := by
  have c0 := h.bound
  rw [hn] at c0
  clear h hn
  go_enter Try.func66, Try.ntmps66
  go_wp2
  go_ret
  exact ⟨rfl, rfl⟩
theorem laid_v (B p g : Nat) (bs : List Bool) (m : Nat) (hm : words bs.length = m) (w : World) (h : SetAt B w p g bs) :
    Calls Try.prog 60 #[.pointer (some ⟨p, 0, none⟩)] w fun e w' => e = .returned (.slice (some ⟨g, 0, none⟩) m m) ∧ w' = w := by
  have c0 := h.slice
  rw [hm] at c0
  clear h hm
  go_enter Try.func60, Try.ntmps60
  go_wp2
  go_ret
  exact ⟨rfl, rfl⟩
theorem bit_v (i m : Nat) (hi : i ≤ 1000000) (hm : 2 ^ (i % 64) = m) (w : World) :
    Calls Try.prog 46 #[.int .i64 (i : Int)] w fun e w' => e = .returned (.int .u64 (m : Int)) ∧ w' = w := by
  have hw : IntKind.u64.wrap (2 ^ (i % 64)) = (m : Int) := by
    have h1 := bit_lt i
    rw [hm] at h1
    have h2 : (2 : Int) ^ (i % 64) = (m : Int) := by rw [← hm]; simp
    rw [h2]; exact IntWalk.u64_in _ (by omega)
  clear hm
  have HW := Lib.hid hw
  clear hw
  go_enter Try.func46, Try.ntmps46
  go_wp2
  go_ret
  refine ⟨?_, rfl⟩
  show Ending.returned (.int .u64 (IntKind.u64.wrap (2 ^ (i % 64)))) = _
  rw [HW.out]
theorem may_low (i : Int) (P : Value) (hi : i < 0) (w : World) :
    Calls Try.prog 45 #[P, .int .i64 i] w fun e w' => e = .returned (.bool false) ∧ w' = w := by
  have h1 : decide ((0 : Int) ≤ i) = false := by rw [decide_eq_false_iff_not]; omega
  clear hi
  go_enter Try.func45, Try.ntmps45
  go_wp2_with fail
  go_ret
  exact ⟨rfl, rfl⟩
theorem may_nat (i : Nat) (B p g : Nat) (bs : List Bool) (b : Bool) (hb : decide (i < bs.length) = b) (w : World) (h : SetAt B w p g bs) :
    Calls Try.prog 45 #[.pointer (some ⟨p, 0, none⟩), .int .i64 (i : Int)] w fun e w' => e = .returned (.bool b) ∧ w' = w := by
  have h1 : decide ((0 : Int) ≤ (i : Int)) = true := by simp
  obtain ⟨n, hn⟩ : ∃ n, bs.length = n := ⟨_, rfl⟩
  rw [hn] at hb
  have h2 : decide ((i : Int) < (n : Int)) = b := by rw [← hb]; simp
  have HS := Lib.hid (And.intro h (And.intro hn hb))
  clear h hn hb
  go_enter Try.func45, Try.ntmps45
  go_wp2_with fail
  refine (bound_v B p g bs n HS.out.2.1 _ HS.out.1).mono ?_
  rintro e w1 ⟨rfl, rfl⟩
  go_wp2_with fail
  go_ret
  refine ⟨?_, rfl⟩
  show Ending.returned (.bool (decide (i < n))) = _
  rw [HS.out.2.2]
theorem pow_int (d : Nat) : (2 : Int) ^ d = ((2 ^ d : Nat) : Int) := by simp
theorem room_val (d z : Nat) (X : Int) (hX : X = 2 ^ d) (hd : d ≤ 64) (hz : 2 ^ d - 1 = z) : IntKind.u64.wrap (IntKind.u64.wrap X - 1) = (z : Int) := by
  rw [hX, pow_int]
  have h1 : 2 ^ d ≤ 2 ^ 64 := Nat.pow_le_pow_right (by omega) hd
  have h2 : 0 < 2 ^ d := Nat.pow_pos (by omega)
  rw [show (2 : Nat) ^ 64 = 18446744073709551616 by decide +kernel] at h1
  obtain ⟨y, hy⟩ : ∃ y, 2 ^ d = y := ⟨_, rfl⟩
  rw [hy] at h1 h2 hz ⊢
  rw [IntKind.wrap_u64, IntKind.wrap_u64]
  omega
theorem drewN_grown (w : World) (n : Nat) (row : Option Nat) : w.grownBy (w.drewN n) row := ⟨rfl, rfl, rfl, Nat.le_refl _, fun _ _ _ => rfl⟩
theorem has_low (i : Int) (P : Value) (hi : i < 0) (w : World) :
    Calls Try.prog 20 #[P, .int .i64 i] w fun e w' => e = .returned (.bool false) ∧ ∃ m, w' = w.drewN m := by
  have HI := Lib.hid hi
  clear hi
  go_enter Try.func20, Try.ntmps20
  go_wp2_with fail
  go_quiet ((go_at_call_of 45 (Value.int .i64 i); exact Calls.quiet_of_same (may_low i P HI.out _)))
  go_wp2_with fail
  go_ret
  exact ⟨rfl, _, rfl⟩
theorem has_past' (i : Nat) (B p g : Nat) (bs : List Bool) (hi : bs.length ≤ i) (w : World) (h : SetAt B w p g bs) :
    Calls Try.prog 20 #[.pointer (some ⟨p, 0, none⟩), .int .i64 (i : Int)] w fun e w' => e = .returned (.bool false) ∧ ∃ m, w' = w.drewN m := by
  have hb : decide (i < bs.length) = false := by rw [decide_eq_false_iff_not]; omega
  have HI := Lib.hid (And.intro h hb)
  clear hi h hb
  go_enter Try.func20, Try.ntmps20
  go_wp2_with fail
  go_quiet ((go_at_call 45; exact Calls.quiet_of_same (may_nat i B p g bs false HI.out.2 _ (HI.out.1.grow (drewN_grown _ _ _)))))
  go_wp2_with fail
  go_ret
  exact ⟨rfl, _, rfl⟩
theorem has_in (i : Nat) (B p g : Nat) (bs : List Bool) (b : Bool) (hi : i < bs.length) (hb : has bs i = b) (w : World) (h : SetAt B w p g bs) :
    Calls Try.prog 20 #[.pointer (some ⟨p, 0, none⟩), .int .i64 (i : Int)] w fun e w' => e = .returned (.bool b) ∧ ∃ m, w' = w.drewN m := by
  have hm : decide (i < bs.length) = true := by simpa using hi
  have hs := h.small
  obtain ⟨m, hm1⟩ : ∃ m, words bs.length = m := ⟨_, rfl⟩
  obtain ⟨z, hz⟩ : ∃ z, word bs (i / 64) = z := ⟨_, rfl⟩
  obtain ⟨y, hy⟩ : ∃ y, 2 ^ (i % 64) = y := ⟨_, rfl⟩
  obtain ⟨k, hk⟩ : ∃ k, i / 64 = k := ⟨_, rfl⟩
  have c0 := h.slice
  have c1 := h.row.cell k (by unfold words; omega)
  rw [hm1] at c0
  rw [hk] at hz
  rw [hz] at c1
  have zl : z < 18446744073709551616 := by rw [← hz]; exact word_lt _ _
  have yl : y < 18446744073709551616 := by rw [← hy]; exact bit_lt _
  have y0 : 0 < y := by rw [← hy]; exact Nat.pow_pos (by omega)
  have hw := has_word bs i
  rw [hk, hz, hy, hb] at hw
  have q1 : (i : Int) / 64 = (k : Int) := by omega
  have q2 : (i : Int).tdiv 64 = (k : Int) := by rw [Int.tdiv_eq_ediv_of_nonneg (by omega)]; exact q1
  have q3 : IntKind.i64.wrap (k : Int) = (k : Int) := IntWalk.i64_in _ (by omega)
  have km : k < m := by rw [← hm1, ← hk]; unfold words; omega
  have km2 : (k : Int) < (m : Int) := by omega
  have k0 : (0 : Int) ≤ (k : Int) := by omega
  have r1 : (bits .and .u64 (z : Int) (y : Int) != 0) = b := by
    rw [u64_and_nat z y zl yl, hw]
    cases b
    · rfl
    · simp; omega
  have HI := Lib.hid (And.intro h (And.intro hm (And.intro hy (show i ≤ 1000000 by omega))))
  clear hi h hb hm hm1 hz hy hk hw zl yl y0
  go_enter Try.func20, Try.ntmps20
  go_wp2_with fail
  go_quiet (first | (go_at_call 45; exact Calls.quiet_of_same (may_nat i B p g bs true HI.out.2.1 _ (HI.out.1.grow (drewN_grown _ _ _)))) | (go_at_call 46; exact Calls.quiet_of_same (bit_v i y HI.out.2.2.2 HI.out.2.2.1 _)))
  go_wp2_with fail
  go_ret
  exact ⟨rfl, _, rfl⟩
end Go.Proofs.Ytojfbcfbnadboaa.Bit
