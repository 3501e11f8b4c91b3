/- What math/bits.TrailingZeros64 and the program's next answer. -/
import Derived.Test.YtgckoiepclgofaaDoorBasic
import Derived.Lib.TrailingZeros
import Derived.Laws.Bits64b
namespace Go.Proofs.YtgckoiepclgofaaDoor
open Go.ChangeShapes Go.WideShapes Go.RowKit
set_option linter.unusedVariables false

/-- The library's table, as the program's text lays it. -/
def Glob (w : World) : Prop := 0 < w.heap.size ∧ ∀ j, j < 64 → w.cell? ⟨0, j, none⟩ = some (.int .u8 (Lib.deBruijn64tab.getD j 0 : Nat))
theorem Glob.below {B : Nat} {w w' : World} (h : Glob w) (hb : Below B w w') (hB : 0 < B) : Glob w' :=
  ⟨Nat.lt_of_lt_of_le h.1 hb.size, fun j hj => (hb.cell (p := ⟨0, j, none⟩) hB).trans (h.2 j hj)⟩
theorem Glob.kept {w w' : World} {row : Option Nat} (h : Glob w) (hg : w.grownBy w' row) (hr : row ≠ some 0) : Glob w' :=
  ⟨Nat.lt_of_lt_of_le h.1 hg.size, fun j hj => (hg.cell_far ⟨0, j, none⟩ h.1 (fun e => hr e.symm)).trans (h.2 j hj)⟩
theorem Glob.grow {w w' : World} (h : Glob w) (hg : w.grownBy w' none) : Glob w' := h.kept hg (by simp)
theorem tz_key (x a : Nat) (hx : x < 18446744073709551616) (hx0 : x ≠ 0) (hlow : x &&& (18446744073709551616 - x) = a) :
    IntKind.u64.wrap (bits .and .u64 (x : Int) (IntKind.u64.wrap (-(x : Int))) * 285870213051353865) / 288230376151711744 = ((a * 285870213051353865 % 18446744073709551616 / 288230376151711744 : Nat) : Int) := by
  have e1 : IntKind.u64.wrap (-(x : Int)) = ((18446744073709551616 - x : Nat) : Int) := by rw [IntKind.wrap_u64]; omega
  rw [e1, u64_and_nat x _ hx (by omega), hlow, IntKind.wrap_u64]
  omega
theorem tz_core (x k idx : Nat) (w : World) (hx0 : ((x : Int) == 0) = false)
    (key : IntKind.u64.wrap (bits .and .u64 (x : Int) (IntKind.u64.wrap (-(x : Int))) * 285870213051353865) / 288230376151711744 = (idx : Int))
    (hi : idx < 64) (hk : k < 64) (hcell : w.cell? ⟨0, idx, none⟩ = some (.int .u8 (k : Int))) :
    Calls Tryd.prog 43 #[.int .u64 (x : Int)] w fun e w' => e = .returned (.int .i64 (k : Int)) ∧ w' = w := by
  go_enter Tryd.func43, Tryd.ntmps43
  go_wp2_with (simp only [key])
  go_ret
  exact ⟨rfl, rfl⟩
theorem tz_v (x t : Nat) (hx : x < 18446744073709551616) (hx0 : x ≠ 0) (ht : Lib.ctz 64 x = t) (w : World) (h : Glob w) :
    Calls Tryd.prog 43 #[.int .u64 (x : Int)] w fun e w' => e = .returned (.int .i64 (t : Int)) ∧ w' = w := by
  obtain ⟨hlow, hk⟩ := Lib.lowest_bit 64 x hx0 hx
  rw [ht] at hlow hk
  obtain ⟨hi, htab⟩ := Lib.deBruijn64_at t hk
  have hcell := h.2 _ hi
  rw [htab] at hcell
  exact tz_core x t _ w (by simp; omega) (tz_key x _ hx hx0 hlow) hi hk hcell
theorem ctz_bit (x t : Nat) (hx : x < 18446744073709551616) (hx0 : x ≠ 0) (ht : Lib.ctz 64 x = t) : t < 64 ∧ x.testBit t = true ∧ ∀ j, j < t → x.testBit j = false := by
  obtain ⟨m, hm, hk⟩ := Lib.ctzFrom_spec 64 x (by omega) hx
  have e : Lib.ctz 64 x = Lib.ctzFrom 64 x := by simp [Lib.ctz, hx0]
  rw [← e, ht] at hm hk
  have hb : ∀ j, x.testBit j = (decide (t ≤ j) && (2 * m + 1).testBit (j - t)) := by
    intro j; rw [hm, Nat.testBit_two_pow_mul]
  refine ⟨hk, ?_, fun j hj => ?_⟩
  · rw [hb]; simp
  · rw [hb, decide_eq_false (by omega)]; rfl
/-- A word without the bits ahead of a number. -/
theorem mask_bit (bs : List Bool) (fr k a : Nat) (ha : (k = fr / 64 ∧ a = 2 ^ (fr % 64) - 1) ∨ (fr / 64 < k ∧ a = 0)) (j : Nat) :
    (word bs k &&& (18446744073709551615 - a)).testBit j = (decide (j < 64 ∧ fr ≤ 64 * k + j) && has bs (64 * k + j)) := by
  have al : a < 18446744073709551616 := by
    rcases ha with ⟨_, rfl⟩ | ⟨_, rfl⟩
    · have := bit_lt fr; omega
    · omega
  rw [Nat.testBit_and, word_bit, not_bit al]
  rcases ha with ⟨h1, h2⟩ | ⟨h1, h2⟩
  · rw [h2, Nat.testBit_two_pow_sub_one]
    by_cases hj : j < 64
    · by_cases hq : j < fr % 64
      · have : ¬ fr ≤ 64 * k + j := by omega
        simp [hj, hq, this]
      · have : fr ≤ 64 * k + j := by omega
        simp [hj, hq, this]
    · simp [hj]
  · rw [h2]
    by_cases hj : j < 64
    · have : fr ≤ 64 * k + j := by omega
      simp [hj, this]
    · simp [hj]
/-- What next hands back. -/
def NextP (bs : List Bool) (fr : Nat) (w : World) (e : Ending) (w' : World) : Prop :=
  w' = w ∧ ((∃ i : Nat, e = .returned (.tuple #[.int .i64 (i : Int), .bool true]) ∧ fr ≤ i ∧ has bs i = true ∧ ∀ j, fr ≤ j → j < i → has bs j = false) ∨
    (e = .returned (.tuple #[.int .i64 0, .bool false]) ∧ ∀ j, fr ≤ j → has bs j = false))
set_option maxRecDepth 100000 in
set_option maxHeartbeats 2000000 in
theorem next_v (fr : Nat) (hfr : fr ≤ 1000) (B p g : Nat) (bs : List Bool) (w : World) (h : SetAt B w p g bs) (hG : Glob w) :
    Calls Tryd.prog 42 #[.pointer (some ⟨p, 0, none⟩), .int .i64 (fr : Int)] w (NextP bs fr w) := by
  obtain ⟨m, hm⟩ : ∃ m, words bs.length = m := ⟨_, rfl⟩
  have hm5 : m ≤ 5 := by rw [← hm]; exact words_le h.small
  obtain ⟨y, hy⟩ : ∃ y, 2 ^ (fr % 64) = y := ⟨_, rfl⟩
  have yl : y < 18446744073709551616 := by rw [← hy]; exact bit_lt _
  have y0 : 0 < y := by rw [← hy]; exact Nat.pow_pos (by omega)
  obtain ⟨a0, ha0⟩ : ∃ a0, y - 1 = a0 := ⟨_, rfl⟩
  have r1 : IntKind.u64.wrap ((y : Int) - 1) = (a0 : Int) := by rw [IntKind.wrap_u64]; omega
  obtain ⟨k0, hk0⟩ : ∃ k0, fr / 64 = k0 := ⟨_, rfl⟩
  have r2 : (fr : Int) / 64 = (k0 : Int) := by omega
  have kl : k0 ≤ 1000 := by omega
  have HQ := Lib.hid (And.intro h (And.intro hG (And.intro hm (And.intro hy (And.intro ha0 hk0)))))
  clear h hG hm hy yl y0 ha0 hk0
  go_enter Tryd.func42, Tryd.ntmps42
  go_wp2_with fail
  refine (laid_v B p g bs m HQ.out.2.2.1 _ HQ.out.1).mono ?_
  rintro e w1 ⟨rfl, rfl⟩
  go_wp2_with fail
  refine (bit_v fr y (by omega) HQ.out.2.2.2.1 _).mono ?_
  rintro e w2 ⟨rfl, rfl⟩
  go_wp2_with fail
  clear r1 r2
  go_loopg [7, 8] (m - k0) (fun gk v u wr => ∃ (k a : Nat), gk = m - k ∧ k ≤ 1000 + m ∧ u = .int .i64 (k : Int) ∧ v = .int .u64 (a : Int) ∧
    Hid (((k = fr / 64 ∧ a = 2 ^ (fr % 64) - 1) ∨ (fr / 64 < k ∧ a = 0)) ∧ (∀ j, fr ≤ j → j < 64 * k → has bs j = false) ∧ wr = w2))
  case atStart =>
    obtain ⟨_, _, hm, hy, ha0, hk0⟩ := HQ.out
    exact ⟨k0, a0, rfl, by omega, rfl, rfl, .inl ⟨hk0.symm, by rw [hy, ha0]⟩, fun j h1 h2 => by omega, rfl⟩
  case round =>
    obtain ⟨k, a, hk, hkl, rfl, rfl, HH⟩ := hrel
    obtain rfl : wr = w2 := HH.out.2.2
    by_cases hlt : k < m
    · obtain ⟨h, hG, hm, _⟩ := HQ.out
      obtain ⟨ha, hno, _⟩ := HH.out
      obtain ⟨x, hx⟩ : ∃ x, word bs k = x := ⟨_, rfl⟩
      have c0 := h.row.cell k (by rw [hm]; exact hlt)
      rw [hx] at c0
      have xl : x < 18446744073709551616 := by rw [← hx]; exact word_lt _ _
      have al : a < 18446744073709551616 := by
        rcases ha with ⟨_, rfl⟩ | ⟨_, rfl⟩
        · have := bit_lt fr; omega
        · omega
      obtain ⟨z, hz⟩ : ∃ z, (x &&& (18446744073709551615 - a)) = z := ⟨_, rfl⟩
      have hb := mask_bit bs fr k a ha
      rw [hx, hz] at hb
      have zl : z < 18446744073709551616 := by rw [← hz]; exact (show _ < 2 ^ 64 from Nat.and_lt_two_pow _ (Nat.lt_of_le_of_lt (Nat.sub_le _ _) (by omega)))
      have r1 : bits .andNot .u64 (x : Int) (a : Int) = (z : Int) := by rw [u64_andNot_nat x a xl al, hz]
      by_cases hz0 : z = 0
      · have hno2 : ∀ j, fr ≤ j → j < 64 * (k + 1) → has bs j = false := by
          intro j h1 h2
          by_cases h3 : j < 64 * k
          · exact hno j h1 h3
          · have := hb (j - 64 * k)
            rw [hz0, Nat.zero_testBit] at this
            have e : 64 * k + (j - 64 * k) = j := by omega
            have e2 : (j - 64 * k < 64 ∧ fr ≤ j) := ⟨by omega, h1⟩
            rw [e, decide_eq_true e2, Bool.true_and] at this
            exact this.symm
        have H1 := Lib.hid hno2
        have n1 : ((z : Int) != 0) = false := by rw [hz0]; rfl
        have hkk : fr / 64 < k + 1 := by rcases ha with ⟨h1, _⟩ | ⟨h1, _⟩ <;> omega
        have H2 := Lib.hid hkk
        clear h hG hm ha hno hx xl al hz hb zl hz0 hno2 hkk
        go_wp2_with fail
        go_roundg (gk - 1)
        case measure => omega
        case rel => exact ⟨k + 1, 0, by omega, by omega, by go_num, rfl, .inr ⟨H2.out, rfl⟩, H1.out, rfl⟩
      · obtain ⟨t, ht⟩ : ∃ t, Lib.ctz 64 z = t := ⟨_, rfl⟩
        obtain ⟨tl, t1, t2⟩ := ctz_bit z t zl hz0 ht
        have C := tz_v z t zl hz0 ht wr hG
        have n1 : ((z : Int) != 0) = true := by simp; omega
        rw [hb] at t1
        have hres : fr ≤ 64 * k + t ∧ has bs (64 * k + t) = true := by
          rw [Bool.and_eq_true, decide_eq_true_iff] at t1
          exact ⟨t1.1.2, t1.2⟩
        have hfirst : ∀ j, fr ≤ j → j < 64 * k + t → has bs j = false := by
          intro j h1 h2
          by_cases h3 : j < 64 * k
          · exact hno j h1 h3
          · have := t2 (j - 64 * k) (by omega)
            rw [hb] at this
            have e : 64 * k + (j - 64 * k) = j := by omega
            have e2 : (j - 64 * k < 64 ∧ fr ≤ j) := ⟨by omega, h1⟩
            rw [e, decide_eq_true e2, Bool.true_and] at this
            exact this
        have H1 := Lib.hid (And.intro C (And.intro hres hfirst))
        clear h hG hm ha hno hx xl al hz hb zl hz0 ht t1 t2 C hres hfirst
        go_wp2_with fail
        refine H1.out.1.mono ?_
        rintro e w3 ⟨rfl, rfl⟩
        go_wp2_with fail
        go_ret2
        refine ⟨rfl, .inl ⟨64 * k + t, ?_, H1.out.2.1.1, H1.out.2.1.2, H1.out.2.2⟩⟩
        have e : (k : Int) * 64 + (t : Int) = ((64 * k + t : Nat) : Int) := by omega
        rw [← e]; rfl
    · have hge : ¬ (k : Int) < (m : Int) := by omega
      go_wp2_with fail
      go_ret2
      refine ⟨rfl, .inr ⟨rfl, fun j hj => ?_⟩⟩
      obtain ⟨h, hG, hm, _⟩ := HQ.out
      by_cases hjl : j < bs.length
      · exact HH.out.2.1 j hj (by unfold words at hm; omega)
      · exact has_past (by omega)
end Go.Proofs.YtgckoiepclgofaaDoor
