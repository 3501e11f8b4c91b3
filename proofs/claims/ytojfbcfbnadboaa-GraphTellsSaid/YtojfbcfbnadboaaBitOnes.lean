
/- What math/bits.OnesCount64 and the program's Count answer. -/
import Derived.Test.YtojfbcfbnadboaaBitBasic
import Derived.Test.YtojfbcfbnadboaaBitPopC
import Derived.Laws.Bits128
namespace Go.Proofs.Ytojfbcfbnadboaa.Bit
open Go.ChangeShapes Go.WideShapes Go.RowKit
set_option linter.unusedVariables false

theorem wrap_sum (a b s : Nat) (h : a + b = s) (hs : s < 18446744073709551616) : IntKind.u64.wrap ((a : Int) + (b : Int)) = (s : Int) := by
  rw [IntKind.wrap_u64]; omega
theorem and_cast (a M r : Nat) (h : a &&& M = r) (ha : a < 18446744073709551616) (hM : M < 18446744073709551616) : bits .and .u64 (a : Int) (M : Int) = (r : Int) := by rw [u64_and_nat a M ha hM, h]
set_option maxRecDepth 100000 in
set_option maxHeartbeats 1000000 in
theorem ones_v (x r : Nat) (hx : x < 18446744073709551616) (hr : ones x 64 = r) (w : World) :
    Calls Try.prog 61 #[.int .u64 (x : Int)] w fun e w' => e = .returned (.int .i64 (r : Int)) ∧ w' = w := by
  obtain ⟨s1, s2, s3, s4, s5, s6, h1, l1, h2, l2, h3, h4, h5, h6, l3, l4, l5, l6, h7⟩ := pop_steps x hx
  rw [hr] at h7
  obtain ⟨x2, hx2⟩ : ∃ z, x / 2 = z := ⟨_, rfl⟩
  obtain ⟨s14, hs14⟩ : ∃ z, s1 / 4 = z := ⟨_, rfl⟩
  obtain ⟨s26, hs26⟩ : ∃ z, s2 / 16 = z := ⟨_, rfl⟩
  obtain ⟨s38, hs38⟩ : ∃ z, s3 / 256 = z := ⟨_, rfl⟩
  obtain ⟨s4q, hs4q⟩ : ∃ z, s4 / 65536 = z := ⟨_, rfl⟩
  obtain ⟨s5q, hs5q⟩ : ∃ z, s5 / 4294967296 = z := ⟨_, rfl⟩
  rw [hx2] at h1
  rw [hs14] at h2
  rw [hs26] at h3
  rw [hs38] at h4
  rw [hs4q] at h5
  rw [hs5q] at h6
  obtain ⟨a1, ha1⟩ : ∃ z, (x2 &&& 6148914691236517205) = z := ⟨_, rfl⟩
  obtain ⟨a2, ha2⟩ : ∃ z, (x &&& 6148914691236517205) = z := ⟨_, rfl⟩
  obtain ⟨b1, hb1⟩ : ∃ z, (s14 &&& 3689348814741910323) = z := ⟨_, rfl⟩
  obtain ⟨b2, hb2⟩ : ∃ z, (s1 &&& 3689348814741910323) = z := ⟨_, rfl⟩
  rw [ha1, ha2] at h1
  rw [hb1, hb2] at h2
  obtain ⟨t, ht⟩ : ∃ z, s26 + s2 = z := ⟨_, rfl⟩
  rw [ht] at h3
  have tl : t < 18446744073709551616 := by omega
  have q1 : (x : Int) / 2 = (x2 : Int) := by omega
  have q2 : bits .and .u64 (x2 : Int) 6148914691236517205 = (a1 : Int) := and_cast x2 6148914691236517205 a1 ha1 (by omega) (by omega)
  have q3 : bits .and .u64 (x : Int) 6148914691236517205 = (a2 : Int) := and_cast x 6148914691236517205 a2 ha2 hx (by omega)
  have q4 := wrap_sum a1 a2 s1 h1 l1
  have q5 : (s1 : Int) / 4 = (s14 : Int) := by omega
  have q6 : bits .and .u64 (s14 : Int) 3689348814741910323 = (b1 : Int) := and_cast s14 3689348814741910323 b1 hb1 (by omega) (by omega)
  have q7 : bits .and .u64 (s1 : Int) 3689348814741910323 = (b2 : Int) := and_cast s1 3689348814741910323 b2 hb2 l1 (by omega)
  have q8 := wrap_sum b1 b2 s2 h2 (by omega)
  have q9 : (s2 : Int) / 16 = (s26 : Int) := by omega
  have q10 := wrap_sum s26 s2 t ht tl
  have q11 : bits .and .u64 (t : Int) 1085102592571150095 = (s3 : Int) := and_cast t 1085102592571150095 s3 h3 tl (by omega)
  have q12 : (s3 : Int) / 256 = (s38 : Int) := by omega
  have q13 := wrap_sum s3 s38 s4 h4 (by omega)
  have q14 : (s4 : Int) / 65536 = (s4q : Int) := by omega
  have q15 := wrap_sum s4 s4q s5 h5 (by omega)
  have q16 : (s5 : Int) / 4294967296 = (s5q : Int) := by omega
  have q17 := wrap_sum s5 s5q s6 h6 (by omega)
  have q18 : IntKind.i64.wrap (s6 : Int) = (s6 : Int) := IntWalk.i64_in _ (by omega)
  have q19 : bits .and .i64 (s6 : Int) 127 = (r : Int) := by rw [i64_and127]; omega
  clear h1 l1 h2 l2 h3 h4 h5 h6 l3 l4 l5 l6 h7 hx2 hs14 hs26 hs38 hs4q hs5q ha1 ha2 hb1 hb2 ht tl hr hx
  go_enter Try.func61, Try.ntmps61
  go_wp2
  go_ret
  exact ⟨rfl, rfl⟩
set_option maxRecDepth 100000 in
set_option maxHeartbeats 1000000 in
theorem count_v (B p g : Nat) (bs : List Bool) (r : Nat) (hr : (all bs).length = r) (w : World) (h : SetAt B w p g bs) :
    Calls Try.prog 36 #[.pointer (some ⟨p, 0, none⟩)] w fun e w' => e = .returned (.int .i64 (r : Int)) ∧ w' = w := by
  obtain ⟨m, hm⟩ : ∃ m, words bs.length = m := ⟨_, rfl⟩
  have hm5 : m ≤ 5 := by rw [← hm]; exact words_le h.small
  have HQ := Lib.hid (And.intro h (And.intro hm hr))
  clear h hm hr
  go_enter Try.func36, Try.ntmps36
  go_wp2_with fail
  refine (laid_v B p g bs m HQ.out.2.1 _ HQ.out.1).mono ?_
  rintro e w1 ⟨rfl, rfl⟩
  go_wp2_with fail
  go_loopg [3, 9] m (fun gk v u wr => ∃ (k a : Nat), k + gk = m ∧ u = .int .i64 (k : Int) ∧ v = .int .i64 (a : Int) ∧ Hid (a = (low bs (64 * k)).length ∧ wr = w1))
  case atStart => exact ⟨0, 0, by omega, rfl, rfl, rfl, rfl⟩
  case round =>
    obtain ⟨k, a, hk, rfl, rfl, HH⟩ := hrel
    obtain rfl : wr = w1 := HH.out.2
    by_cases hlt : k < m
    · obtain ⟨h, hm, hr⟩ := HQ.out
      obtain ⟨z, hz⟩ : ∃ z, word bs k = z := ⟨_, rfl⟩
      have c0 := h.row.cell k (by rw [hm]; exact hlt)
      rw [hz] at c0
      have zl : z < 18446744073709551616 := by rw [← hz]; exact word_lt _ _
      obtain ⟨o, ho⟩ : ∃ o, ones z 64 = o := ⟨_, rfl⟩
      have hnx := low_next bs k
      rw [hz, ho, ← HH.out.1] at hnx
      have al : a ≤ 64 * k := by rw [HH.out.1]; exact low_len _ _
      have ol : o ≤ 64 := by rw [← ho]; unfold ones; exact Nat.le_trans (List.length_filter_le _ _) (by simp)
      have H1 := Lib.hid (And.intro zl (And.intro ho hnx))
      clear h hm hr hz zl ho hnx
      go_wp2_with fail
      refine (ones_v z o H1.out.1 H1.out.2.1 _).mono ?_
      rintro e w2 ⟨rfl, rfl⟩
      go_wp2_with fail
      go_roundg (gk - 1)
      case measure => omega
      case rel => exact ⟨k + 1, a + o, by omega, by go_num, by go_num, by rw [H1.out.2.2], rfl⟩
    · obtain rfl : k = m := by omega
      have hge : ¬ (k : Int) < (k : Int) := by omega
      go_wp2_with fail
      go_ret
      obtain ⟨h, hm, hr⟩ := HQ.out
      have ha := HH.out.1
      rw [low_past (by rw [← hm]; unfold words; omega), hr] at ha
      exact ⟨by rw [← ha]; rfl, rfl⟩
end Go.Proofs.Ytojfbcfbnadboaa.Bit
