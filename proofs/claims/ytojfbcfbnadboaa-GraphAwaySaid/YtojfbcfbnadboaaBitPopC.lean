
/- How many bits a number of 64 bits has: the library's steps. -/
import Derived.Test.YtojfbcfbnadboaaBitPopB
namespace Go.Proofs.Ytojfbcfbnadboaa.Bit
set_option linter.unusedVariables false
set_option maxHeartbeats 400000
theorem masks : mask 85 8 = 6148914691236517205 ∧ mask 51 8 = 3689348814741910323 ∧ mask 15 8 = 1085102592571150095 := by decide +kernel
theorem e8 : 256 ^ 8 = 18446744073709551616 := by decide +kernel
theorem dv (r y m z : Nat) (h : z = r + m * y) (hr : r < m) : z / m = y := by
  subst h; rw [Nat.add_mul_div_left _ _ (by omega), Nat.div_eq_of_lt hr]; omega
theorem q1_lt : ∀ n x, q1 n x < 256 ^ n
  | 0, x => by simp [q1]
  | n + 1, x => by
    have h1 := q1_lt n (x / 256)
    have h2 := (bytes (x % 256) (Nat.mod_lt _ (by omega))).1
    have h3 : 256 ^ (n + 1) = 256 * 256 ^ n := by rw [Nat.pow_succ, Nat.mul_comm]
    rw [h3]; unfold q1; omega
theorem q2_lt : ∀ n x, q2 n x * 3 < 256 ^ n
  | 0, x => by simp [q2]
  | n + 1, x => by
    have h1 := q2_lt n (x / 256)
    have h2 := (bytes (x % 256) (Nat.mod_lt _ (by omega))).2.1
    have h3 : 256 ^ (n + 1) = 256 * 256 ^ n := by rw [Nat.pow_succ, Nat.mul_comm]
    have h4 : 0 < 256 ^ n := Nat.pow_pos (by omega)
    rw [h3]; unfold q2; omega
theorem id5 (a b c d e f g h : Nat) : a + 256 * (b + 256 * (c + 256 * (d + 256 * (e + 256 * (f + 256 * (g + 256 * h)))))) + (b + 256 * (c + 256 * (d + 256 * (e + 256 * (f + 256 * (g + 256 * h)))))) = ((a + b) + 256 * (b + c)) + 65536 * ((c + d) + 256 * ((d + e) + 256 * ((e + f) + 256 * ((f + g) + 256 * ((g + h) + 256 * h))))) := by omega
theorem id6 (a b c d e f g h : Nat) : ((a + b) + 256 * (b + c)) + 65536 * ((c + d) + 256 * ((d + e) + 256 * ((e + f) + 256 * ((f + g) + 256 * ((g + h) + 256 * h))))) + ((c + d) + 256 * ((d + e) + 256 * ((e + f) + 256 * ((f + g) + 256 * ((g + h) + 256 * h))))) = ((a + b + c + d) + 256 * ((b + c + d + e) + 256 * ((c + d + e + f) + 256 * (d + e + f + g)))) + 4294967296 * ((e + f + g + h) + 256 * ((f + g + h) + 256 * ((g + h) + 256 * h))) := by omega
theorem id7 (a b c d e f g h : Nat) : ((a + b + c + d) + 256 * ((b + c + d + e) + 256 * ((c + d + e + f) + 256 * (d + e + f + g)))) + 4294967296 * ((e + f + g + h) + 256 * ((f + g + h) + 256 * ((g + h) + 256 * h))) + ((e + f + g + h) + 256 * ((f + g + h) + 256 * ((g + h) + 256 * h))) = a + (b + (c + (d + (e + (f + (g + h)))))) + 128 * (2 * ((b + c + d + e + f + g + h) + 256 * ((c + d + e + f + g + h) + 256 * ((d + e + f + g + h) + 256 * ((e + f + g + h) + 256 * ((f + g + h) + 256 * ((g + h) + 256 * h))))))) := by omega
theorem lt5 (a b c d e f g h : Nat) (ha : a ≤ 8) (hb : b ≤ 8) (hc : c ≤ 8) (hd : d ≤ 8) (he : e ≤ 8) (hf : f ≤ 8) (hg : g ≤ 8) (hh : h ≤ 8) : a + 256 * (b + 256 * (c + 256 * (d + 256 * (e + 256 * (f + 256 * (g + 256 * h)))))) < 4611686018427387904 ∧ ((a + b) + 256 * (b + c)) < 65536 ∧ ((a + b) + 256 * (b + c)) + 65536 * ((c + d) + 256 * ((d + e) + 256 * ((e + f) + 256 * ((f + g) + 256 * ((g + h) + 256 * h))))) < 4611686018427387904 := by omega
theorem lt6 (a b c d e f g h : Nat) (ha : a ≤ 8) (hb : b ≤ 8) (hc : c ≤ 8) (hd : d ≤ 8) (he : e ≤ 8) (hf : f ≤ 8) (hg : g ≤ 8) (hh : h ≤ 8) : ((a + b + c + d) + 256 * ((b + c + d + e) + 256 * ((c + d + e + f) + 256 * (d + e + f + g)))) < 4294967296 ∧ ((a + b + c + d) + 256 * ((b + c + d + e) + 256 * ((c + d + e + f) + 256 * (d + e + f + g)))) + 4294967296 * ((e + f + g + h) + 256 * ((f + g + h) + 256 * ((g + h) + 256 * h))) < 4611686018427387904 := by omega
theorem lt7 (a b c d e f g h : Nat) (ha : a ≤ 8) (hb : b ≤ 8) (hc : c ≤ 8) (hd : d ≤ 8) (he : e ≤ 8) (hf : f ≤ 8) (hg : g ≤ 8) (hh : h ≤ 8) : a + (b + (c + (d + (e + (f + (g + h)))))) < 128 ∧ a + (b + (c + (d + (e + (f + (g + h)))))) + 128 * (2 * ((b + c + d + e + f + g + h) + 256 * ((c + d + e + f + g + h) + 256 * ((d + e + f + g + h) + 256 * ((e + f + g + h) + 256 * ((f + g + h) + 256 * ((g + h) + 256 * h))))))) < 4611686018427387904 := by omega
theorem sums (a b c d e f g h z : Nat) (hz : z = a + 256 * (b + 256 * (c + 256 * (d + 256 * (e + 256 * (f + 256 * (g + 256 * h)))))))
    (ha : a ≤ 8) (hb : b ≤ 8) (hc : c ≤ 8) (hd : d ≤ 8) (he : e ≤ 8) (hf : f ≤ 8) (hg : g ≤ 8) (hh : h ≤ 8) :
    ∃ s4 s5 s6, z + z / 256 = s4 ∧ s4 + s4 / 65536 = s5 ∧ s5 + s5 / 4294967296 = s6 ∧ z < 4611686018427387904 ∧ s4 < 4611686018427387904 ∧ s5 < 4611686018427387904 ∧ s6 < 4611686018427387904 ∧
      s6 % 128 = a + (b + (c + (d + (e + (f + (g + h)))))) := by
  obtain ⟨l1, l2, l3⟩ := lt5 a b c d e f g h ha hb hc hd he hf hg hh
  obtain ⟨l4, l5⟩ := lt6 a b c d e f g h ha hb hc hd he hf hg hh
  obtain ⟨l6, l7⟩ := lt7 a b c d e f g h ha hb hc hd he hf hg hh
  have k4 : z / 256 = b + 256 * (c + 256 * (d + 256 * (e + 256 * (f + 256 * (g + 256 * h))))) := dv a _ _ _ hz (Nat.lt_of_le_of_lt ha (by decide))
  have k5 := dv _ _ _ _ (id5 a b c d e f g h) l2
  have k6 := dv _ _ _ _ (id6 a b c d e f g h) l4
  refine ⟨_, _, _, rfl, rfl, rfl, ?_⟩
  rw [k4, hz, k5, id5, k6, id6, id7]
  exact ⟨l1, l3, l5, l7, by rw [Nat.add_mul_mod_self_left, Nat.mod_eq_of_lt l6]⟩
/-- The library's steps, one behind the other, with no sum that goes round. -/
theorem pop_steps (x : Nat) (hx : x < 18446744073709551616) : ∃ s1 s2 s3 s4 s5 s6 : Nat,
    (x / 2 &&& 6148914691236517205) + (x &&& 6148914691236517205) = s1 ∧ s1 < 18446744073709551616 ∧
    (s1 / 4 &&& 3689348814741910323) + (s1 &&& 3689348814741910323) = s2 ∧ s2 < 9223372036854775808 ∧
    ((s2 / 16 + s2) &&& 1085102592571150095) = s3 ∧ s3 + s3 / 256 = s4 ∧ s4 + s4 / 65536 = s5 ∧ s5 + s5 / 4294967296 = s6 ∧
    s3 < 4611686018427387904 ∧ s4 < 4611686018427387904 ∧ s5 < 4611686018427387904 ∧ s6 < 4611686018427387904 ∧ s6 % 128 = ones x 64 := by
  obtain ⟨m1, m2, m3⟩ := masks
  have h1 := stage1 8 x (by rw [e8]; exact hx)
  have h2 := stage2 8 x
  have h3 := stage3 8 x
  rw [m1] at h1
  rw [m2] at h2
  rw [m3] at h3
  have c1 := q1_lt 8 x
  have c2 := q2_lt 8 x
  rw [e8] at c1 c2
  obtain ⟨a, b, c, d, e, f, g, h, e1, e2, ha, hb, hc, hd, he, hf, hg, hh⟩ := q3_ends x
  obtain ⟨s4, s5, s6, t1, t2, t3, t4, t5, t6, t7, t8⟩ := sums a b c d e f g h _ e1 ha hb hc hd he hf hg hh
  rw [← e2] at t8
  obtain ⟨z1, hz1⟩ : ∃ z, q1 8 x = z := ⟨_, rfl⟩
  obtain ⟨z2, hz2⟩ : ∃ z, q2 8 x = z := ⟨_, rfl⟩
  obtain ⟨z3, hz3⟩ : ∃ z, q3 8 x = z := ⟨_, rfl⟩
  rw [hz1] at h1 h2 c1
  rw [hz2] at h2 h3 c2
  rw [hz3] at h3 t1 t4
  have c3 : z2 < 9223372036854775808 := by omega
  exact ⟨z1, z2, z3, s4, s5, s6, h1, c1, h2, c3, h3, t1, t2, t3, t4, t5, t6, t7, t8⟩
end Go.Proofs.Ytojfbcfbnadboaa.Bit
