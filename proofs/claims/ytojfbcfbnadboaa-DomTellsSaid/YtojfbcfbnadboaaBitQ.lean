/- How many bits a number of 64 bits has: what the library's reckoning comes to, over plain numbers. -/
import Derived.Test.YtojfbcfbnadboaaBitMath
import Derived.Test.YtojfbcfbnadboaaBitBasic
import Derived.Laws.Bits128
namespace Go.Proofs.Ytojfbcfbnadboaa.Bit
set_option linter.unusedVariables false
theorem and_split (a M : Nat) : a &&& M = (a % 256 &&& M % 256) + 256 * (a / 256 &&& M / 256) := by
  have h1 : (a &&& M) % 2 ^ 8 = a % 2 ^ 8 &&& M % 2 ^ 8 := Nat.and_mod_two_pow
  have h2 : (a &&& M) / 2 ^ 8 = a / 2 ^ 8 &&& M / 2 ^ 8 := Nat.and_div_two_pow
  have h3 := Nat.mod_add_div (a &&& M) (2 ^ 8)
  rw [h1, h2] at h3
  exact h3.symm
def p1 (b : Nat) : Nat := (b / 2 &&& 85) + (b &&& 85)
def p2 (b : Nat) : Nat := (b / 4 &&& 51) + (b &&& 51)
def p3 (b : Nat) : Nat := (b / 16 + b) &&& 15
def mask (c : Nat) : Nat → Nat
  | 0 => 0
  | n + 1 => c + 256 * mask c n
theorem mask_succ (c n : Nat) : mask c (n + 1) = c + 256 * mask c n := rfl
def q1 : Nat → Nat → Nat
  | 0, _ => 0
  | n + 1, x => p1 (x % 256) + 256 * q1 n (x / 256)
def q2 : Nat → Nat → Nat
  | 0, _ => 0
  | n + 1, x => p2 (p1 (x % 256)) + 256 * q2 n (x / 256)
def q3 : Nat → Nat → Nat
  | 0, _ => 0
  | n + 1, x => ones (x % 256) 8 + 256 * q3 n (x / 256)
theorem byte1 : ∀ b, b < 256 → ∀ r, r < 2 → ((b / 2 + 128 * r) &&& 85) = (b / 2 &&& 85) := by decide +kernel
theorem byte2 : ∀ b, b < 256 → ∀ r, r < 4 → ((b / 4 + 64 * r) &&& 51) = (b / 4 &&& 51) := by decide +kernel
theorem bytes : ∀ b, b < 256 → p1 b < 256 ∧ p2 (p1 b) ≤ 68 ∧ p2 (p1 b) % 16 ≤ 4 ∧ p3 (p2 (p1 b)) = ones b 8 ∧ ones b 8 ≤ 8 := by decide +kernel
theorem byte3 : ∀ b, b ≤ 68 → ∀ r, r ≤ 4 → ((b / 16 + b + 16 * r) &&& 15) = ((b / 16 + b) &&& 15) := by decide +kernel
theorem stage1 : ∀ (n x : Nat), x < 256 ^ n → (x / 2 &&& mask 85 n) + (x &&& mask 85 n) = q1 n x
  | 0, x, h => by simp [mask, q1]
  | n + 1, x, h => by
    have hb : x % 256 < 256 := Nat.mod_lt _ (by omega)
    have ih := stage1 n (x / 256) (by rw [Nat.pow_succ] at h; omega)
    have e1 : mask 85 (n + 1) % 256 = 85 := by rw [mask_succ]; omega
    have e2 : mask 85 (n + 1) / 256 = mask 85 n := by rw [mask_succ]; omega
    have f1 : x / 2 % 256 = x % 256 / 2 + 128 * (x / 256 % 2) := by omega
    have f2 : x / 2 / 256 = x / 256 / 2 := by omega
    rw [and_split (x / 2), and_split x, e1, e2, f1, f2, byte1 _ hb _ (Nat.mod_lt _ (by omega))]
    unfold q1 p1
    rw [← ih]
    omega
theorem q1_mod (n x : Nat) : q1 (n + 1) x % 256 = p1 (x % 256) := by
  have := (bytes (x % 256) (Nat.mod_lt _ (by omega))).1
  unfold q1; omega
theorem q1_div (n x : Nat) : q1 (n + 1) x / 256 = q1 n (x / 256) := by
  have := (bytes (x % 256) (Nat.mod_lt _ (by omega))).1
  conv => lhs; unfold q1
  omega
theorem stage2 : ∀ (n x : Nat), (q1 n x / 4 &&& mask 51 n) + (q1 n x &&& mask 51 n) = q2 n x
  | 0, x => by simp [mask, q2]
  | n + 1, x => by
    have ih := stage2 n (x / 256)
    have e1 : mask 51 (n + 1) % 256 = 51 := by rw [mask_succ]; omega
    have e2 : mask 51 (n + 1) / 256 = mask 51 n := by rw [mask_succ]; omega
    have g1 := q1_mod n x
    have g2 := q1_div n x
    have hb := (bytes (x % 256) (Nat.mod_lt _ (by omega))).1
    obtain ⟨z, hz⟩ : ∃ z, q1 (n + 1) x = z := ⟨_, rfl⟩
    rw [hz] at g1 g2 ⊢
    have f1 : z / 4 % 256 = z % 256 / 4 + 64 * (z / 256 % 4) := by omega
    have f2 : z / 4 / 256 = z / 256 / 4 := by omega
    rw [and_split (z / 4), and_split z, e1, e2, f1, f2, g1, g2, byte2 _ hb _ (Nat.mod_lt _ (by omega))]
    unfold q2 p2
    rw [← ih]
    omega
theorem q2_mod (n x : Nat) : q2 (n + 1) x % 256 = p2 (p1 (x % 256)) := by
  have := (bytes (x % 256) (Nat.mod_lt _ (by omega))).2.1
  unfold q2; omega
theorem q2_div (n x : Nat) : q2 (n + 1) x / 256 = q2 n (x / 256) := by
  have := (bytes (x % 256) (Nat.mod_lt _ (by omega))).2.1
  conv => lhs; unfold q2
  omega
theorem q2_low : ∀ n x, q2 n x % 16 ≤ 4
  | 0, x => by simp [q2]
  | n + 1, x => by
    have := (bytes (x % 256) (Nat.mod_lt _ (by omega))).2.2.1
    unfold q2; omega
theorem stage3 : ∀ (n x : Nat), ((q2 n x / 16 + q2 n x) &&& mask 15 n) = q3 n x
  | 0, x => by simp [mask, q3]
  | n + 1, x => by
    have ih := stage3 n (x / 256)
    have e1 : mask 15 (n + 1) % 256 = 15 := by rw [mask_succ]; omega
    have e2 : mask 15 (n + 1) / 256 = mask 15 n := by rw [mask_succ]; omega
    have g1 := q2_mod n x
    have g2 := q2_div n x
    have hl := q2_low n (x / 256)
    obtain ⟨hb0, hb, hb2, hb3, _⟩ := bytes (x % 256) (Nat.mod_lt _ (by omega))
    obtain ⟨z, hz⟩ : ∃ z, q2 (n + 1) x = z := ⟨_, rfl⟩
    rw [hz] at g1 g2 ⊢
    have f1 : (z / 16 + z) % 256 = z % 256 / 16 + z % 256 + 16 * (z / 256 % 16) := by rw [g1, g2]; omega
    have f2 : (z / 16 + z) / 256 = z / 256 / 16 + z / 256 := by omega
    rw [and_split, e1, e2, f1, f2, g1, g2, byte3 _ hb _ hl, ih]
    show p3 (p2 (p1 (x % 256))) + _ = _
    rw [hb3]
    rfl
theorem ones_split (x n : Nat) : ones x (8 + n) = ones (x % 256) 8 + ones (x / 256) n := by
  unfold ones
  rw [List.range_add, List.filter_append, List.length_append]
  congr 1
  · congr 1
    apply List.filter_congr
    intro j hj
    have hj : j < 8 := by simpa using hj
    rw [show (256 : Nat) = 2 ^ 8 from rfl, Nat.testBit_mod_two_pow]; simp [hj]
  · rw [List.filter_map, List.length_map]
    congr 1
    apply List.filter_congr
    intro j hj
    show x.testBit (8 + j) = (x / 256).testBit j
    rw [show (256 : Nat) = 2 ^ 8 from rfl, Nat.testBit_div_two_pow]; congr 1; omega
end Go.Proofs.Ytojfbcfbnadboaa.Bit
/- How many bits a number of 64 bits has: all bytes together. -/
namespace Go.Proofs.Ytojfbcfbnadboaa.Bit
set_option linter.unusedVariables false
set_option maxHeartbeats 400000
theorem q3_ends (x : Nat) : ∃ a b c d e f g h, q3 8 x = a + 256 * (b + 256 * (c + 256 * (d + 256 * (e + 256 * (f + 256 * (g + 256 * h)))))) ∧ ones x 64 = a + (b + (c + (d + (e + (f + (g + h)))))) ∧
    a ≤ 8 ∧ b ≤ 8 ∧ c ≤ 8 ∧ d ≤ 8 ∧ e ≤ 8 ∧ f ≤ 8 ∧ g ≤ 8 ∧ h ≤ 8 := by
  have hb : ∀ y, ones (y % 256) 8 ≤ 8 := fun y => (bytes (y % 256) (Nat.mod_lt _ (by omega))).2.2.2.2
  refine ⟨_, _, _, _, _, _, _, _, rfl, ?_, hb _, hb _, hb _, hb _, hb _, hb _, hb _, hb _⟩
  have s := ones_split
  rw [show (64 : Nat) = 8 + 56 from rfl, s x, show (56 : Nat) = 8 + 48 from rfl, s, show (48 : Nat) = 8 + 40 from rfl, s, show (40 : Nat) = 8 + 32 from rfl, s, show (32 : Nat) = 8 + 24 from rfl, s,
    show (24 : Nat) = 8 + 16 from rfl, s, show ones (x / 256 / 256 / 256 / 256 / 256 / 256) 16 = ones (x / 256 / 256 / 256 / 256 / 256 / 256) (8 + 8) from rfl, s, show ones (x / 256 / 256 / 256 / 256 / 256 / 256 / 256) 8 = ones (x / 256 / 256 / 256 / 256 / 256 / 256 / 256) (8 + 0) from rfl, s]
  rfl
end Go.Proofs.Ytojfbcfbnadboaa.Bit
/- How many bits a number of 64 bits has: the library's steps. -/
namespace Go.Proofs.Ytojfbcfbnadboaa.Bit
set_option linter.unusedVariables false
set_option maxHeartbeats 400000
theorem masks : mask 85 8 = 6148914691236517205 ∧ mask 51 8 = 3689348814741910323 ∧ mask 15 8 = 1085102592571150095 := by decide +kernel
theorem e8 : 256 ^ 8 = 18446744073709551616 := by decide +kernel
theorem dv (r y m z : Nat) (h : z = r + m * y) (hr : r < m) : z / m = y := by
  subst h; rw [Nat.add_mul_div_left _ _ (by omega), Nat.div_eq_of_lt hr]; omega
theorem q1_lt : ∀ n x, q1 n x < 256 ^ n
  | 0, x => by simp [q1]
  | n + 1, x => by
    have h1 := q1_lt n (x / 256)
    have h2 := (bytes (x % 256) (Nat.mod_lt _ (by omega))).1
    have h3 : 256 ^ (n + 1) = 256 * 256 ^ n := by rw [Nat.pow_succ, Nat.mul_comm]
    rw [h3]; unfold q1; omega
theorem q2_lt : ∀ n x, q2 n x * 3 < 256 ^ n
  | 0, x => by simp [q2]
  | n + 1, x => by
    have h1 := q2_lt n (x / 256)
    have h2 := (bytes (x % 256) (Nat.mod_lt _ (by omega))).2.1
    have h3 : 256 ^ (n + 1) = 256 * 256 ^ n := by rw [Nat.pow_succ, Nat.mul_comm]
    have h4 : 0 < 256 ^ n := Nat.pow_pos (by omega)
    rw [h3]; unfold q2; omega
theorem id5 (a b c d e f g h : Nat) : a + 256 * (b + 256 * (c + 256 * (d + 256 * (e + 256 * (f + 256 * (g + 256 * h)))))) + (b + 256 * (c + 256 * (d + 256 * (e + 256 * (f + 256 * (g + 256 * h)))))) = ((a + b) + 256 * (b + c)) + 65536 * ((c + d) + 256 * ((d + e) + 256 * ((e + f) + 256 * ((f + g) + 256 * ((g + h) + 256 * h))))) := by omega
theorem id6 (a b c d e f g h : Nat) : ((a + b) + 256 * (b + c)) + 65536 * ((c + d) + 256 * ((d + e) + 256 * ((e + f) + 256 * ((f + g) + 256 * ((g + h) + 256 * h))))) + ((c + d) + 256 * ((d + e) + 256 * ((e + f) + 256 * ((f + g) + 256 * ((g + h) + 256 * h))))) = ((a + b + c + d) + 256 * ((b + c + d + e) + 256 * ((c + d + e + f) + 256 * (d + e + f + g)))) + 4294967296 * ((e + f + g + h) + 256 * ((f + g + h) + 256 * ((g + h) + 256 * h))) := by omega
theorem id7 (a b c d e f g h : Nat) : ((a + b + c + d) + 256 * ((b + c + d + e) + 256 * ((c + d + e + f) + 256 * (d + e + f + g)))) + 4294967296 * ((e + f + g + h) + 256 * ((f + g + h) + 256 * ((g + h) + 256 * h))) + ((e + f + g + h) + 256 * ((f + g + h) + 256 * ((g + h) + 256 * h))) = a + (b + (c + (d + (e + (f + (g + h)))))) + 128 * (2 * ((b + c + d + e + f + g + h) + 256 * ((c + d + e + f + g + h) + 256 * ((d + e + f + g + h) + 256 * ((e + f + g + h) + 256 * ((f + g + h) + 256 * ((g + h) + 256 * h))))))) := by omega
theorem lt5 (a b c d e f g h : Nat) (ha : a ≤ 8) (hb : b ≤ 8) (hc : c ≤ 8) (hd : d ≤ 8) (he : e ≤ 8) (hf : f ≤ 8) (hg : g ≤ 8) (hh : h ≤ 8) : a + 256 * (b + 256 * (c + 256 * (d + 256 * (e + 256 * (f + 256 * (g + 256 * h)))))) < 4611686018427387904 ∧ ((a + b) + 256 * (b + c)) < 65536 ∧ ((a + b) + 256 * (b + c)) + 65536 * ((c + d) + 256 * ((d + e) + 256 * ((e + f) + 256 * ((f + g) + 256 * ((g + h) + 256 * h))))) < 4611686018427387904 := by omega
theorem lt6 (a b c d e f g h : Nat) (ha : a ≤ 8) (hb : b ≤ 8) (hc : c ≤ 8) (hd : d ≤ 8) (he : e ≤ 8) (hf : f ≤ 8) (hg : g ≤ 8) (hh : h ≤ 8) : ((a + b + c + d) + 256 * ((b + c + d + e) + 256 * ((c + d + e + f) + 256 * (d + e + f + g)))) < 4294967296 ∧ ((a + b + c + d) + 256 * ((b + c + d + e) + 256 * ((c + d + e + f) + 256 * (d + e + f + g)))) + 4294967296 * ((e + f + g + h) + 256 * ((f + g + h) + 256 * ((g + h) + 256 * h))) < 4611686018427387904 := by omega
theorem lt7 (a b c d e f g h : Nat) (ha : a ≤ 8) (hb : b ≤ 8) (hc : c ≤ 8) (hd : d ≤ 8) (he : e ≤ 8) (hf : f ≤ 8) (hg : g ≤ 8) (hh : h ≤ 8) : a + (b + (c + (d + (e + (f + (g + h)))))) < 128 ∧ a + (b + (c + (d + (e + (f + (g + h)))))) + 128 * (2 * ((b + c + d + e + f + g + h) + 256 * ((c + d + e + f + g + h) + 256 * ((d + e + f + g + h) + 256 * ((e + f + g + h) + 256 * ((f + g + h) + 256 * ((g + h) + 256 * h))))))) < 4611686018427387904 := by omega
theorem sums (a b c d e f g h z : Nat) (hz : z = a + 256 * (b + 256 * (c + 256 * (d + 256 * (e + 256 * (f + 256 * (g + 256 * h)))))))
    (ha : a ≤ 8) (hb : b ≤ 8) (hc : c ≤ 8) (hd : d ≤ 8) (he : e ≤ 8) (hf : f ≤ 8) (hg : g ≤ 8) (hh : h ≤ 8) :
    ∃ s4 s5 s6, z + z / 256 = s4 ∧ s4 + s4 / 65536 = s5 ∧ s5 + s5 / 4294967296 = s6 ∧ z < 4611686018427387904 ∧ s4 < 4611686018427387904 ∧ s5 < 4611686018427387904 ∧ s6 < 4611686018427387904 ∧
      s6 % 128 = a + (b + (c + (d + (e + (f + (g + h)))))) := by
  obtain ⟨l1, l2, l3⟩ := lt5 a b c d e f g h ha hb hc hd he hf hg hh
  obtain ⟨l4, l5⟩ := lt6 a b c d e f g h ha hb hc hd he hf hg hh
  obtain ⟨l6, l7⟩ := lt7 a b c d e f g h ha hb hc hd he hf hg hh
  have k4 : z / 256 = b + 256 * (c + 256 * (d + 256 * (e + 256 * (f + 256 * (g + 256 * h))))) := dv a _ _ _ hz (Nat.lt_of_le_of_lt ha (by decide))
  have k5 := dv _ _ _ _ (id5 a b c d e f g h) l2
  have k6 := dv _ _ _ _ (id6 a b c d e f g h) l4
  refine ⟨_, _, _, rfl, rfl, rfl, ?_⟩
  rw [k4, hz, k5, id5, k6, id6, id7]
  exact ⟨l1, l3, l5, l7, by rw [Nat.add_mul_mod_self_left, Nat.mod_eq_of_lt l6]⟩
/-- The library's steps, one behind the other, with no sum that goes round. -/
theorem pop_steps (x : Nat) (hx : x < 18446744073709551616) : ∃ s1 s2 s3 s4 s5 s6 : Nat,
    (x / 2 &&& 6148914691236517205) + (x &&& 6148914691236517205) = s1 ∧ s1 < 18446744073709551616 ∧
    (s1 / 4 &&& 3689348814741910323) + (s1 &&& 3689348814741910323) = s2 ∧ s2 < 9223372036854775808 ∧
    ((s2 / 16 + s2) &&& 1085102592571150095) = s3 ∧ s3 + s3 / 256 = s4 ∧ s4 + s4 / 65536 = s5 ∧ s5 + s5 / 4294967296 = s6 ∧
    s3 < 4611686018427387904 ∧ s4 < 4611686018427387904 ∧ s5 < 4611686018427387904 ∧ s6 < 4611686018427387904 ∧ s6 % 128 = ones x 64 := by
  obtain ⟨m1, m2, m3⟩ := masks
  have h1 := stage1 8 x (by rw [e8]; exact hx)
  have h2 := stage2 8 x
  have h3 := stage3 8 x
  rw [m1] at h1
  rw [m2] at h2
  rw [m3] at h3
  have c1 := q1_lt 8 x
  have c2 := q2_lt 8 x
  rw [e8] at c1 c2
  obtain ⟨a, b, c, d, e, f, g, h, e1, e2, ha, hb, hc, hd, he, hf, hg, hh⟩ := q3_ends x
  obtain ⟨s4, s5, s6, t1, t2, t3, t4, t5, t6, t7, t8⟩ := sums a b c d e f g h _ e1 ha hb hc hd he hf hg hh
  rw [← e2] at t8
  obtain ⟨z1, hz1⟩ : ∃ z, q1 8 x = z := ⟨_, rfl⟩
  obtain ⟨z2, hz2⟩ : ∃ z, q2 8 x = z := ⟨_, rfl⟩
  obtain ⟨z3, hz3⟩ : ∃ z, q3 8 x = z := ⟨_, rfl⟩
  rw [hz1] at h1 h2 c1
  rw [hz2] at h2 h3 c2
  rw [hz3] at h3 t1 t4
  have c3 : z2 < 9223372036854775808 := by omega
  exact ⟨z1, z2, z3, s4, s5, s6, h1, c1, h2, c3, h3, t1, t2, t3, t4, t5, t6, t7, t8⟩
end Go.Proofs.Ytojfbcfbnadboaa.Bit
/- What math/bits.OnesCount64 and the program's Count answer. -/
namespace Go.Proofs.Ytojfbcfbnadboaa.Bit
open Go.ChangeShapes Go.WideShapes Go.RowKit
set_option linter.unusedVariables false

theorem wrap_sum (a b s : Nat) (h : a + b = s) (hs : s < 18446744073709551616) : IntKind.u64.wrap ((a : Int) + (b : Int)) = (s : Int) := by
  rw [IntKind.wrap_u64]; omega
theorem and_cast (a M r : Nat) (h : a &&& M = r) (ha : a < 18446744073709551616) (hM : M < 18446744073709551616) : bits .and .u64 (a : Int) (M : Int) = (r : Int) := by rw [u64_and_nat a M ha hM, h]
set_option maxRecDepth 100000 in
set_option maxHeartbeats 1000000 in
theorem ones_v (x r : Nat) (hx : x < 18446744073709551616) (hr : ones x 64 = r) (w : World) :
    Calls Try.prog 61 #[.int .u64 (x : Int)] w fun e w' => e = .returned (.int .i64 (r : Int)) ∧ w' = w := by
  obtain ⟨s1, s2, s3, s4, s5, s6, h1, l1, h2, l2, h3, h4, h5, h6, l3, l4, l5, l6, h7⟩ := pop_steps x hx
  rw [hr] at h7
  obtain ⟨x2, hx2⟩ : ∃ z, x / 2 = z := ⟨_, rfl⟩
  obtain ⟨s14, hs14⟩ : ∃ z, s1 / 4 = z := ⟨_, rfl⟩
  obtain ⟨s26, hs26⟩ : ∃ z, s2 / 16 = z := ⟨_, rfl⟩
  obtain ⟨s38, hs38⟩ : ∃ z, s3 / 256 = z := ⟨_, rfl⟩
  obtain ⟨s4q, hs4q⟩ : ∃ z, s4 / 65536 = z := ⟨_, rfl⟩
  obtain ⟨s5q, hs5q⟩ : ∃ z, s5 / 4294967296 = z := ⟨_, rfl⟩
  rw [hx2] at h1
  rw [hs14] at h2
  rw [hs26] at h3
  rw [hs38] at h4
  rw [hs4q] at h5
  rw [hs5q] at h6
  obtain ⟨a1, ha1⟩ : ∃ z, (x2 &&& 6148914691236517205) = z := ⟨_, rfl⟩
  obtain ⟨a2, ha2⟩ : ∃ z, (x &&& 6148914691236517205) = z := ⟨_, rfl⟩
  obtain ⟨b1, hb1⟩ : ∃ z, (s14 &&& 3689348814741910323) = z := ⟨_, rfl⟩
  obtain ⟨b2, hb2⟩ : ∃ z, (s1 &&& 3689348814741910323) = z := ⟨_, rfl⟩
  rw [ha1, ha2] at h1
  rw [hb1, hb2] at h2
  obtain ⟨t, ht⟩ : ∃ z, s26 + s2 = z := ⟨_, rfl⟩
  rw [ht] at h3
  have tl : t < 18446744073709551616 := by omega
  have q1 : (x : Int) / 2 = (x2 : Int) := by omega
  have q2 : bits .and .u64 (x2 : Int) 6148914691236517205 = (a1 : Int) := and_cast x2 6148914691236517205 a1 ha1 (by omega) (by omega)
  have q3 : bits .and .u64 (x : Int) 6148914691236517205 = (a2 : Int) := and_cast x 6148914691236517205 a2 ha2 hx (by omega)
  have q4 := wrap_sum a1 a2 s1 h1 l1
  have q5 : (s1 : Int) / 4 = (s14 : Int) := by omega
  have q6 : bits .and .u64 (s14 : Int) 3689348814741910323 = (b1 : Int) := and_cast s14 3689348814741910323 b1 hb1 (by omega) (by omega)
  have q7 : bits .and .u64 (s1 : Int) 3689348814741910323 = (b2 : Int) := and_cast s1 3689348814741910323 b2 hb2 l1 (by omega)
  have q8 := wrap_sum b1 b2 s2 h2 (by omega)
  have q9 : (s2 : Int) / 16 = (s26 : Int) := by omega
  have q10 := wrap_sum s26 s2 t ht tl
  have q11 : bits .and .u64 (t : Int) 1085102592571150095 = (s3 : Int) := and_cast t 1085102592571150095 s3 h3 tl (by omega)
  have q12 : (s3 : Int) / 256 = (s38 : Int) := by omega
  have q13 := wrap_sum s3 s38 s4 h4 (by omega)
  have q14 : (s4 : Int) / 65536 = (s4q : Int) := by omega
  have q15 := wrap_sum s4 s4q s5 h5 (by omega)
  have q16 : (s5 : Int) / 4294967296 = (s5q : Int) := by omega
  have q17 := wrap_sum s5 s5q s6 h6 (by omega)
  have q18 : IntKind.i64.wrap (s6 : Int) = (s6 : Int) := IntWalk.i64_in _ (by omega)
  have q19 : bits .and .i64 (s6 : Int) 127 = (r : Int) := by rw [i64_and127]; omega
  clear h1 l1 h2 l2 h3 h4 h5 h6 l3 l4 l5 l6 h7 hx2 hs14 hs26 hs38 hs4q hs5q ha1 ha2 hb1 hb2 ht tl hr hx
  go_enter Try.func61, Try.ntmps61
  go_wp2
  go_ret
  exact ⟨rfl, rfl⟩
set_option maxRecDepth 100000 in
set_option maxHeartbeats 1000000 in
theorem count_v (B p g : Nat) (bs : List Bool) (r : Nat) (hr : (all bs).length = r) (w : World) (h : SetAt B w p g bs) :
    Calls Try.prog 36 #[.pointer (some ⟨p, 0, none⟩)] w fun e w' => e = .returned (.int .i64 (r : Int)) ∧ w' = w := by
  obtain ⟨m, hm⟩ : ∃ m, words bs.length = m := ⟨_, rfl⟩
  have hm5 : m ≤ 5 := by rw [← hm]; exact words_le h.small
  have HQ := Lib.hid (And.intro h (And.intro hm hr))
  clear h hm hr
  go_enter Try.func36, Try.ntmps36
  go_wp2_with fail
  refine (laid_v B p g bs m HQ.out.2.1 _ HQ.out.1).mono ?_
  rintro e w1 ⟨rfl, rfl⟩
  go_wp2_with fail
  go_loopg [3, 9] m (fun gk v u wr => ∃ (k a : Nat), k + gk = m ∧ u = .int .i64 (k : Int) ∧ v = .int .i64 (a : Int) ∧ Hid (a = (low bs (64 * k)).length ∧ wr = w1))
  case atStart => exact ⟨0, 0, by omega, rfl, rfl, rfl, rfl⟩
  case round =>
    obtain ⟨k, a, hk, rfl, rfl, HH⟩ := hrel
    obtain rfl : wr = w1 := HH.out.2
    by_cases hlt : k < m
    · obtain ⟨h, hm, hr⟩ := HQ.out
      obtain ⟨z, hz⟩ : ∃ z, word bs k = z := ⟨_, rfl⟩
      have c0 := h.row.cell k (by rw [hm]; exact hlt)
      rw [hz] at c0
      have zl : z < 18446744073709551616 := by rw [← hz]; exact word_lt _ _
      obtain ⟨o, ho⟩ : ∃ o, ones z 64 = o := ⟨_, rfl⟩
      have hnx := low_next bs k
      rw [hz, ho, ← HH.out.1] at hnx
      have al : a ≤ 64 * k := by rw [HH.out.1]; exact low_len _ _
      have ol : o ≤ 64 := by rw [← ho]; unfold ones; exact Nat.le_trans (List.length_filter_le _ _) (by simp)
      have H1 := Lib.hid (And.intro zl (And.intro ho hnx))
      clear h hm hr hz zl ho hnx
      go_wp2_with fail
      refine (ones_v z o H1.out.1 H1.out.2.1 _).mono ?_
      rintro e w2 ⟨rfl, rfl⟩
      go_wp2_with fail
      go_roundg (gk - 1)
      case measure => omega
      case rel => exact ⟨k + 1, a + o, by omega, by go_num, by go_num, by rw [H1.out.2.2], rfl⟩
    · obtain rfl : k = m := by omega
      have hge : ¬ (k : Int) < (k : Int) := by omega
      go_wp2_with fail
      go_ret
      obtain ⟨h, hm, hr⟩ := HQ.out
      have ha := HH.out.1
      rw [low_past (by rw [← hm]; unfold words; omega), hr] at ha
      exact ⟨by rw [← ha]; rfl, rfl⟩
end Go.Proofs.Ytojfbcfbnadboaa.Bit
