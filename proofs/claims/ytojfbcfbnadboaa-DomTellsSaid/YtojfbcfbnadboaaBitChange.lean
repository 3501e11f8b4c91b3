
/- What the program's Add and Drop answer, and what set there is behind them. -/
import Derived.Test.YtojfbcfbnadboaaBitBasic
import Derived.StillTailTactics
namespace Go.Proofs.Ytojfbcfbnadboaa.Bit
open Go.ChangeShapes Go.WideShapes Go.RowKit
set_option linter.unusedVariables false

/-- The set, with a number in it or without, if that may be in it. -/
def wth (bs : List Bool) (i : Int) (b : Bool) : List Bool := if 0 ≤ i ∧ i.toNat < bs.length then bs.set i.toNat b else bs
/-- Was it otherwise? -/
def chg (bs : List Bool) (i : Int) (b : Bool) : Bool := decide (0 ≤ i ∧ i.toNat < bs.length ∧ has bs i.toNat ≠ b)
theorem wth_len (bs : List Bool) (i : Int) (b : Bool) : (wth bs i b).length = bs.length := by unfold wth; split <;> simp
theorem wth_out {bs : List Bool} {i : Int} {b : Bool} (h : ¬ (0 ≤ i ∧ i.toNat < bs.length)) : wth bs i b = bs ∧ chg bs i b = false := by
  unfold wth chg; rw [if_neg h]; refine ⟨rfl, ?_⟩; rw [decide_eq_false_iff_not]; exact fun x => h ⟨x.1, x.2.1⟩
theorem wth_same {bs : List Bool} {i : Nat} {b : Bool} (h : has bs i = b) : wth bs (i : Int) b = bs ∧ chg bs (i : Int) b = false := by
  unfold wth chg
  simp only [Int.toNat_natCast]
  refine ⟨?_, by simp [h]⟩
  split
  · rename_i hi
    refine has_ext (by simp) fun j hj => ?_
    rw [has_set _ _ _ hi.2]
    split
    · rename_i e; rw [e, h]
    · rfl
  · rfl
theorem wth_new {bs : List Bool} {i : Nat} {b : Bool} (hi : i < bs.length) (h : has bs i = !b) : wth bs (i : Int) b = bs.set i b ∧ chg bs (i : Int) b = true := by
  unfold wth chg
  simp only [Int.toNat_natCast]
  rw [if_pos ⟨by omega, hi⟩]
  refine ⟨rfl, ?_⟩
  rw [decide_eq_true_iff]
  exact ⟨by omega, hi, by rw [h]; cases b <;> simp⟩
/-- What Add, or Drop, hands back. -/
def PutP (B p g : Nat) (bs : List Bool) (i : Int) (b : Bool) (w : World) (e : Ending) (w' : World) : Prop :=
  e = .returned (.bool (chg bs i b)) ∧ SetAt B w' p g (wth bs i b) ∧ w.grownBy w' (some g)

theorem add_low (i : Int) (B p g : Nat) (bs : List Bool) (hi : i < 0) (w : World) (h : SetAt B w p g bs) :
    Calls Try.prog 49 #[.pointer (some ⟨p, 0, none⟩), .int .i64 i] w (PutP B p g bs i true w) := by
  have HI := Lib.hid (And.intro h hi)
  clear h hi
  go_enter Try.func49, Try.ntmps49
  go_wp2_with fail
  refine (may_low i _ HI.out.2 _).mono ?_
  rintro e w1 ⟨rfl, rfl⟩
  go_wp2_with fail
  go_ret
  obtain ⟨e1, e2⟩ := wth_out (bs := bs) (b := true) (i := i) (by have := HI.out.2; omega)
  unfold PutP; rw [e1, e2]
  exact ⟨rfl, HI.out.1, World.grownBy.refl _ _⟩
theorem add_past (i : Nat) (B p g : Nat) (bs : List Bool) (hi : bs.length ≤ i) (w : World) (h : SetAt B w p g bs) :
    Calls Try.prog 49 #[.pointer (some ⟨p, 0, none⟩), .int .i64 (i : Int)] w (PutP B p g bs i true w) := by
  have HI := Lib.hid (And.intro h hi)
  clear h hi
  go_enter Try.func49, Try.ntmps49
  go_wp2_with fail
  refine (may_nat i B p g bs false (by rw [decide_eq_false_iff_not]; have := HI.out.2; omega) _ HI.out.1).mono ?_
  rintro e w1 ⟨rfl, rfl⟩
  go_wp2_with fail
  go_ret
  obtain ⟨e1, e2⟩ := wth_out (bs := bs) (b := true) (i := (i : Int)) (by have := HI.out.2; omega)
  unfold PutP; rw [e1, e2]
  exact ⟨rfl, HI.out.1, World.grownBy.refl _ _⟩
theorem add_there (i : Nat) (B p g : Nat) (bs : List Bool) (hi : i < bs.length) (hh : has bs i = true) (w : World) (h : SetAt B w p g bs) :
    Calls Try.prog 49 #[.pointer (some ⟨p, 0, none⟩), .int .i64 (i : Int)] w (PutP B p g bs i true w) := by
  have HI := Lib.hid (And.intro h (And.intro hi hh))
  clear h hi hh
  go_enter Try.func49, Try.ntmps49
  go_wp2_with fail
  refine (may_nat i B p g bs true (by simpa using HI.out.2.1) _ HI.out.1).mono ?_
  rintro e w1 ⟨rfl, rfl⟩
  go_wp2_with fail
  refine (has_in i B p g bs true HI.out.2.1 HI.out.2.2 _ HI.out.1).mono ?_
  rintro e w2 ⟨rfl, m, rfl⟩
  go_wp2_with fail
  go_ret
  obtain ⟨e1, e2⟩ := wth_same HI.out.2.2
  unfold PutP; rw [e1, e2]
  exact ⟨rfl, HI.out.1.grow (drewN_grown _ _ _), drewN_grown _ _ _⟩
set_option maxRecDepth 100000 in
theorem add_new (i : Nat) (B p g : Nat) (bs : List Bool) (hi : i < bs.length) (hh : has bs i = false) (w : World) (h : SetAt B w p g bs) :
    Calls Try.prog 49 #[.pointer (some ⟨p, 0, none⟩), .int .i64 (i : Int)] w (PutP B p g bs i true w) := by
  have hs := h.small
  obtain ⟨m, hm1⟩ : ∃ m, words bs.length = m := ⟨_, rfl⟩
  obtain ⟨z, hz⟩ : ∃ z, word bs (i / 64) = z := ⟨_, rfl⟩
  obtain ⟨y, hy⟩ : ∃ y, 2 ^ (i % 64) = y := ⟨_, rfl⟩
  obtain ⟨k, hk⟩ : ∃ k, i / 64 = k := ⟨_, rfl⟩
  obtain ⟨x, hx⟩ : ∃ x, (word bs (i / 64) ||| 2 ^ (i % 64)) = x := ⟨_, rfl⟩
  have hax := add_word bs i hi
  rw [hx, hk] at hax
  rw [hk] at hz
  have zl : z < 18446744073709551616 := by rw [← hz]; exact word_lt _ _
  have yl : y < 18446744073709551616 := by rw [← hy]; exact bit_lt _
  rw [hk, hz, hy] at hx
  have r1 : bits .or .u64 (z : Int) (y : Int) = (x : Int) := by rw [u64_or_nat z y zl yl, hx]
  have q1 : (i : Int) / 64 = (k : Int) := by omega
  have q2 : (i : Int).tdiv 64 = (k : Int) := by rw [Int.tdiv_eq_ediv_of_nonneg (by omega)]; exact q1
  have q3 : IntKind.i64.wrap (k : Int) = (k : Int) := IntWalk.i64_in _ (by omega)
  have km : k < m := by rw [← hm1, ← hk]; unfold words; omega
  have km2 : (k : Int) < (m : Int) := by omega
  have k0 : (0 : Int) ≤ (k : Int) := by omega
  have i1 : i ≤ 1000000 := by omega
  have HI := Lib.hid (And.intro h (And.intro hi (And.intro hh (And.intro hm1 (And.intro hz (And.intro hy (And.intro hk (And.intro hax i1))))))))
  clear h hi hh hm1 hz hy hk hax i1 hx zl yl hs
  go_enter Try.func49, Try.ntmps49
  go_wp2_with fail
  refine (may_nat i B p g bs true (by simpa using HI.out.2.1) _ HI.out.1).mono ?_
  rintro e w1 ⟨rfl, rfl⟩
  go_wp2_with fail
  refine (has_in i B p g bs false HI.out.2.1 HI.out.2.2.1 _ HI.out.1).mono ?_
  rintro e w2 ⟨rfl, n, hw2⟩
  have hS2 : SetAt B w2 p g bs := by rw [hw2]; exact HI.out.1.grow (drewN_grown _ _ _)
  have hG2 : w1.grownBy w2 (some g) := by rw [hw2]; exact drewN_grown _ _ _
  have c0 := hS2.slice
  have c1 := hS2.row.cell k (by rw [HI.out.2.2.2.1]; exact km)
  have f1 := hS2.row.free k
  rw [HI.out.2.2.2.1] at c0
  rw [HI.out.2.2.2.2.1] at c1
  have H2 := Lib.hid (And.intro hS2 hG2)
  clear hS2 hG2 hw2
  go_wp2_with fail
  refine wp_region_still_tail 12 (by kernel_rfl) (by kernel_rfl) ?_
  simp only [List.take_succ_cons, List.take_zero, List.drop_succ_cons, List.drop_zero]
  repeat still_step
  still_call (bit_v i y HI.out.2.2.2.2.2.2.2.2 HI.out.2.2.2.2.2.1 _)
  repeat still_step
  refine wpStill_nil ?_
  go_wp2_with fail
  go_ret
  obtain ⟨_, hi, hh, hm1, hz, hy, hk, hax, _⟩ := HI.out
  obtain ⟨e1, e2⟩ := wth_new (b := true) hi hh
  unfold PutP; rw [e1, e2]
  refine ⟨rfl, SetAt.drew (H2.out.1.put (by simp) k x (by rw [hm1]; exact km) hax.symm fun q hq hne => set_word bs i true hi q (by rw [hk]; exact hne)), ?_⟩
  exact gtrans H2.out.2 (gtrans (gset _ _ _ _) (gdrew _ _))
end Go.Proofs.Ytojfbcfbnadboaa.Bit
