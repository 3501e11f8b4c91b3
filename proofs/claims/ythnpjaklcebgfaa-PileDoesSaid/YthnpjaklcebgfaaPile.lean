/- What a pile's Len, Push, Peek, Pop and Change answer. -/
import Derived.Test.YthnpjaklcebgfaaChange
namespace Go.Proofs.Ythnpjaklcebgfaa
open Go.ChangeShapes Go.WideShapes Go.RowKit
set_option linter.unusedVariables false

/-- A pile at the pointer to block p: what waits is at q; it is laid as a heap. -/
structure Pl (B : Nat) (w : World) (p q g cap : Nat) (l : List It) : Prop where
  lo : B ≤ p
  nq : p ≠ q
  ng : p ≠ g
  lt : p < w.heap.size
  ptr : w.cell? ⟨p, 0, none⟩ = some (.pointer (some ⟨q, 0, none⟩))
  at_ : PAt B w q g cap l
  hp : Hp l l.length 0
theorem Pl.kept {B : Nat} {w w' : World} {p q g cap : Nat} {l : List It} {row : Option Nat} (h : Pl B w p q g cap l) (hg : w.grownBy w' row) (h0 : some p ≠ row) (h1 : some q ≠ row) (h2 : some g ≠ row) : Pl B w' p q g cap l :=
  ⟨h.lo, h.nq, h.ng, Nat.lt_of_lt_of_le h.lt hg.size, (hg.cell_far ⟨p, 0, none⟩ h.lt h0).trans h.ptr, h.at_.kept hg h1 h2, h.hp⟩
theorem Pl.grow {B : Nat} {w w' : World} {p q g cap : Nat} {l : List It} (h : Pl B w p q g cap l) (hg : w.grownBy w' none) : Pl B w' p q g cap l := h.kept hg (by simp) (by simp) (by simp)
theorem Pl.turn {B : Nat} {w w' : World} {p q g g' cap cap' : Nat} {l m : List It} (h : Pl B w p q g cap l) (hk : Kp q g w w') (ha : PAt B w' q g' cap' m) (hp : Hp m m.length 0) (hg : g' = g ∨ w.heap.size ≤ g') : Pl B w' p q g' cap' m :=
  ⟨h.lo, h.nq, by rcases hg with e | e; rw [e]; exact h.ng; have := h.lt; omega, Nat.lt_of_lt_of_le h.lt hk.size, (hk.cell ⟨p, 0, none⟩ h.lt h.nq h.ng).trans h.ptr, ha, hp⟩
theorem box_new (w : World) (t : TypeId) (x y : Value) : (w.alloc (.cells #[x, y] t)).cell? ⟨w.heap.size, 0, none⟩ = some x ∧ (w.alloc (.cells #[x, y] t)).cell? ⟨w.heap.size, 1, none⟩ = some y := by
  have h := heap_alloc_new w (.cells #[x, y] t)
  exact ⟨by rw [cell_of_row _ _ _ _ _ _ h]; rfl, by rw [cell_of_row _ _ _ _ _ _ h]; rfl⟩
theorem takes_v (B p q g cap : Nat) (l : List It) (w : World) (h : Pl B w p q g cap l) :
    Calls Try.prog 20 #[.pointer (some ⟨p, 0, none⟩)] w fun e w' => e = .returned (.bool false) ∧ w = w' := by
  have c0 := h.ptr
  clear h
  go_enter Try.func20, Try.ntmps20
  go_wp2_with fail
  go_ret
  exact ⟨rfl, rfl⟩
theorem takes_nil (w : World) : Calls Try.prog 20 #[.pointer none] w fun e w' => e = .returned (.bool true) ∧ w = w' := by
  go_enter Try.func20, Try.ntmps20
  go_wp2_with fail
  go_ret
  exact ⟨rfl, rfl⟩
theorem plen_v (B p q g cap n : Nat) (l : List It) (hn : l.length = n) (w : World) (h : Pl B w p q g cap l) :
    Calls Try.prog 17 #[.pointer (some ⟨p, 0, none⟩)] w fun e w' => e = .returned (.int .i64 (n : Int)) ∧ w = w' := by
  have c0 := h.ptr
  have H0 := Lib.hid (And.intro h hn)
  clear h hn
  go_enter Try.func17, Try.ntmps17
  go_wp2_with fail
  refine (takes_v B p q g cap l _ H0.out.1).mono ?_
  rintro e w1 ⟨rfl, rfl⟩
  go_wp2_with fail
  refine (len_v B q g cap n l H0.out.2 _ H0.out.1.at_).mono ?_
  rintro e w1 ⟨rfl, rfl⟩
  go_wp2_with fail
  go_ret
  exact ⟨rfl, rfl⟩
theorem plen_nil (w : World) : Calls Try.prog 17 #[.pointer none] w fun e w' => e = .returned (.int .i64 0) ∧ w = w' := by
  go_enter Try.func17, Try.ntmps17
  go_wp2_with fail
  refine (takes_nil _).mono ?_
  rintro e w1 ⟨rfl, rfl⟩
  go_wp2_with fail
  go_ret
  exact ⟨rfl, rfl⟩
/-- What Push leaves of a pile. -/
def PPushP (B p q g : Nat) (l : List It) (x : It) (w : World) (e : Ending) (w' : World) : Prop :=
  ∃ g' cap' m, e = .returned (.tuple #[]) ∧ Pl B w' p q g' cap' m ∧ m.Perm (l ++ [x]) ∧ Kp q g w w' ∧ (g' = g ∨ w.heap.size ≤ g')
set_option maxRecDepth 100000 in
theorem ppush_v (B p q g cap : Nat) (l : List It) (a b : Int) (hl : l.length < 1000) (w : World) (h : Pl B w p q g cap l) (hB : B ≤ w.heap.size) :
    Calls Try.prog 8 #[.pointer (some ⟨p, 0, none⟩), .agg #[.int .i64 a, .int .i64 b]] w (PPushP B p q g l (a, b) w) := by
  have c0 := h.ptr
  have hp := h.lt
  have H0 := Lib.hid (And.intro h hl)
  clear h hl
  go_enter Try.func8, Try.ntmps8
  go_wp2_with fail
  have gA := galloc w (.cells #[.int .i64 a, .int .i64 b] 28) none
  have k0 := (gA.cell_far ⟨p, 0, none⟩ hp (by simp)).trans c0
  obtain ⟨k1, k2⟩ := box_new w 28 (.int .i64 a) (.int .i64 b)
  have HA := Lib.hid gA
  clear gA c0 hp
  generalize w.alloc (.cells #[.int .i64 a, .int .i64 b] 28) = W at *
  refine (takes_v B p q g cap l _ (H0.out.1.grow HA.out)).mono ?_
  rintro e w1 ⟨rfl, rfl⟩
  go_wp2_with fail
  refine wp_region_still_tail 7 (by kernel_rfl) (by kernel_rfl) ?_
  simp only [List.take_succ_cons, List.take_zero, List.drop_succ_cons, List.drop_zero]
  repeat still_step
  refine wpStill_nil ?_
  go_wp2_with fail
  refine (hpush_v B q g cap l a b H0.out.2 H0.out.1.hp _ (H0.out.1.grow (gtrans HA.out (gdrew _ _))).at_ (by have := HA.out.size; simp; omega)).mono ?_
  rintro e w2 ⟨g', cap', m, rfl, hp2, hm2, hh2, hk2, hg2⟩
  have H2 := Lib.hid (And.intro hp2 (And.intro hm2 (And.intro hh2 (And.intro hk2 hg2))))
  clear hp2 hm2 hh2 hk2 hg2
  go_wp2_with fail
  go_end0
  obtain ⟨hp2, hm2, hh2, hk2, hg2⟩ := H2.out
  have gA := gtrans HA.out (gdrew W none)
  have hg3 : g' = g ∨ w.heap.size ≤ g' := by
    rcases hg2 with e | e
    · exact .inl e
    · have := gA.size; exact .inr (by omega)
  refine ⟨g', cap', m, rfl, ?_, hm2, (Kp.nil gA).trans hk2 (.inl rfl), hg3⟩
  exact (H0.out.1.grow gA).turn hk2 hp2 hh2 hg2
theorem ppush_nil (a b : Int) (w : World) : Calls Try.prog 8 #[.pointer none, .agg #[.int .i64 a, .int .i64 b]] w fun e w' => e = .returned (.tuple #[]) ∧ w.grownBy w' none := by
  go_enter Try.func8, Try.ntmps8
  go_wp2_with fail
  refine (takes_nil _).mono ?_
  rintro e w1 ⟨rfl, rfl⟩
  go_wp2_with fail
  refine bodyPost_ret (v := .tuple #[]) (by simp [results, Try.results8, go_sem]) rfl ⟨rfl, galloc _ _ _⟩
end Go.Proofs.Ythnpjaklcebgfaa
