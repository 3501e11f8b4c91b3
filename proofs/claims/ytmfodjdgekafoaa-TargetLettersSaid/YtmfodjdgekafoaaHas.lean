/- What Has answers: the program's and the document's. -/
import Derived.Test.YtmfodjdgekafoaaCheck
namespace Go.Proofs.Ytmfodjdgekafoaa
open Go.ChangeShapes Go.WideShapes Go.RowKit
set_option linter.unusedVariables false
set_option maxRecDepth 20000

theorem tgt_cells {W : World} {P : Nat} {r0 r1 sl : Int} {a0 a1 : Option Addr} {n0 m0 n1 m1 : Nat} (h : W.heap[P]? = some (.cells #[.int .i64 r0, .int .i64 r1, .slice a0 n0 m0, .slice a1 n1 m1, .int .i64 sl] 26 (0, 0))) :
    W.cell? ⟨P, 0, none⟩ = some (.int .i64 r0) ∧ W.cell? ⟨P, 1, none⟩ = some (.int .i64 r1) ∧ W.cell? ⟨P, 2, none⟩ = some (.slice a0 n0 m0) ∧ W.cell? ⟨P, 3, none⟩ = some (.slice a1 n1 m1) ∧ W.cell? ⟨P, 4, none⟩ = some (.int .i64 sl) :=
  ⟨cell_in h 0, cell_in h 1, cell_in h 2, cell_in h 3, cell_in h 4⟩
theorem loc_cells {W : World} {Q : Nat} {k c n : Int} (h : W.heap[Q]? = some (.cells #[.int .i64 k, .int .i64 c, .int .i64 n] 28 (0, 0))) :
    W.cell? ⟨Q, 0, none⟩ = some (.int .i64 k) ∧ W.cell? ⟨Q, 1, none⟩ = some (.int .i64 c) ∧ W.cell? ⟨Q, 2, none⟩ = some (.int .i64 n) :=
  ⟨cell_in h 0, cell_in h 1, cell_in h 2⟩
/-- Has a machine a place? -/
def hasB (i : Tgt) (k c n : Int) : Bool :=
  if k = 2 then (if c = 0 then decide (0 ≤ n) && decide (n < i.r0) else if c = 1 then decide (0 ≤ n) && decide (n < i.r1) else false)
  else if k = 3 then (if c = 0 then decide (0 ≤ n) && decide (n < i.slots) else false) else false
set_option maxHeartbeats 1000000 in
theorem has_r0 (i : Tgt) (r : TgtV) (n : Int) (w : World) (h : IsTgt w i r) (b : Bool) (hb : (decide (0 ≤ n) && decide (n < i.r0)) = b) :
    Calls Try.prog 9 #[.agg (tgtR i r), .agg #[.int .i64 2, .int .i64 0, .int .i64 n]] w fun e w' => e = .returned (.bool b) ∧ Below w.heap.size w w' := by
  have B0 : Below w.heap.size w ((w.alloc (.cells (tgtR i r) 26)).alloc (.cells #[.int .i64 2, .int .i64 0, .int .i64 n] 28)) := ((Below.refl _ w).alloc (Nat.le_refl _) _).alloc (by simp) _
  have D := Lib.hid (And.intro (h.below B0) (And.intro B0 (And.intro (show w.heap.size ≤ ((w.alloc (.cells (tgtR i r) 26)).alloc (.cells #[.int .i64 2, .int .i64 0, .int .i64 n] 28)).heap.size by simp; omega) (box_two w (.cells (tgtR i r) 26) (.cells #[.int .i64 2, .int .i64 0, .int .i64 n] 28)))))
  clear h B0
  obtain ⟨r0, r1, c0, c1, sl⟩ := i
  obtain ⟨a0, n0, m0, a1, n1, m1⟩ := r
  unfold tgtR at D ⊢
  dsimp only at D hb ⊢
  obtain ⟨wa, hwa⟩ : ∃ wa, (w.alloc (.cells #[.int .i64 r0, .int .i64 r1, .slice a0 n0 m0, .slice a1 n1 m1, .int .i64 sl] 26)).alloc (.cells #[.int .i64 2, .int .i64 0, .int .i64 n] 28) = wa := ⟨_, rfl⟩
  rw [hwa] at D
  have HB := Lib.hid hb
  clear hb
  obtain ⟨t0, t1, t2, t3, t4⟩ := tgt_cells D.out.2.2.2.1
  obtain ⟨l0, l1, l2⟩ := loc_cells D.out.2.2.2.2
  go_enter Try.func9, Try.ntmps9
  go_wp2_with fail
  clear hwa
  refine (reg_v 2 0 n true (by decide) _).mono ?_
  rintro e w1 ⟨rfl, hb1⟩
  obtain ⟨t0, t1, t2, t3, t4⟩ := tgt_cells (kept_box D.out.2.2.2.1 hb1)
  obtain ⟨l0, l1, l2⟩ := loc_cells (kept_box D.out.2.2.2.2 hb1)
  have B1 := Lib.hid hb1
  clear hb1
  go_wp2_with fail
  go_quiet ((go_at_call 25; exact Calls.quiet_of_same ((below_v n r0 b HB.out _).mono fun e w' h => ⟨h.1, h.2.symm⟩)))
  go_wp2_with fail
  go_ret
  exact ⟨rfl, D.out.2.1.trans ((Below.drewQ B1.out _).mono D.out.2.2.1)⟩
set_option maxHeartbeats 1000000 in
theorem has_r1 (i : Tgt) (r : TgtV) (n : Int) (w : World) (h : IsTgt w i r) (b : Bool) (hb : (decide (0 ≤ n) && decide (n < i.r1)) = b) :
    Calls Try.prog 9 #[.agg (tgtR i r), .agg #[.int .i64 2, .int .i64 1, .int .i64 n]] w fun e w' => e = .returned (.bool b) ∧ Below w.heap.size w w' := by
  have B0 : Below w.heap.size w ((w.alloc (.cells (tgtR i r) 26)).alloc (.cells #[.int .i64 2, .int .i64 1, .int .i64 n] 28)) := ((Below.refl _ w).alloc (Nat.le_refl _) _).alloc (by simp) _
  have D := Lib.hid (And.intro (h.below B0) (And.intro B0 (And.intro (show w.heap.size ≤ ((w.alloc (.cells (tgtR i r) 26)).alloc (.cells #[.int .i64 2, .int .i64 1, .int .i64 n] 28)).heap.size by simp; omega) (box_two w (.cells (tgtR i r) 26) (.cells #[.int .i64 2, .int .i64 1, .int .i64 n] 28)))))
  clear h B0
  obtain ⟨r0, r1, c0, c1, sl⟩ := i
  obtain ⟨a0, n0, m0, a1, n1, m1⟩ := r
  unfold tgtR at D ⊢
  dsimp only at D hb ⊢
  obtain ⟨wa, hwa⟩ : ∃ wa, (w.alloc (.cells #[.int .i64 r0, .int .i64 r1, .slice a0 n0 m0, .slice a1 n1 m1, .int .i64 sl] 26)).alloc (.cells #[.int .i64 2, .int .i64 1, .int .i64 n] 28) = wa := ⟨_, rfl⟩
  rw [hwa] at D
  have HB := Lib.hid hb
  clear hb
  obtain ⟨t0, t1, t2, t3, t4⟩ := tgt_cells D.out.2.2.2.1
  obtain ⟨l0, l1, l2⟩ := loc_cells D.out.2.2.2.2
  go_enter Try.func9, Try.ntmps9
  go_wp2_with fail
  clear hwa
  refine (reg_v 2 1 n true (by decide) _).mono ?_
  rintro e w1 ⟨rfl, hb1⟩
  obtain ⟨t0, t1, t2, t3, t4⟩ := tgt_cells (kept_box D.out.2.2.2.1 hb1)
  obtain ⟨l0, l1, l2⟩ := loc_cells (kept_box D.out.2.2.2.2 hb1)
  have B1 := Lib.hid hb1
  clear hb1
  go_wp2_with fail
  go_quiet ((go_at_call 25; exact Calls.quiet_of_same ((below_v n r1 b HB.out _).mono fun e w' h => ⟨h.1, h.2.symm⟩)))
  go_wp2_with fail
  go_ret
  exact ⟨rfl, D.out.2.1.trans ((Below.drewQ B1.out _).mono D.out.2.2.1)⟩
set_option maxHeartbeats 1000000 in
theorem has_s (i : Tgt) (r : TgtV) (n : Int) (w : World) (h : IsTgt w i r) (b : Bool) (hb : (decide (0 ≤ n) && decide (n < i.slots)) = b) :
    Calls Try.prog 9 #[.agg (tgtR i r), .agg #[.int .i64 3, .int .i64 0, .int .i64 n]] w fun e w' => e = .returned (.bool b) ∧ Below w.heap.size w w' := by
  have B0 : Below w.heap.size w ((w.alloc (.cells (tgtR i r) 26)).alloc (.cells #[.int .i64 3, .int .i64 0, .int .i64 n] 28)) := ((Below.refl _ w).alloc (Nat.le_refl _) _).alloc (by simp) _
  have D := Lib.hid (And.intro (h.below B0) (And.intro B0 (And.intro (show w.heap.size ≤ ((w.alloc (.cells (tgtR i r) 26)).alloc (.cells #[.int .i64 3, .int .i64 0, .int .i64 n] 28)).heap.size by simp; omega) (box_two w (.cells (tgtR i r) 26) (.cells #[.int .i64 3, .int .i64 0, .int .i64 n] 28)))))
  clear h B0
  obtain ⟨r0, r1, c0, c1, sl⟩ := i
  obtain ⟨a0, n0, m0, a1, n1, m1⟩ := r
  unfold tgtR at D ⊢
  dsimp only at D hb ⊢
  obtain ⟨wa, hwa⟩ : ∃ wa, (w.alloc (.cells #[.int .i64 r0, .int .i64 r1, .slice a0 n0 m0, .slice a1 n1 m1, .int .i64 sl] 26)).alloc (.cells #[.int .i64 3, .int .i64 0, .int .i64 n] 28) = wa := ⟨_, rfl⟩
  rw [hwa] at D
  have HB := Lib.hid hb
  clear hb
  obtain ⟨t0, t1, t2, t3, t4⟩ := tgt_cells D.out.2.2.2.1
  obtain ⟨l0, l1, l2⟩ := loc_cells D.out.2.2.2.2
  go_enter Try.func9, Try.ntmps9
  go_wp2_with fail
  clear hwa
  refine (reg_v 3 0 n false (by decide) _).mono ?_
  rintro e w1 ⟨rfl, hb1⟩
  obtain ⟨t0, t1, t2, t3, t4⟩ := tgt_cells (kept_box D.out.2.2.2.1 hb1)
  obtain ⟨l0, l1, l2⟩ := loc_cells (kept_box D.out.2.2.2.2 hb1)
  have B1 := Lib.hid hb1
  clear hb1
  go_wp2_with fail
  refine (below_v n sl b HB.out _).mono ?_
  rintro e w1 ⟨rfl, rfl⟩
  go_wp2_with fail
  go_ret
  exact ⟨rfl, D.out.2.1.trans (B1.out.mono D.out.2.2.1)⟩
set_option maxHeartbeats 1000000 in
theorem has_no (i : Tgt) (r : TgtV) (k c n : Int) (w : World) (h : IsTgt w i r) (hr : regB k c = false) (h3 : (k == 3) = false ∨ (c == 0) = false) (b : Bool) (hb : false = b) :
    Calls Try.prog 9 #[.agg (tgtR i r), .agg #[.int .i64 k, .int .i64 c, .int .i64 n]] w fun e w' => e = .returned (.bool b) ∧ Below w.heap.size w w' := by
  have B0 : Below w.heap.size w ((w.alloc (.cells (tgtR i r) 26)).alloc (.cells #[.int .i64 k, .int .i64 c, .int .i64 n] 28)) := ((Below.refl _ w).alloc (Nat.le_refl _) _).alloc (by simp) _
  have D := Lib.hid (And.intro (h.below B0) (And.intro B0 (And.intro (show w.heap.size ≤ ((w.alloc (.cells (tgtR i r) 26)).alloc (.cells #[.int .i64 k, .int .i64 c, .int .i64 n] 28)).heap.size by simp; omega) (box_two w (.cells (tgtR i r) 26) (.cells #[.int .i64 k, .int .i64 c, .int .i64 n] 28)))))
  clear h B0
  obtain ⟨r0, r1, c0, c1, sl⟩ := i
  obtain ⟨a0, n0, m0, a1, n1, m1⟩ := r
  unfold tgtR at D ⊢
  dsimp only at D hb ⊢
  obtain ⟨wa, hwa⟩ : ∃ wa, (w.alloc (.cells #[.int .i64 r0, .int .i64 r1, .slice a0 n0 m0, .slice a1 n1 m1, .int .i64 sl] 26)).alloc (.cells #[.int .i64 k, .int .i64 c, .int .i64 n] 28) = wa := ⟨_, rfl⟩
  rw [hwa] at D
  subst hb
  have HR := Lib.hid (And.intro hr h3)
  clear hr h3
  obtain ⟨t0, t1, t2, t3, t4⟩ := tgt_cells D.out.2.2.2.1
  obtain ⟨l0, l1, l2⟩ := loc_cells D.out.2.2.2.2
  go_enter Try.func9, Try.ntmps9
  go_wp2_with fail
  clear hwa
  refine (reg_v k c n false HR.out.1 _).mono ?_
  rintro e w1 ⟨rfl, hb1⟩
  obtain ⟨t0, t1, t2, t3, t4⟩ := tgt_cells (kept_box D.out.2.2.2.1 hb1)
  obtain ⟨l0, l1, l2⟩ := loc_cells (kept_box D.out.2.2.2.2 hb1)
  have B1 := Lib.hid hb1
  clear hb1
  rcases HR.out.2 with d3 | d3
  · go_wp2_with fail
    go_ret
    exact ⟨rfl, D.out.2.1.trans (B1.out.mono D.out.2.2.1)⟩
  · cases dk : k == 3
    all_goals
      go_wp2_with fail
      go_ret
      exact ⟨rfl, D.out.2.1.trans (B1.out.mono D.out.2.2.1)⟩
theorem has_v (i : Tgt) (r : TgtV) (k c n : Int) (w : World) (h : IsTgt w i r) (b : Bool) (hb : hasB i k c n = b) :
    Calls Try.prog 9 #[.agg (tgtR i r), .agg #[.int .i64 k, .int .i64 c, .int .i64 n]] w fun e w' => e = .returned (.bool b) ∧ Below w.heap.size w w' := by
  unfold hasB at hb
  by_cases h2 : k = 2
  · rw [if_pos h2] at hb
    subst h2
    by_cases h0 : c = 0
    · rw [if_pos h0] at hb; subst h0; exact has_r0 i r n w h b hb
    by_cases h1 : c = 1
    · rw [if_neg h0, if_pos h1] at hb; subst h1; exact has_r1 i r n w h b hb
    rw [if_neg h0, if_neg h1] at hb
    exact has_no i r 2 c n w h (by unfold regB; rw [← Bool.decide_and, ← Bool.decide_and, decide_eq_false_iff_not]; omega) (.inl (by decide)) b hb
  rw [if_neg h2] at hb
  have hr : regB k c = false := by unfold regB; rw [decide_eq_false h2]; rfl
  by_cases h3 : k = 3
  · rw [if_pos h3] at hb
    by_cases h0 : c = 0
    · rw [if_pos h0] at hb; subst h0; subst h3; exact has_s i r n w h b hb
    rw [if_neg h0] at hb
    exact has_no i r k c n w h hr (.inr (by rw [beq_eq_false_iff_ne]; exact h0)) b hb
  · rw [if_neg h3] at hb
    exact has_no i r k c n w h hr (.inl (by rw [beq_eq_false_iff_ne]; exact h3)) b hb
set_option maxHeartbeats 1000000 in
theorem rhas_r0 (i : Tgt) (r : TgtV) (n : Int) (w : World) (h : IsTgt w i r) (b : Bool) (hb : (decide (0 ≤ n) && decide (n < i.r0)) = b) :
    Calls Try.prog 10 #[.agg (tgtR i r), .agg #[.int .i64 2, .int .i64 0, .int .i64 n]] w fun e w' => e = .returned (.bool b) ∧ Below w.heap.size w w' := by
  have B0 : Below w.heap.size w ((w.alloc (.cells (tgtR i r) 26)).alloc (.cells #[.int .i64 2, .int .i64 0, .int .i64 n] 28)) := ((Below.refl _ w).alloc (Nat.le_refl _) _).alloc (by simp) _
  have D := Lib.hid (And.intro (h.below B0) (And.intro B0 (And.intro (show w.heap.size ≤ ((w.alloc (.cells (tgtR i r) 26)).alloc (.cells #[.int .i64 2, .int .i64 0, .int .i64 n] 28)).heap.size by simp; omega) (box_two w (.cells (tgtR i r) 26) (.cells #[.int .i64 2, .int .i64 0, .int .i64 n] 28)))))
  clear h B0
  obtain ⟨r0, r1, c0, c1, sl⟩ := i
  obtain ⟨a0, n0, m0, a1, n1, m1⟩ := r
  unfold tgtR at D ⊢
  dsimp only at D hb ⊢
  obtain ⟨wa, hwa⟩ : ∃ wa, (w.alloc (.cells #[.int .i64 r0, .int .i64 r1, .slice a0 n0 m0, .slice a1 n1 m1, .int .i64 sl] 26)).alloc (.cells #[.int .i64 2, .int .i64 0, .int .i64 n] 28) = wa := ⟨_, rfl⟩
  rw [hwa] at D
  cases d0 : decide (0 ≤ n) <;> cases d1 : decide (n < r0)
  all_goals
    rw [d0, d1] at hb
    replace hb := hb.symm
    subst hb
    have hb1 : Below wa.heap.size wa wa := Below.refl _ wa
    obtain ⟨t0, t1, t2, t3, t4⟩ := tgt_cells (kept_box D.out.2.2.2.1 hb1)
    obtain ⟨l0, l1, l2⟩ := loc_cells (kept_box D.out.2.2.2.2 hb1)
    have B1 := Lib.hid hb1
    clear hb1
    go_enter Try.func10, Try.ntmps10
    go_wp2_with fail
    clear hwa
    go_quiet (fail)
    go_wp2_with fail
    go_ret
    exact ⟨rfl, D.out.2.1.trans ((Below.drewQ B1.out _).mono D.out.2.2.1)⟩
set_option maxHeartbeats 1000000 in
theorem rhas_r1 (i : Tgt) (r : TgtV) (n : Int) (w : World) (h : IsTgt w i r) (b : Bool) (hb : (decide (0 ≤ n) && decide (n < i.r1)) = b) :
    Calls Try.prog 10 #[.agg (tgtR i r), .agg #[.int .i64 2, .int .i64 1, .int .i64 n]] w fun e w' => e = .returned (.bool b) ∧ Below w.heap.size w w' := by
  have B0 : Below w.heap.size w ((w.alloc (.cells (tgtR i r) 26)).alloc (.cells #[.int .i64 2, .int .i64 1, .int .i64 n] 28)) := ((Below.refl _ w).alloc (Nat.le_refl _) _).alloc (by simp) _
  have D := Lib.hid (And.intro (h.below B0) (And.intro B0 (And.intro (show w.heap.size ≤ ((w.alloc (.cells (tgtR i r) 26)).alloc (.cells #[.int .i64 2, .int .i64 1, .int .i64 n] 28)).heap.size by simp; omega) (box_two w (.cells (tgtR i r) 26) (.cells #[.int .i64 2, .int .i64 1, .int .i64 n] 28)))))
  clear h B0
  obtain ⟨r0, r1, c0, c1, sl⟩ := i
  obtain ⟨a0, n0, m0, a1, n1, m1⟩ := r
  unfold tgtR at D ⊢
  dsimp only at D hb ⊢
  obtain ⟨wa, hwa⟩ : ∃ wa, (w.alloc (.cells #[.int .i64 r0, .int .i64 r1, .slice a0 n0 m0, .slice a1 n1 m1, .int .i64 sl] 26)).alloc (.cells #[.int .i64 2, .int .i64 1, .int .i64 n] 28) = wa := ⟨_, rfl⟩
  rw [hwa] at D
  cases d0 : decide (0 ≤ n) <;> cases d1 : decide (n < r1)
  all_goals
    rw [d0, d1] at hb
    replace hb := hb.symm
    subst hb
    have hb1 : Below wa.heap.size wa wa := Below.refl _ wa
    obtain ⟨t0, t1, t2, t3, t4⟩ := tgt_cells (kept_box D.out.2.2.2.1 hb1)
    obtain ⟨l0, l1, l2⟩ := loc_cells (kept_box D.out.2.2.2.2 hb1)
    have B1 := Lib.hid hb1
    clear hb1
    go_enter Try.func10, Try.ntmps10
    go_wp2_with fail
    clear hwa
    go_quiet (fail)
    go_wp2_with fail
    go_ret
    exact ⟨rfl, D.out.2.1.trans ((Below.drewQ B1.out _).mono D.out.2.2.1)⟩
set_option maxHeartbeats 1000000 in
theorem rhas_s (i : Tgt) (r : TgtV) (n : Int) (w : World) (h : IsTgt w i r) (b : Bool) (hb : (decide (0 ≤ n) && decide (n < i.slots)) = b) :
    Calls Try.prog 10 #[.agg (tgtR i r), .agg #[.int .i64 3, .int .i64 0, .int .i64 n]] w fun e w' => e = .returned (.bool b) ∧ Below w.heap.size w w' := by
  have B0 : Below w.heap.size w ((w.alloc (.cells (tgtR i r) 26)).alloc (.cells #[.int .i64 3, .int .i64 0, .int .i64 n] 28)) := ((Below.refl _ w).alloc (Nat.le_refl _) _).alloc (by simp) _
  have D := Lib.hid (And.intro (h.below B0) (And.intro B0 (And.intro (show w.heap.size ≤ ((w.alloc (.cells (tgtR i r) 26)).alloc (.cells #[.int .i64 3, .int .i64 0, .int .i64 n] 28)).heap.size by simp; omega) (box_two w (.cells (tgtR i r) 26) (.cells #[.int .i64 3, .int .i64 0, .int .i64 n] 28)))))
  clear h B0
  obtain ⟨r0, r1, c0, c1, sl⟩ := i
  obtain ⟨a0, n0, m0, a1, n1, m1⟩ := r
  unfold tgtR at D ⊢
  dsimp only at D hb ⊢
  obtain ⟨wa, hwa⟩ : ∃ wa, (w.alloc (.cells #[.int .i64 r0, .int .i64 r1, .slice a0 n0 m0, .slice a1 n1 m1, .int .i64 sl] 26)).alloc (.cells #[.int .i64 3, .int .i64 0, .int .i64 n] 28) = wa := ⟨_, rfl⟩
  rw [hwa] at D
  cases d0 : decide (0 ≤ n) <;> cases d1 : decide (n < sl)
  all_goals
    rw [d0, d1] at hb
    replace hb := hb.symm
    subst hb
    have hb1 : Below wa.heap.size wa wa := Below.refl _ wa
    obtain ⟨t0, t1, t2, t3, t4⟩ := tgt_cells (kept_box D.out.2.2.2.1 hb1)
    obtain ⟨l0, l1, l2⟩ := loc_cells (kept_box D.out.2.2.2.2 hb1)
    have B1 := Lib.hid hb1
    clear hb1
    go_enter Try.func10, Try.ntmps10
    go_wp2_with fail
    clear hwa
    go_ret
    exact ⟨rfl, D.out.2.1.trans (B1.out.mono D.out.2.2.1)⟩
set_option maxHeartbeats 1000000 in
theorem rhas_s2 (i : Tgt) (r : TgtV) (c n : Int) (w : World) (h : IsTgt w i r) (h0 : (c == 0) = false) (b : Bool) (hb : false = b) :
    Calls Try.prog 10 #[.agg (tgtR i r), .agg #[.int .i64 3, .int .i64 c, .int .i64 n]] w fun e w' => e = .returned (.bool b) ∧ Below w.heap.size w w' := by
  have B0 : Below w.heap.size w ((w.alloc (.cells (tgtR i r) 26)).alloc (.cells #[.int .i64 3, .int .i64 c, .int .i64 n] 28)) := ((Below.refl _ w).alloc (Nat.le_refl _) _).alloc (by simp) _
  have D := Lib.hid (And.intro (h.below B0) (And.intro B0 (And.intro (show w.heap.size ≤ ((w.alloc (.cells (tgtR i r) 26)).alloc (.cells #[.int .i64 3, .int .i64 c, .int .i64 n] 28)).heap.size by simp; omega) (box_two w (.cells (tgtR i r) 26) (.cells #[.int .i64 3, .int .i64 c, .int .i64 n] 28)))))
  clear h B0
  obtain ⟨r0, r1, c0, c1, sl⟩ := i
  obtain ⟨a0, n0, m0, a1, n1, m1⟩ := r
  unfold tgtR at D ⊢
  dsimp only at D hb ⊢
  obtain ⟨wa, hwa⟩ : ∃ wa, (w.alloc (.cells #[.int .i64 r0, .int .i64 r1, .slice a0 n0 m0, .slice a1 n1 m1, .int .i64 sl] 26)).alloc (.cells #[.int .i64 3, .int .i64 c, .int .i64 n] 28) = wa := ⟨_, rfl⟩
  rw [hwa] at D
  subst hb
  have hb1 : Below wa.heap.size wa wa := Below.refl _ wa
  obtain ⟨t0, t1, t2, t3, t4⟩ := tgt_cells (kept_box D.out.2.2.2.1 hb1)
  obtain ⟨l0, l1, l2⟩ := loc_cells (kept_box D.out.2.2.2.2 hb1)
  have B1 := Lib.hid hb1
  clear hb1
  go_enter Try.func10, Try.ntmps10
  go_wp2_with fail
  clear hwa
  go_ret
  exact ⟨rfl, D.out.2.1.trans (B1.out.mono D.out.2.2.1)⟩
set_option maxHeartbeats 1000000 in
theorem rhas_n2 (i : Tgt) (r : TgtV) (c n : Int) (w : World) (h : IsTgt w i r) (h0 : (c == 0) = false) (h1 : (c == 1) = false) (b : Bool) (hb : false = b) :
    Calls Try.prog 10 #[.agg (tgtR i r), .agg #[.int .i64 2, .int .i64 c, .int .i64 n]] w fun e w' => e = .returned (.bool b) ∧ Below w.heap.size w w' := by
  have B0 : Below w.heap.size w ((w.alloc (.cells (tgtR i r) 26)).alloc (.cells #[.int .i64 2, .int .i64 c, .int .i64 n] 28)) := ((Below.refl _ w).alloc (Nat.le_refl _) _).alloc (by simp) _
  have D := Lib.hid (And.intro (h.below B0) (And.intro B0 (And.intro (show w.heap.size ≤ ((w.alloc (.cells (tgtR i r) 26)).alloc (.cells #[.int .i64 2, .int .i64 c, .int .i64 n] 28)).heap.size by simp; omega) (box_two w (.cells (tgtR i r) 26) (.cells #[.int .i64 2, .int .i64 c, .int .i64 n] 28)))))
  clear h B0
  obtain ⟨r0, r1, c0, c1, sl⟩ := i
  obtain ⟨a0, n0, m0, a1, n1, m1⟩ := r
  unfold tgtR at D ⊢
  dsimp only at D hb ⊢
  obtain ⟨wa, hwa⟩ : ∃ wa, (w.alloc (.cells #[.int .i64 r0, .int .i64 r1, .slice a0 n0 m0, .slice a1 n1 m1, .int .i64 sl] 26)).alloc (.cells #[.int .i64 2, .int .i64 c, .int .i64 n] 28) = wa := ⟨_, rfl⟩
  rw [hwa] at D
  subst hb
  have hb1 : Below wa.heap.size wa wa := Below.refl _ wa
  obtain ⟨t0, t1, t2, t3, t4⟩ := tgt_cells (kept_box D.out.2.2.2.1 hb1)
  obtain ⟨l0, l1, l2⟩ := loc_cells (kept_box D.out.2.2.2.2 hb1)
  have B1 := Lib.hid hb1
  clear hb1
  go_enter Try.func10, Try.ntmps10
  go_wp2_with fail
  clear hwa
  go_quiet (fail)
  go_wp2_with fail
  go_ret
  exact ⟨rfl, D.out.2.1.trans ((Below.drewQ B1.out _).mono D.out.2.2.1)⟩
set_option maxHeartbeats 1000000 in
theorem rhas_no (i : Tgt) (r : TgtV) (k c n : Int) (w : World) (h : IsTgt w i r) (h0 : (k == 2) = false) (h1 : (k == 3) = false) (b : Bool) (hb : false = b) :
    Calls Try.prog 10 #[.agg (tgtR i r), .agg #[.int .i64 k, .int .i64 c, .int .i64 n]] w fun e w' => e = .returned (.bool b) ∧ Below w.heap.size w w' := by
  have B0 : Below w.heap.size w ((w.alloc (.cells (tgtR i r) 26)).alloc (.cells #[.int .i64 k, .int .i64 c, .int .i64 n] 28)) := ((Below.refl _ w).alloc (Nat.le_refl _) _).alloc (by simp) _
  have D := Lib.hid (And.intro (h.below B0) (And.intro B0 (And.intro (show w.heap.size ≤ ((w.alloc (.cells (tgtR i r) 26)).alloc (.cells #[.int .i64 k, .int .i64 c, .int .i64 n] 28)).heap.size by simp; omega) (box_two w (.cells (tgtR i r) 26) (.cells #[.int .i64 k, .int .i64 c, .int .i64 n] 28)))))
  clear h B0
  obtain ⟨r0, r1, c0, c1, sl⟩ := i
  obtain ⟨a0, n0, m0, a1, n1, m1⟩ := r
  unfold tgtR at D ⊢
  dsimp only at D hb ⊢
  obtain ⟨wa, hwa⟩ : ∃ wa, (w.alloc (.cells #[.int .i64 r0, .int .i64 r1, .slice a0 n0 m0, .slice a1 n1 m1, .int .i64 sl] 26)).alloc (.cells #[.int .i64 k, .int .i64 c, .int .i64 n] 28) = wa := ⟨_, rfl⟩
  rw [hwa] at D
  subst hb
  have hb1 : Below wa.heap.size wa wa := Below.refl _ wa
  obtain ⟨t0, t1, t2, t3, t4⟩ := tgt_cells (kept_box D.out.2.2.2.1 hb1)
  obtain ⟨l0, l1, l2⟩ := loc_cells (kept_box D.out.2.2.2.2 hb1)
  have B1 := Lib.hid hb1
  clear hb1
  go_enter Try.func10, Try.ntmps10
  go_wp2_with fail
  clear hwa
  go_quiet (fail)
  go_wp2_with fail
  go_ret
  exact ⟨rfl, D.out.2.1.trans ((Below.drewQ B1.out _).mono D.out.2.2.1)⟩
theorem rhas_v (i : Tgt) (r : TgtV) (k c n : Int) (w : World) (h : IsTgt w i r) (b : Bool) (hb : hasB i k c n = b) :
    Calls Try.prog 10 #[.agg (tgtR i r), .agg #[.int .i64 k, .int .i64 c, .int .i64 n]] w fun e w' => e = .returned (.bool b) ∧ Below w.heap.size w w' := by
  unfold hasB at hb
  by_cases h2 : k = 2
  · rw [if_pos h2] at hb
    subst h2
    by_cases h0 : c = 0
    · rw [if_pos h0] at hb; subst h0; exact rhas_r0 i r n w h b hb
    by_cases h1 : c = 1
    · rw [if_neg h0, if_pos h1] at hb; subst h1; exact rhas_r1 i r n w h b hb
    rw [if_neg h0, if_neg h1] at hb
    exact rhas_n2 i r c n w h (by rw [beq_eq_false_iff_ne]; exact h0) (by rw [beq_eq_false_iff_ne]; exact h1) b hb
  rw [if_neg h2] at hb
  by_cases h3 : k = 3
  · rw [if_pos h3] at hb
    subst h3
    by_cases h0 : c = 0
    · rw [if_pos h0] at hb; subst h0; exact rhas_s i r n w h b hb
    rw [if_neg h0] at hb
    exact rhas_s2 i r c n w h (by rw [beq_eq_false_iff_ne]; exact h0) b hb
  · rw [if_neg h3] at hb
    exact rhas_no i r k c n w h (by rw [beq_eq_false_iff_ne]; exact h2) (by rw [beq_eq_false_iff_ne]; exact h3) b hb
end Go.Proofs.Ytmfodjdgekafoaa
