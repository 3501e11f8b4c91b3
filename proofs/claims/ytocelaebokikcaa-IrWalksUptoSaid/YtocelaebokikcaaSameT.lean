/- What SameTarget answers. -/
import Derived.Test.YtocelaebokikcaaSameS
namespace Go.Proofs.Ytocelaebokikcaa
open Go.ChangeShapes Go.WideShapes Go.RowKit
set_option linter.unusedVariables false

set_option maxRecDepth 20000 in
theorem eq15_0 (i j : Tgt) (r s : TgtV) (w : World) (h : IsTgt w i r) (h' : IsTgt w j s) (hq0 : (sameL intEq i.c0 j.c0) = false) :
    Calls Try.prog 15 #[.agg (tgtR i r), .agg (tgtR j s)] w fun e w' => e = .returned (.bool false) ∧ Below w.heap.size w w' := by
  have B0 : Below w.heap.size w ((w.alloc (.cells (tgtR i r) 26)).alloc (.cells (tgtR j s) 26)) := ((Below.refl _ w).alloc (Nat.le_refl _) _).alloc (by simp) _
  have hs : w.heap.size ≤ ((w.alloc (.cells (tgtR i r) 26)).alloc (.cells (tgtR j s) 26)).heap.size := by simp; omega
  have D := Lib.hid (And.intro (h.below B0) (And.intro (h'.below B0) (And.intro B0 (And.intro hs (box_two w (.cells (tgtR i r) 26) (.cells (tgtR j s) 26))))))
  clear h h' B0 hs
  obtain ⟨r0, r1, c0, c1, slots⟩ := i
  obtain ⟨r0', r1', c0', c1', slots'⟩ := j
  obtain ⟨a0, n0, p0, a1, n1, p1⟩ := r
  obtain ⟨a0', n0', p0', a1', n1', p1'⟩ := s
  unfold tgtR at D ⊢
  dsimp only at D ⊢
  dsimp only at hq0
  go_enter Try.func15, Try.ntmps15
  go_wp2_with fail
  refine wp_loop_rounds 3 ?_
  rw [rounds_succ]
  go_wp2_with fail
  obtain ⟨wa, hwa⟩ : ∃ wa, ((w.alloc (.cells #[.int .i64 r0, .int .i64 r1, .slice a0 n0 p0, .slice a1 n1 p1, .int .i64 slots] 26)).alloc (.cells #[.int .i64 r0', .int .i64 r1', .slice a0' n0' p0', .slice a1' n1' p1', .int .i64 slots'] 26)) = wa := ⟨_, rfl⟩
  rw [hwa] at D ⊢
  have z2 : wa.cell? ⟨w.heap.size, 2, none⟩ = some (.slice a0 n0 p0) := cell_in D.out.2.2.2.2.1 2
  have y2 : wa.cell? ⟨w.heap.size + 1, 2, none⟩ = some (.slice a0' n0' p0') := cell_in D.out.2.2.2.2.2 2
  go_still_tail 8, (by kernel_rfl)
  go_wp2_with fail
  refine (eq51_v _ _ _ _ _ _ _ _ _ ((D.out.1.below ((Below.refl _ wa).drew)).c0) ((D.out.2.1.below ((Below.refl _ wa).drew)).c0)).mono ?_
  rintro e w1 ⟨rfl, hb⟩
  rw [hq0]
  have B1 := Lib.hid (And.intro (show Below wa.heap.size wa w1 from ⟨hb.os, hb.tape, hb.output, hb.size, hb.block⟩) (D.out.2.2.1.trans (Below.mono (show Below wa.heap.size wa w1 from ⟨hb.os, hb.tape, hb.output, hb.size, hb.block⟩) D.out.2.2.2.1)))
  clear hb
  go_wp2_with fail
  go_ret
  exact ⟨rfl, B1.out.2⟩
set_option maxRecDepth 20000 in
theorem eq15_1 (i j : Tgt) (r s : TgtV) (w : World) (h : IsTgt w i r) (h' : IsTgt w j s) (hq0 : (sameL intEq i.c0 j.c0) = true) (hq1 : (sameL intEq i.c1 j.c1) = false) :
    Calls Try.prog 15 #[.agg (tgtR i r), .agg (tgtR j s)] w fun e w' => e = .returned (.bool false) ∧ Below w.heap.size w w' := by
  have B0 : Below w.heap.size w ((w.alloc (.cells (tgtR i r) 26)).alloc (.cells (tgtR j s) 26)) := ((Below.refl _ w).alloc (Nat.le_refl _) _).alloc (by simp) _
  have hs : w.heap.size ≤ ((w.alloc (.cells (tgtR i r) 26)).alloc (.cells (tgtR j s) 26)).heap.size := by simp; omega
  have D := Lib.hid (And.intro (h.below B0) (And.intro (h'.below B0) (And.intro B0 (And.intro hs (box_two w (.cells (tgtR i r) 26) (.cells (tgtR j s) 26))))))
  clear h h' B0 hs
  obtain ⟨r0, r1, c0, c1, slots⟩ := i
  obtain ⟨r0', r1', c0', c1', slots'⟩ := j
  obtain ⟨a0, n0, p0, a1, n1, p1⟩ := r
  obtain ⟨a0', n0', p0', a1', n1', p1'⟩ := s
  unfold tgtR at D ⊢
  dsimp only at D ⊢
  dsimp only at hq0 hq1
  go_enter Try.func15, Try.ntmps15
  go_wp2_with fail
  refine wp_loop_rounds 3 ?_
  rw [rounds_succ]
  go_wp2_with fail
  obtain ⟨wa, hwa⟩ : ∃ wa, ((w.alloc (.cells #[.int .i64 r0, .int .i64 r1, .slice a0 n0 p0, .slice a1 n1 p1, .int .i64 slots] 26)).alloc (.cells #[.int .i64 r0', .int .i64 r1', .slice a0' n0' p0', .slice a1' n1' p1', .int .i64 slots'] 26)) = wa := ⟨_, rfl⟩
  rw [hwa] at D ⊢
  have z2 : wa.cell? ⟨w.heap.size, 2, none⟩ = some (.slice a0 n0 p0) := cell_in D.out.2.2.2.2.1 2
  have y2 : wa.cell? ⟨w.heap.size + 1, 2, none⟩ = some (.slice a0' n0' p0') := cell_in D.out.2.2.2.2.2 2
  go_still_tail 8, (by kernel_rfl)
  go_wp2_with fail
  refine (eq51_v _ _ _ _ _ _ _ _ _ ((D.out.1.below ((Below.refl _ wa).drew)).c0) ((D.out.2.1.below ((Below.refl _ wa).drew)).c0)).mono ?_
  rintro e w1 ⟨rfl, hb⟩
  rw [hq0]
  have B1 := Lib.hid (And.intro (show Below wa.heap.size wa w1 from ⟨hb.os, hb.tape, hb.output, hb.size, hb.block⟩) (D.out.2.2.1.trans (Below.mono (show Below wa.heap.size wa w1 from ⟨hb.os, hb.tape, hb.output, hb.size, hb.block⟩) D.out.2.2.2.1)))
  clear hb
  obtain ⟨l1, l2⟩ := D.out.2.2.2.2
  have m1 := kept_box l1 B1.out.1
  have m2 := kept_box l2 B1.out.1
  have z1 : w1.cell? ⟨w.heap.size, 3, none⟩ = some (.slice a1 n1 p1) := cell_in m1 3
  have y1 : w1.cell? ⟨w.heap.size + 1, 3, none⟩ = some (.slice a1' n1' p1') := cell_in m2 3
  clear l1 l2 m1 m2
  go_wp2_with fail
  rw [rounds_succ]
  go_wp2_with fail
  go_still_tail 8, (by kernel_rfl)
  go_wp2_with fail
  refine (eq51_v _ _ _ _ _ _ _ _ _ ((D.out.1.below B1.out.1.drew).c1) ((D.out.2.1.below B1.out.1.drew).c1)).mono ?_
  rintro e w2 ⟨rfl, hb⟩
  rw [hq1]
  have B2 := Lib.hid (And.intro (B1.out.1.trans (Below.mono (show Below w1.heap.size w1 w2 from ⟨hb.os, hb.tape, hb.output, hb.size, hb.block⟩) B1.out.1.size)) (B1.out.2.trans (Below.mono (show Below w1.heap.size w1 w2 from ⟨hb.os, hb.tape, hb.output, hb.size, hb.block⟩) B1.out.2.size)))
  clear hb
  go_wp2_with fail
  go_ret
  exact ⟨rfl, B2.out.2⟩
set_option maxRecDepth 20000 in
theorem eq15_2 (i j : Tgt) (r s : TgtV) (w : World) (h : IsTgt w i r) (h' : IsTgt w j s) (hq0 : (sameL intEq i.c0 j.c0) = true) (hq1 : (sameL intEq i.c1 j.c1) = true) (hq2 : ((i.r0 == j.r0 && i.r1 == j.r1)) = false) :
    Calls Try.prog 15 #[.agg (tgtR i r), .agg (tgtR j s)] w fun e w' => e = .returned (.bool false) ∧ Below w.heap.size w w' := by
  have B0 : Below w.heap.size w ((w.alloc (.cells (tgtR i r) 26)).alloc (.cells (tgtR j s) 26)) := ((Below.refl _ w).alloc (Nat.le_refl _) _).alloc (by simp) _
  have hs : w.heap.size ≤ ((w.alloc (.cells (tgtR i r) 26)).alloc (.cells (tgtR j s) 26)).heap.size := by simp; omega
  have D := Lib.hid (And.intro (h.below B0) (And.intro (h'.below B0) (And.intro B0 (And.intro hs (box_two w (.cells (tgtR i r) 26) (.cells (tgtR j s) 26))))))
  clear h h' B0 hs
  obtain ⟨r0, r1, c0, c1, slots⟩ := i
  obtain ⟨r0', r1', c0', c1', slots'⟩ := j
  obtain ⟨a0, n0, p0, a1, n1, p1⟩ := r
  obtain ⟨a0', n0', p0', a1', n1', p1'⟩ := s
  unfold tgtR at D ⊢
  dsimp only at D ⊢
  dsimp only at hq0 hq1 hq2
  have E := eql22 r0 r1 r0' r1' false hq2
  clear hq2
  go_enter Try.func15, Try.ntmps15
  go_wp2_with fail
  refine wp_loop_rounds 3 ?_
  rw [rounds_succ]
  go_wp2_with fail
  obtain ⟨wa, hwa⟩ : ∃ wa, ((w.alloc (.cells #[.int .i64 r0, .int .i64 r1, .slice a0 n0 p0, .slice a1 n1 p1, .int .i64 slots] 26)).alloc (.cells #[.int .i64 r0', .int .i64 r1', .slice a0' n0' p0', .slice a1' n1' p1', .int .i64 slots'] 26)) = wa := ⟨_, rfl⟩
  rw [hwa] at D ⊢
  have z2 : wa.cell? ⟨w.heap.size, 2, none⟩ = some (.slice a0 n0 p0) := cell_in D.out.2.2.2.2.1 2
  have y2 : wa.cell? ⟨w.heap.size + 1, 2, none⟩ = some (.slice a0' n0' p0') := cell_in D.out.2.2.2.2.2 2
  go_still_tail 8, (by kernel_rfl)
  go_wp2_with fail
  refine (eq51_v _ _ _ _ _ _ _ _ _ ((D.out.1.below ((Below.refl _ wa).drew)).c0) ((D.out.2.1.below ((Below.refl _ wa).drew)).c0)).mono ?_
  rintro e w1 ⟨rfl, hb⟩
  rw [hq0]
  have B1 := Lib.hid (And.intro (show Below wa.heap.size wa w1 from ⟨hb.os, hb.tape, hb.output, hb.size, hb.block⟩) (D.out.2.2.1.trans (Below.mono (show Below wa.heap.size wa w1 from ⟨hb.os, hb.tape, hb.output, hb.size, hb.block⟩) D.out.2.2.2.1)))
  clear hb
  obtain ⟨l1, l2⟩ := D.out.2.2.2.2
  have m1 := kept_box l1 B1.out.1
  have m2 := kept_box l2 B1.out.1
  have z1 : w1.cell? ⟨w.heap.size, 3, none⟩ = some (.slice a1 n1 p1) := cell_in m1 3
  have y1 : w1.cell? ⟨w.heap.size + 1, 3, none⟩ = some (.slice a1' n1' p1') := cell_in m2 3
  clear l1 l2 m1 m2
  go_wp2_with fail
  rw [rounds_succ]
  go_wp2_with fail
  go_still_tail 8, (by kernel_rfl)
  go_wp2_with fail
  refine (eq51_v _ _ _ _ _ _ _ _ _ ((D.out.1.below B1.out.1.drew).c1) ((D.out.2.1.below B1.out.1.drew).c1)).mono ?_
  rintro e w2 ⟨rfl, hb⟩
  rw [hq1]
  have B2 := Lib.hid (And.intro (B1.out.1.trans (Below.mono (show Below w1.heap.size w1 w2 from ⟨hb.os, hb.tape, hb.output, hb.size, hb.block⟩) B1.out.1.size)) (B1.out.2.trans (Below.mono (show Below w1.heap.size w1 w2 from ⟨hb.os, hb.tape, hb.output, hb.size, hb.block⟩) B1.out.2.size)))
  clear hb
  obtain ⟨l1, l2⟩ := D.out.2.2.2.2
  have m1 := kept_box l1 B2.out.1
  have m2 := kept_box l2 B2.out.1
  have z0 : w2.cell? ⟨w.heap.size, 0, none⟩ = some (.int .i64 r0) := cell_in m1 0
  have y0 : w2.cell? ⟨w.heap.size + 1, 0, none⟩ = some (.int .i64 r0') := cell_in m2 0
  have z1 : w2.cell? ⟨w.heap.size, 1, none⟩ = some (.int .i64 r1) := cell_in m1 1
  have y1 : w2.cell? ⟨w.heap.size + 1, 1, none⟩ = some (.int .i64 r1') := cell_in m2 1
  have z4 : w2.cell? ⟨w.heap.size, 4, none⟩ = some (.int .i64 slots) := cell_in m1 4
  have y4 : w2.cell? ⟨w.heap.size + 1, 4, none⟩ = some (.int .i64 slots') := cell_in m2 4
  clear l1 l2 m1 m2
  go_wp2_with fail
  rw [rounds_succ]
  go_wp2_with fail
  go_ret
  exact ⟨rfl, B2.out.2⟩
set_option maxRecDepth 20000 in
theorem eq15_3 (i j : Tgt) (r s : TgtV) (w : World) (h : IsTgt w i r) (h' : IsTgt w j s) (hq0 : (sameL intEq i.c0 j.c0) = true) (hq1 : (sameL intEq i.c1 j.c1) = true) (hq2 : ((i.r0 == j.r0 && i.r1 == j.r1)) = true) (hq3 : (i.slots == j.slots) = false) :
    Calls Try.prog 15 #[.agg (tgtR i r), .agg (tgtR j s)] w fun e w' => e = .returned (.bool false) ∧ Below w.heap.size w w' := by
  have B0 : Below w.heap.size w ((w.alloc (.cells (tgtR i r) 26)).alloc (.cells (tgtR j s) 26)) := ((Below.refl _ w).alloc (Nat.le_refl _) _).alloc (by simp) _
  have hs : w.heap.size ≤ ((w.alloc (.cells (tgtR i r) 26)).alloc (.cells (tgtR j s) 26)).heap.size := by simp; omega
  have D := Lib.hid (And.intro (h.below B0) (And.intro (h'.below B0) (And.intro B0 (And.intro hs (box_two w (.cells (tgtR i r) 26) (.cells (tgtR j s) 26))))))
  clear h h' B0 hs
  obtain ⟨r0, r1, c0, c1, slots⟩ := i
  obtain ⟨r0', r1', c0', c1', slots'⟩ := j
  obtain ⟨a0, n0, p0, a1, n1, p1⟩ := r
  obtain ⟨a0', n0', p0', a1', n1', p1'⟩ := s
  unfold tgtR at D ⊢
  dsimp only at D ⊢
  dsimp only at hq0 hq1 hq2 hq3
  have e3 : ¬ slots = slots' := by simpa using hq3
  have E := eql22 r0 r1 r0' r1' true hq2
  clear hq2
  go_enter Try.func15, Try.ntmps15
  go_wp2_with fail
  refine wp_loop_rounds 3 ?_
  rw [rounds_succ]
  go_wp2_with fail
  obtain ⟨wa, hwa⟩ : ∃ wa, ((w.alloc (.cells #[.int .i64 r0, .int .i64 r1, .slice a0 n0 p0, .slice a1 n1 p1, .int .i64 slots] 26)).alloc (.cells #[.int .i64 r0', .int .i64 r1', .slice a0' n0' p0', .slice a1' n1' p1', .int .i64 slots'] 26)) = wa := ⟨_, rfl⟩
  rw [hwa] at D ⊢
  have z2 : wa.cell? ⟨w.heap.size, 2, none⟩ = some (.slice a0 n0 p0) := cell_in D.out.2.2.2.2.1 2
  have y2 : wa.cell? ⟨w.heap.size + 1, 2, none⟩ = some (.slice a0' n0' p0') := cell_in D.out.2.2.2.2.2 2
  go_still_tail 8, (by kernel_rfl)
  go_wp2_with fail
  refine (eq51_v _ _ _ _ _ _ _ _ _ ((D.out.1.below ((Below.refl _ wa).drew)).c0) ((D.out.2.1.below ((Below.refl _ wa).drew)).c0)).mono ?_
  rintro e w1 ⟨rfl, hb⟩
  rw [hq0]
  have B1 := Lib.hid (And.intro (show Below wa.heap.size wa w1 from ⟨hb.os, hb.tape, hb.output, hb.size, hb.block⟩) (D.out.2.2.1.trans (Below.mono (show Below wa.heap.size wa w1 from ⟨hb.os, hb.tape, hb.output, hb.size, hb.block⟩) D.out.2.2.2.1)))
  clear hb
  obtain ⟨l1, l2⟩ := D.out.2.2.2.2
  have m1 := kept_box l1 B1.out.1
  have m2 := kept_box l2 B1.out.1
  have z1 : w1.cell? ⟨w.heap.size, 3, none⟩ = some (.slice a1 n1 p1) := cell_in m1 3
  have y1 : w1.cell? ⟨w.heap.size + 1, 3, none⟩ = some (.slice a1' n1' p1') := cell_in m2 3
  clear l1 l2 m1 m2
  go_wp2_with fail
  rw [rounds_succ]
  go_wp2_with fail
  go_still_tail 8, (by kernel_rfl)
  go_wp2_with fail
  refine (eq51_v _ _ _ _ _ _ _ _ _ ((D.out.1.below B1.out.1.drew).c1) ((D.out.2.1.below B1.out.1.drew).c1)).mono ?_
  rintro e w2 ⟨rfl, hb⟩
  rw [hq1]
  have B2 := Lib.hid (And.intro (B1.out.1.trans (Below.mono (show Below w1.heap.size w1 w2 from ⟨hb.os, hb.tape, hb.output, hb.size, hb.block⟩) B1.out.1.size)) (B1.out.2.trans (Below.mono (show Below w1.heap.size w1 w2 from ⟨hb.os, hb.tape, hb.output, hb.size, hb.block⟩) B1.out.2.size)))
  clear hb
  obtain ⟨l1, l2⟩ := D.out.2.2.2.2
  have m1 := kept_box l1 B2.out.1
  have m2 := kept_box l2 B2.out.1
  have z0 : w2.cell? ⟨w.heap.size, 0, none⟩ = some (.int .i64 r0) := cell_in m1 0
  have y0 : w2.cell? ⟨w.heap.size + 1, 0, none⟩ = some (.int .i64 r0') := cell_in m2 0
  have z1 : w2.cell? ⟨w.heap.size, 1, none⟩ = some (.int .i64 r1) := cell_in m1 1
  have y1 : w2.cell? ⟨w.heap.size + 1, 1, none⟩ = some (.int .i64 r1') := cell_in m2 1
  have z4 : w2.cell? ⟨w.heap.size, 4, none⟩ = some (.int .i64 slots) := cell_in m1 4
  have y4 : w2.cell? ⟨w.heap.size + 1, 4, none⟩ = some (.int .i64 slots') := cell_in m2 4
  clear l1 l2 m1 m2
  go_wp2_with fail
  rw [rounds_succ]
  go_wp2_with fail
  go_ret
  exact ⟨rfl, B2.out.2⟩
set_option maxRecDepth 20000 in
theorem eq15_4 (i j : Tgt) (r s : TgtV) (w : World) (h : IsTgt w i r) (h' : IsTgt w j s) (hq0 : (sameL intEq i.c0 j.c0) = true) (hq1 : (sameL intEq i.c1 j.c1) = true) (hq2 : ((i.r0 == j.r0 && i.r1 == j.r1)) = true) (hq3 : (i.slots == j.slots) = true) :
    Calls Try.prog 15 #[.agg (tgtR i r), .agg (tgtR j s)] w fun e w' => e = .returned (.bool true) ∧ Below w.heap.size w w' := by
  have B0 : Below w.heap.size w ((w.alloc (.cells (tgtR i r) 26)).alloc (.cells (tgtR j s) 26)) := ((Below.refl _ w).alloc (Nat.le_refl _) _).alloc (by simp) _
  have hs : w.heap.size ≤ ((w.alloc (.cells (tgtR i r) 26)).alloc (.cells (tgtR j s) 26)).heap.size := by simp; omega
  have D := Lib.hid (And.intro (h.below B0) (And.intro (h'.below B0) (And.intro B0 (And.intro hs (box_two w (.cells (tgtR i r) 26) (.cells (tgtR j s) 26))))))
  clear h h' B0 hs
  obtain ⟨r0, r1, c0, c1, slots⟩ := i
  obtain ⟨r0', r1', c0', c1', slots'⟩ := j
  obtain ⟨a0, n0, p0, a1, n1, p1⟩ := r
  obtain ⟨a0', n0', p0', a1', n1', p1'⟩ := s
  unfold tgtR at D ⊢
  dsimp only at D ⊢
  dsimp only at hq0 hq1 hq2 hq3
  obtain rfl : slots = slots' := by simpa using hq3
  have E := eql22 r0 r1 r0' r1' true hq2
  clear hq2
  go_enter Try.func15, Try.ntmps15
  go_wp2_with fail
  refine wp_loop_rounds 3 ?_
  rw [rounds_succ]
  go_wp2_with fail
  obtain ⟨wa, hwa⟩ : ∃ wa, ((w.alloc (.cells #[.int .i64 r0, .int .i64 r1, .slice a0 n0 p0, .slice a1 n1 p1, .int .i64 slots] 26)).alloc (.cells #[.int .i64 r0', .int .i64 r1', .slice a0' n0' p0', .slice a1' n1' p1', .int .i64 slots] 26)) = wa := ⟨_, rfl⟩
  rw [hwa] at D ⊢
  have z2 : wa.cell? ⟨w.heap.size, 2, none⟩ = some (.slice a0 n0 p0) := cell_in D.out.2.2.2.2.1 2
  have y2 : wa.cell? ⟨w.heap.size + 1, 2, none⟩ = some (.slice a0' n0' p0') := cell_in D.out.2.2.2.2.2 2
  go_still_tail 8, (by kernel_rfl)
  go_wp2_with fail
  refine (eq51_v _ _ _ _ _ _ _ _ _ ((D.out.1.below ((Below.refl _ wa).drew)).c0) ((D.out.2.1.below ((Below.refl _ wa).drew)).c0)).mono ?_
  rintro e w1 ⟨rfl, hb⟩
  rw [hq0]
  have B1 := Lib.hid (And.intro (show Below wa.heap.size wa w1 from ⟨hb.os, hb.tape, hb.output, hb.size, hb.block⟩) (D.out.2.2.1.trans (Below.mono (show Below wa.heap.size wa w1 from ⟨hb.os, hb.tape, hb.output, hb.size, hb.block⟩) D.out.2.2.2.1)))
  clear hb
  obtain ⟨l1, l2⟩ := D.out.2.2.2.2
  have m1 := kept_box l1 B1.out.1
  have m2 := kept_box l2 B1.out.1
  have z1 : w1.cell? ⟨w.heap.size, 3, none⟩ = some (.slice a1 n1 p1) := cell_in m1 3
  have y1 : w1.cell? ⟨w.heap.size + 1, 3, none⟩ = some (.slice a1' n1' p1') := cell_in m2 3
  clear l1 l2 m1 m2
  go_wp2_with fail
  rw [rounds_succ]
  go_wp2_with fail
  go_still_tail 8, (by kernel_rfl)
  go_wp2_with fail
  refine (eq51_v _ _ _ _ _ _ _ _ _ ((D.out.1.below B1.out.1.drew).c1) ((D.out.2.1.below B1.out.1.drew).c1)).mono ?_
  rintro e w2 ⟨rfl, hb⟩
  rw [hq1]
  have B2 := Lib.hid (And.intro (B1.out.1.trans (Below.mono (show Below w1.heap.size w1 w2 from ⟨hb.os, hb.tape, hb.output, hb.size, hb.block⟩) B1.out.1.size)) (B1.out.2.trans (Below.mono (show Below w1.heap.size w1 w2 from ⟨hb.os, hb.tape, hb.output, hb.size, hb.block⟩) B1.out.2.size)))
  clear hb
  obtain ⟨l1, l2⟩ := D.out.2.2.2.2
  have m1 := kept_box l1 B2.out.1
  have m2 := kept_box l2 B2.out.1
  have z0 : w2.cell? ⟨w.heap.size, 0, none⟩ = some (.int .i64 r0) := cell_in m1 0
  have y0 : w2.cell? ⟨w.heap.size + 1, 0, none⟩ = some (.int .i64 r0') := cell_in m2 0
  have z1 : w2.cell? ⟨w.heap.size, 1, none⟩ = some (.int .i64 r1) := cell_in m1 1
  have y1 : w2.cell? ⟨w.heap.size + 1, 1, none⟩ = some (.int .i64 r1') := cell_in m2 1
  have z4 : w2.cell? ⟨w.heap.size, 4, none⟩ = some (.int .i64 slots) := cell_in m1 4
  have y4 : w2.cell? ⟨w.heap.size + 1, 4, none⟩ = some (.int .i64 slots) := cell_in m2 4
  clear l1 l2 m1 m2
  go_wp2_with fail
  rw [rounds_succ]
  go_wp2_with fail
  go_ret
  exact ⟨rfl, B2.out.2⟩
theorem eq15_v (i j : Tgt) (r s : TgtV) (w : World) (h : IsTgt w i r) (h' : IsTgt w j s) :
    Calls Try.prog 15 #[.agg (tgtR i r), .agg (tgtR j s)] w fun e w' => e = .returned (.bool (tgtEq i j)) ∧ Below w.heap.size w w' := by
  cases hq0 : sameL intEq i.c0 j.c0
  · have hR : tgtEq i j = false := by unfold tgtEq; simp [hq0]
    rw [hR]; exact eq15_0 i j r s w h h' hq0
  cases hq1 : sameL intEq i.c1 j.c1
  · have hR : tgtEq i j = false := by unfold tgtEq; simp [hq0, hq1]
    rw [hR]; exact eq15_1 i j r s w h h' hq0 hq1
  cases hq2 : (i.r0 == j.r0 && i.r1 == j.r1)
  · have hR : tgtEq i j = false := by unfold tgtEq; simp [hq0, hq1, hq2]
    rw [hR]; exact eq15_2 i j r s w h h' hq0 hq1 hq2
  cases hq3 : i.slots == j.slots
  · have hR : tgtEq i j = false := by unfold tgtEq; simp [hq0, hq1, hq2, hq3]
    rw [hR]; exact eq15_3 i j r s w h h' hq0 hq1 hq2 hq3
  have hR : tgtEq i j = true := by unfold tgtEq; simp [hq0, hq1, hq2, hq3]
  rw [hR]; exact eq15_4 i j r s w h h' hq0 hq1 hq2 hq3
end Go.Proofs.Ytocelaebokikcaa
