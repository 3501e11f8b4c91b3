/- Two blocks held against each other. -/
import Derived.Test.YtocelaebokikcaaCode
namespace Go.Proofs.Ytocelaebokikcaa
open Go.ChangeShapes Go.WideShapes Go.RowKit
set_option linter.unusedVariables false

theorem eq47_0 (i j : Blk) (r s : BlkV) (w : World) (h : IsBlk w i r) (h' : IsBlk w j s) (hq0 : (i.label.toList == j.label.toList) = false) :
    Calls Try.prog 47 #[.agg (blkR i r), .agg (blkR j s)] w fun e w' => e = .returned (.bool false) ∧ Below w.heap.size w w' := by
  have B0 : Below w.heap.size w ((w.alloc (.cells (blkR i r) 48)).alloc (.cells (blkR j s) 48)) := ((Below.refl _ w).alloc (Nat.le_refl _) _).alloc (by simp) _
  have hs : w.heap.size ≤ ((w.alloc (.cells (blkR i r) 48)).alloc (.cells (blkR j s) 48)).heap.size := by simp; omega
  have D := Lib.hid (And.intro (h.below B0) (And.intro (h'.below B0) (And.intro B0 (And.intro hs (box_two w (.cells (blkR i r) 48) (.cells (blkR j s) 48))))))
  clear h h' B0 hs
  obtain ⟨label, edge, ins, code⟩ := i
  obtain ⟨label', edge', ins', code'⟩ := j
  obtain ⟨ia, il, ic, ka, kn, kc, rr⟩ := r
  obtain ⟨ia', il', ic', ka', kn', kc', rr'⟩ := s
  unfold blkR at D ⊢
  dsimp only at D ⊢
  dsimp only at hq0
  have e0 : ¬ label.toList = label'.toList := by simpa using hq0
  go_enter Try.func47, Try.ntmps47
  go_wp2_with fail
  go_ret
  exact ⟨rfl, D.out.2.2.1⟩
theorem eq47_1 (i j : Blk) (r s : BlkV) (w : World) (h : IsBlk w i r) (h' : IsBlk w j s) (hq0 : (i.label.toList == j.label.toList) = true) (hq1 : (i.edge == j.edge) = false) :
    Calls Try.prog 47 #[.agg (blkR i r), .agg (blkR j s)] w fun e w' => e = .returned (.bool false) ∧ Below w.heap.size w w' := by
  have B0 : Below w.heap.size w ((w.alloc (.cells (blkR i r) 48)).alloc (.cells (blkR j s) 48)) := ((Below.refl _ w).alloc (Nat.le_refl _) _).alloc (by simp) _
  have hs : w.heap.size ≤ ((w.alloc (.cells (blkR i r) 48)).alloc (.cells (blkR j s) 48)).heap.size := by simp; omega
  have D := Lib.hid (And.intro (h.below B0) (And.intro (h'.below B0) (And.intro B0 (And.intro hs (box_two w (.cells (blkR i r) 48) (.cells (blkR j s) 48))))))
  clear h h' B0 hs
  obtain ⟨label, edge, ins, code⟩ := i
  obtain ⟨label', edge', ins', code'⟩ := j
  obtain ⟨ia, il, ic, ka, kn, kc, rr⟩ := r
  obtain ⟨ia', il', ic', ka', kn', kc', rr'⟩ := s
  unfold blkR at D ⊢
  dsimp only at D ⊢
  dsimp only at hq0 hq1
  have e0 : label.toList = label'.toList := by simpa using hq0
  have e1 : (edge == edge') = false := hq1
  have e1' : ¬ edge = edge' := by simpa using hq1
  go_enter Try.func47, Try.ntmps47
  go_wp2_with fail
  go_ret
  exact ⟨rfl, D.out.2.2.1⟩
theorem eq47_2 (i j : Blk) (r s : BlkV) (w : World) (h : IsBlk w i r) (h' : IsBlk w j s) (hq0 : (i.label.toList == j.label.toList) = true) (hq1 : (i.edge == j.edge) = true) (hq2 : (sameL opEq i.ins j.ins) = false) :
    Calls Try.prog 47 #[.agg (blkR i r), .agg (blkR j s)] w fun e w' => e = .returned (.bool false) ∧ Below w.heap.size w w' := by
  have B0 : Below w.heap.size w ((w.alloc (.cells (blkR i r) 48)).alloc (.cells (blkR j s) 48)) := ((Below.refl _ w).alloc (Nat.le_refl _) _).alloc (by simp) _
  have hs : w.heap.size ≤ ((w.alloc (.cells (blkR i r) 48)).alloc (.cells (blkR j s) 48)).heap.size := by simp; omega
  have D := Lib.hid (And.intro (h.below B0) (And.intro (h'.below B0) (And.intro B0 (And.intro hs (box_two w (.cells (blkR i r) 48) (.cells (blkR j s) 48))))))
  clear h h' B0 hs
  obtain ⟨label, edge, ins, code⟩ := i
  obtain ⟨label', edge', ins', code'⟩ := j
  obtain ⟨ia, il, ic, ka, kn, kc, rr⟩ := r
  obtain ⟨ia', il', ic', ka', kn', kc', rr'⟩ := s
  unfold blkR at D ⊢
  dsimp only at D ⊢
  dsimp only at hq0 hq1 hq2
  have e0 : label.toList = label'.toList := by simpa using hq0
  obtain rfl : edge = edge' := by simpa using hq1
  go_enter Try.func47, Try.ntmps47
  go_wp2_with fail
  refine (eq45_v _ _ _ _ _ _ _ _ _ (D.out.1.ins) (D.out.2.1.ins)).mono ?_
  rintro e w1 ⟨rfl, hb⟩
  rw [hq2]
  have B1 := Lib.hid (And.intro hb (D.out.2.2.1.trans (hb.mono D.out.2.2.2.1)))
  clear hb
  go_wp2_with fail
  go_ret
  exact ⟨rfl, B1.out.2⟩
theorem eq47_3 (i j : Blk) (r s : BlkV) (w : World) (h : IsBlk w i r) (h' : IsBlk w j s) (hq0 : (i.label.toList == j.label.toList) = true) (hq1 : (i.edge == j.edge) = true) (hq2 : (sameL opEq i.ins j.ins) = true) (hq3 : (sameL insEq i.code j.code) = false) :
    Calls Try.prog 47 #[.agg (blkR i r), .agg (blkR j s)] w fun e w' => e = .returned (.bool false) ∧ Below w.heap.size w w' := by
  have B0 : Below w.heap.size w ((w.alloc (.cells (blkR i r) 48)).alloc (.cells (blkR j s) 48)) := ((Below.refl _ w).alloc (Nat.le_refl _) _).alloc (by simp) _
  have hs : w.heap.size ≤ ((w.alloc (.cells (blkR i r) 48)).alloc (.cells (blkR j s) 48)).heap.size := by simp; omega
  have D := Lib.hid (And.intro (h.below B0) (And.intro (h'.below B0) (And.intro B0 (And.intro hs (box_two w (.cells (blkR i r) 48) (.cells (blkR j s) 48))))))
  clear h h' B0 hs
  obtain ⟨label, edge, ins, code⟩ := i
  obtain ⟨label', edge', ins', code'⟩ := j
  obtain ⟨ia, il, ic, ka, kn, kc, rr⟩ := r
  obtain ⟨ia', il', ic', ka', kn', kc', rr'⟩ := s
  unfold blkR at D ⊢
  dsimp only at D ⊢
  dsimp only at hq0 hq1 hq2 hq3
  have e0 : label.toList = label'.toList := by simpa using hq0
  obtain rfl : edge = edge' := by simpa using hq1
  go_enter Try.func47, Try.ntmps47
  go_wp2_with fail
  refine (eq45_v _ _ _ _ _ _ _ _ _ (D.out.1.ins) (D.out.2.1.ins)).mono ?_
  rintro e w1 ⟨rfl, hb⟩
  rw [hq2]
  have B1 := Lib.hid (And.intro hb (D.out.2.2.1.trans (hb.mono D.out.2.2.2.1)))
  clear hb
  obtain ⟨l1, l2⟩ := D.out.2.2.2.2
  have m1 := kept_box l1 B1.out.1
  have m2 := kept_box l2 B1.out.1
  have z1_3 : w1.cell? ⟨w.heap.size, 3, none⟩ = some (.slice ka kn kc) := cell_in m1 3
  have y1_3 : w1.cell? ⟨w.heap.size + 1, 3, none⟩ = some (.slice ka' kn' kc') := cell_in m2 3
  clear l1 l2 m1 m2
  go_wp2_with fail
  refine (eq68_v _ _ _ _ _ _ _ _ _ _ _ ((D.out.1.below B1.out.1).code) ((D.out.2.1.below B1.out.1).code)).mono ?_
  rintro e w2 ⟨rfl, hb⟩
  rw [hq3]
  have B2 := Lib.hid (And.intro (B1.out.1.trans (hb.mono B1.out.1.size)) (B1.out.2.trans (hb.mono B1.out.2.size)))
  clear hb
  go_wp2_with fail
  go_ret
  exact ⟨rfl, B2.out.2⟩
theorem eq47_4 (i j : Blk) (r s : BlkV) (w : World) (h : IsBlk w i r) (h' : IsBlk w j s) (hq0 : (i.label.toList == j.label.toList) = true) (hq1 : (i.edge == j.edge) = true) (hq2 : (sameL opEq i.ins j.ins) = true) (hq3 : (sameL insEq i.code j.code) = true) :
    Calls Try.prog 47 #[.agg (blkR i r), .agg (blkR j s)] w fun e w' => e = .returned (.bool true) ∧ Below w.heap.size w w' := by
  have B0 : Below w.heap.size w ((w.alloc (.cells (blkR i r) 48)).alloc (.cells (blkR j s) 48)) := ((Below.refl _ w).alloc (Nat.le_refl _) _).alloc (by simp) _
  have hs : w.heap.size ≤ ((w.alloc (.cells (blkR i r) 48)).alloc (.cells (blkR j s) 48)).heap.size := by simp; omega
  have D := Lib.hid (And.intro (h.below B0) (And.intro (h'.below B0) (And.intro B0 (And.intro hs (box_two w (.cells (blkR i r) 48) (.cells (blkR j s) 48))))))
  clear h h' B0 hs
  obtain ⟨label, edge, ins, code⟩ := i
  obtain ⟨label', edge', ins', code'⟩ := j
  obtain ⟨ia, il, ic, ka, kn, kc, rr⟩ := r
  obtain ⟨ia', il', ic', ka', kn', kc', rr'⟩ := s
  unfold blkR at D ⊢
  dsimp only at D ⊢
  dsimp only at hq0 hq1 hq2 hq3
  have e0 : label.toList = label'.toList := by simpa using hq0
  obtain rfl : edge = edge' := by simpa using hq1
  go_enter Try.func47, Try.ntmps47
  go_wp2_with fail
  refine (eq45_v _ _ _ _ _ _ _ _ _ (D.out.1.ins) (D.out.2.1.ins)).mono ?_
  rintro e w1 ⟨rfl, hb⟩
  rw [hq2]
  have B1 := Lib.hid (And.intro hb (D.out.2.2.1.trans (hb.mono D.out.2.2.2.1)))
  clear hb
  obtain ⟨l1, l2⟩ := D.out.2.2.2.2
  have m1 := kept_box l1 B1.out.1
  have m2 := kept_box l2 B1.out.1
  have z1_3 : w1.cell? ⟨w.heap.size, 3, none⟩ = some (.slice ka kn kc) := cell_in m1 3
  have y1_3 : w1.cell? ⟨w.heap.size + 1, 3, none⟩ = some (.slice ka' kn' kc') := cell_in m2 3
  clear l1 l2 m1 m2
  go_wp2_with fail
  refine (eq68_v _ _ _ _ _ _ _ _ _ _ _ ((D.out.1.below B1.out.1).code) ((D.out.2.1.below B1.out.1).code)).mono ?_
  rintro e w2 ⟨rfl, hb⟩
  rw [hq3]
  have B2 := Lib.hid (And.intro (B1.out.1.trans (hb.mono B1.out.1.size)) (B1.out.2.trans (hb.mono B1.out.2.size)))
  clear hb
  go_wp2_with fail
  go_ret
  exact ⟨rfl, B2.out.2⟩
theorem eq47_v (i j : Blk) (r s : BlkV) (w : World) (h : IsBlk w i r) (h' : IsBlk w j s) :
    Calls Try.prog 47 #[.agg (blkR i r), .agg (blkR j s)] w fun e w' => e = .returned (.bool (blkEq i j)) ∧ Below w.heap.size w w' := by
  cases hq0 : i.label.toList == j.label.toList
  · have hR : blkEq i j = false := by unfold blkEq; simp [hq0]
    rw [hR]; exact eq47_0 i j r s w h h' hq0
  cases hq1 : i.edge == j.edge
  · have hR : blkEq i j = false := by unfold blkEq; simp [hq0, hq1]
    rw [hR]; exact eq47_1 i j r s w h h' hq0 hq1
  cases hq2 : sameL opEq i.ins j.ins
  · have hR : blkEq i j = false := by unfold blkEq; simp [hq0, hq1, hq2]
    rw [hR]; exact eq47_2 i j r s w h h' hq0 hq1 hq2
  cases hq3 : sameL insEq i.code j.code
  · have hR : blkEq i j = false := by unfold blkEq; simp [hq0, hq1, hq2, hq3]
    rw [hR]; exact eq47_3 i j r s w h h' hq0 hq1 hq2 hq3
  have hR : blkEq i j = true := by unfold blkEq; simp [hq0, hq1, hq2, hq3]
  rw [hR]; exact eq47_4 i j r s w h h' hq0 hq1 hq2 hq3
end Go.Proofs.Ytocelaebokikcaa
