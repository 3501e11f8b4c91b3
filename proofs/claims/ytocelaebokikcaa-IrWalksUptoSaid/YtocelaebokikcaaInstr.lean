/- Two instructions held against each other. -/
import Derived.Test.YtocelaebokikcaaLoops
namespace Go.Proofs.Ytocelaebokikcaa
open Go.ChangeShapes Go.WideShapes Go.RowKit
set_option linter.unusedVariables false

theorem and_no {a b : Bool} (h : a = false) : (a && b) = false := by rw [h]; rfl
theorem eq42_0 (i j : Ins) (r s : InsV) (w : World) (h : IsIns w i r) (h' : IsIns w j s) (hq0 : (i.op == j.op) = false) :
    Calls Try.prog 42 #[.agg (insR i r), .agg (insR j s)] w fun e w' => e = .returned (.bool false) ∧ Below w.heap.size w w' := by
  have B0 : Below w.heap.size w ((w.alloc (.cells (insR i r) 51)).alloc (.cells (insR j s) 51)) := ((Below.refl _ w).alloc (Nat.le_refl _) _).alloc (by simp) _
  have hs : w.heap.size ≤ ((w.alloc (.cells (insR i r) 51)).alloc (.cells (insR j s) 51)).heap.size := by simp; omega
  have D := Lib.hid (And.intro (h.below B0) (And.intro (h'.below B0) (And.intro B0 (And.intro hs (box_two w (.cells (insR i r) 51) (.cells (insR j s) 51))))))
  clear h h' B0 hs
  obtain ⟨op, ⟨k, c, n, t⟩, args, name, off, labels, cases'⟩ := i
  obtain ⟨op', ⟨k', c', n', t'⟩, args', name', off', labels', cases''⟩ := j
  obtain ⟨aa, an, ac, la, ln, lc, ca, cn, cc⟩ := r
  obtain ⟨aa', an', ac', la', ln', lc', ca', cn', cc'⟩ := s
  unfold insR at D ⊢
  dsimp only at D ⊢
  dsimp only at hq0
  have e0 : ¬ op = op' := by simpa using hq0
  go_enter Try.func42, Try.ntmps42
  go_wp2_with fail
  go_ret
  exact ⟨rfl, D.out.2.2.1⟩
theorem eq42_1 (i j : Ins) (r s : InsV) (w : World) (h : IsIns w i r) (h' : IsIns w j s) (hq0 : (i.op == j.op) = true) (hq1 : opEq i.dst j.dst = false) :
    Calls Try.prog 42 #[.agg (insR i r), .agg (insR j s)] w fun e w' => e = .returned (.bool false) ∧ Below w.heap.size w w' := by
  have B0 : Below w.heap.size w ((w.alloc (.cells (insR i r) 51)).alloc (.cells (insR j s) 51)) := ((Below.refl _ w).alloc (Nat.le_refl _) _).alloc (by simp) _
  have hs : w.heap.size ≤ ((w.alloc (.cells (insR i r) 51)).alloc (.cells (insR j s) 51)).heap.size := by simp; omega
  have D := Lib.hid (And.intro (h.below B0) (And.intro (h'.below B0) (And.intro B0 (And.intro hs (box_two w (.cells (insR i r) 51) (.cells (insR j s) 51))))))
  clear h h' B0 hs
  obtain ⟨op, ⟨k, c, n, t⟩, args, name, off, labels, cases'⟩ := i
  obtain ⟨op', ⟨k', c', n', t'⟩, args', name', off', labels', cases''⟩ := j
  obtain ⟨aa, an, ac, la, ln, lc, ca, cn, cc⟩ := r
  obtain ⟨aa', an', ac', la', ln', lc', ca', cn', cc'⟩ := s
  unfold insR at D ⊢
  dsimp only at D ⊢
  dsimp only at hq0 hq1
  obtain rfl : op = op' := by simpa using hq0
  have E := eql44 k c n t k' c' n' t' false hq1
  clear hq1
  go_enter Try.func42, Try.ntmps42
  go_wp2_with fail
  go_ret
  exact ⟨rfl, D.out.2.2.1⟩
theorem eq42_2 (i j : Ins) (r s : InsV) (w : World) (h : IsIns w i r) (h' : IsIns w j s) (hq0 : (i.op == j.op) = true) (hq1 : opEq i.dst j.dst = true) (hq2 : sameL opEq i.args j.args = false) :
    Calls Try.prog 42 #[.agg (insR i r), .agg (insR j s)] w fun e w' => e = .returned (.bool false) ∧ Below w.heap.size w w' := by
  have B0 : Below w.heap.size w ((w.alloc (.cells (insR i r) 51)).alloc (.cells (insR j s) 51)) := ((Below.refl _ w).alloc (Nat.le_refl _) _).alloc (by simp) _
  have hs : w.heap.size ≤ ((w.alloc (.cells (insR i r) 51)).alloc (.cells (insR j s) 51)).heap.size := by simp; omega
  have D := Lib.hid (And.intro (h.below B0) (And.intro (h'.below B0) (And.intro B0 (And.intro hs (box_two w (.cells (insR i r) 51) (.cells (insR j s) 51))))))
  clear h h' B0 hs
  obtain ⟨op, ⟨k, c, n, t⟩, args, name, off, labels, cases'⟩ := i
  obtain ⟨op', ⟨k', c', n', t'⟩, args', name', off', labels', cases''⟩ := j
  obtain ⟨aa, an, ac, la, ln, lc, ca, cn, cc⟩ := r
  obtain ⟨aa', an', ac', la', ln', lc', ca', cn', cc'⟩ := s
  unfold insR at D ⊢
  dsimp only at D ⊢
  dsimp only at hq0 hq1 hq2
  obtain rfl : op = op' := by simpa using hq0
  have E := eql44 k c n t k' c' n' t' true hq1
  clear hq1
  go_enter Try.func42, Try.ntmps42
  go_wp2_with fail
  refine (eq45_v _ _ _ _ _ _ _ _ _ (D.out.1.args) (D.out.2.1.args)).mono ?_
  rintro e w1 ⟨rfl, hb⟩
  rw [hq2]
  have B1 := Lib.hid (And.intro hb (D.out.2.2.1.trans (hb.mono D.out.2.2.2.1)))
  clear hb
  go_wp2_with fail
  go_ret
  exact ⟨rfl, B1.out.2⟩
theorem eq42_3 (i j : Ins) (r s : InsV) (w : World) (h : IsIns w i r) (h' : IsIns w j s) (hq0 : (i.op == j.op) = true) (hq1 : opEq i.dst j.dst = true) (hq2 : sameL opEq i.args j.args = true) (hq3 : (i.name.toList == j.name.toList) = false) :
    Calls Try.prog 42 #[.agg (insR i r), .agg (insR j s)] w fun e w' => e = .returned (.bool false) ∧ Below w.heap.size w w' := by
  have B0 : Below w.heap.size w ((w.alloc (.cells (insR i r) 51)).alloc (.cells (insR j s) 51)) := ((Below.refl _ w).alloc (Nat.le_refl _) _).alloc (by simp) _
  have hs : w.heap.size ≤ ((w.alloc (.cells (insR i r) 51)).alloc (.cells (insR j s) 51)).heap.size := by simp; omega
  have D := Lib.hid (And.intro (h.below B0) (And.intro (h'.below B0) (And.intro B0 (And.intro hs (box_two w (.cells (insR i r) 51) (.cells (insR j s) 51))))))
  clear h h' B0 hs
  obtain ⟨op, ⟨k, c, n, t⟩, args, name, off, labels, cases'⟩ := i
  obtain ⟨op', ⟨k', c', n', t'⟩, args', name', off', labels', cases''⟩ := j
  obtain ⟨aa, an, ac, la, ln, lc, ca, cn, cc⟩ := r
  obtain ⟨aa', an', ac', la', ln', lc', ca', cn', cc'⟩ := s
  unfold insR at D ⊢
  dsimp only at D ⊢
  dsimp only at hq0 hq1 hq2 hq3
  obtain rfl : op = op' := by simpa using hq0
  have E := eql44 k c n t k' c' n' t' true hq1
  clear hq1
  have e3 : ¬ name.toList = name'.toList := by simpa using hq3
  go_enter Try.func42, Try.ntmps42
  go_wp2_with fail
  refine (eq45_v _ _ _ _ _ _ _ _ _ (D.out.1.args) (D.out.2.1.args)).mono ?_
  rintro e w1 ⟨rfl, hb⟩
  rw [hq2]
  have B1 := Lib.hid (And.intro hb (D.out.2.2.1.trans (hb.mono D.out.2.2.2.1)))
  clear hb
  obtain ⟨l1, l2⟩ := D.out.2.2.2.2
  have m1 := kept_box l1 B1.out.1
  have m2 := kept_box l2 B1.out.1
  have z13 : w1.cell? ⟨w.heap.size, 6, none⟩ = some (.string name) := cell_in m1 6
  have y13 : w1.cell? ⟨w.heap.size + 1, 6, none⟩ = some (.string name') := cell_in m2 6
  clear l1 l2 m1 m2
  go_wp2_with fail
  go_ret
  exact ⟨rfl, B1.out.2⟩
theorem eq42_4 (i j : Ins) (r s : InsV) (w : World) (h : IsIns w i r) (h' : IsIns w j s) (hq0 : (i.op == j.op) = true) (hq1 : opEq i.dst j.dst = true) (hq2 : sameL opEq i.args j.args = true) (hq3 : (i.name.toList == j.name.toList) = true) (hq4 : (i.off == j.off) = false) :
    Calls Try.prog 42 #[.agg (insR i r), .agg (insR j s)] w fun e w' => e = .returned (.bool false) ∧ Below w.heap.size w w' := by
  have B0 : Below w.heap.size w ((w.alloc (.cells (insR i r) 51)).alloc (.cells (insR j s) 51)) := ((Below.refl _ w).alloc (Nat.le_refl _) _).alloc (by simp) _
  have hs : w.heap.size ≤ ((w.alloc (.cells (insR i r) 51)).alloc (.cells (insR j s) 51)).heap.size := by simp; omega
  have D := Lib.hid (And.intro (h.below B0) (And.intro (h'.below B0) (And.intro B0 (And.intro hs (box_two w (.cells (insR i r) 51) (.cells (insR j s) 51))))))
  clear h h' B0 hs
  obtain ⟨op, ⟨k, c, n, t⟩, args, name, off, labels, cases'⟩ := i
  obtain ⟨op', ⟨k', c', n', t'⟩, args', name', off', labels', cases''⟩ := j
  obtain ⟨aa, an, ac, la, ln, lc, ca, cn, cc⟩ := r
  obtain ⟨aa', an', ac', la', ln', lc', ca', cn', cc'⟩ := s
  unfold insR at D ⊢
  dsimp only at D ⊢
  dsimp only at hq0 hq1 hq2 hq3 hq4
  obtain rfl : op = op' := by simpa using hq0
  have e4 : ¬ off = off' := by simpa using hq4
  have E := eql44 k c n t k' c' n' t' true hq1
  clear hq1
  have e3 : name.toList = name'.toList := by simpa using hq3
  go_enter Try.func42, Try.ntmps42
  go_wp2_with fail
  refine (eq45_v _ _ _ _ _ _ _ _ _ (D.out.1.args) (D.out.2.1.args)).mono ?_
  rintro e w1 ⟨rfl, hb⟩
  rw [hq2]
  have B1 := Lib.hid (And.intro hb (D.out.2.2.1.trans (hb.mono D.out.2.2.2.1)))
  clear hb
  obtain ⟨l1, l2⟩ := D.out.2.2.2.2
  have m1 := kept_box l1 B1.out.1
  have m2 := kept_box l2 B1.out.1
  have z13 : w1.cell? ⟨w.heap.size, 6, none⟩ = some (.string name) := cell_in m1 6
  have y13 : w1.cell? ⟨w.heap.size + 1, 6, none⟩ = some (.string name') := cell_in m2 6
  have z14 : w1.cell? ⟨w.heap.size, 7, none⟩ = some (.int .i64 off) := cell_in m1 7
  have y14 : w1.cell? ⟨w.heap.size + 1, 7, none⟩ = some (.int .i64 off') := cell_in m2 7
  clear l1 l2 m1 m2
  go_wp2_with fail
  go_ret
  exact ⟨rfl, B1.out.2⟩
theorem eq42_5 (i j : Ins) (r s : InsV) (w : World) (h : IsIns w i r) (h' : IsIns w j s) (hq0 : (i.op == j.op) = true) (hq1 : opEq i.dst j.dst = true) (hq2 : sameL opEq i.args j.args = true) (hq3 : (i.name.toList == j.name.toList) = true) (hq4 : (i.off == j.off) = true) (hq5 : sameL strEq i.labels j.labels = false) :
    Calls Try.prog 42 #[.agg (insR i r), .agg (insR j s)] w fun e w' => e = .returned (.bool false) ∧ Below w.heap.size w w' := by
  have B0 : Below w.heap.size w ((w.alloc (.cells (insR i r) 51)).alloc (.cells (insR j s) 51)) := ((Below.refl _ w).alloc (Nat.le_refl _) _).alloc (by simp) _
  have hs : w.heap.size ≤ ((w.alloc (.cells (insR i r) 51)).alloc (.cells (insR j s) 51)).heap.size := by simp; omega
  have D := Lib.hid (And.intro (h.below B0) (And.intro (h'.below B0) (And.intro B0 (And.intro hs (box_two w (.cells (insR i r) 51) (.cells (insR j s) 51))))))
  clear h h' B0 hs
  obtain ⟨op, ⟨k, c, n, t⟩, args, name, off, labels, cases'⟩ := i
  obtain ⟨op', ⟨k', c', n', t'⟩, args', name', off', labels', cases''⟩ := j
  obtain ⟨aa, an, ac, la, ln, lc, ca, cn, cc⟩ := r
  obtain ⟨aa', an', ac', la', ln', lc', ca', cn', cc'⟩ := s
  unfold insR at D ⊢
  dsimp only at D ⊢
  dsimp only at hq0 hq1 hq2 hq3 hq4 hq5
  obtain rfl : op = op' := by simpa using hq0
  obtain rfl : off = off' := by simpa using hq4
  have E := eql44 k c n t k' c' n' t' true hq1
  clear hq1
  have e3 : name.toList = name'.toList := by simpa using hq3
  go_enter Try.func42, Try.ntmps42
  go_wp2_with fail
  refine (eq45_v _ _ _ _ _ _ _ _ _ (D.out.1.args) (D.out.2.1.args)).mono ?_
  rintro e w1 ⟨rfl, hb⟩
  rw [hq2]
  have B1 := Lib.hid (And.intro hb (D.out.2.2.1.trans (hb.mono D.out.2.2.2.1)))
  clear hb
  obtain ⟨l1, l2⟩ := D.out.2.2.2.2
  have m1 := kept_box l1 B1.out.1
  have m2 := kept_box l2 B1.out.1
  have z13 : w1.cell? ⟨w.heap.size, 6, none⟩ = some (.string name) := cell_in m1 6
  have y13 : w1.cell? ⟨w.heap.size + 1, 6, none⟩ = some (.string name') := cell_in m2 6
  have z14 : w1.cell? ⟨w.heap.size, 7, none⟩ = some (.int .i64 off) := cell_in m1 7
  have y14 : w1.cell? ⟨w.heap.size + 1, 7, none⟩ = some (.int .i64 off) := cell_in m2 7
  have z15 : w1.cell? ⟨w.heap.size, 8, none⟩ = some (.slice la ln lc) := cell_in m1 8
  have y15 : w1.cell? ⟨w.heap.size + 1, 8, none⟩ = some (.slice la' ln' lc') := cell_in m2 8
  clear l1 l2 m1 m2
  go_wp2_with fail
  refine (eq65_v _ _ _ _ _ _ _ _ _ ((D.out.1.below (B1.out.1)).labels) ((D.out.2.1.below (B1.out.1)).labels)).mono ?_
  rintro e w2 ⟨rfl, hb⟩
  rw [hq5]
  have B2 := Lib.hid (And.intro (B1.out.1.trans (hb.mono B1.out.1.size)) (B1.out.2.trans (hb.mono B1.out.2.size)))
  clear hb
  go_wp2_with fail
  go_ret
  exact ⟨rfl, B2.out.2⟩
theorem eq42_6 (i j : Ins) (r s : InsV) (w : World) (h : IsIns w i r) (h' : IsIns w j s) (hq0 : (i.op == j.op) = true) (hq1 : opEq i.dst j.dst = true) (hq2 : sameL opEq i.args j.args = true) (hq3 : (i.name.toList == j.name.toList) = true) (hq4 : (i.off == j.off) = true) (hq5 : sameL strEq i.labels j.labels = true) (hq6 : sameL intEq i.cases j.cases = false) :
    Calls Try.prog 42 #[.agg (insR i r), .agg (insR j s)] w fun e w' => e = .returned (.bool false) ∧ Below w.heap.size w w' := by
  have B0 : Below w.heap.size w ((w.alloc (.cells (insR i r) 51)).alloc (.cells (insR j s) 51)) := ((Below.refl _ w).alloc (Nat.le_refl _) _).alloc (by simp) _
  have hs : w.heap.size ≤ ((w.alloc (.cells (insR i r) 51)).alloc (.cells (insR j s) 51)).heap.size := by simp; omega
  have D := Lib.hid (And.intro (h.below B0) (And.intro (h'.below B0) (And.intro B0 (And.intro hs (box_two w (.cells (insR i r) 51) (.cells (insR j s) 51))))))
  clear h h' B0 hs
  obtain ⟨op, ⟨k, c, n, t⟩, args, name, off, labels, cases'⟩ := i
  obtain ⟨op', ⟨k', c', n', t'⟩, args', name', off', labels', cases''⟩ := j
  obtain ⟨aa, an, ac, la, ln, lc, ca, cn, cc⟩ := r
  obtain ⟨aa', an', ac', la', ln', lc', ca', cn', cc'⟩ := s
  unfold insR at D ⊢
  dsimp only at D ⊢
  dsimp only at hq0 hq1 hq2 hq3 hq4 hq5 hq6
  obtain rfl : op = op' := by simpa using hq0
  obtain rfl : off = off' := by simpa using hq4
  have E := eql44 k c n t k' c' n' t' true hq1
  clear hq1
  have e3 : name.toList = name'.toList := by simpa using hq3
  go_enter Try.func42, Try.ntmps42
  go_wp2_with fail
  refine (eq45_v _ _ _ _ _ _ _ _ _ (D.out.1.args) (D.out.2.1.args)).mono ?_
  rintro e w1 ⟨rfl, hb⟩
  rw [hq2]
  have B1 := Lib.hid (And.intro hb (D.out.2.2.1.trans (hb.mono D.out.2.2.2.1)))
  clear hb
  obtain ⟨l1, l2⟩ := D.out.2.2.2.2
  have m1 := kept_box l1 B1.out.1
  have m2 := kept_box l2 B1.out.1
  have z13 : w1.cell? ⟨w.heap.size, 6, none⟩ = some (.string name) := cell_in m1 6
  have y13 : w1.cell? ⟨w.heap.size + 1, 6, none⟩ = some (.string name') := cell_in m2 6
  have z14 : w1.cell? ⟨w.heap.size, 7, none⟩ = some (.int .i64 off) := cell_in m1 7
  have y14 : w1.cell? ⟨w.heap.size + 1, 7, none⟩ = some (.int .i64 off) := cell_in m2 7
  have z15 : w1.cell? ⟨w.heap.size, 8, none⟩ = some (.slice la ln lc) := cell_in m1 8
  have y15 : w1.cell? ⟨w.heap.size + 1, 8, none⟩ = some (.slice la' ln' lc') := cell_in m2 8
  have z16 : w1.cell? ⟨w.heap.size, 9, none⟩ = some (.slice ca cn cc) := cell_in m1 9
  have y16 : w1.cell? ⟨w.heap.size + 1, 9, none⟩ = some (.slice ca' cn' cc') := cell_in m2 9
  clear l1 l2 m1 m2
  go_wp2_with fail
  refine (eq65_v _ _ _ _ _ _ _ _ _ ((D.out.1.below (B1.out.1)).labels) ((D.out.2.1.below (B1.out.1)).labels)).mono ?_
  rintro e w2 ⟨rfl, hb⟩
  rw [hq5]
  have B2 := Lib.hid (And.intro (B1.out.1.trans (hb.mono B1.out.1.size)) (B1.out.2.trans (hb.mono B1.out.2.size)))
  clear hb
  obtain ⟨l1, l2⟩ := D.out.2.2.2.2
  have m1 := kept_box l1 B2.out.1
  have m2 := kept_box l2 B2.out.1
  have z26 : w2.cell? ⟨w.heap.size, 9, none⟩ = some (.slice ca cn cc) := cell_in m1 9
  have y26 : w2.cell? ⟨w.heap.size + 1, 9, none⟩ = some (.slice ca' cn' cc') := cell_in m2 9
  clear l1 l2 m1 m2
  go_wp2_with fail
  refine (eq51_v _ _ _ _ _ _ _ _ _ ((D.out.1.below (B2.out.1)).cases) ((D.out.2.1.below (B2.out.1)).cases)).mono ?_
  rintro e w3 ⟨rfl, hb⟩
  rw [hq6]
  have B3 := Lib.hid (And.intro (B2.out.1.trans (hb.mono B2.out.1.size)) (B2.out.2.trans (hb.mono B2.out.2.size)))
  clear hb
  go_wp2_with fail
  go_ret
  exact ⟨rfl, B3.out.2⟩
theorem eq42_7 (i j : Ins) (r s : InsV) (w : World) (h : IsIns w i r) (h' : IsIns w j s) (hq0 : (i.op == j.op) = true) (hq1 : opEq i.dst j.dst = true) (hq2 : sameL opEq i.args j.args = true) (hq3 : (i.name.toList == j.name.toList) = true) (hq4 : (i.off == j.off) = true) (hq5 : sameL strEq i.labels j.labels = true) (hq6 : sameL intEq i.cases j.cases = true) :
    Calls Try.prog 42 #[.agg (insR i r), .agg (insR j s)] w fun e w' => e = .returned (.bool true) ∧ Below w.heap.size w w' := by
  have B0 : Below w.heap.size w ((w.alloc (.cells (insR i r) 51)).alloc (.cells (insR j s) 51)) := ((Below.refl _ w).alloc (Nat.le_refl _) _).alloc (by simp) _
  have hs : w.heap.size ≤ ((w.alloc (.cells (insR i r) 51)).alloc (.cells (insR j s) 51)).heap.size := by simp; omega
  have D := Lib.hid (And.intro (h.below B0) (And.intro (h'.below B0) (And.intro B0 (And.intro hs (box_two w (.cells (insR i r) 51) (.cells (insR j s) 51))))))
  clear h h' B0 hs
  obtain ⟨op, ⟨k, c, n, t⟩, args, name, off, labels, cases'⟩ := i
  obtain ⟨op', ⟨k', c', n', t'⟩, args', name', off', labels', cases''⟩ := j
  obtain ⟨aa, an, ac, la, ln, lc, ca, cn, cc⟩ := r
  obtain ⟨aa', an', ac', la', ln', lc', ca', cn', cc'⟩ := s
  unfold insR at D ⊢
  dsimp only at D ⊢
  dsimp only at hq0 hq1 hq2 hq3 hq4 hq5 hq6
  obtain rfl : op = op' := by simpa using hq0
  obtain rfl : off = off' := by simpa using hq4
  have E := eql44 k c n t k' c' n' t' true hq1
  clear hq1
  have e3 : name.toList = name'.toList := by simpa using hq3
  go_enter Try.func42, Try.ntmps42
  go_wp2_with fail
  refine (eq45_v _ _ _ _ _ _ _ _ _ (D.out.1.args) (D.out.2.1.args)).mono ?_
  rintro e w1 ⟨rfl, hb⟩
  rw [hq2]
  have B1 := Lib.hid (And.intro hb (D.out.2.2.1.trans (hb.mono D.out.2.2.2.1)))
  clear hb
  obtain ⟨l1, l2⟩ := D.out.2.2.2.2
  have m1 := kept_box l1 B1.out.1
  have m2 := kept_box l2 B1.out.1
  have z13 : w1.cell? ⟨w.heap.size, 6, none⟩ = some (.string name) := cell_in m1 6
  have y13 : w1.cell? ⟨w.heap.size + 1, 6, none⟩ = some (.string name') := cell_in m2 6
  have z14 : w1.cell? ⟨w.heap.size, 7, none⟩ = some (.int .i64 off) := cell_in m1 7
  have y14 : w1.cell? ⟨w.heap.size + 1, 7, none⟩ = some (.int .i64 off) := cell_in m2 7
  have z15 : w1.cell? ⟨w.heap.size, 8, none⟩ = some (.slice la ln lc) := cell_in m1 8
  have y15 : w1.cell? ⟨w.heap.size + 1, 8, none⟩ = some (.slice la' ln' lc') := cell_in m2 8
  have z16 : w1.cell? ⟨w.heap.size, 9, none⟩ = some (.slice ca cn cc) := cell_in m1 9
  have y16 : w1.cell? ⟨w.heap.size + 1, 9, none⟩ = some (.slice ca' cn' cc') := cell_in m2 9
  clear l1 l2 m1 m2
  go_wp2_with fail
  refine (eq65_v _ _ _ _ _ _ _ _ _ ((D.out.1.below (B1.out.1)).labels) ((D.out.2.1.below (B1.out.1)).labels)).mono ?_
  rintro e w2 ⟨rfl, hb⟩
  rw [hq5]
  have B2 := Lib.hid (And.intro (B1.out.1.trans (hb.mono B1.out.1.size)) (B1.out.2.trans (hb.mono B1.out.2.size)))
  clear hb
  obtain ⟨l1, l2⟩ := D.out.2.2.2.2
  have m1 := kept_box l1 B2.out.1
  have m2 := kept_box l2 B2.out.1
  have z26 : w2.cell? ⟨w.heap.size, 9, none⟩ = some (.slice ca cn cc) := cell_in m1 9
  have y26 : w2.cell? ⟨w.heap.size + 1, 9, none⟩ = some (.slice ca' cn' cc') := cell_in m2 9
  clear l1 l2 m1 m2
  go_wp2_with fail
  refine (eq51_v _ _ _ _ _ _ _ _ _ ((D.out.1.below (B2.out.1)).cases) ((D.out.2.1.below (B2.out.1)).cases)).mono ?_
  rintro e w3 ⟨rfl, hb⟩
  rw [hq6]
  have B3 := Lib.hid (And.intro (B2.out.1.trans (hb.mono B2.out.1.size)) (B2.out.2.trans (hb.mono B2.out.2.size)))
  clear hb
  go_wp2_with fail
  go_ret
  exact ⟨rfl, B3.out.2⟩
theorem eq42_v (i j : Ins) (r s : InsV) (w : World) (h : IsIns w i r) (h' : IsIns w j s) :
    Calls Try.prog 42 #[.agg (insR i r), .agg (insR j s)] w fun e w' => e = .returned (.bool (insEq i j)) ∧ Below w.heap.size w w' := by
  unfold insEq
  cases hq0 : i.op == j.op
  · exact eq42_0 i j r s w h h' hq0
  cases hq1 : opEq i.dst j.dst
  · exact eq42_1 i j r s w h h' hq0 hq1
  cases hq2 : sameL opEq i.args j.args
  · exact eq42_2 i j r s w h h' hq0 hq1 hq2
  cases hq3 : i.name.toList == j.name.toList
  · exact eq42_3 i j r s w h h' hq0 hq1 hq2 hq3
  cases hq4 : i.off == j.off
  · exact eq42_4 i j r s w h h' hq0 hq1 hq2 hq3 hq4
  cases hq5 : sameL strEq i.labels j.labels
  · exact eq42_5 i j r s w h h' hq0 hq1 hq2 hq3 hq4 hq5
  cases hq6 : sameL intEq i.cases j.cases
  · exact eq42_6 i j r s w h h' hq0 hq1 hq2 hq3 hq4 hq5 hq6
  · exact eq42_7 i j r s w h h' hq0 hq1 hq2 hq3 hq4 hq5 hq6
theorem eq31_0 (i j : Ins) (r s : InsV) (w : World) (h : IsIns w i r) (h' : IsIns w j s) (hq0 : (i.op == j.op) = false) :
    Calls Try.prog 31 #[.agg (insR i r), .agg (insR j s)] w fun e w' => e = .returned (.bool false) ∧ Below w.heap.size w w' := by
  have B0 : Below w.heap.size w ((w.alloc (.cells (insR i r) 51)).alloc (.cells (insR j s) 51)) := ((Below.refl _ w).alloc (Nat.le_refl _) _).alloc (by simp) _
  have hs : w.heap.size ≤ ((w.alloc (.cells (insR i r) 51)).alloc (.cells (insR j s) 51)).heap.size := by simp; omega
  have D := Lib.hid (And.intro (h.below B0) (And.intro (h'.below B0) (And.intro B0 (And.intro hs (box_two w (.cells (insR i r) 51) (.cells (insR j s) 51))))))
  clear h h' B0 hs
  obtain ⟨op, ⟨k, c, n, t⟩, args, name, off, labels, cases'⟩ := i
  obtain ⟨op', ⟨k', c', n', t'⟩, args', name', off', labels', cases''⟩ := j
  obtain ⟨aa, an, ac, la, ln, lc, ca, cn, cc⟩ := r
  obtain ⟨aa', an', ac', la', ln', lc', ca', cn', cc'⟩ := s
  unfold insR at D ⊢
  dsimp only at D ⊢
  dsimp only at hq0
  have e0 : ¬ op = op' := by simpa using hq0
  go_enter Try.func31, Try.ntmps31
  go_wp2_with fail
  go_ret
  exact ⟨rfl, D.out.2.2.1⟩
theorem eq31_1 (i j : Ins) (r s : InsV) (w : World) (h : IsIns w i r) (h' : IsIns w j s) (hq0 : (i.op == j.op) = true) (hq1 : opEq i.dst j.dst = false) :
    Calls Try.prog 31 #[.agg (insR i r), .agg (insR j s)] w fun e w' => e = .returned (.bool false) ∧ Below w.heap.size w w' := by
  have B0 : Below w.heap.size w ((w.alloc (.cells (insR i r) 51)).alloc (.cells (insR j s) 51)) := ((Below.refl _ w).alloc (Nat.le_refl _) _).alloc (by simp) _
  have hs : w.heap.size ≤ ((w.alloc (.cells (insR i r) 51)).alloc (.cells (insR j s) 51)).heap.size := by simp; omega
  have D := Lib.hid (And.intro (h.below B0) (And.intro (h'.below B0) (And.intro B0 (And.intro hs (box_two w (.cells (insR i r) 51) (.cells (insR j s) 51))))))
  clear h h' B0 hs
  obtain ⟨op, ⟨k, c, n, t⟩, args, name, off, labels, cases'⟩ := i
  obtain ⟨op', ⟨k', c', n', t'⟩, args', name', off', labels', cases''⟩ := j
  obtain ⟨aa, an, ac, la, ln, lc, ca, cn, cc⟩ := r
  obtain ⟨aa', an', ac', la', ln', lc', ca', cn', cc'⟩ := s
  unfold insR at D ⊢
  dsimp only at D ⊢
  dsimp only at hq0 hq1
  obtain rfl : op = op' := by simpa using hq0
  have E := eql44 k c n t k' c' n' t' false hq1
  clear hq1
  go_enter Try.func31, Try.ntmps31
  go_wp2_with fail
  go_ret
  exact ⟨rfl, D.out.2.2.1⟩
theorem eq31_2 (i j : Ins) (r s : InsV) (w : World) (h : IsIns w i r) (h' : IsIns w j s) (hq0 : (i.op == j.op) = true) (hq1 : opEq i.dst j.dst = true) (hq2 : sameL opEq i.args j.args = false) :
    Calls Try.prog 31 #[.agg (insR i r), .agg (insR j s)] w fun e w' => e = .returned (.bool false) ∧ Below w.heap.size w w' := by
  have B0 : Below w.heap.size w ((w.alloc (.cells (insR i r) 51)).alloc (.cells (insR j s) 51)) := ((Below.refl _ w).alloc (Nat.le_refl _) _).alloc (by simp) _
  have hs : w.heap.size ≤ ((w.alloc (.cells (insR i r) 51)).alloc (.cells (insR j s) 51)).heap.size := by simp; omega
  have D := Lib.hid (And.intro (h.below B0) (And.intro (h'.below B0) (And.intro B0 (And.intro hs (box_two w (.cells (insR i r) 51) (.cells (insR j s) 51))))))
  clear h h' B0 hs
  obtain ⟨op, ⟨k, c, n, t⟩, args, name, off, labels, cases'⟩ := i
  obtain ⟨op', ⟨k', c', n', t'⟩, args', name', off', labels', cases''⟩ := j
  obtain ⟨aa, an, ac, la, ln, lc, ca, cn, cc⟩ := r
  obtain ⟨aa', an', ac', la', ln', lc', ca', cn', cc'⟩ := s
  unfold insR at D ⊢
  dsimp only at D ⊢
  dsimp only at hq0 hq1 hq2
  obtain rfl : op = op' := by simpa using hq0
  have E := eql44 k c n t k' c' n' t' true hq1
  clear hq1
  go_enter Try.func31, Try.ntmps31
  go_wp2_with fail
  refine (eq48_v _ _ _ _ _ _ _ _ _ (D.out.1.args) (D.out.2.1.args)).mono ?_
  rintro e w1 ⟨rfl, hb⟩
  rw [hq2]
  have B1 := Lib.hid (And.intro hb (D.out.2.2.1.trans (hb.mono D.out.2.2.2.1)))
  clear hb
  go_wp2_with fail
  go_ret
  exact ⟨rfl, B1.out.2⟩
theorem eq31_3 (i j : Ins) (r s : InsV) (w : World) (h : IsIns w i r) (h' : IsIns w j s) (hq0 : (i.op == j.op) = true) (hq1 : opEq i.dst j.dst = true) (hq2 : sameL opEq i.args j.args = true) (hq3 : (i.name.toList == j.name.toList) = false) :
    Calls Try.prog 31 #[.agg (insR i r), .agg (insR j s)] w fun e w' => e = .returned (.bool false) ∧ Below w.heap.size w w' := by
  have B0 : Below w.heap.size w ((w.alloc (.cells (insR i r) 51)).alloc (.cells (insR j s) 51)) := ((Below.refl _ w).alloc (Nat.le_refl _) _).alloc (by simp) _
  have hs : w.heap.size ≤ ((w.alloc (.cells (insR i r) 51)).alloc (.cells (insR j s) 51)).heap.size := by simp; omega
  have D := Lib.hid (And.intro (h.below B0) (And.intro (h'.below B0) (And.intro B0 (And.intro hs (box_two w (.cells (insR i r) 51) (.cells (insR j s) 51))))))
  clear h h' B0 hs
  obtain ⟨op, ⟨k, c, n, t⟩, args, name, off, labels, cases'⟩ := i
  obtain ⟨op', ⟨k', c', n', t'⟩, args', name', off', labels', cases''⟩ := j
  obtain ⟨aa, an, ac, la, ln, lc, ca, cn, cc⟩ := r
  obtain ⟨aa', an', ac', la', ln', lc', ca', cn', cc'⟩ := s
  unfold insR at D ⊢
  dsimp only at D ⊢
  dsimp only at hq0 hq1 hq2 hq3
  obtain rfl : op = op' := by simpa using hq0
  have E := eql44 k c n t k' c' n' t' true hq1
  clear hq1
  have e3 : ¬ name.toList = name'.toList := by simpa using hq3
  go_enter Try.func31, Try.ntmps31
  go_wp2_with fail
  refine (eq48_v _ _ _ _ _ _ _ _ _ (D.out.1.args) (D.out.2.1.args)).mono ?_
  rintro e w1 ⟨rfl, hb⟩
  rw [hq2]
  have B1 := Lib.hid (And.intro hb (D.out.2.2.1.trans (hb.mono D.out.2.2.2.1)))
  clear hb
  obtain ⟨l1, l2⟩ := D.out.2.2.2.2
  have m1 := kept_box l1 B1.out.1
  have m2 := kept_box l2 B1.out.1
  have z13 : w1.cell? ⟨w.heap.size, 6, none⟩ = some (.string name) := cell_in m1 6
  have y13 : w1.cell? ⟨w.heap.size + 1, 6, none⟩ = some (.string name') := cell_in m2 6
  clear l1 l2 m1 m2
  go_wp2_with fail
  go_ret
  exact ⟨rfl, B1.out.2⟩
theorem eq31_4 (i j : Ins) (r s : InsV) (w : World) (h : IsIns w i r) (h' : IsIns w j s) (hq0 : (i.op == j.op) = true) (hq1 : opEq i.dst j.dst = true) (hq2 : sameL opEq i.args j.args = true) (hq3 : (i.name.toList == j.name.toList) = true) (hq4 : (i.off == j.off) = false) :
    Calls Try.prog 31 #[.agg (insR i r), .agg (insR j s)] w fun e w' => e = .returned (.bool false) ∧ Below w.heap.size w w' := by
  have B0 : Below w.heap.size w ((w.alloc (.cells (insR i r) 51)).alloc (.cells (insR j s) 51)) := ((Below.refl _ w).alloc (Nat.le_refl _) _).alloc (by simp) _
  have hs : w.heap.size ≤ ((w.alloc (.cells (insR i r) 51)).alloc (.cells (insR j s) 51)).heap.size := by simp; omega
  have D := Lib.hid (And.intro (h.below B0) (And.intro (h'.below B0) (And.intro B0 (And.intro hs (box_two w (.cells (insR i r) 51) (.cells (insR j s) 51))))))
  clear h h' B0 hs
  obtain ⟨op, ⟨k, c, n, t⟩, args, name, off, labels, cases'⟩ := i
  obtain ⟨op', ⟨k', c', n', t'⟩, args', name', off', labels', cases''⟩ := j
  obtain ⟨aa, an, ac, la, ln, lc, ca, cn, cc⟩ := r
  obtain ⟨aa', an', ac', la', ln', lc', ca', cn', cc'⟩ := s
  unfold insR at D ⊢
  dsimp only at D ⊢
  dsimp only at hq0 hq1 hq2 hq3 hq4
  obtain rfl : op = op' := by simpa using hq0
  have e4 : ¬ off = off' := by simpa using hq4
  have E := eql44 k c n t k' c' n' t' true hq1
  clear hq1
  have e3 : name.toList = name'.toList := by simpa using hq3
  go_enter Try.func31, Try.ntmps31
  go_wp2_with fail
  refine (eq48_v _ _ _ _ _ _ _ _ _ (D.out.1.args) (D.out.2.1.args)).mono ?_
  rintro e w1 ⟨rfl, hb⟩
  rw [hq2]
  have B1 := Lib.hid (And.intro hb (D.out.2.2.1.trans (hb.mono D.out.2.2.2.1)))
  clear hb
  obtain ⟨l1, l2⟩ := D.out.2.2.2.2
  have m1 := kept_box l1 B1.out.1
  have m2 := kept_box l2 B1.out.1
  have z13 : w1.cell? ⟨w.heap.size, 6, none⟩ = some (.string name) := cell_in m1 6
  have y13 : w1.cell? ⟨w.heap.size + 1, 6, none⟩ = some (.string name') := cell_in m2 6
  have z14 : w1.cell? ⟨w.heap.size, 7, none⟩ = some (.int .i64 off) := cell_in m1 7
  have y14 : w1.cell? ⟨w.heap.size + 1, 7, none⟩ = some (.int .i64 off') := cell_in m2 7
  clear l1 l2 m1 m2
  go_wp2_with fail
  go_ret
  exact ⟨rfl, B1.out.2⟩
theorem eq31_5 (i j : Ins) (r s : InsV) (w : World) (h : IsIns w i r) (h' : IsIns w j s) (hq0 : (i.op == j.op) = true) (hq1 : opEq i.dst j.dst = true) (hq2 : sameL opEq i.args j.args = true) (hq3 : (i.name.toList == j.name.toList) = true) (hq4 : (i.off == j.off) = true) (hq5 : sameL strEq i.labels j.labels = false) :
    Calls Try.prog 31 #[.agg (insR i r), .agg (insR j s)] w fun e w' => e = .returned (.bool false) ∧ Below w.heap.size w w' := by
  have B0 : Below w.heap.size w ((w.alloc (.cells (insR i r) 51)).alloc (.cells (insR j s) 51)) := ((Below.refl _ w).alloc (Nat.le_refl _) _).alloc (by simp) _
  have hs : w.heap.size ≤ ((w.alloc (.cells (insR i r) 51)).alloc (.cells (insR j s) 51)).heap.size := by simp; omega
  have D := Lib.hid (And.intro (h.below B0) (And.intro (h'.below B0) (And.intro B0 (And.intro hs (box_two w (.cells (insR i r) 51) (.cells (insR j s) 51))))))
  clear h h' B0 hs
  obtain ⟨op, ⟨k, c, n, t⟩, args, name, off, labels, cases'⟩ := i
  obtain ⟨op', ⟨k', c', n', t'⟩, args', name', off', labels', cases''⟩ := j
  obtain ⟨aa, an, ac, la, ln, lc, ca, cn, cc⟩ := r
  obtain ⟨aa', an', ac', la', ln', lc', ca', cn', cc'⟩ := s
  unfold insR at D ⊢
  dsimp only at D ⊢
  dsimp only at hq0 hq1 hq2 hq3 hq4 hq5
  obtain rfl : op = op' := by simpa using hq0
  obtain rfl : off = off' := by simpa using hq4
  have E := eql44 k c n t k' c' n' t' true hq1
  clear hq1
  have e3 : name.toList = name'.toList := by simpa using hq3
  go_enter Try.func31, Try.ntmps31
  go_wp2_with fail
  refine (eq48_v _ _ _ _ _ _ _ _ _ (D.out.1.args) (D.out.2.1.args)).mono ?_
  rintro e w1 ⟨rfl, hb⟩
  rw [hq2]
  have B1 := Lib.hid (And.intro hb (D.out.2.2.1.trans (hb.mono D.out.2.2.2.1)))
  clear hb
  obtain ⟨l1, l2⟩ := D.out.2.2.2.2
  have m1 := kept_box l1 B1.out.1
  have m2 := kept_box l2 B1.out.1
  have z13 : w1.cell? ⟨w.heap.size, 6, none⟩ = some (.string name) := cell_in m1 6
  have y13 : w1.cell? ⟨w.heap.size + 1, 6, none⟩ = some (.string name') := cell_in m2 6
  have z14 : w1.cell? ⟨w.heap.size, 7, none⟩ = some (.int .i64 off) := cell_in m1 7
  have y14 : w1.cell? ⟨w.heap.size + 1, 7, none⟩ = some (.int .i64 off) := cell_in m2 7
  have z15 : w1.cell? ⟨w.heap.size, 8, none⟩ = some (.slice la ln lc) := cell_in m1 8
  have y15 : w1.cell? ⟨w.heap.size + 1, 8, none⟩ = some (.slice la' ln' lc') := cell_in m2 8
  clear l1 l2 m1 m2
  go_wp2_with fail
  refine (eq63_v _ _ _ _ _ _ _ _ _ ((D.out.1.below (B1.out.1)).labels) ((D.out.2.1.below (B1.out.1)).labels)).mono ?_
  rintro e w2 ⟨rfl, hb⟩
  rw [hq5]
  have B2 := Lib.hid (And.intro (B1.out.1.trans (hb.mono B1.out.1.size)) (B1.out.2.trans (hb.mono B1.out.2.size)))
  clear hb
  go_wp2_with fail
  go_ret
  exact ⟨rfl, B2.out.2⟩
theorem eq31_6 (i j : Ins) (r s : InsV) (w : World) (h : IsIns w i r) (h' : IsIns w j s) (hq0 : (i.op == j.op) = true) (hq1 : opEq i.dst j.dst = true) (hq2 : sameL opEq i.args j.args = true) (hq3 : (i.name.toList == j.name.toList) = true) (hq4 : (i.off == j.off) = true) (hq5 : sameL strEq i.labels j.labels = true) (hq6 : sameL intEq i.cases j.cases = false) :
    Calls Try.prog 31 #[.agg (insR i r), .agg (insR j s)] w fun e w' => e = .returned (.bool false) ∧ Below w.heap.size w w' := by
  have B0 : Below w.heap.size w ((w.alloc (.cells (insR i r) 51)).alloc (.cells (insR j s) 51)) := ((Below.refl _ w).alloc (Nat.le_refl _) _).alloc (by simp) _
  have hs : w.heap.size ≤ ((w.alloc (.cells (insR i r) 51)).alloc (.cells (insR j s) 51)).heap.size := by simp; omega
  have D := Lib.hid (And.intro (h.below B0) (And.intro (h'.below B0) (And.intro B0 (And.intro hs (box_two w (.cells (insR i r) 51) (.cells (insR j s) 51))))))
  clear h h' B0 hs
  obtain ⟨op, ⟨k, c, n, t⟩, args, name, off, labels, cases'⟩ := i
  obtain ⟨op', ⟨k', c', n', t'⟩, args', name', off', labels', cases''⟩ := j
  obtain ⟨aa, an, ac, la, ln, lc, ca, cn, cc⟩ := r
  obtain ⟨aa', an', ac', la', ln', lc', ca', cn', cc'⟩ := s
  unfold insR at D ⊢
  dsimp only at D ⊢
  dsimp only at hq0 hq1 hq2 hq3 hq4 hq5 hq6
  obtain rfl : op = op' := by simpa using hq0
  obtain rfl : off = off' := by simpa using hq4
  have E := eql44 k c n t k' c' n' t' true hq1
  clear hq1
  have e3 : name.toList = name'.toList := by simpa using hq3
  go_enter Try.func31, Try.ntmps31
  go_wp2_with fail
  refine (eq48_v _ _ _ _ _ _ _ _ _ (D.out.1.args) (D.out.2.1.args)).mono ?_
  rintro e w1 ⟨rfl, hb⟩
  rw [hq2]
  have B1 := Lib.hid (And.intro hb (D.out.2.2.1.trans (hb.mono D.out.2.2.2.1)))
  clear hb
  obtain ⟨l1, l2⟩ := D.out.2.2.2.2
  have m1 := kept_box l1 B1.out.1
  have m2 := kept_box l2 B1.out.1
  have z13 : w1.cell? ⟨w.heap.size, 6, none⟩ = some (.string name) := cell_in m1 6
  have y13 : w1.cell? ⟨w.heap.size + 1, 6, none⟩ = some (.string name') := cell_in m2 6
  have z14 : w1.cell? ⟨w.heap.size, 7, none⟩ = some (.int .i64 off) := cell_in m1 7
  have y14 : w1.cell? ⟨w.heap.size + 1, 7, none⟩ = some (.int .i64 off) := cell_in m2 7
  have z15 : w1.cell? ⟨w.heap.size, 8, none⟩ = some (.slice la ln lc) := cell_in m1 8
  have y15 : w1.cell? ⟨w.heap.size + 1, 8, none⟩ = some (.slice la' ln' lc') := cell_in m2 8
  have z16 : w1.cell? ⟨w.heap.size, 9, none⟩ = some (.slice ca cn cc) := cell_in m1 9
  have y16 : w1.cell? ⟨w.heap.size + 1, 9, none⟩ = some (.slice ca' cn' cc') := cell_in m2 9
  clear l1 l2 m1 m2
  go_wp2_with fail
  refine (eq63_v _ _ _ _ _ _ _ _ _ ((D.out.1.below (B1.out.1)).labels) ((D.out.2.1.below (B1.out.1)).labels)).mono ?_
  rintro e w2 ⟨rfl, hb⟩
  rw [hq5]
  have B2 := Lib.hid (And.intro (B1.out.1.trans (hb.mono B1.out.1.size)) (B1.out.2.trans (hb.mono B1.out.2.size)))
  clear hb
  obtain ⟨l1, l2⟩ := D.out.2.2.2.2
  have m1 := kept_box l1 B2.out.1
  have m2 := kept_box l2 B2.out.1
  have z26 : w2.cell? ⟨w.heap.size, 9, none⟩ = some (.slice ca cn cc) := cell_in m1 9
  have y26 : w2.cell? ⟨w.heap.size + 1, 9, none⟩ = some (.slice ca' cn' cc') := cell_in m2 9
  clear l1 l2 m1 m2
  go_wp2_with fail
  refine (eq33_v _ _ _ _ _ _ _ _ _ ((D.out.1.below (B2.out.1)).cases) ((D.out.2.1.below (B2.out.1)).cases)).mono ?_
  rintro e w3 ⟨rfl, hb⟩
  rw [hq6]
  have B3 := Lib.hid (And.intro (B2.out.1.trans (hb.mono B2.out.1.size)) (B2.out.2.trans (hb.mono B2.out.2.size)))
  clear hb
  go_wp2_with fail
  go_ret
  exact ⟨rfl, B3.out.2⟩
theorem eq31_7 (i j : Ins) (r s : InsV) (w : World) (h : IsIns w i r) (h' : IsIns w j s) (hq0 : (i.op == j.op) = true) (hq1 : opEq i.dst j.dst = true) (hq2 : sameL opEq i.args j.args = true) (hq3 : (i.name.toList == j.name.toList) = true) (hq4 : (i.off == j.off) = true) (hq5 : sameL strEq i.labels j.labels = true) (hq6 : sameL intEq i.cases j.cases = true) :
    Calls Try.prog 31 #[.agg (insR i r), .agg (insR j s)] w fun e w' => e = .returned (.bool true) ∧ Below w.heap.size w w' := by
  have B0 : Below w.heap.size w ((w.alloc (.cells (insR i r) 51)).alloc (.cells (insR j s) 51)) := ((Below.refl _ w).alloc (Nat.le_refl _) _).alloc (by simp) _
  have hs : w.heap.size ≤ ((w.alloc (.cells (insR i r) 51)).alloc (.cells (insR j s) 51)).heap.size := by simp; omega
  have D := Lib.hid (And.intro (h.below B0) (And.intro (h'.below B0) (And.intro B0 (And.intro hs (box_two w (.cells (insR i r) 51) (.cells (insR j s) 51))))))
  clear h h' B0 hs
  obtain ⟨op, ⟨k, c, n, t⟩, args, name, off, labels, cases'⟩ := i
  obtain ⟨op', ⟨k', c', n', t'⟩, args', name', off', labels', cases''⟩ := j
  obtain ⟨aa, an, ac, la, ln, lc, ca, cn, cc⟩ := r
  obtain ⟨aa', an', ac', la', ln', lc', ca', cn', cc'⟩ := s
  unfold insR at D ⊢
  dsimp only at D ⊢
  dsimp only at hq0 hq1 hq2 hq3 hq4 hq5 hq6
  obtain rfl : op = op' := by simpa using hq0
  obtain rfl : off = off' := by simpa using hq4
  have E := eql44 k c n t k' c' n' t' true hq1
  clear hq1
  have e3 : name.toList = name'.toList := by simpa using hq3
  go_enter Try.func31, Try.ntmps31
  go_wp2_with fail
  refine (eq48_v _ _ _ _ _ _ _ _ _ (D.out.1.args) (D.out.2.1.args)).mono ?_
  rintro e w1 ⟨rfl, hb⟩
  rw [hq2]
  have B1 := Lib.hid (And.intro hb (D.out.2.2.1.trans (hb.mono D.out.2.2.2.1)))
  clear hb
  obtain ⟨l1, l2⟩ := D.out.2.2.2.2
  have m1 := kept_box l1 B1.out.1
  have m2 := kept_box l2 B1.out.1
  have z13 : w1.cell? ⟨w.heap.size, 6, none⟩ = some (.string name) := cell_in m1 6
  have y13 : w1.cell? ⟨w.heap.size + 1, 6, none⟩ = some (.string name') := cell_in m2 6
  have z14 : w1.cell? ⟨w.heap.size, 7, none⟩ = some (.int .i64 off) := cell_in m1 7
  have y14 : w1.cell? ⟨w.heap.size + 1, 7, none⟩ = some (.int .i64 off) := cell_in m2 7
  have z15 : w1.cell? ⟨w.heap.size, 8, none⟩ = some (.slice la ln lc) := cell_in m1 8
  have y15 : w1.cell? ⟨w.heap.size + 1, 8, none⟩ = some (.slice la' ln' lc') := cell_in m2 8
  have z16 : w1.cell? ⟨w.heap.size, 9, none⟩ = some (.slice ca cn cc) := cell_in m1 9
  have y16 : w1.cell? ⟨w.heap.size + 1, 9, none⟩ = some (.slice ca' cn' cc') := cell_in m2 9
  clear l1 l2 m1 m2
  go_wp2_with fail
  refine (eq63_v _ _ _ _ _ _ _ _ _ ((D.out.1.below (B1.out.1)).labels) ((D.out.2.1.below (B1.out.1)).labels)).mono ?_
  rintro e w2 ⟨rfl, hb⟩
  rw [hq5]
  have B2 := Lib.hid (And.intro (B1.out.1.trans (hb.mono B1.out.1.size)) (B1.out.2.trans (hb.mono B1.out.2.size)))
  clear hb
  obtain ⟨l1, l2⟩ := D.out.2.2.2.2
  have m1 := kept_box l1 B2.out.1
  have m2 := kept_box l2 B2.out.1
  have z26 : w2.cell? ⟨w.heap.size, 9, none⟩ = some (.slice ca cn cc) := cell_in m1 9
  have y26 : w2.cell? ⟨w.heap.size + 1, 9, none⟩ = some (.slice ca' cn' cc') := cell_in m2 9
  clear l1 l2 m1 m2
  go_wp2_with fail
  refine (eq33_v _ _ _ _ _ _ _ _ _ ((D.out.1.below (B2.out.1)).cases) ((D.out.2.1.below (B2.out.1)).cases)).mono ?_
  rintro e w3 ⟨rfl, hb⟩
  rw [hq6]
  have B3 := Lib.hid (And.intro (B2.out.1.trans (hb.mono B2.out.1.size)) (B2.out.2.trans (hb.mono B2.out.2.size)))
  clear hb
  go_wp2_with fail
  go_ret
  exact ⟨rfl, B3.out.2⟩
theorem eq31_v (i j : Ins) (r s : InsV) (w : World) (h : IsIns w i r) (h' : IsIns w j s) :
    Calls Try.prog 31 #[.agg (insR i r), .agg (insR j s)] w fun e w' => e = .returned (.bool (insEq i j)) ∧ Below w.heap.size w w' := by
  unfold insEq
  cases hq0 : i.op == j.op
  · exact eq31_0 i j r s w h h' hq0
  cases hq1 : opEq i.dst j.dst
  · exact eq31_1 i j r s w h h' hq0 hq1
  cases hq2 : sameL opEq i.args j.args
  · exact eq31_2 i j r s w h h' hq0 hq1 hq2
  cases hq3 : i.name.toList == j.name.toList
  · exact eq31_3 i j r s w h h' hq0 hq1 hq2 hq3
  cases hq4 : i.off == j.off
  · exact eq31_4 i j r s w h h' hq0 hq1 hq2 hq3 hq4
  cases hq5 : sameL strEq i.labels j.labels
  · exact eq31_5 i j r s w h h' hq0 hq1 hq2 hq3 hq4 hq5
  cases hq6 : sameL intEq i.cases j.cases
  · exact eq31_6 i j r s w h h' hq0 hq1 hq2 hq3 hq4 hq5 hq6
  · exact eq31_7 i j r s w h h' hq0 hq1 hq2 hq3 hq4 hq5 hq6
end Go.Proofs.Ytocelaebokikcaa
