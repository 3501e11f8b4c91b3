/- Packed texts of one proof. Conditions: none. -/
import Derived.Test.YtbpichjmkllfaaaGreatDoorPq42
namespace Go.Proofs.YtbpichjmkllfaaaGreatDoor
open Go.ChangeShapes Go.WideShapes Go.RowKit
set_option linter.unusedVariables false
set_option maxRecDepth 20000
theorem eq61_0 (i j : Ins) (r s : InsV) (w : World) (h : IsIns w i r) (h' : IsIns w j s) (hq0 : (i.op == j.op) = false) :
  Calls Tryz.prog 61 #[.agg (insR i r), .agg (insR j s)] w fun e w' => e = .returned (.bool false) ∧ Below w.heap.size w w' := by
 have B0 : Below w.heap.size w ((w.alloc (.cells (insR i r) 67)).alloc (.cells (insR j s) 67)) := ((Below.refl _ w).alloc (Nat.le_refl _) _).alloc (by simp) _
 have hs : w.heap.size ≤ ((w.alloc (.cells (insR i r) 67)).alloc (.cells (insR j s) 67)).heap.size := by simp; omega
 have D := Hh (Ai (h.below B0) (Ai (h'.below B0) (Ai B0 (Ai hs (box_two w (.cells (insR i r) 67) (.cells (insR j s) 67))))))
 clear h h' B0 hs
 obtain ⟨op, ⟨k, c, n, t⟩, args, name, off, labels, cases'⟩ := i
 obtain ⟨op', ⟨k', c', n', t'⟩, args', name', off', labels', cases''⟩ := j
 obtain ⟨aa, an, ac, la, ln, lc, ca, cn, cc⟩ := r
 obtain ⟨aa', an', ac', la', ln', lc', ca', cn', cc'⟩ := s
 unfold insR at D ⊢
 dsimp only at D ⊢
 dsimp only at hq0
 have e0 : ¬ op = op' := by simpa using hq0
 go_enter Tryz.func61, Tryz.ntmps61
 go_wp2_with fail
 go_ret
 exact ⟨rfl, D.out.2.2.1⟩
theorem eq61_1 (i j : Ins) (r s : InsV) (w : World) (h : IsIns w i r) (h' : IsIns w j s) (hq0 : (i.op == j.op) = true) (hq1 : opEq i.dst j.dst = false) :
  Calls Tryz.prog 61 #[.agg (insR i r), .agg (insR j s)] w fun e w' => e = .returned (.bool false) ∧ Below w.heap.size w w' := by
 have B0 : Below w.heap.size w ((w.alloc (.cells (insR i r) 67)).alloc (.cells (insR j s) 67)) := ((Below.refl _ w).alloc (Nat.le_refl _) _).alloc (by simp) _
 have hs : w.heap.size ≤ ((w.alloc (.cells (insR i r) 67)).alloc (.cells (insR j s) 67)).heap.size := by simp; omega
 have D := Hh (Ai (h.below B0) (Ai (h'.below B0) (Ai B0 (Ai hs (box_two w (.cells (insR i r) 67) (.cells (insR j s) 67))))))
 clear h h' B0 hs
 obtain ⟨op, ⟨k, c, n, t⟩, args, name, off, labels, cases'⟩ := i
 obtain ⟨op', ⟨k', c', n', t'⟩, args', name', off', labels', cases''⟩ := j
 obtain ⟨aa, an, ac, la, ln, lc, ca, cn, cc⟩ := r
 obtain ⟨aa', an', ac', la', ln', lc', ca', cn', cc'⟩ := s
 unfold insR at D ⊢
 dsimp only at D ⊢
 dsimp only at hq0 hq1
 obtain rfl : op = op' := by simpa using hq0
 have E := eql64 k c n t k' c' n' t' false hq1
 clear hq1
 go_enter Tryz.func61, Tryz.ntmps61
 go_wp2_with fail
 go_ret
 exact ⟨rfl, D.out.2.2.1⟩
theorem eq61_2 (i j : Ins) (r s : InsV) (w : World) (h : IsIns w i r) (h' : IsIns w j s) (hq0 : (i.op == j.op) = true) (hq1 : opEq i.dst j.dst = true) (hq2 : sameL opEq i.args j.args = false) :
  Calls Tryz.prog 61 #[.agg (insR i r), .agg (insR j s)] w fun e w' => e = .returned (.bool false) ∧ Below w.heap.size w w' := by
 have B0 : Below w.heap.size w ((w.alloc (.cells (insR i r) 67)).alloc (.cells (insR j s) 67)) := ((Below.refl _ w).alloc (Nat.le_refl _) _).alloc (by simp) _
 have hs : w.heap.size ≤ ((w.alloc (.cells (insR i r) 67)).alloc (.cells (insR j s) 67)).heap.size := by simp; omega
 have D := Hh (Ai (h.below B0) (Ai (h'.below B0) (Ai B0 (Ai hs (box_two w (.cells (insR i r) 67) (.cells (insR j s) 67))))))
 clear h h' B0 hs
 obtain ⟨op, ⟨k, c, n, t⟩, args, name, off, labels, cases'⟩ := i
 obtain ⟨op', ⟨k', c', n', t'⟩, args', name', off', labels', cases''⟩ := j
 obtain ⟨aa, an, ac, la, ln, lc, ca, cn, cc⟩ := r
 obtain ⟨aa', an', ac', la', ln', lc', ca', cn', cc'⟩ := s
 unfold insR at D ⊢
 dsimp only at D ⊢
 dsimp only at hq0 hq1 hq2
 obtain rfl : op = op' := by simpa using hq0
 have E := eql64 k c n t k' c' n' t' true hq1
 clear hq1
 go_enter Tryz.func61, Tryz.ntmps61
 go_wp2_with fail
 refine (eq29_v _ _ _ _ _ _ _ _ _ (D.out.1.args) (D.out.2.1.args)).mono ?_
 rintro e w1 ⟨rfl, hb⟩
 rw [hq2]
 have B1 := Hh (Ai hb (D.out.2.2.1.trans (hb.mono D.out.2.2.2.1)))
 clear hb
 go_wp2_with fail
 go_ret
 exact ⟨rfl, B1.out.2⟩
theorem eq61_3 (i j : Ins) (r s : InsV) (w : World) (h : IsIns w i r) (h' : IsIns w j s) (hq0 : (i.op == j.op) = true) (hq1 : opEq i.dst j.dst = true) (hq2 : sameL opEq i.args j.args = true) (hq3 : (i.name.toList == j.name.toList) = false) :
  Calls Tryz.prog 61 #[.agg (insR i r), .agg (insR j s)] w fun e w' => e = .returned (.bool false) ∧ Below w.heap.size w w' := by
 have B0 : Below w.heap.size w ((w.alloc (.cells (insR i r) 67)).alloc (.cells (insR j s) 67)) := ((Below.refl _ w).alloc (Nat.le_refl _) _).alloc (by simp) _
 have hs : w.heap.size ≤ ((w.alloc (.cells (insR i r) 67)).alloc (.cells (insR j s) 67)).heap.size := by simp; omega
 have D := Hh (Ai (h.below B0) (Ai (h'.below B0) (Ai B0 (Ai hs (box_two w (.cells (insR i r) 67) (.cells (insR j s) 67))))))
 clear h h' B0 hs
 obtain ⟨op, ⟨k, c, n, t⟩, args, name, off, labels, cases'⟩ := i
 obtain ⟨op', ⟨k', c', n', t'⟩, args', name', off', labels', cases''⟩ := j
 obtain ⟨aa, an, ac, la, ln, lc, ca, cn, cc⟩ := r
 obtain ⟨aa', an', ac', la', ln', lc', ca', cn', cc'⟩ := s
 unfold insR at D ⊢
 dsimp only at D ⊢
 dsimp only at hq0 hq1 hq2 hq3
 obtain rfl : op = op' := by simpa using hq0
 have E := eql64 k c n t k' c' n' t' true hq1
 clear hq1
 have e3 : ¬ name.toList = name'.toList := by simpa using hq3
 go_enter Tryz.func61, Tryz.ntmps61
 go_wp2_with fail
 refine (eq29_v _ _ _ _ _ _ _ _ _ (D.out.1.args) (D.out.2.1.args)).mono ?_
 rintro e w1 ⟨rfl, hb⟩
 rw [hq2]
 have B1 := Hh (Ai hb (D.out.2.2.1.trans (hb.mono D.out.2.2.2.1)))
 clear hb
 obtain ⟨l1, l2⟩ := D.out.2.2.2.2
 have m1 := kept_box l1 B1.out.1
 have m2 := kept_box l2 B1.out.1
 have z13 : w1.cell? ⟨w.heap.size, 6, none⟩ = some (.string name) := cell_in m1 6
 have y13 : w1.cell? ⟨w.heap.size + 1, 6, none⟩ = some (.string name') := cell_in m2 6
 clear l1 l2 m1 m2
 go_wp2_with fail
 go_ret
 exact ⟨rfl, B1.out.2⟩
theorem eq61_4 (i j : Ins) (r s : InsV) (w : World) (h : IsIns w i r) (h' : IsIns w j s) (hq0 : (i.op == j.op) = true) (hq1 : opEq i.dst j.dst = true) (hq2 : sameL opEq i.args j.args = true) (hq3 : (i.name.toList == j.name.toList) = true) (hq4 : (i.off == j.off) = false) :
  Calls Tryz.prog 61 #[.agg (insR i r), .agg (insR j s)] w fun e w' => e = .returned (.bool false) ∧ Below w.heap.size w w' := by
 have B0 : Below w.heap.size w ((w.alloc (.cells (insR i r) 67)).alloc (.cells (insR j s) 67)) := ((Below.refl _ w).alloc (Nat.le_refl _) _).alloc (by simp) _
 have hs : w.heap.size ≤ ((w.alloc (.cells (insR i r) 67)).alloc (.cells (insR j s) 67)).heap.size := by simp; omega
 have D := Hh (Ai (h.below B0) (Ai (h'.below B0) (Ai B0 (Ai hs (box_two w (.cells (insR i r) 67) (.cells (insR j s) 67))))))
 clear h h' B0 hs
 obtain ⟨op, ⟨k, c, n, t⟩, args, name, off, labels, cases'⟩ := i
 obtain ⟨op', ⟨k', c', n', t'⟩, args', name', off', labels', cases''⟩ := j
 obtain ⟨aa, an, ac, la, ln, lc, ca, cn, cc⟩ := r
 obtain ⟨aa', an', ac', la', ln', lc', ca', cn', cc'⟩ := s
 unfold insR at D ⊢
 dsimp only at D ⊢
 dsimp only at hq0 hq1 hq2 hq3 hq4
 obtain rfl : op = op' := by simpa using hq0
 have e4 : ¬ off = off' := by simpa using hq4
 have E := eql64 k c n t k' c' n' t' true hq1
 clear hq1
 have e3 : name.toList = name'.toList := by simpa using hq3
 go_enter Tryz.func61, Tryz.ntmps61
 go_wp2_with fail
 refine (eq29_v _ _ _ _ _ _ _ _ _ (D.out.1.args) (D.out.2.1.args)).mono ?_
 rintro e w1 ⟨rfl, hb⟩
 rw [hq2]
 have B1 := Hh (Ai hb (D.out.2.2.1.trans (hb.mono D.out.2.2.2.1)))
 clear hb
 obtain ⟨l1, l2⟩ := D.out.2.2.2.2
 have m1 := kept_box l1 B1.out.1
 have m2 := kept_box l2 B1.out.1
 have z13 : w1.cell? ⟨w.heap.size, 6, none⟩ = some (.string name) := cell_in m1 6
 have y13 : w1.cell? ⟨w.heap.size + 1, 6, none⟩ = some (.string name') := cell_in m2 6
 have z14 : w1.cell? ⟨w.heap.size, 7, none⟩ = some (.int .i64 off) := cell_in m1 7
 have y14 : w1.cell? ⟨w.heap.size + 1, 7, none⟩ = some (.int .i64 off') := cell_in m2 7
 clear l1 l2 m1 m2
 go_wp2_with fail
 go_ret
 exact ⟨rfl, B1.out.2⟩
theorem eq61_5 (i j : Ins) (r s : InsV) (w : World) (h : IsIns w i r) (h' : IsIns w j s) (hq0 : (i.op == j.op) = true) (hq1 : opEq i.dst j.dst = true) (hq2 : sameL opEq i.args j.args = true) (hq3 : (i.name.toList == j.name.toList) = true) (hq4 : (i.off == j.off) = true) (hq5 : sameL strEq i.labels j.labels = false) :
  Calls Tryz.prog 61 #[.agg (insR i r), .agg (insR j s)] w fun e w' => e = .returned (.bool false) ∧ Below w.heap.size w w' := by
 have B0 : Below w.heap.size w ((w.alloc (.cells (insR i r) 67)).alloc (.cells (insR j s) 67)) := ((Below.refl _ w).alloc (Nat.le_refl _) _).alloc (by simp) _
 have hs : w.heap.size ≤ ((w.alloc (.cells (insR i r) 67)).alloc (.cells (insR j s) 67)).heap.size := by simp; omega
 have D := Hh (Ai (h.below B0) (Ai (h'.below B0) (Ai B0 (Ai hs (box_two w (.cells (insR i r) 67) (.cells (insR j s) 67))))))
 clear h h' B0 hs
 obtain ⟨op, ⟨k, c, n, t⟩, args, name, off, labels, cases'⟩ := i
 obtain ⟨op', ⟨k', c', n', t'⟩, args', name', off', labels', cases''⟩ := j
 obtain ⟨aa, an, ac, la, ln, lc, ca, cn, cc⟩ := r
 obtain ⟨aa', an', ac', la', ln', lc', ca', cn', cc'⟩ := s
 unfold insR at D ⊢
 dsimp only at D ⊢
 dsimp only at hq0 hq1 hq2 hq3 hq4 hq5
 obtain rfl : op = op' := by simpa using hq0
 obtain rfl : off = off' := by simpa using hq4
 have E := eql64 k c n t k' c' n' t' true hq1
 clear hq1
 have e3 : name.toList = name'.toList := by simpa using hq3
 go_enter Tryz.func61, Tryz.ntmps61
 go_wp2_with fail
 refine (eq29_v _ _ _ _ _ _ _ _ _ (D.out.1.args) (D.out.2.1.args)).mono ?_
 rintro e w1 ⟨rfl, hb⟩
 rw [hq2]
 have B1 := Hh (Ai hb (D.out.2.2.1.trans (hb.mono D.out.2.2.2.1)))
 clear hb
 obtain ⟨l1, l2⟩ := D.out.2.2.2.2
 have m1 := kept_box l1 B1.out.1
 have m2 := kept_box l2 B1.out.1
 have z13 : w1.cell? ⟨w.heap.size, 6, none⟩ = some (.string name) := cell_in m1 6
 have y13 : w1.cell? ⟨w.heap.size + 1, 6, none⟩ = some (.string name') := cell_in m2 6
 have z14 : w1.cell? ⟨w.heap.size, 7, none⟩ = some (.int .i64 off) := cell_in m1 7
 have y14 : w1.cell? ⟨w.heap.size + 1, 7, none⟩ = some (.int .i64 off) := cell_in m2 7
 have z15 : w1.cell? ⟨w.heap.size, 8, none⟩ = some (.slice la ln lc) := cell_in m1 8
 have y15 : w1.cell? ⟨w.heap.size + 1, 8, none⟩ = some (.slice la' ln' lc') := cell_in m2 8
 clear l1 l2 m1 m2
 go_wp2_with fail
 refine (eq105_v _ _ _ _ _ _ _ _ _ ((D.out.1.below (B1.out.1)).labels) ((D.out.2.1.below (B1.out.1)).labels)).mono ?_
 rintro e w2 ⟨rfl, hb⟩
 rw [hq5]
 have B2 := Hh (Ai (B1.out.1.trans (hb.mono B1.out.1.size)) (B1.out.2.trans (hb.mono B1.out.2.size)))
 clear hb
 go_wp2_with fail
 go_ret
 exact ⟨rfl, B2.out.2⟩
theorem eq61_6 (i j : Ins) (r s : InsV) (w : World) (h : IsIns w i r) (h' : IsIns w j s) (hq0 : (i.op == j.op) = true) (hq1 : opEq i.dst j.dst = true) (hq2 : sameL opEq i.args j.args = true) (hq3 : (i.name.toList == j.name.toList) = true) (hq4 : (i.off == j.off) = true) (hq5 : sameL strEq i.labels j.labels = true) (hq6 : sameL intEq i.cases j.cases = false) :
  Calls Tryz.prog 61 #[.agg (insR i r), .agg (insR j s)] w fun e w' => e = .returned (.bool false) ∧ Below w.heap.size w w' := by
 have B0 : Below w.heap.size w ((w.alloc (.cells (insR i r) 67)).alloc (.cells (insR j s) 67)) := ((Below.refl _ w).alloc (Nat.le_refl _) _).alloc (by simp) _
 have hs : w.heap.size ≤ ((w.alloc (.cells (insR i r) 67)).alloc (.cells (insR j s) 67)).heap.size := by simp; omega
 have D := Hh (Ai (h.below B0) (Ai (h'.below B0) (Ai B0 (Ai hs (box_two w (.cells (insR i r) 67) (.cells (insR j s) 67))))))
 clear h h' B0 hs
 obtain ⟨op, ⟨k, c, n, t⟩, args, name, off, labels, cases'⟩ := i
 obtain ⟨op', ⟨k', c', n', t'⟩, args', name', off', labels', cases''⟩ := j
 obtain ⟨aa, an, ac, la, ln, lc, ca, cn, cc⟩ := r
 obtain ⟨aa', an', ac', la', ln', lc', ca', cn', cc'⟩ := s
 unfold insR at D ⊢
 dsimp only at D ⊢
 dsimp only at hq0 hq1 hq2 hq3 hq4 hq5 hq6
 obtain rfl : op = op' := by simpa using hq0
 obtain rfl : off = off' := by simpa using hq4
 have E := eql64 k c n t k' c' n' t' true hq1
 clear hq1
 have e3 : name.toList = name'.toList := by simpa using hq3
 go_enter Tryz.func61, Tryz.ntmps61
 go_wp2_with fail
 refine (eq29_v _ _ _ _ _ _ _ _ _ (D.out.1.args) (D.out.2.1.args)).mono ?_
 rintro e w1 ⟨rfl, hb⟩
 rw [hq2]
 have B1 := Hh (Ai hb (D.out.2.2.1.trans (hb.mono D.out.2.2.2.1)))
 clear hb
 obtain ⟨l1, l2⟩ := D.out.2.2.2.2
 have m1 := kept_box l1 B1.out.1
 have m2 := kept_box l2 B1.out.1
 have z13 : w1.cell? ⟨w.heap.size, 6, none⟩ = some (.string name) := cell_in m1 6
 have y13 : w1.cell? ⟨w.heap.size + 1, 6, none⟩ = some (.string name') := cell_in m2 6
 have z14 : w1.cell? ⟨w.heap.size, 7, none⟩ = some (.int .i64 off) := cell_in m1 7
 have y14 : w1.cell? ⟨w.heap.size + 1, 7, none⟩ = some (.int .i64 off) := cell_in m2 7
 have z15 : w1.cell? ⟨w.heap.size, 8, none⟩ = some (.slice la ln lc) := cell_in m1 8
 have y15 : w1.cell? ⟨w.heap.size + 1, 8, none⟩ = some (.slice la' ln' lc') := cell_in m2 8
 have z16 : w1.cell? ⟨w.heap.size, 9, none⟩ = some (.slice ca cn cc) := cell_in m1 9
 have y16 : w1.cell? ⟨w.heap.size + 1, 9, none⟩ = some (.slice ca' cn' cc') := cell_in m2 9
 clear l1 l2 m1 m2
 go_wp2_with fail
 refine (eq105_v _ _ _ _ _ _ _ _ _ ((D.out.1.below (B1.out.1)).labels) ((D.out.2.1.below (B1.out.1)).labels)).mono ?_
 rintro e w2 ⟨rfl, hb⟩
 rw [hq5]
 have B2 := Hh (Ai (B1.out.1.trans (hb.mono B1.out.1.size)) (B1.out.2.trans (hb.mono B1.out.2.size)))
 clear hb
 obtain ⟨l1, l2⟩ := D.out.2.2.2.2
 have m1 := kept_box l1 B2.out.1
 have m2 := kept_box l2 B2.out.1
 have z26 : w2.cell? ⟨w.heap.size, 9, none⟩ = some (.slice ca cn cc) := cell_in m1 9
 have y26 : w2.cell? ⟨w.heap.size + 1, 9, none⟩ = some (.slice ca' cn' cc') := cell_in m2 9
 clear l1 l2 m1 m2
 go_wp2_with fail
 refine (eq106_v _ _ _ _ _ _ _ _ _ ((D.out.1.below (B2.out.1)).cases) ((D.out.2.1.below (B2.out.1)).cases)).mono ?_
 rintro e w3 ⟨rfl, hb⟩
 rw [hq6]
 have B3 := Hh (Ai (B2.out.1.trans (hb.mono B2.out.1.size)) (B2.out.2.trans (hb.mono B2.out.2.size)))
 clear hb
 go_wp2_with fail
 go_ret
 exact ⟨rfl, B3.out.2⟩
theorem eq61_7 (i j : Ins) (r s : InsV) (w : World) (h : IsIns w i r) (h' : IsIns w j s) (hq0 : (i.op == j.op) = true) (hq1 : opEq i.dst j.dst = true) (hq2 : sameL opEq i.args j.args = true) (hq3 : (i.name.toList == j.name.toList) = true) (hq4 : (i.off == j.off) = true) (hq5 : sameL strEq i.labels j.labels = true) (hq6 : sameL intEq i.cases j.cases = true) :
  Calls Tryz.prog 61 #[.agg (insR i r), .agg (insR j s)] w fun e w' => e = .returned (.bool true) ∧ Below w.heap.size w w' := by
 have B0 : Below w.heap.size w ((w.alloc (.cells (insR i r) 67)).alloc (.cells (insR j s) 67)) := ((Below.refl _ w).alloc (Nat.le_refl _) _).alloc (by simp) _
 have hs : w.heap.size ≤ ((w.alloc (.cells (insR i r) 67)).alloc (.cells (insR j s) 67)).heap.size := by simp; omega
 have D := Hh (Ai (h.below B0) (Ai (h'.below B0) (Ai B0 (Ai hs (box_two w (.cells (insR i r) 67) (.cells (insR j s) 67))))))
 clear h h' B0 hs
 obtain ⟨op, ⟨k, c, n, t⟩, args, name, off, labels, cases'⟩ := i
 obtain ⟨op', ⟨k', c', n', t'⟩, args', name', off', labels', cases''⟩ := j
 obtain ⟨aa, an, ac, la, ln, lc, ca, cn, cc⟩ := r
 obtain ⟨aa', an', ac', la', ln', lc', ca', cn', cc'⟩ := s
 unfold insR at D ⊢
 dsimp only at D ⊢
 dsimp only at hq0 hq1 hq2 hq3 hq4 hq5 hq6
 obtain rfl : op = op' := by simpa using hq0
 obtain rfl : off = off' := by simpa using hq4
 have E := eql64 k c n t k' c' n' t' true hq1
 clear hq1
 have e3 : name.toList = name'.toList := by simpa using hq3
 go_enter Tryz.func61, Tryz.ntmps61
 go_wp2_with fail
 refine (eq29_v _ _ _ _ _ _ _ _ _ (D.out.1.args) (D.out.2.1.args)).mono ?_
 rintro e w1 ⟨rfl, hb⟩
 rw [hq2]
 have B1 := Hh (Ai hb (D.out.2.2.1.trans (hb.mono D.out.2.2.2.1)))
 clear hb
 obtain ⟨l1, l2⟩ := D.out.2.2.2.2
 have m1 := kept_box l1 B1.out.1
 have m2 := kept_box l2 B1.out.1
 have z13 : w1.cell? ⟨w.heap.size, 6, none⟩ = some (.string name) := cell_in m1 6
 have y13 : w1.cell? ⟨w.heap.size + 1, 6, none⟩ = some (.string name') := cell_in m2 6
 have z14 : w1.cell? ⟨w.heap.size, 7, none⟩ = some (.int .i64 off) := cell_in m1 7
 have y14 : w1.cell? ⟨w.heap.size + 1, 7, none⟩ = some (.int .i64 off) := cell_in m2 7
 have z15 : w1.cell? ⟨w.heap.size, 8, none⟩ = some (.slice la ln lc) := cell_in m1 8
 have y15 : w1.cell? ⟨w.heap.size + 1, 8, none⟩ = some (.slice la' ln' lc') := cell_in m2 8
 have z16 : w1.cell? ⟨w.heap.size, 9, none⟩ = some (.slice ca cn cc) := cell_in m1 9
 have y16 : w1.cell? ⟨w.heap.size + 1, 9, none⟩ = some (.slice ca' cn' cc') := cell_in m2 9
 clear l1 l2 m1 m2
 go_wp2_with fail
 refine (eq105_v _ _ _ _ _ _ _ _ _ ((D.out.1.below (B1.out.1)).labels) ((D.out.2.1.below (B1.out.1)).labels)).mono ?_
 rintro e w2 ⟨rfl, hb⟩
 rw [hq5]
 have B2 := Hh (Ai (B1.out.1.trans (hb.mono B1.out.1.size)) (B1.out.2.trans (hb.mono B1.out.2.size)))
 clear hb
 obtain ⟨l1, l2⟩ := D.out.2.2.2.2
 have m1 := kept_box l1 B2.out.1
 have m2 := kept_box l2 B2.out.1
 have z26 : w2.cell? ⟨w.heap.size, 9, none⟩ = some (.slice ca cn cc) := cell_in m1 9
 have y26 : w2.cell? ⟨w.heap.size + 1, 9, none⟩ = some (.slice ca' cn' cc') := cell_in m2 9
 clear l1 l2 m1 m2
 go_wp2_with fail
 refine (eq106_v _ _ _ _ _ _ _ _ _ ((D.out.1.below (B2.out.1)).cases) ((D.out.2.1.below (B2.out.1)).cases)).mono ?_
 rintro e w3 ⟨rfl, hb⟩
 rw [hq6]
 have B3 := Hh (Ai (B2.out.1.trans (hb.mono B2.out.1.size)) (B2.out.2.trans (hb.mono B2.out.2.size)))
 clear hb
 go_wp2_with fail
 go_ret
 exact ⟨rfl, B3.out.2⟩
theorem eq61_v (i j : Ins) (r s : InsV) (w : World) (h : IsIns w i r) (h' : IsIns w j s) :
  Calls Tryz.prog 61 #[.agg (insR i r), .agg (insR j s)] w fun e w' => e = .returned (.bool (insEq i j)) ∧ Below w.heap.size w w' := by
 unfold insEq
 cases hq0 : i.op == j.op
 ·exact eq61_0 i j r s w h h' hq0
 cases hq1 : opEq i.dst j.dst
 ·exact eq61_1 i j r s w h h' hq0 hq1
 cases hq2 : sameL opEq i.args j.args
 ·exact eq61_2 i j r s w h h' hq0 hq1 hq2
 cases hq3 : i.name.toList == j.name.toList
 ·exact eq61_3 i j r s w h h' hq0 hq1 hq2 hq3
 cases hq4 : i.off == j.off
 ·exact eq61_4 i j r s w h h' hq0 hq1 hq2 hq3 hq4
 cases hq5 : sameL strEq i.labels j.labels
 ·exact eq61_5 i j r s w h h' hq0 hq1 hq2 hq3 hq4 hq5
 cases hq6 : sameL intEq i.cases j.cases
 ·exact eq61_6 i j r s w h h' hq0 hq1 hq2 hq3 hq4 hq5 hq6
 ·exact eq61_7 i j r s w h h' hq0 hq1 hq2 hq3 hq4 hq5 hq6
set_option maxHeartbeats 2000000 in
theorem eq30_v (A A' : Option Addr) (n n' c c' : Nat) (R R' : Nat → InsV) (l l' : List Ins) (w : World) (h : IsCode w A n R l) (h' : IsCode w A' n' R' l') :
  Calls Tryz.prog 30 #[.slice A n c, .slice A' n' c'] w fun e w' => e = .returned (.bool (sameL insEq l l')) ∧ Below w.heap.size w w' := by
 have hl := h.1
 have hl' := h'.1
 have hm := h.2.1
 by_cases hn : ¬ n = n'
 ·rw [sameL_len insEq l l' (by omega)]
  have i1 : ¬ (n : Int) = (n' : Int) := by omega
  clear h h' hl hl'
  go_enter Tryz.func30, Tryz.ntmps30
  go_wp2_with fail
  go_ret
  exact ⟨rfl, Below.refl _ _⟩
 have hn := Decidable.not_not.1 hn
 subst hn
 have H0 := Hh (Ai h (Ai h' (Ai hl hl')))
 clear h h' hl hl'
 go_enter Tryz.func30, Tryz.ntmps30
 go_wp2_with fail
 go_loopg [5] n (fun gk u wr => ∃ k : Nat, k + gk = n ∧ u = .int .i64 (k : Int) ∧ Hid (Below w.heap.size w wr ∧ ∀ (j : Nat) (x y : Ins), j < k → l[j]? = some x → l'[j]? = some y → insEq x y = true))
 case atStart => exact ⟨0, by omega, rfl, Below.refl _ _, fun j x y hj => by omega⟩
 case round =>
  obtain ⟨k, hk, rfl, HH⟩ := hrel
  by_cases hlt : k < n
  ·obtain ⟨h, h', hl, hl'⟩ := H0.out
   obtain ⟨b, o, rfl, hb, x, hx, hix, c0, c1, c2, c3, c4, c5, c6, c7, c8, c9⟩ := (h.below HH.out.1).at hlt
   obtain ⟨b', o', rfl, hb', y, hy, hiy, d0, d1, d2, d3, d4, d5, d6, d7, d8, d9⟩ := (h'.below HH.out.1).at hlt
   have i1 : (k : Int) < (n : Int) := by omega
   have B0 : Below wr.heap.size wr wr.drew := (Below.refl _ wr).drew
   have hs : w.heap.size ≤ wr.drew.heap.size := by have := HH.out.1.size; exact this
   cases hq : insEq x y
   ·have HX := Hh (sameL_no insEq l l' k x y hx hy hq)
    clear h h' hl hl' hx hy
    have D := Hh (Ai (hix.below B0) (Ai (hiy.below B0) (Ai (HH.out.1.trans (B0.mono HH.out.1.size)) hs)))
    clear hix hiy B0 hs
    generalize R k = r at D c0 c1 c2 c3 c4 c5 c6 c7 c8 c9
    generalize R' k = r' at D d0 d1 d2 d3 d4 d5 d6 d7 d8 d9
    have HQ := Hh hq
    clear hq
    obtain ⟨op, ⟨ok, oc, on, ot⟩, args, name, off, labels, cas⟩ := x
    obtain ⟨op', ⟨ok', oc', on', ot'⟩, args', name', off', labels', cas'⟩ := y
    obtain ⟨aa, an, ac, la, ln, lc, ca, cn, cc⟩ := r
    obtain ⟨aa', an', ac', la', ln', lc', ca', cn', cc'⟩ := r'
    dsimp only at c0 c1 c2 c3 c4 c5 c6 c7 c8 c9 d0 d1 d2 d3 d4 d5 d6 d7 d8 d9
    go_wp2_with fail
    go_still_tail 8, (by kernel_rfl)
    go_wp2_with fail
    refine (eq61_v _ _ _ _ _ D.out.1 D.out.2.1).mono ?_
    rintro e w1 ⟨rfl, hb⟩
    rw [HQ.out]
    have B1 := Hh (D.out.2.2.1.trans (hb.mono D.out.2.2.2))
    clear hb
    go_wp2_with fail
    go_ret
    exact ⟨by rw [HX.out]; rfl, B1.out⟩
   ·have RR : Hid (∀ (j : Nat) (x y : Ins), j < k + 1 → l[j]? = some x → l'[j]? = some y → insEq x y = true) := Hh (fun j x2 y2 hj h2 h3 => by
     rcases Nat.lt_or_ge j k with h4 | h4
     ·exact HH.out.2 j x2 y2 h4 h2 h3
     ·obtain rfl : j = k := by omega
      rw [hx] at h2; injection h2 with h2; rw [hy] at h3; injection h3 with h3
      subst h2 h3; exact hq)
    clear h h' hl hl' hx hy
    have D := Hh (Ai (hix.below B0) (Ai (hiy.below B0) (Ai (HH.out.1.trans (B0.mono HH.out.1.size)) hs)))
    clear hix hiy B0 hs
    generalize R k = r at D c0 c1 c2 c3 c4 c5 c6 c7 c8 c9
    generalize R' k = r' at D d0 d1 d2 d3 d4 d5 d6 d7 d8 d9
    have HQ := Hh hq
    clear hq
    obtain ⟨op, ⟨ok, oc, on, ot⟩, args, name, off, labels, cas⟩ := x
    obtain ⟨op', ⟨ok', oc', on', ot'⟩, args', name', off', labels', cas'⟩ := y
    obtain ⟨aa, an, ac, la, ln, lc, ca, cn, cc⟩ := r
    obtain ⟨aa', an', ac', la', ln', lc', ca', cn', cc'⟩ := r'
    dsimp only at c0 c1 c2 c3 c4 c5 c6 c7 c8 c9 d0 d1 d2 d3 d4 d5 d6 d7 d8 d9
    go_wp2_with fail
    go_still_tail 8, (by kernel_rfl)
    go_wp2_with fail
    refine (eq61_v _ _ _ _ _ D.out.1 D.out.2.1).mono ?_
    rintro e w1 ⟨rfl, hb⟩
    rw [HQ.out]
    have B1 := Hh (D.out.2.2.1.trans (hb.mono D.out.2.2.2))
    clear hb
    go_wp2_with fail
    go_roundg (gk - 1)
    case measure => omega
    case rel => exact ⟨k + 1, by omega, by go_num, B1.out, RR.out⟩
  ·obtain rfl : k = n := by omega
   have hge : ¬ (k : Int) < (k : Int) := by omega
   have HX := Hh (sameL_yes insEq l l' (by rw [H0.out.2.2.1, H0.out.2.2.2]) (fun j x y hx hy => HH.out.2 j x y (by
    have := (List.getElem?_eq_some_iff.1 hx).1; have := H0.out.2.2.1; omega) hx hy))
   go_wp2_with fail
   go_ret
   exact ⟨by rw [HX.out]; rfl, HH.out.1⟩
end Go.Proofs.YtbpichjmkllfaaaGreatDoor
