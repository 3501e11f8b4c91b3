/- Two functions held against each other. -/
import Derived.Test.YtocelaebokikcaaBlocks
namespace Go.Proofs.Ytocelaebokikcaa
open Go.ChangeShapes Go.WideShapes Go.RowKit
set_option linter.unusedVariables false

theorem eq11_0 (i j : Fun) (r s : FunV) (w : World) (h : IsFun w i r) (h' : IsFun w j s) (hq0 : (i.machine == j.machine) = false) :
    Calls Try.prog 11 #[.agg (funR i r), .agg (funR j s)] w fun e w' => e = .returned (.bool false) ∧ Below w.heap.size w w' := by
  have B0 : Below w.heap.size w ((w.alloc (.cells (funR i r) 31)).alloc (.cells (funR j s) 31)) := ((Below.refl _ w).alloc (Nat.le_refl _) _).alloc (by simp) _
  have hs : w.heap.size ≤ ((w.alloc (.cells (funR i r) 31)).alloc (.cells (funR j s) 31)).heap.size := by simp; omega
  have D := Lib.hid (And.intro (h.below B0) (And.intro (h'.below B0) (And.intro B0 (And.intro hs (box_two w (.cells (funR i r) 31) (.cells (funR j s) 31))))))
  clear h h' B0 hs
  obtain ⟨machine, name, regs, params, blocks⟩ := i
  obtain ⟨machine', name', regs', params', blocks'⟩ := j
  obtain ⟨ra, rn, rc, pa, pn, pc, ba, bn, bc, rr⟩ := r
  obtain ⟨ra', rn', rc', pa', pn', pc', ba', bn', bc', rr'⟩ := s
  unfold funR at D ⊢
  dsimp only at D ⊢
  dsimp only at hq0
  have e0 : (machine == machine') = false := hq0
  have e0' : ¬ machine = machine' := by simpa using hq0
  go_enter Try.func11, Try.ntmps11
  go_wp2_with fail
  go_ret
  exact ⟨rfl, D.out.2.2.1⟩
theorem eq11_1 (i j : Fun) (r s : FunV) (w : World) (h : IsFun w i r) (h' : IsFun w j s) (hq0 : (i.machine == j.machine) = true) (hq1 : (i.name.toList == j.name.toList) = false) :
    Calls Try.prog 11 #[.agg (funR i r), .agg (funR j s)] w fun e w' => e = .returned (.bool false) ∧ Below w.heap.size w w' := by
  have B0 : Below w.heap.size w ((w.alloc (.cells (funR i r) 31)).alloc (.cells (funR j s) 31)) := ((Below.refl _ w).alloc (Nat.le_refl _) _).alloc (by simp) _
  have hs : w.heap.size ≤ ((w.alloc (.cells (funR i r) 31)).alloc (.cells (funR j s) 31)).heap.size := by simp; omega
  have D := Lib.hid (And.intro (h.below B0) (And.intro (h'.below B0) (And.intro B0 (And.intro hs (box_two w (.cells (funR i r) 31) (.cells (funR j s) 31))))))
  clear h h' B0 hs
  obtain ⟨machine, name, regs, params, blocks⟩ := i
  obtain ⟨machine', name', regs', params', blocks'⟩ := j
  obtain ⟨ra, rn, rc, pa, pn, pc, ba, bn, bc, rr⟩ := r
  obtain ⟨ra', rn', rc', pa', pn', pc', ba', bn', bc', rr'⟩ := s
  unfold funR at D ⊢
  dsimp only at D ⊢
  dsimp only at hq0 hq1
  obtain rfl : machine = machine' := by simpa using hq0
  have e1 : ¬ name.toList = name'.toList := by simpa using hq1
  go_enter Try.func11, Try.ntmps11
  go_wp2_with fail
  go_ret
  exact ⟨rfl, D.out.2.2.1⟩
theorem eq11_2 (i j : Fun) (r s : FunV) (w : World) (h : IsFun w i r) (h' : IsFun w j s) (hq0 : (i.machine == j.machine) = true) (hq1 : (i.name.toList == j.name.toList) = true) (hq2 : (sameL rgEq i.regs j.regs) = false) :
    Calls Try.prog 11 #[.agg (funR i r), .agg (funR j s)] w fun e w' => e = .returned (.bool false) ∧ Below w.heap.size w w' := by
  have B0 : Below w.heap.size w ((w.alloc (.cells (funR i r) 31)).alloc (.cells (funR j s) 31)) := ((Below.refl _ w).alloc (Nat.le_refl _) _).alloc (by simp) _
  have hs : w.heap.size ≤ ((w.alloc (.cells (funR i r) 31)).alloc (.cells (funR j s) 31)).heap.size := by simp; omega
  have D := Lib.hid (And.intro (h.below B0) (And.intro (h'.below B0) (And.intro B0 (And.intro hs (box_two w (.cells (funR i r) 31) (.cells (funR j s) 31))))))
  clear h h' B0 hs
  obtain ⟨machine, name, regs, params, blocks⟩ := i
  obtain ⟨machine', name', regs', params', blocks'⟩ := j
  obtain ⟨ra, rn, rc, pa, pn, pc, ba, bn, bc, rr⟩ := r
  obtain ⟨ra', rn', rc', pa', pn', pc', ba', bn', bc', rr'⟩ := s
  unfold funR at D ⊢
  dsimp only at D ⊢
  dsimp only at hq0 hq1 hq2
  obtain rfl : machine = machine' := by simpa using hq0
  have e1 : name.toList = name'.toList := by simpa using hq1
  go_enter Try.func11, Try.ntmps11
  go_wp2_with fail
  refine (eq44_v _ _ _ _ _ _ _ _ _ (D.out.1.regs) (D.out.2.1.regs)).mono ?_
  rintro e w1 ⟨rfl, hb⟩
  rw [hq2]
  have B1 := Lib.hid (And.intro hb (D.out.2.2.1.trans (hb.mono D.out.2.2.2.1)))
  clear hb
  go_wp2_with fail
  go_ret
  exact ⟨rfl, B1.out.2⟩
theorem eq11_3 (i j : Fun) (r s : FunV) (w : World) (h : IsFun w i r) (h' : IsFun w j s) (hq0 : (i.machine == j.machine) = true) (hq1 : (i.name.toList == j.name.toList) = true) (hq2 : (sameL rgEq i.regs j.regs) = true) (hq3 : (sameL opEq i.params j.params) = false) :
    Calls Try.prog 11 #[.agg (funR i r), .agg (funR j s)] w fun e w' => e = .returned (.bool false) ∧ Below w.heap.size w w' := by
  have B0 : Below w.heap.size w ((w.alloc (.cells (funR i r) 31)).alloc (.cells (funR j s) 31)) := ((Below.refl _ w).alloc (Nat.le_refl _) _).alloc (by simp) _
  have hs : w.heap.size ≤ ((w.alloc (.cells (funR i r) 31)).alloc (.cells (funR j s) 31)).heap.size := by simp; omega
  have D := Lib.hid (And.intro (h.below B0) (And.intro (h'.below B0) (And.intro B0 (And.intro hs (box_two w (.cells (funR i r) 31) (.cells (funR j s) 31))))))
  clear h h' B0 hs
  obtain ⟨machine, name, regs, params, blocks⟩ := i
  obtain ⟨machine', name', regs', params', blocks'⟩ := j
  obtain ⟨ra, rn, rc, pa, pn, pc, ba, bn, bc, rr⟩ := r
  obtain ⟨ra', rn', rc', pa', pn', pc', ba', bn', bc', rr'⟩ := s
  unfold funR at D ⊢
  dsimp only at D ⊢
  dsimp only at hq0 hq1 hq2 hq3
  obtain rfl : machine = machine' := by simpa using hq0
  have e1 : name.toList = name'.toList := by simpa using hq1
  go_enter Try.func11, Try.ntmps11
  go_wp2_with fail
  refine (eq44_v _ _ _ _ _ _ _ _ _ (D.out.1.regs) (D.out.2.1.regs)).mono ?_
  rintro e w1 ⟨rfl, hb⟩
  rw [hq2]
  have B1 := Lib.hid (And.intro hb (D.out.2.2.1.trans (hb.mono D.out.2.2.2.1)))
  clear hb
  obtain ⟨l1, l2⟩ := D.out.2.2.2.2
  have m1 := kept_box l1 B1.out.1
  have m2 := kept_box l2 B1.out.1
  have z1_3 : w1.cell? ⟨w.heap.size, 3, none⟩ = some (.slice pa pn pc) := cell_in m1 3
  have y1_3 : w1.cell? ⟨w.heap.size + 1, 3, none⟩ = some (.slice pa' pn' pc') := cell_in m2 3
  clear l1 l2 m1 m2
  go_wp2_with fail
  refine (eq45_v _ _ _ _ _ _ _ _ _ ((D.out.1.below B1.out.1).params) ((D.out.2.1.below B1.out.1).params)).mono ?_
  rintro e w2 ⟨rfl, hb⟩
  rw [hq3]
  have B2 := Lib.hid (And.intro (B1.out.1.trans (hb.mono B1.out.1.size)) (B1.out.2.trans (hb.mono B1.out.2.size)))
  clear hb
  go_wp2_with fail
  go_ret
  exact ⟨rfl, B2.out.2⟩
theorem eq11_4 (i j : Fun) (r s : FunV) (w : World) (h : IsFun w i r) (h' : IsFun w j s) (hq0 : (i.machine == j.machine) = true) (hq1 : (i.name.toList == j.name.toList) = true) (hq2 : (sameL rgEq i.regs j.regs) = true) (hq3 : (sameL opEq i.params j.params) = true) (hq4 : (sameL blkEq i.blocks j.blocks) = false) :
    Calls Try.prog 11 #[.agg (funR i r), .agg (funR j s)] w fun e w' => e = .returned (.bool false) ∧ Below w.heap.size w w' := by
  have B0 : Below w.heap.size w ((w.alloc (.cells (funR i r) 31)).alloc (.cells (funR j s) 31)) := ((Below.refl _ w).alloc (Nat.le_refl _) _).alloc (by simp) _
  have hs : w.heap.size ≤ ((w.alloc (.cells (funR i r) 31)).alloc (.cells (funR j s) 31)).heap.size := by simp; omega
  have D := Lib.hid (And.intro (h.below B0) (And.intro (h'.below B0) (And.intro B0 (And.intro hs (box_two w (.cells (funR i r) 31) (.cells (funR j s) 31))))))
  clear h h' B0 hs
  obtain ⟨machine, name, regs, params, blocks⟩ := i
  obtain ⟨machine', name', regs', params', blocks'⟩ := j
  obtain ⟨ra, rn, rc, pa, pn, pc, ba, bn, bc, rr⟩ := r
  obtain ⟨ra', rn', rc', pa', pn', pc', ba', bn', bc', rr'⟩ := s
  unfold funR at D ⊢
  dsimp only at D ⊢
  dsimp only at hq0 hq1 hq2 hq3 hq4
  obtain rfl : machine = machine' := by simpa using hq0
  have e1 : name.toList = name'.toList := by simpa using hq1
  go_enter Try.func11, Try.ntmps11
  go_wp2_with fail
  refine (eq44_v _ _ _ _ _ _ _ _ _ (D.out.1.regs) (D.out.2.1.regs)).mono ?_
  rintro e w1 ⟨rfl, hb⟩
  rw [hq2]
  have B1 := Lib.hid (And.intro hb (D.out.2.2.1.trans (hb.mono D.out.2.2.2.1)))
  clear hb
  obtain ⟨l1, l2⟩ := D.out.2.2.2.2
  have m1 := kept_box l1 B1.out.1
  have m2 := kept_box l2 B1.out.1
  have z1_3 : w1.cell? ⟨w.heap.size, 3, none⟩ = some (.slice pa pn pc) := cell_in m1 3
  have y1_3 : w1.cell? ⟨w.heap.size + 1, 3, none⟩ = some (.slice pa' pn' pc') := cell_in m2 3
  have z1_4 : w1.cell? ⟨w.heap.size, 4, none⟩ = some (.slice ba bn bc) := cell_in m1 4
  have y1_4 : w1.cell? ⟨w.heap.size + 1, 4, none⟩ = some (.slice ba' bn' bc') := cell_in m2 4
  clear l1 l2 m1 m2
  go_wp2_with fail
  refine (eq45_v _ _ _ _ _ _ _ _ _ ((D.out.1.below B1.out.1).params) ((D.out.2.1.below B1.out.1).params)).mono ?_
  rintro e w2 ⟨rfl, hb⟩
  rw [hq3]
  have B2 := Lib.hid (And.intro (B1.out.1.trans (hb.mono B1.out.1.size)) (B1.out.2.trans (hb.mono B1.out.2.size)))
  clear hb
  obtain ⟨l1, l2⟩ := D.out.2.2.2.2
  have m1 := kept_box l1 B2.out.1
  have m2 := kept_box l2 B2.out.1
  have z2_4 : w2.cell? ⟨w.heap.size, 4, none⟩ = some (.slice ba bn bc) := cell_in m1 4
  have y2_4 : w2.cell? ⟨w.heap.size + 1, 4, none⟩ = some (.slice ba' bn' bc') := cell_in m2 4
  clear l1 l2 m1 m2
  go_wp2_with fail
  refine (eq46_v _ _ _ _ _ _ _ _ _ _ _ ((D.out.1.below B2.out.1).blocks) ((D.out.2.1.below B2.out.1).blocks)).mono ?_
  rintro e w3 ⟨rfl, hb⟩
  rw [hq4]
  have B3 := Lib.hid (And.intro (B2.out.1.trans (hb.mono B2.out.1.size)) (B2.out.2.trans (hb.mono B2.out.2.size)))
  clear hb
  go_wp2_with fail
  go_ret
  exact ⟨rfl, B3.out.2⟩
theorem eq11_5 (i j : Fun) (r s : FunV) (w : World) (h : IsFun w i r) (h' : IsFun w j s) (hq0 : (i.machine == j.machine) = true) (hq1 : (i.name.toList == j.name.toList) = true) (hq2 : (sameL rgEq i.regs j.regs) = true) (hq3 : (sameL opEq i.params j.params) = true) (hq4 : (sameL blkEq i.blocks j.blocks) = true) :
    Calls Try.prog 11 #[.agg (funR i r), .agg (funR j s)] w fun e w' => e = .returned (.bool true) ∧ Below w.heap.size w w' := by
  have B0 : Below w.heap.size w ((w.alloc (.cells (funR i r) 31)).alloc (.cells (funR j s) 31)) := ((Below.refl _ w).alloc (Nat.le_refl _) _).alloc (by simp) _
  have hs : w.heap.size ≤ ((w.alloc (.cells (funR i r) 31)).alloc (.cells (funR j s) 31)).heap.size := by simp; omega
  have D := Lib.hid (And.intro (h.below B0) (And.intro (h'.below B0) (And.intro B0 (And.intro hs (box_two w (.cells (funR i r) 31) (.cells (funR j s) 31))))))
  clear h h' B0 hs
  obtain ⟨machine, name, regs, params, blocks⟩ := i
  obtain ⟨machine', name', regs', params', blocks'⟩ := j
  obtain ⟨ra, rn, rc, pa, pn, pc, ba, bn, bc, rr⟩ := r
  obtain ⟨ra', rn', rc', pa', pn', pc', ba', bn', bc', rr'⟩ := s
  unfold funR at D ⊢
  dsimp only at D ⊢
  dsimp only at hq0 hq1 hq2 hq3 hq4
  obtain rfl : machine = machine' := by simpa using hq0
  have e1 : name.toList = name'.toList := by simpa using hq1
  go_enter Try.func11, Try.ntmps11
  go_wp2_with fail
  refine (eq44_v _ _ _ _ _ _ _ _ _ (D.out.1.regs) (D.out.2.1.regs)).mono ?_
  rintro e w1 ⟨rfl, hb⟩
  rw [hq2]
  have B1 := Lib.hid (And.intro hb (D.out.2.2.1.trans (hb.mono D.out.2.2.2.1)))
  clear hb
  obtain ⟨l1, l2⟩ := D.out.2.2.2.2
  have m1 := kept_box l1 B1.out.1
  have m2 := kept_box l2 B1.out.1
  have z1_3 : w1.cell? ⟨w.heap.size, 3, none⟩ = some (.slice pa pn pc) := cell_in m1 3
  have y1_3 : w1.cell? ⟨w.heap.size + 1, 3, none⟩ = some (.slice pa' pn' pc') := cell_in m2 3
  have z1_4 : w1.cell? ⟨w.heap.size, 4, none⟩ = some (.slice ba bn bc) := cell_in m1 4
  have y1_4 : w1.cell? ⟨w.heap.size + 1, 4, none⟩ = some (.slice ba' bn' bc') := cell_in m2 4
  clear l1 l2 m1 m2
  go_wp2_with fail
  refine (eq45_v _ _ _ _ _ _ _ _ _ ((D.out.1.below B1.out.1).params) ((D.out.2.1.below B1.out.1).params)).mono ?_
  rintro e w2 ⟨rfl, hb⟩
  rw [hq3]
  have B2 := Lib.hid (And.intro (B1.out.1.trans (hb.mono B1.out.1.size)) (B1.out.2.trans (hb.mono B1.out.2.size)))
  clear hb
  obtain ⟨l1, l2⟩ := D.out.2.2.2.2
  have m1 := kept_box l1 B2.out.1
  have m2 := kept_box l2 B2.out.1
  have z2_4 : w2.cell? ⟨w.heap.size, 4, none⟩ = some (.slice ba bn bc) := cell_in m1 4
  have y2_4 : w2.cell? ⟨w.heap.size + 1, 4, none⟩ = some (.slice ba' bn' bc') := cell_in m2 4
  clear l1 l2 m1 m2
  go_wp2_with fail
  refine (eq46_v _ _ _ _ _ _ _ _ _ _ _ ((D.out.1.below B2.out.1).blocks) ((D.out.2.1.below B2.out.1).blocks)).mono ?_
  rintro e w3 ⟨rfl, hb⟩
  rw [hq4]
  have B3 := Lib.hid (And.intro (B2.out.1.trans (hb.mono B2.out.1.size)) (B2.out.2.trans (hb.mono B2.out.2.size)))
  clear hb
  go_wp2_with fail
  go_ret
  exact ⟨rfl, B3.out.2⟩
theorem eq11_v (i j : Fun) (r s : FunV) (w : World) (h : IsFun w i r) (h' : IsFun w j s) :
    Calls Try.prog 11 #[.agg (funR i r), .agg (funR j s)] w fun e w' => e = .returned (.bool (funEq i j)) ∧ Below w.heap.size w w' := by
  cases hq0 : i.machine == j.machine
  · have hR : funEq i j = false := by unfold funEq; simp [hq0]
    rw [hR]; exact eq11_0 i j r s w h h' hq0
  cases hq1 : i.name.toList == j.name.toList
  · have hR : funEq i j = false := by unfold funEq; simp [hq0, hq1]
    rw [hR]; exact eq11_1 i j r s w h h' hq0 hq1
  cases hq2 : sameL rgEq i.regs j.regs
  · have hR : funEq i j = false := by unfold funEq; simp [hq0, hq1, hq2]
    rw [hR]; exact eq11_2 i j r s w h h' hq0 hq1 hq2
  cases hq3 : sameL opEq i.params j.params
  · have hR : funEq i j = false := by unfold funEq; simp [hq0, hq1, hq2, hq3]
    rw [hR]; exact eq11_3 i j r s w h h' hq0 hq1 hq2 hq3
  cases hq4 : sameL blkEq i.blocks j.blocks
  · have hR : funEq i j = false := by unfold funEq; simp [hq0, hq1, hq2, hq3, hq4]
    rw [hR]; exact eq11_4 i j r s w h h' hq0 hq1 hq2 hq3 hq4
  have hR : funEq i j = true := by unfold funEq; simp [hq0, hq1, hq2, hq3, hq4]
  rw [hR]; exact eq11_5 i j r s w h h' hq0 hq1 hq2 hq3 hq4
end Go.Proofs.Ytocelaebokikcaa
