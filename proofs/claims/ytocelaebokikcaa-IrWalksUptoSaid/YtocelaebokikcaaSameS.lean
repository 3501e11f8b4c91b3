/- Allocations, targets and units held against each other. -/
import Derived.Test.YtocelaebokikcaaBlocks
namespace Go.Proofs.Ytocelaebokikcaa
open Go.ChangeShapes Go.WideShapes Go.RowKit
set_option linter.unusedVariables false

structure Alo where
  slots : Int
  segs : List Sg
structure AloV where
  sa : Option Addr
  sn : Nat
  sc : Nat
def aloR (i : Alo) (r : AloV) : Array Value := #[.int .i64 i.slots, .slice r.sa r.sn r.sc]
structure IsAlo (w : World) (i : Alo) (r : AloV) : Prop where
  segs : IsSegs w r.sa r.sn i.segs
theorem IsAlo.below {w w' : World} {i : Alo} {r : AloV} (h : IsAlo w i r) (hb : Below w.heap.size w w') : IsAlo w' i r := ⟨h.segs.below hb⟩
def aloEq (a b : Alo) : Bool := a.slots == b.slots && sameL sgEq a.segs b.segs
theorem aloEq_refl (a : Alo) : aloEq a a = true := by unfold aloEq; simp [sameL_refl _ sgEq_refl]
structure Tgt where
  r0 : Int
  r1 : Int
  c0 : List Int
  c1 : List Int
  slots : Int
structure TgtV where
  a0 : Option Addr
  n0 : Nat
  m0 : Nat
  a1 : Option Addr
  n1 : Nat
  m1 : Nat
def tgtR (i : Tgt) (r : TgtV) : Array Value := #[.int .i64 i.r0, .int .i64 i.r1, .slice r.a0 r.n0 r.m0, .slice r.a1 r.n1 r.m1, .int .i64 i.slots]
structure IsTgt (w : World) (i : Tgt) (r : TgtV) : Prop where
  c0 : IsInts w r.a0 r.n0 i.c0
  c1 : IsInts w r.a1 r.n1 i.c1
theorem IsTgt.below {w w' : World} {i : Tgt} {r : TgtV} (h : IsTgt w i r) (hb : Below w.heap.size w w') : IsTgt w' i r := ⟨h.c0.below hb, h.c1.below hb⟩
def tgtEq (a b : Tgt) : Bool := (a.r0 == b.r0 && a.r1 == b.r1) && a.slots == b.slots && sameL intEq a.c0 b.c0 && sameL intEq a.c1 b.c1
theorem tgtEq_refl (a : Tgt) : tgtEq a a = true := by unfold tgtEq; simp [sameL_refl _ intEq_refl]
theorem eq13_0 (i j : Alo) (r s : AloV) (w : World) (h : IsAlo w i r) (h' : IsAlo w j s) (hq0 : (i.slots == j.slots) = false) :
    Calls Try.prog 13 #[.agg (aloR i r), .agg (aloR j s)] w fun e w' => e = .returned (.bool false) ∧ Below w.heap.size w w' := by
  have B0 : Below w.heap.size w ((w.alloc (.cells (aloR i r) 34)).alloc (.cells (aloR j s) 34)) := ((Below.refl _ w).alloc (Nat.le_refl _) _).alloc (by simp) _
  have hs : w.heap.size ≤ ((w.alloc (.cells (aloR i r) 34)).alloc (.cells (aloR j s) 34)).heap.size := by simp; omega
  have D := Lib.hid (And.intro (h.below B0) (And.intro (h'.below B0) (And.intro B0 (And.intro hs (box_two w (.cells (aloR i r) 34) (.cells (aloR j s) 34))))))
  clear h h' B0 hs
  obtain ⟨slots, segs⟩ := i
  obtain ⟨slots', segs'⟩ := j
  obtain ⟨sa, sn, sc⟩ := r
  obtain ⟨sa', sn', sc'⟩ := s
  unfold aloR at D ⊢
  dsimp only at D ⊢
  dsimp only at hq0
  have e0 : ¬ slots = slots' := by simpa using hq0
  go_enter Try.func13, Try.ntmps13
  go_wp2_with fail
  go_ret
  exact ⟨rfl, D.out.2.2.1⟩
theorem eq13_1 (i j : Alo) (r s : AloV) (w : World) (h : IsAlo w i r) (h' : IsAlo w j s) (hq0 : (i.slots == j.slots) = true) (hq1 : (sameL sgEq i.segs j.segs) = false) :
    Calls Try.prog 13 #[.agg (aloR i r), .agg (aloR j s)] w fun e w' => e = .returned (.bool false) ∧ Below w.heap.size w w' := by
  have B0 : Below w.heap.size w ((w.alloc (.cells (aloR i r) 34)).alloc (.cells (aloR j s) 34)) := ((Below.refl _ w).alloc (Nat.le_refl _) _).alloc (by simp) _
  have hs : w.heap.size ≤ ((w.alloc (.cells (aloR i r) 34)).alloc (.cells (aloR j s) 34)).heap.size := by simp; omega
  have D := Lib.hid (And.intro (h.below B0) (And.intro (h'.below B0) (And.intro B0 (And.intro hs (box_two w (.cells (aloR i r) 34) (.cells (aloR j s) 34))))))
  clear h h' B0 hs
  obtain ⟨slots, segs⟩ := i
  obtain ⟨slots', segs'⟩ := j
  obtain ⟨sa, sn, sc⟩ := r
  obtain ⟨sa', sn', sc'⟩ := s
  unfold aloR at D ⊢
  dsimp only at D ⊢
  dsimp only at hq0 hq1
  obtain rfl : slots = slots' := by simpa using hq0
  go_enter Try.func13, Try.ntmps13
  go_wp2_with fail
  refine (eq50_v _ _ _ _ _ _ _ _ _ (D.out.1.segs) (D.out.2.1.segs)).mono ?_
  rintro e w1 ⟨rfl, hb⟩
  rw [hq1]
  have B1 := Lib.hid (And.intro hb (D.out.2.2.1.trans (hb.mono D.out.2.2.2.1)))
  clear hb
  go_wp2_with fail
  go_ret
  exact ⟨rfl, B1.out.2⟩
theorem eq13_2 (i j : Alo) (r s : AloV) (w : World) (h : IsAlo w i r) (h' : IsAlo w j s) (hq0 : (i.slots == j.slots) = true) (hq1 : (sameL sgEq i.segs j.segs) = true) :
    Calls Try.prog 13 #[.agg (aloR i r), .agg (aloR j s)] w fun e w' => e = .returned (.bool true) ∧ Below w.heap.size w w' := by
  have B0 : Below w.heap.size w ((w.alloc (.cells (aloR i r) 34)).alloc (.cells (aloR j s) 34)) := ((Below.refl _ w).alloc (Nat.le_refl _) _).alloc (by simp) _
  have hs : w.heap.size ≤ ((w.alloc (.cells (aloR i r) 34)).alloc (.cells (aloR j s) 34)).heap.size := by simp; omega
  have D := Lib.hid (And.intro (h.below B0) (And.intro (h'.below B0) (And.intro B0 (And.intro hs (box_two w (.cells (aloR i r) 34) (.cells (aloR j s) 34))))))
  clear h h' B0 hs
  obtain ⟨slots, segs⟩ := i
  obtain ⟨slots', segs'⟩ := j
  obtain ⟨sa, sn, sc⟩ := r
  obtain ⟨sa', sn', sc'⟩ := s
  unfold aloR at D ⊢
  dsimp only at D ⊢
  dsimp only at hq0 hq1
  obtain rfl : slots = slots' := by simpa using hq0
  go_enter Try.func13, Try.ntmps13
  go_wp2_with fail
  refine (eq50_v _ _ _ _ _ _ _ _ _ (D.out.1.segs) (D.out.2.1.segs)).mono ?_
  rintro e w1 ⟨rfl, hb⟩
  rw [hq1]
  have B1 := Lib.hid (And.intro hb (D.out.2.2.1.trans (hb.mono D.out.2.2.2.1)))
  clear hb
  go_wp2_with fail
  go_ret
  exact ⟨rfl, B1.out.2⟩
theorem eq13_v (i j : Alo) (r s : AloV) (w : World) (h : IsAlo w i r) (h' : IsAlo w j s) :
    Calls Try.prog 13 #[.agg (aloR i r), .agg (aloR j s)] w fun e w' => e = .returned (.bool (aloEq i j)) ∧ Below w.heap.size w w' := by
  cases hq0 : i.slots == j.slots
  · have hR : aloEq i j = false := by unfold aloEq; simp [hq0]
    rw [hR]; exact eq13_0 i j r s w h h' hq0
  cases hq1 : sameL sgEq i.segs j.segs
  · have hR : aloEq i j = false := by unfold aloEq; simp [hq0, hq1]
    rw [hR]; exact eq13_1 i j r s w h h' hq0 hq1
  have hR : aloEq i j = true := by unfold aloEq; simp [hq0, hq1]
  rw [hR]; exact eq13_2 i j r s w h h' hq0 hq1
theorem eq16_0 (i j : Tgt) (r s : TgtV) (w : World) (h : IsTgt w i r) (h' : IsTgt w j s) (hq0 : (i.r0 == j.r0 && i.r1 == j.r1) = false) :
    Calls Try.prog 16 #[.agg (tgtR i r), .agg (tgtR j s)] w fun e w' => e = .returned (.bool false) ∧ Below w.heap.size w w' := by
  have B0 : Below w.heap.size w ((w.alloc (.cells (tgtR i r) 26)).alloc (.cells (tgtR j s) 26)) := ((Below.refl _ w).alloc (Nat.le_refl _) _).alloc (by simp) _
  have hs : w.heap.size ≤ ((w.alloc (.cells (tgtR i r) 26)).alloc (.cells (tgtR j s) 26)).heap.size := by simp; omega
  have D := Lib.hid (And.intro (h.below B0) (And.intro (h'.below B0) (And.intro B0 (And.intro hs (box_two w (.cells (tgtR i r) 26) (.cells (tgtR j s) 26))))))
  clear h h' B0 hs
  obtain ⟨r0, r1, c0, c1, slots⟩ := i
  obtain ⟨r0', r1', c0', c1', slots'⟩ := j
  obtain ⟨a0, n0, p0, a1, n1, p1⟩ := r
  obtain ⟨a0', n0', p0', a1', n1', p1'⟩ := s
  unfold tgtR at D ⊢
  dsimp only at D ⊢
  dsimp only at hq0
  have e0 := eql22 r0 r1 r0' r1' false hq0
  clear hq0
  go_enter Try.func16, Try.ntmps16
  go_wp2_with fail
  go_ret
  exact ⟨rfl, D.out.2.2.1⟩
theorem eq16_1 (i j : Tgt) (r s : TgtV) (w : World) (h : IsTgt w i r) (h' : IsTgt w j s) (hq0 : (i.r0 == j.r0 && i.r1 == j.r1) = true) (hq1 : (i.slots == j.slots) = false) :
    Calls Try.prog 16 #[.agg (tgtR i r), .agg (tgtR j s)] w fun e w' => e = .returned (.bool false) ∧ Below w.heap.size w w' := by
  have B0 : Below w.heap.size w ((w.alloc (.cells (tgtR i r) 26)).alloc (.cells (tgtR j s) 26)) := ((Below.refl _ w).alloc (Nat.le_refl _) _).alloc (by simp) _
  have hs : w.heap.size ≤ ((w.alloc (.cells (tgtR i r) 26)).alloc (.cells (tgtR j s) 26)).heap.size := by simp; omega
  have D := Lib.hid (And.intro (h.below B0) (And.intro (h'.below B0) (And.intro B0 (And.intro hs (box_two w (.cells (tgtR i r) 26) (.cells (tgtR j s) 26))))))
  clear h h' B0 hs
  obtain ⟨r0, r1, c0, c1, slots⟩ := i
  obtain ⟨r0', r1', c0', c1', slots'⟩ := j
  obtain ⟨a0, n0, p0, a1, n1, p1⟩ := r
  obtain ⟨a0', n0', p0', a1', n1', p1'⟩ := s
  unfold tgtR at D ⊢
  dsimp only at D ⊢
  dsimp only at hq0 hq1
  have e0 := eql22 r0 r1 r0' r1' true hq0
  clear hq0
  have e1 : ¬ slots = slots' := by simpa using hq1
  go_enter Try.func16, Try.ntmps16
  go_wp2_with fail
  go_ret
  exact ⟨rfl, D.out.2.2.1⟩
theorem eq16_2 (i j : Tgt) (r s : TgtV) (w : World) (h : IsTgt w i r) (h' : IsTgt w j s) (hq0 : (i.r0 == j.r0 && i.r1 == j.r1) = true) (hq1 : (i.slots == j.slots) = true) (hq2 : (sameL intEq i.c0 j.c0) = false) :
    Calls Try.prog 16 #[.agg (tgtR i r), .agg (tgtR j s)] w fun e w' => e = .returned (.bool false) ∧ Below w.heap.size w w' := by
  have B0 : Below w.heap.size w ((w.alloc (.cells (tgtR i r) 26)).alloc (.cells (tgtR j s) 26)) := ((Below.refl _ w).alloc (Nat.le_refl _) _).alloc (by simp) _
  have hs : w.heap.size ≤ ((w.alloc (.cells (tgtR i r) 26)).alloc (.cells (tgtR j s) 26)).heap.size := by simp; omega
  have D := Lib.hid (And.intro (h.below B0) (And.intro (h'.below B0) (And.intro B0 (And.intro hs (box_two w (.cells (tgtR i r) 26) (.cells (tgtR j s) 26))))))
  clear h h' B0 hs
  obtain ⟨r0, r1, c0, c1, slots⟩ := i
  obtain ⟨r0', r1', c0', c1', slots'⟩ := j
  obtain ⟨a0, n0, p0, a1, n1, p1⟩ := r
  obtain ⟨a0', n0', p0', a1', n1', p1'⟩ := s
  unfold tgtR at D ⊢
  dsimp only at D ⊢
  dsimp only at hq0 hq1 hq2
  have e0 := eql22 r0 r1 r0' r1' true hq0
  clear hq0
  obtain rfl : slots = slots' := by simpa using hq1
  go_enter Try.func16, Try.ntmps16
  go_wp2_with fail
  refine (eq33_v _ _ _ _ _ _ _ _ _ (D.out.1.c0) (D.out.2.1.c0)).mono ?_
  rintro e w1 ⟨rfl, hb⟩
  rw [hq2]
  have B1 := Lib.hid (And.intro hb (D.out.2.2.1.trans (hb.mono D.out.2.2.2.1)))
  clear hb
  go_wp2_with fail
  go_ret
  exact ⟨rfl, B1.out.2⟩
theorem eq16_3 (i j : Tgt) (r s : TgtV) (w : World) (h : IsTgt w i r) (h' : IsTgt w j s) (hq0 : (i.r0 == j.r0 && i.r1 == j.r1) = true) (hq1 : (i.slots == j.slots) = true) (hq2 : (sameL intEq i.c0 j.c0) = true) (hq3 : (sameL intEq i.c1 j.c1) = false) :
    Calls Try.prog 16 #[.agg (tgtR i r), .agg (tgtR j s)] w fun e w' => e = .returned (.bool false) ∧ Below w.heap.size w w' := by
  have B0 : Below w.heap.size w ((w.alloc (.cells (tgtR i r) 26)).alloc (.cells (tgtR j s) 26)) := ((Below.refl _ w).alloc (Nat.le_refl _) _).alloc (by simp) _
  have hs : w.heap.size ≤ ((w.alloc (.cells (tgtR i r) 26)).alloc (.cells (tgtR j s) 26)).heap.size := by simp; omega
  have D := Lib.hid (And.intro (h.below B0) (And.intro (h'.below B0) (And.intro B0 (And.intro hs (box_two w (.cells (tgtR i r) 26) (.cells (tgtR j s) 26))))))
  clear h h' B0 hs
  obtain ⟨r0, r1, c0, c1, slots⟩ := i
  obtain ⟨r0', r1', c0', c1', slots'⟩ := j
  obtain ⟨a0, n0, p0, a1, n1, p1⟩ := r
  obtain ⟨a0', n0', p0', a1', n1', p1'⟩ := s
  unfold tgtR at D ⊢
  dsimp only at D ⊢
  dsimp only at hq0 hq1 hq2 hq3
  have e0 := eql22 r0 r1 r0' r1' true hq0
  clear hq0
  obtain rfl : slots = slots' := by simpa using hq1
  go_enter Try.func16, Try.ntmps16
  go_wp2_with fail
  refine (eq33_v _ _ _ _ _ _ _ _ _ (D.out.1.c0) (D.out.2.1.c0)).mono ?_
  rintro e w1 ⟨rfl, hb⟩
  rw [hq2]
  have B1 := Lib.hid (And.intro hb (D.out.2.2.1.trans (hb.mono D.out.2.2.2.1)))
  clear hb
  obtain ⟨l1, l2⟩ := D.out.2.2.2.2
  have m1 := kept_box l1 B1.out.1
  have m2 := kept_box l2 B1.out.1
  have z1_3 : w1.cell? ⟨w.heap.size, 3, none⟩ = some (.slice a1 n1 p1) := cell_in m1 3
  have y1_3 : w1.cell? ⟨w.heap.size + 1, 3, none⟩ = some (.slice a1' n1' p1') := cell_in m2 3
  clear l1 l2 m1 m2
  go_wp2_with fail
  refine (eq33_v _ _ _ _ _ _ _ _ _ ((D.out.1.below B1.out.1).c1) ((D.out.2.1.below B1.out.1).c1)).mono ?_
  rintro e w2 ⟨rfl, hb⟩
  rw [hq3]
  have B2 := Lib.hid (And.intro (B1.out.1.trans (hb.mono B1.out.1.size)) (B1.out.2.trans (hb.mono B1.out.2.size)))
  clear hb
  go_wp2_with fail
  go_ret
  exact ⟨rfl, B2.out.2⟩
theorem eq16_4 (i j : Tgt) (r s : TgtV) (w : World) (h : IsTgt w i r) (h' : IsTgt w j s) (hq0 : (i.r0 == j.r0 && i.r1 == j.r1) = true) (hq1 : (i.slots == j.slots) = true) (hq2 : (sameL intEq i.c0 j.c0) = true) (hq3 : (sameL intEq i.c1 j.c1) = true) :
    Calls Try.prog 16 #[.agg (tgtR i r), .agg (tgtR j s)] w fun e w' => e = .returned (.bool true) ∧ Below w.heap.size w w' := by
  have B0 : Below w.heap.size w ((w.alloc (.cells (tgtR i r) 26)).alloc (.cells (tgtR j s) 26)) := ((Below.refl _ w).alloc (Nat.le_refl _) _).alloc (by simp) _
  have hs : w.heap.size ≤ ((w.alloc (.cells (tgtR i r) 26)).alloc (.cells (tgtR j s) 26)).heap.size := by simp; omega
  have D := Lib.hid (And.intro (h.below B0) (And.intro (h'.below B0) (And.intro B0 (And.intro hs (box_two w (.cells (tgtR i r) 26) (.cells (tgtR j s) 26))))))
  clear h h' B0 hs
  obtain ⟨r0, r1, c0, c1, slots⟩ := i
  obtain ⟨r0', r1', c0', c1', slots'⟩ := j
  obtain ⟨a0, n0, p0, a1, n1, p1⟩ := r
  obtain ⟨a0', n0', p0', a1', n1', p1'⟩ := s
  unfold tgtR at D ⊢
  dsimp only at D ⊢
  dsimp only at hq0 hq1 hq2 hq3
  have e0 := eql22 r0 r1 r0' r1' true hq0
  clear hq0
  obtain rfl : slots = slots' := by simpa using hq1
  go_enter Try.func16, Try.ntmps16
  go_wp2_with fail
  refine (eq33_v _ _ _ _ _ _ _ _ _ (D.out.1.c0) (D.out.2.1.c0)).mono ?_
  rintro e w1 ⟨rfl, hb⟩
  rw [hq2]
  have B1 := Lib.hid (And.intro hb (D.out.2.2.1.trans (hb.mono D.out.2.2.2.1)))
  clear hb
  obtain ⟨l1, l2⟩ := D.out.2.2.2.2
  have m1 := kept_box l1 B1.out.1
  have m2 := kept_box l2 B1.out.1
  have z1_3 : w1.cell? ⟨w.heap.size, 3, none⟩ = some (.slice a1 n1 p1) := cell_in m1 3
  have y1_3 : w1.cell? ⟨w.heap.size + 1, 3, none⟩ = some (.slice a1' n1' p1') := cell_in m2 3
  clear l1 l2 m1 m2
  go_wp2_with fail
  refine (eq33_v _ _ _ _ _ _ _ _ _ ((D.out.1.below B1.out.1).c1) ((D.out.2.1.below B1.out.1).c1)).mono ?_
  rintro e w2 ⟨rfl, hb⟩
  rw [hq3]
  have B2 := Lib.hid (And.intro (B1.out.1.trans (hb.mono B1.out.1.size)) (B1.out.2.trans (hb.mono B1.out.2.size)))
  clear hb
  go_wp2_with fail
  go_ret
  exact ⟨rfl, B2.out.2⟩
theorem eq16_v (i j : Tgt) (r s : TgtV) (w : World) (h : IsTgt w i r) (h' : IsTgt w j s) :
    Calls Try.prog 16 #[.agg (tgtR i r), .agg (tgtR j s)] w fun e w' => e = .returned (.bool (tgtEq i j)) ∧ Below w.heap.size w w' := by
  cases hq0 : i.r0 == j.r0 && i.r1 == j.r1
  · have hR : tgtEq i j = false := by unfold tgtEq; simp [hq0]
    rw [hR]; exact eq16_0 i j r s w h h' hq0
  cases hq1 : i.slots == j.slots
  · have hR : tgtEq i j = false := by unfold tgtEq; simp [hq0, hq1]
    rw [hR]; exact eq16_1 i j r s w h h' hq0 hq1
  cases hq2 : sameL intEq i.c0 j.c0
  · have hR : tgtEq i j = false := by unfold tgtEq; simp [hq0, hq1, hq2]
    rw [hR]; exact eq16_2 i j r s w h h' hq0 hq1 hq2
  cases hq3 : sameL intEq i.c1 j.c1
  · have hR : tgtEq i j = false := by unfold tgtEq; simp [hq0, hq1, hq2, hq3]
    rw [hR]; exact eq16_3 i j r s w h h' hq0 hq1 hq2 hq3
  have hR : tgtEq i j = true := by unfold tgtEq; simp [hq0, hq1, hq2, hq3]
  rw [hR]; exact eq16_4 i j r s w h h' hq0 hq1 hq2 hq3
theorem eq14_v (i j : Alo) (r s : AloV) (w : World) (h : IsAlo w i r) (h' : IsAlo w j s) :
    Calls Try.prog 14 #[.agg (aloR i r), .agg (aloR j s)] w fun e w' => e = .returned (.bool (aloEq i j)) ∧ Below w.heap.size w w' := by
  have B0 : Below w.heap.size w ((w.alloc (.cells (aloR i r) 34)).alloc (.cells (aloR j s) 34)) := ((Below.refl _ w).alloc (Nat.le_refl _) _).alloc (by simp) _
  have hs : w.heap.size ≤ ((w.alloc (.cells (aloR i r) 34)).alloc (.cells (aloR j s) 34)).heap.size := by simp; omega
  have hw := And.intro (h.segs.below B0) (And.intro (h'.segs.below B0) (And.intro B0 (And.intro hs (box_two w (.cells (aloR i r) 34) (.cells (aloR j s) 34)))))
  unfold aloEq
  have hl := h.segs.1
  have hl' := h'.segs.1
  have hm := h.segs.2.1
  obtain ⟨slots, segs⟩ := i
  obtain ⟨slots', segs'⟩ := j
  obtain ⟨sa, sn, sc⟩ := r
  obtain ⟨sa', sn', sc'⟩ := s
  clear h h' B0 hs
  have D := Lib.hid hw
  clear hw
  unfold aloR at D ⊢
  dsimp only at D hl hl' hm ⊢
  cases hq0 : slots == slots'
  · have e0 : ¬ slots = slots' := by simpa using hq0
    go_enter Try.func14, Try.ntmps14
    go_wp2_with fail
    go_ret
    exact ⟨rfl, D.out.2.2.1⟩
  obtain rfl : slots = slots' := by simpa using hq0
  clear hq0
  by_cases hn : ¬ sn = sn'
  · have i1 : ¬ (sn : Int) = (sn' : Int) := by omega
    have HX := Lib.hid (sameL_len sgEq segs segs' (by omega))
    clear hl hl'
    go_enter Try.func14, Try.ntmps14
    go_wp2_with fail
    go_ret
    exact ⟨by rw [HX.out]; rfl, D.out.2.2.1⟩
  have hn := Decidable.not_not.1 hn
  subst hn
  have HL := Lib.hid (And.intro hl hl')
  clear hl hl'
  go_enter Try.func14, Try.ntmps14
  go_wp2_with fail
  go_loopg [5] sn (fun gk u wr => ∃ k : Nat, k + gk = sn ∧ u = .int .i64 (k : Int) ∧ Hid (Below ((w.alloc (.cells #[.int .i64 slots, .slice sa sn sc] 34)).alloc (.cells #[.int .i64 slots, .slice sa' sn sc'] 34)).heap.size ((w.alloc (.cells #[.int .i64 slots, .slice sa sn sc] 34)).alloc (.cells #[.int .i64 slots, .slice sa' sn sc'] 34)) wr ∧ ∀ (j : Nat) (x y : Sg), j < k → segs[j]? = some x → segs'[j]? = some y → sgEq x y = true))
  case atStart => exact ⟨0, by omega, rfl, Below.refl _ _, fun j x y hj => by omega⟩
  case round =>
    obtain ⟨k, hk, rfl, HH⟩ := hrel
    obtain ⟨h, h', B0, hs, l1, l2⟩ := D.out
    have m1 := kept_box l1 HH.out.1
    have m2 := kept_box l2 HH.out.1
    have z1 : wr.cell? ⟨w.heap.size, 1, none⟩ = some (.slice sa sn sc) := cell_in m1 1
    have z2 : wr.cell? ⟨w.heap.size + 1, 1, none⟩ = some (.slice sa' sn sc') := cell_in m2 1
    clear l1 l2 m1 m2
    have BB := Lib.hid (B0.trans (HH.out.1.mono hs))
    by_cases hlt : k < sn
    · obtain ⟨b, o, rfl, hb, x, hx, c0, c1, c2, c3, c4, c5⟩ := (h.below HH.out.1).at hlt
      obtain ⟨b', o', rfl, hb', y, hy, d0, d1, d2, d3, d4, d5⟩ := (h'.below HH.out.1).at hlt
      have i1 : (k : Int) < (sn : Int) := by omega
      cases hq : sgEq x y
      · have HX := Lib.hid (sameL_no sgEq segs segs' k x y hx hy hq)
        clear h h' hx hy B0 hs
        obtain ⟨pv, pf, pt, pk, pc, pn⟩ := x
        obtain ⟨qv, qf, qt, qk, qc, qn⟩ := y
        dsimp only at c0 c1 c2 c3 c4 c5 d0 d1 d2 d3 d4 d5
        unfold sgEq at hq; dsimp only at hq
        have E := neq89 pv pf pt pk pc pn qv qf qt qk qc qn true (by simpa using hq)
        clear hq
        go_wp2_with fail
        go_quiet (fail)
        go_wp2_with fail
        go_ret
        exact ⟨by rw [HX.out]; rfl, Below.drewQ BB.out _⟩
      · have RR : Hid (∀ (j : Nat) (x y : Sg), j < k + 1 → segs[j]? = some x → segs'[j]? = some y → sgEq x y = true) := Lib.hid (fun j x2 y2 hj h2 h3 => by
          rcases Nat.lt_or_ge j k with h4 | h4
          · exact HH.out.2 j x2 y2 h4 h2 h3
          · obtain rfl : j = k := by omega
            rw [hx] at h2; injection h2 with h2; rw [hy] at h3; injection h3 with h3
            subst h2 h3; exact hq)
        clear h h' hx hy B0 hs
        obtain ⟨pv, pf, pt, pk, pc, pn⟩ := x
        obtain ⟨qv, qf, qt, qk, qc, qn⟩ := y
        dsimp only at c0 c1 c2 c3 c4 c5 d0 d1 d2 d3 d4 d5
        unfold sgEq at hq; dsimp only at hq
        have E := neq89 pv pf pt pk pc pn qv qf qt qk qc qn false (by simpa using hq)
        clear hq
        go_wp2_with fail
        go_quiet (fail)
        go_wp2_with fail
        go_roundg (gk - 1)
        case measure => omega
        case rel => exact ⟨k + 1, by omega, by go_num, Below.drewQ HH.out.1 _, RR.out⟩
    · obtain rfl : k = sn := by omega
      have hge : ¬ (k : Int) < (k : Int) := by omega
      have HX := Lib.hid (sameL_yes sgEq segs segs' (by rw [HL.out.1, HL.out.2]) (fun j x y hx hy => HH.out.2 j x y (by
        have := (List.getElem?_eq_some_iff.1 hx).1; have := HL.out.1; omega) hx hy))
      clear h h' B0 hs
      go_wp2_with fail
      go_ret
      exact ⟨by rw [HX.out]; simp, BB.out⟩
theorem tgt_yes (i j : Tgt) (h0 : sameL intEq i.c0 j.c0 = true) (h1 : sameL intEq i.c1 j.c1 = true) : tgtEq i j = ((i.r0 == j.r0 && i.r1 == j.r1) && i.slots == j.slots) := by unfold tgtEq; simp [h0, h1]
end Go.Proofs.Ytocelaebokikcaa
