/- Two units held against each other. -/
import Derived.Test.YtocelaebokikcaaSameT
import Derived.Test.YtocelaebokikcaaSameF
import Derived.Test.YtocelaebokikcaaRefF
namespace Go.Proofs.Ytocelaebokikcaa
open Go.ChangeShapes Go.WideShapes Go.RowKit
set_option linter.unusedVariables false

structure Unt where
  t : Tgt
  f : Fun
  has : Bool
  al : Alo
structure UntV where
  t : TgtV
  f : FunV
  al : AloV
def untR (i : Unt) (r : UntV) : Array Value := #[.int .i64 i.t.r0, .int .i64 i.t.r1, .slice r.t.a0 r.t.n0 r.t.m0, .slice r.t.a1 r.t.n1 r.t.m1, .int .i64 i.t.slots, .bool i.f.machine, .string i.f.name, .slice r.f.ra r.f.rn r.f.rc, .slice r.f.pa r.f.pn r.f.pc, .slice r.f.ba r.f.bn r.f.bc, .bool i.has, .int .i64 i.al.slots, .slice r.al.sa r.al.sn r.al.sc]
structure IsUnt (w : World) (i : Unt) (r : UntV) : Prop where
  t : IsTgt w i.t r.t
  f : IsFun w i.f r.f
  al : IsAlo w i.al r.al
theorem IsUnt.below {w w' : World} {i : Unt} {r : UntV} (h : IsUnt w i r) (hb : Below w.heap.size w w') : IsUnt w' i r := ⟨h.t.below hb, h.f.below hb, h.al.below hb⟩
def untEq (a b : Unt) : Bool := a.has == b.has && tgtEq a.t b.t && funEq a.f b.f && aloEq a.al b.al
theorem untEq_refl (a : Unt) : untEq a a = true := by unfold untEq; simp [tgtEq_refl, funEq_refl, aloEq_refl]
theorem eq9_0 (i j : Unt) (r s : UntV) (w : World) (h : IsUnt w i r) (h' : IsUnt w j s) (hq0 : (i.has == j.has) = false) :
    Calls Try.prog 9 #[.agg (untR i r), .agg (untR j s)] w fun e w' => e = .returned (.bool false) ∧ Below w.heap.size w w' := by
  have B0 : Below w.heap.size w ((w.alloc (.cells (untR i r) 36)).alloc (.cells (untR j s) 36)) := ((Below.refl _ w).alloc (Nat.le_refl _) _).alloc (by simp) _
  have hs : w.heap.size ≤ ((w.alloc (.cells (untR i r) 36)).alloc (.cells (untR j s) 36)).heap.size := by simp; omega
  have D := Lib.hid (And.intro (h.below B0) (And.intro (h'.below B0) (And.intro B0 (And.intro hs (box_two w (.cells (untR i r) 36) (.cells (untR j s) 36))))))
  clear h h' B0 hs
  obtain ⟨⟨r0, r1, c0, c1, slots⟩, ⟨machine, name, regs, params, blocks⟩, has, ⟨aslots, segs⟩⟩ := i
  obtain ⟨⟨r0', r1', c0', c1', slots'⟩, ⟨machine', name', regs', params', blocks'⟩, has', ⟨aslots', segs'⟩⟩ := j
  obtain ⟨⟨a0, n0, p0, a1, n1, p1⟩, ⟨ra, rn, rc, pa, pn, pc, ba, bn, bc, rr⟩, ⟨sa, sn, sc⟩⟩ := r
  obtain ⟨⟨a0', n0', p0', a1', n1', p1'⟩, ⟨ra', rn', rc', pa', pn', pc', ba', bn', bc', rr'⟩, ⟨sa', sn', sc'⟩⟩ := s
  unfold untR at D ⊢
  dsimp only at D ⊢
  dsimp only at hq0
  have e0 : (has == has') = false := hq0
  have e0' : ¬ has = has' := by simpa using hq0
  go_enter Try.func9, Try.ntmps9
  go_wp2_with fail
  go_ret
  exact ⟨rfl, D.out.2.2.1⟩
theorem eq9_1 (i j : Unt) (r s : UntV) (w : World) (h : IsUnt w i r) (h' : IsUnt w j s) (hq0 : (i.has == j.has) = true) (hq1 : (tgtEq i.t j.t) = false) :
    Calls Try.prog 9 #[.agg (untR i r), .agg (untR j s)] w fun e w' => e = .returned (.bool false) ∧ Below w.heap.size w w' := by
  have B0 : Below w.heap.size w ((w.alloc (.cells (untR i r) 36)).alloc (.cells (untR j s) 36)) := ((Below.refl _ w).alloc (Nat.le_refl _) _).alloc (by simp) _
  have hs : w.heap.size ≤ ((w.alloc (.cells (untR i r) 36)).alloc (.cells (untR j s) 36)).heap.size := by simp; omega
  have D := Lib.hid (And.intro (h.below B0) (And.intro (h'.below B0) (And.intro B0 (And.intro hs (box_two w (.cells (untR i r) 36) (.cells (untR j s) 36))))))
  clear h h' B0 hs
  obtain ⟨⟨r0, r1, c0, c1, slots⟩, ⟨machine, name, regs, params, blocks⟩, has, ⟨aslots, segs⟩⟩ := i
  obtain ⟨⟨r0', r1', c0', c1', slots'⟩, ⟨machine', name', regs', params', blocks'⟩, has', ⟨aslots', segs'⟩⟩ := j
  obtain ⟨⟨a0, n0, p0, a1, n1, p1⟩, ⟨ra, rn, rc, pa, pn, pc, ba, bn, bc, rr⟩, ⟨sa, sn, sc⟩⟩ := r
  obtain ⟨⟨a0', n0', p0', a1', n1', p1'⟩, ⟨ra', rn', rc', pa', pn', pc', ba', bn', bc', rr'⟩, ⟨sa', sn', sc'⟩⟩ := s
  unfold untR at D ⊢
  dsimp only at D ⊢
  dsimp only at hq0 hq1
  obtain rfl : has = has' := by simpa using hq0
  go_enter Try.func9, Try.ntmps9
  go_wp2_with fail
  refine (eq15_v ⟨r0, r1, c0, c1, slots⟩ ⟨r0', r1', c0', c1', slots'⟩ ⟨a0, n0, p0, a1, n1, p1⟩ ⟨a0', n0', p0', a1', n1', p1'⟩ _ (D.out.1.t) (D.out.2.1.t)).mono ?_
  rintro e w1 ⟨rfl, hb⟩
  rw [hq1]
  have B1 := Lib.hid (And.intro hb (D.out.2.2.1.trans (hb.mono D.out.2.2.2.1)))
  clear hb
  go_wp2_with fail
  go_ret
  exact ⟨rfl, B1.out.2⟩
theorem eq9_2 (i j : Unt) (r s : UntV) (w : World) (h : IsUnt w i r) (h' : IsUnt w j s) (hq0 : (i.has == j.has) = true) (hq1 : (tgtEq i.t j.t) = true) (hq2 : (funEq i.f j.f) = false) :
    Calls Try.prog 9 #[.agg (untR i r), .agg (untR j s)] w fun e w' => e = .returned (.bool false) ∧ Below w.heap.size w w' := by
  have B0 : Below w.heap.size w ((w.alloc (.cells (untR i r) 36)).alloc (.cells (untR j s) 36)) := ((Below.refl _ w).alloc (Nat.le_refl _) _).alloc (by simp) _
  have hs : w.heap.size ≤ ((w.alloc (.cells (untR i r) 36)).alloc (.cells (untR j s) 36)).heap.size := by simp; omega
  have D := Lib.hid (And.intro (h.below B0) (And.intro (h'.below B0) (And.intro B0 (And.intro hs (box_two w (.cells (untR i r) 36) (.cells (untR j s) 36))))))
  clear h h' B0 hs
  obtain ⟨⟨r0, r1, c0, c1, slots⟩, ⟨machine, name, regs, params, blocks⟩, has, ⟨aslots, segs⟩⟩ := i
  obtain ⟨⟨r0', r1', c0', c1', slots'⟩, ⟨machine', name', regs', params', blocks'⟩, has', ⟨aslots', segs'⟩⟩ := j
  obtain ⟨⟨a0, n0, p0, a1, n1, p1⟩, ⟨ra, rn, rc, pa, pn, pc, ba, bn, bc, rr⟩, ⟨sa, sn, sc⟩⟩ := r
  obtain ⟨⟨a0', n0', p0', a1', n1', p1'⟩, ⟨ra', rn', rc', pa', pn', pc', ba', bn', bc', rr'⟩, ⟨sa', sn', sc'⟩⟩ := s
  unfold untR at D ⊢
  dsimp only at D ⊢
  dsimp only at hq0 hq1 hq2
  obtain rfl : has = has' := by simpa using hq0
  go_enter Try.func9, Try.ntmps9
  go_wp2_with fail
  refine (eq15_v ⟨r0, r1, c0, c1, slots⟩ ⟨r0', r1', c0', c1', slots'⟩ ⟨a0, n0, p0, a1, n1, p1⟩ ⟨a0', n0', p0', a1', n1', p1'⟩ _ (D.out.1.t) (D.out.2.1.t)).mono ?_
  rintro e w1 ⟨rfl, hb⟩
  rw [hq1]
  have B1 := Lib.hid (And.intro hb (D.out.2.2.1.trans (hb.mono D.out.2.2.2.1)))
  clear hb
  obtain ⟨l1, l2⟩ := D.out.2.2.2.2
  have m1 := kept_box l1 B1.out.1
  have m2 := kept_box l2 B1.out.1
  have z1_5 : w1.cell? ⟨w.heap.size, 5, none⟩ = some (.bool machine) := cell_in m1 5
  have y1_5 : w1.cell? ⟨w.heap.size + 1, 5, none⟩ = some (.bool machine') := cell_in m2 5
  have z1_6 : w1.cell? ⟨w.heap.size, 6, none⟩ = some (.string name) := cell_in m1 6
  have y1_6 : w1.cell? ⟨w.heap.size + 1, 6, none⟩ = some (.string name') := cell_in m2 6
  have z1_7 : w1.cell? ⟨w.heap.size, 7, none⟩ = some (.slice ra rn rc) := cell_in m1 7
  have y1_7 : w1.cell? ⟨w.heap.size + 1, 7, none⟩ = some (.slice ra' rn' rc') := cell_in m2 7
  have z1_8 : w1.cell? ⟨w.heap.size, 8, none⟩ = some (.slice pa pn pc) := cell_in m1 8
  have y1_8 : w1.cell? ⟨w.heap.size + 1, 8, none⟩ = some (.slice pa' pn' pc') := cell_in m2 8
  have z1_9 : w1.cell? ⟨w.heap.size, 9, none⟩ = some (.slice ba bn bc) := cell_in m1 9
  have y1_9 : w1.cell? ⟨w.heap.size + 1, 9, none⟩ = some (.slice ba' bn' bc') := cell_in m2 9
  clear l1 l2 m1 m2
  go_wp2_with fail
  refine (eq11_v ⟨machine, name, regs, params, blocks⟩ ⟨machine', name', regs', params', blocks'⟩ ⟨ra, rn, rc, pa, pn, pc, ba, bn, bc, rr⟩ ⟨ra', rn', rc', pa', pn', pc', ba', bn', bc', rr'⟩ _ ((D.out.1.below B1.out.1).f) ((D.out.2.1.below B1.out.1).f)).mono ?_
  rintro e w2 ⟨rfl, hb⟩
  rw [hq2]
  have B2 := Lib.hid (And.intro (B1.out.1.trans (hb.mono B1.out.1.size)) (B1.out.2.trans (hb.mono B1.out.2.size)))
  clear hb
  go_wp2_with fail
  go_ret
  exact ⟨rfl, B2.out.2⟩
theorem eq9_3 (i j : Unt) (r s : UntV) (w : World) (h : IsUnt w i r) (h' : IsUnt w j s) (hq0 : (i.has == j.has) = true) (hq1 : (tgtEq i.t j.t) = true) (hq2 : (funEq i.f j.f) = true) (hq3 : (aloEq i.al j.al) = false) :
    Calls Try.prog 9 #[.agg (untR i r), .agg (untR j s)] w fun e w' => e = .returned (.bool false) ∧ Below w.heap.size w w' := by
  have B0 : Below w.heap.size w ((w.alloc (.cells (untR i r) 36)).alloc (.cells (untR j s) 36)) := ((Below.refl _ w).alloc (Nat.le_refl _) _).alloc (by simp) _
  have hs : w.heap.size ≤ ((w.alloc (.cells (untR i r) 36)).alloc (.cells (untR j s) 36)).heap.size := by simp; omega
  have D := Lib.hid (And.intro (h.below B0) (And.intro (h'.below B0) (And.intro B0 (And.intro hs (box_two w (.cells (untR i r) 36) (.cells (untR j s) 36))))))
  clear h h' B0 hs
  obtain ⟨⟨r0, r1, c0, c1, slots⟩, ⟨machine, name, regs, params, blocks⟩, has, ⟨aslots, segs⟩⟩ := i
  obtain ⟨⟨r0', r1', c0', c1', slots'⟩, ⟨machine', name', regs', params', blocks'⟩, has', ⟨aslots', segs'⟩⟩ := j
  obtain ⟨⟨a0, n0, p0, a1, n1, p1⟩, ⟨ra, rn, rc, pa, pn, pc, ba, bn, bc, rr⟩, ⟨sa, sn, sc⟩⟩ := r
  obtain ⟨⟨a0', n0', p0', a1', n1', p1'⟩, ⟨ra', rn', rc', pa', pn', pc', ba', bn', bc', rr'⟩, ⟨sa', sn', sc'⟩⟩ := s
  unfold untR at D ⊢
  dsimp only at D ⊢
  dsimp only at hq0 hq1 hq2 hq3
  obtain rfl : has = has' := by simpa using hq0
  go_enter Try.func9, Try.ntmps9
  go_wp2_with fail
  refine (eq15_v ⟨r0, r1, c0, c1, slots⟩ ⟨r0', r1', c0', c1', slots'⟩ ⟨a0, n0, p0, a1, n1, p1⟩ ⟨a0', n0', p0', a1', n1', p1'⟩ _ (D.out.1.t) (D.out.2.1.t)).mono ?_
  rintro e w1 ⟨rfl, hb⟩
  rw [hq1]
  have B1 := Lib.hid (And.intro hb (D.out.2.2.1.trans (hb.mono D.out.2.2.2.1)))
  clear hb
  obtain ⟨l1, l2⟩ := D.out.2.2.2.2
  have m1 := kept_box l1 B1.out.1
  have m2 := kept_box l2 B1.out.1
  have z1_5 : w1.cell? ⟨w.heap.size, 5, none⟩ = some (.bool machine) := cell_in m1 5
  have y1_5 : w1.cell? ⟨w.heap.size + 1, 5, none⟩ = some (.bool machine') := cell_in m2 5
  have z1_6 : w1.cell? ⟨w.heap.size, 6, none⟩ = some (.string name) := cell_in m1 6
  have y1_6 : w1.cell? ⟨w.heap.size + 1, 6, none⟩ = some (.string name') := cell_in m2 6
  have z1_7 : w1.cell? ⟨w.heap.size, 7, none⟩ = some (.slice ra rn rc) := cell_in m1 7
  have y1_7 : w1.cell? ⟨w.heap.size + 1, 7, none⟩ = some (.slice ra' rn' rc') := cell_in m2 7
  have z1_8 : w1.cell? ⟨w.heap.size, 8, none⟩ = some (.slice pa pn pc) := cell_in m1 8
  have y1_8 : w1.cell? ⟨w.heap.size + 1, 8, none⟩ = some (.slice pa' pn' pc') := cell_in m2 8
  have z1_9 : w1.cell? ⟨w.heap.size, 9, none⟩ = some (.slice ba bn bc) := cell_in m1 9
  have y1_9 : w1.cell? ⟨w.heap.size + 1, 9, none⟩ = some (.slice ba' bn' bc') := cell_in m2 9
  have z1_11 : w1.cell? ⟨w.heap.size, 11, none⟩ = some (.int .i64 aslots) := cell_in m1 11
  have y1_11 : w1.cell? ⟨w.heap.size + 1, 11, none⟩ = some (.int .i64 aslots') := cell_in m2 11
  have z1_12 : w1.cell? ⟨w.heap.size, 12, none⟩ = some (.slice sa sn sc) := cell_in m1 12
  have y1_12 : w1.cell? ⟨w.heap.size + 1, 12, none⟩ = some (.slice sa' sn' sc') := cell_in m2 12
  clear l1 l2 m1 m2
  go_wp2_with fail
  refine (eq11_v ⟨machine, name, regs, params, blocks⟩ ⟨machine', name', regs', params', blocks'⟩ ⟨ra, rn, rc, pa, pn, pc, ba, bn, bc, rr⟩ ⟨ra', rn', rc', pa', pn', pc', ba', bn', bc', rr'⟩ _ ((D.out.1.below B1.out.1).f) ((D.out.2.1.below B1.out.1).f)).mono ?_
  rintro e w2 ⟨rfl, hb⟩
  rw [hq2]
  have B2 := Lib.hid (And.intro (B1.out.1.trans (hb.mono B1.out.1.size)) (B1.out.2.trans (hb.mono B1.out.2.size)))
  clear hb
  obtain ⟨l1, l2⟩ := D.out.2.2.2.2
  have m1 := kept_box l1 B2.out.1
  have m2 := kept_box l2 B2.out.1
  have z2_11 : w2.cell? ⟨w.heap.size, 11, none⟩ = some (.int .i64 aslots) := cell_in m1 11
  have y2_11 : w2.cell? ⟨w.heap.size + 1, 11, none⟩ = some (.int .i64 aslots') := cell_in m2 11
  have z2_12 : w2.cell? ⟨w.heap.size, 12, none⟩ = some (.slice sa sn sc) := cell_in m1 12
  have y2_12 : w2.cell? ⟨w.heap.size + 1, 12, none⟩ = some (.slice sa' sn' sc') := cell_in m2 12
  clear l1 l2 m1 m2
  go_wp2_with fail
  refine (eq13_v ⟨aslots, segs⟩ ⟨aslots', segs'⟩ ⟨sa, sn, sc⟩ ⟨sa', sn', sc'⟩ _ ((D.out.1.below B2.out.1).al) ((D.out.2.1.below B2.out.1).al)).mono ?_
  rintro e w3 ⟨rfl, hb⟩
  rw [hq3]
  have B3 := Lib.hid (And.intro (B2.out.1.trans (hb.mono B2.out.1.size)) (B2.out.2.trans (hb.mono B2.out.2.size)))
  clear hb
  go_wp2_with fail
  go_ret
  exact ⟨rfl, B3.out.2⟩
theorem eq9_4 (i j : Unt) (r s : UntV) (w : World) (h : IsUnt w i r) (h' : IsUnt w j s) (hq0 : (i.has == j.has) = true) (hq1 : (tgtEq i.t j.t) = true) (hq2 : (funEq i.f j.f) = true) (hq3 : (aloEq i.al j.al) = true) :
    Calls Try.prog 9 #[.agg (untR i r), .agg (untR j s)] w fun e w' => e = .returned (.bool true) ∧ Below w.heap.size w w' := by
  have B0 : Below w.heap.size w ((w.alloc (.cells (untR i r) 36)).alloc (.cells (untR j s) 36)) := ((Below.refl _ w).alloc (Nat.le_refl _) _).alloc (by simp) _
  have hs : w.heap.size ≤ ((w.alloc (.cells (untR i r) 36)).alloc (.cells (untR j s) 36)).heap.size := by simp; omega
  have D := Lib.hid (And.intro (h.below B0) (And.intro (h'.below B0) (And.intro B0 (And.intro hs (box_two w (.cells (untR i r) 36) (.cells (untR j s) 36))))))
  clear h h' B0 hs
  obtain ⟨⟨r0, r1, c0, c1, slots⟩, ⟨machine, name, regs, params, blocks⟩, has, ⟨aslots, segs⟩⟩ := i
  obtain ⟨⟨r0', r1', c0', c1', slots'⟩, ⟨machine', name', regs', params', blocks'⟩, has', ⟨aslots', segs'⟩⟩ := j
  obtain ⟨⟨a0, n0, p0, a1, n1, p1⟩, ⟨ra, rn, rc, pa, pn, pc, ba, bn, bc, rr⟩, ⟨sa, sn, sc⟩⟩ := r
  obtain ⟨⟨a0', n0', p0', a1', n1', p1'⟩, ⟨ra', rn', rc', pa', pn', pc', ba', bn', bc', rr'⟩, ⟨sa', sn', sc'⟩⟩ := s
  unfold untR at D ⊢
  dsimp only at D ⊢
  dsimp only at hq0 hq1 hq2 hq3
  obtain rfl : has = has' := by simpa using hq0
  go_enter Try.func9, Try.ntmps9
  go_wp2_with fail
  refine (eq15_v ⟨r0, r1, c0, c1, slots⟩ ⟨r0', r1', c0', c1', slots'⟩ ⟨a0, n0, p0, a1, n1, p1⟩ ⟨a0', n0', p0', a1', n1', p1'⟩ _ (D.out.1.t) (D.out.2.1.t)).mono ?_
  rintro e w1 ⟨rfl, hb⟩
  rw [hq1]
  have B1 := Lib.hid (And.intro hb (D.out.2.2.1.trans (hb.mono D.out.2.2.2.1)))
  clear hb
  obtain ⟨l1, l2⟩ := D.out.2.2.2.2
  have m1 := kept_box l1 B1.out.1
  have m2 := kept_box l2 B1.out.1
  have z1_5 : w1.cell? ⟨w.heap.size, 5, none⟩ = some (.bool machine) := cell_in m1 5
  have y1_5 : w1.cell? ⟨w.heap.size + 1, 5, none⟩ = some (.bool machine') := cell_in m2 5
  have z1_6 : w1.cell? ⟨w.heap.size, 6, none⟩ = some (.string name) := cell_in m1 6
  have y1_6 : w1.cell? ⟨w.heap.size + 1, 6, none⟩ = some (.string name') := cell_in m2 6
  have z1_7 : w1.cell? ⟨w.heap.size, 7, none⟩ = some (.slice ra rn rc) := cell_in m1 7
  have y1_7 : w1.cell? ⟨w.heap.size + 1, 7, none⟩ = some (.slice ra' rn' rc') := cell_in m2 7
  have z1_8 : w1.cell? ⟨w.heap.size, 8, none⟩ = some (.slice pa pn pc) := cell_in m1 8
  have y1_8 : w1.cell? ⟨w.heap.size + 1, 8, none⟩ = some (.slice pa' pn' pc') := cell_in m2 8
  have z1_9 : w1.cell? ⟨w.heap.size, 9, none⟩ = some (.slice ba bn bc) := cell_in m1 9
  have y1_9 : w1.cell? ⟨w.heap.size + 1, 9, none⟩ = some (.slice ba' bn' bc') := cell_in m2 9
  have z1_11 : w1.cell? ⟨w.heap.size, 11, none⟩ = some (.int .i64 aslots) := cell_in m1 11
  have y1_11 : w1.cell? ⟨w.heap.size + 1, 11, none⟩ = some (.int .i64 aslots') := cell_in m2 11
  have z1_12 : w1.cell? ⟨w.heap.size, 12, none⟩ = some (.slice sa sn sc) := cell_in m1 12
  have y1_12 : w1.cell? ⟨w.heap.size + 1, 12, none⟩ = some (.slice sa' sn' sc') := cell_in m2 12
  clear l1 l2 m1 m2
  go_wp2_with fail
  refine (eq11_v ⟨machine, name, regs, params, blocks⟩ ⟨machine', name', regs', params', blocks'⟩ ⟨ra, rn, rc, pa, pn, pc, ba, bn, bc, rr⟩ ⟨ra', rn', rc', pa', pn', pc', ba', bn', bc', rr'⟩ _ ((D.out.1.below B1.out.1).f) ((D.out.2.1.below B1.out.1).f)).mono ?_
  rintro e w2 ⟨rfl, hb⟩
  rw [hq2]
  have B2 := Lib.hid (And.intro (B1.out.1.trans (hb.mono B1.out.1.size)) (B1.out.2.trans (hb.mono B1.out.2.size)))
  clear hb
  obtain ⟨l1, l2⟩ := D.out.2.2.2.2
  have m1 := kept_box l1 B2.out.1
  have m2 := kept_box l2 B2.out.1
  have z2_11 : w2.cell? ⟨w.heap.size, 11, none⟩ = some (.int .i64 aslots) := cell_in m1 11
  have y2_11 : w2.cell? ⟨w.heap.size + 1, 11, none⟩ = some (.int .i64 aslots') := cell_in m2 11
  have z2_12 : w2.cell? ⟨w.heap.size, 12, none⟩ = some (.slice sa sn sc) := cell_in m1 12
  have y2_12 : w2.cell? ⟨w.heap.size + 1, 12, none⟩ = some (.slice sa' sn' sc') := cell_in m2 12
  clear l1 l2 m1 m2
  go_wp2_with fail
  refine (eq13_v ⟨aslots, segs⟩ ⟨aslots', segs'⟩ ⟨sa, sn, sc⟩ ⟨sa', sn', sc'⟩ _ ((D.out.1.below B2.out.1).al) ((D.out.2.1.below B2.out.1).al)).mono ?_
  rintro e w3 ⟨rfl, hb⟩
  rw [hq3]
  have B3 := Lib.hid (And.intro (B2.out.1.trans (hb.mono B2.out.1.size)) (B2.out.2.trans (hb.mono B2.out.2.size)))
  clear hb
  go_wp2_with fail
  go_ret
  exact ⟨rfl, B3.out.2⟩
theorem eq9_v (i j : Unt) (r s : UntV) (w : World) (h : IsUnt w i r) (h' : IsUnt w j s) :
    Calls Try.prog 9 #[.agg (untR i r), .agg (untR j s)] w fun e w' => e = .returned (.bool (untEq i j)) ∧ Below w.heap.size w w' := by
  cases hq0 : i.has == j.has
  · have hR : untEq i j = false := by unfold untEq; simp [hq0]
    rw [hR]; exact eq9_0 i j r s w h h' hq0
  cases hq1 : tgtEq i.t j.t
  · have hR : untEq i j = false := by unfold untEq; simp [hq0, hq1]
    rw [hR]; exact eq9_1 i j r s w h h' hq0 hq1
  cases hq2 : funEq i.f j.f
  · have hR : untEq i j = false := by unfold untEq; simp [hq0, hq1, hq2]
    rw [hR]; exact eq9_2 i j r s w h h' hq0 hq1 hq2
  cases hq3 : aloEq i.al j.al
  · have hR : untEq i j = false := by unfold untEq; simp [hq0, hq1, hq2, hq3]
    rw [hR]; exact eq9_3 i j r s w h h' hq0 hq1 hq2 hq3
  have hR : untEq i j = true := by unfold untEq; simp [hq0, hq1, hq2, hq3]
  rw [hR]; exact eq9_4 i j r s w h h' hq0 hq1 hq2 hq3
def untEq2 (a b : Unt) : Bool := tgtEq a.t b.t && funEq a.f b.f && a.has == b.has && aloEq a.al b.al
theorem eq10_0 (i j : Unt) (r s : UntV) (w : World) (h : IsUnt w i r) (h' : IsUnt w j s) (hq0 : (tgtEq i.t j.t) = false) :
    Calls Try.prog 10 #[.agg (untR i r), .agg (untR j s)] w fun e w' => e = .returned (.bool false) ∧ Below w.heap.size w w' := by
  have B0 : Below w.heap.size w ((w.alloc (.cells (untR i r) 36)).alloc (.cells (untR j s) 36)) := ((Below.refl _ w).alloc (Nat.le_refl _) _).alloc (by simp) _
  have hs : w.heap.size ≤ ((w.alloc (.cells (untR i r) 36)).alloc (.cells (untR j s) 36)).heap.size := by simp; omega
  have D := Lib.hid (And.intro (h.below B0) (And.intro (h'.below B0) (And.intro B0 (And.intro hs (box_two w (.cells (untR i r) 36) (.cells (untR j s) 36))))))
  clear h h' B0 hs
  obtain ⟨⟨r0, r1, c0, c1, slots⟩, ⟨machine, name, regs, params, blocks⟩, has, ⟨aslots, segs⟩⟩ := i
  obtain ⟨⟨r0', r1', c0', c1', slots'⟩, ⟨machine', name', regs', params', blocks'⟩, has', ⟨aslots', segs'⟩⟩ := j
  obtain ⟨⟨a0, n0, p0, a1, n1, p1⟩, ⟨ra, rn, rc, pa, pn, pc, ba, bn, bc, rr⟩, ⟨sa, sn, sc⟩⟩ := r
  obtain ⟨⟨a0', n0', p0', a1', n1', p1'⟩, ⟨ra', rn', rc', pa', pn', pc', ba', bn', bc', rr'⟩, ⟨sa', sn', sc'⟩⟩ := s
  unfold untR at D ⊢
  dsimp only at D ⊢
  dsimp only at hq0
  go_enter Try.func10, Try.ntmps10
  go_wp2_with fail
  refine (eq16_v ⟨r0, r1, c0, c1, slots⟩ ⟨r0', r1', c0', c1', slots'⟩ ⟨a0, n0, p0, a1, n1, p1⟩ ⟨a0', n0', p0', a1', n1', p1'⟩ _ (D.out.1.t) (D.out.2.1.t)).mono ?_
  rintro e w1 ⟨rfl, hb⟩
  rw [hq0]
  have B1 := Lib.hid (And.intro hb (D.out.2.2.1.trans (hb.mono D.out.2.2.2.1)))
  clear hb
  go_wp2_with fail
  go_ret
  exact ⟨rfl, B1.out.2⟩
theorem eq10_1 (i j : Unt) (r s : UntV) (w : World) (h : IsUnt w i r) (h' : IsUnt w j s) (hq0 : (tgtEq i.t j.t) = true) (hq1 : (funEq i.f j.f) = false) :
    Calls Try.prog 10 #[.agg (untR i r), .agg (untR j s)] w fun e w' => e = .returned (.bool false) ∧ Below w.heap.size w w' := by
  have B0 : Below w.heap.size w ((w.alloc (.cells (untR i r) 36)).alloc (.cells (untR j s) 36)) := ((Below.refl _ w).alloc (Nat.le_refl _) _).alloc (by simp) _
  have hs : w.heap.size ≤ ((w.alloc (.cells (untR i r) 36)).alloc (.cells (untR j s) 36)).heap.size := by simp; omega
  have D := Lib.hid (And.intro (h.below B0) (And.intro (h'.below B0) (And.intro B0 (And.intro hs (box_two w (.cells (untR i r) 36) (.cells (untR j s) 36))))))
  clear h h' B0 hs
  obtain ⟨⟨r0, r1, c0, c1, slots⟩, ⟨machine, name, regs, params, blocks⟩, has, ⟨aslots, segs⟩⟩ := i
  obtain ⟨⟨r0', r1', c0', c1', slots'⟩, ⟨machine', name', regs', params', blocks'⟩, has', ⟨aslots', segs'⟩⟩ := j
  obtain ⟨⟨a0, n0, p0, a1, n1, p1⟩, ⟨ra, rn, rc, pa, pn, pc, ba, bn, bc, rr⟩, ⟨sa, sn, sc⟩⟩ := r
  obtain ⟨⟨a0', n0', p0', a1', n1', p1'⟩, ⟨ra', rn', rc', pa', pn', pc', ba', bn', bc', rr'⟩, ⟨sa', sn', sc'⟩⟩ := s
  unfold untR at D ⊢
  dsimp only at D ⊢
  dsimp only at hq0 hq1
  go_enter Try.func10, Try.ntmps10
  go_wp2_with fail
  refine (eq16_v ⟨r0, r1, c0, c1, slots⟩ ⟨r0', r1', c0', c1', slots'⟩ ⟨a0, n0, p0, a1, n1, p1⟩ ⟨a0', n0', p0', a1', n1', p1'⟩ _ (D.out.1.t) (D.out.2.1.t)).mono ?_
  rintro e w1 ⟨rfl, hb⟩
  rw [hq0]
  have B1 := Lib.hid (And.intro hb (D.out.2.2.1.trans (hb.mono D.out.2.2.2.1)))
  clear hb
  obtain ⟨l1, l2⟩ := D.out.2.2.2.2
  have m1 := kept_box l1 B1.out.1
  have m2 := kept_box l2 B1.out.1
  have z1_5 : w1.cell? ⟨w.heap.size, 5, none⟩ = some (.bool machine) := cell_in m1 5
  have y1_5 : w1.cell? ⟨w.heap.size + 1, 5, none⟩ = some (.bool machine') := cell_in m2 5
  have z1_6 : w1.cell? ⟨w.heap.size, 6, none⟩ = some (.string name) := cell_in m1 6
  have y1_6 : w1.cell? ⟨w.heap.size + 1, 6, none⟩ = some (.string name') := cell_in m2 6
  have z1_7 : w1.cell? ⟨w.heap.size, 7, none⟩ = some (.slice ra rn rc) := cell_in m1 7
  have y1_7 : w1.cell? ⟨w.heap.size + 1, 7, none⟩ = some (.slice ra' rn' rc') := cell_in m2 7
  have z1_8 : w1.cell? ⟨w.heap.size, 8, none⟩ = some (.slice pa pn pc) := cell_in m1 8
  have y1_8 : w1.cell? ⟨w.heap.size + 1, 8, none⟩ = some (.slice pa' pn' pc') := cell_in m2 8
  have z1_9 : w1.cell? ⟨w.heap.size, 9, none⟩ = some (.slice ba bn bc) := cell_in m1 9
  have y1_9 : w1.cell? ⟨w.heap.size + 1, 9, none⟩ = some (.slice ba' bn' bc') := cell_in m2 9
  clear l1 l2 m1 m2
  go_wp2_with fail
  refine (eq12_v ⟨machine, name, regs, params, blocks⟩ ⟨machine', name', regs', params', blocks'⟩ ⟨ra, rn, rc, pa, pn, pc, ba, bn, bc, rr⟩ ⟨ra', rn', rc', pa', pn', pc', ba', bn', bc', rr'⟩ _ ((D.out.1.below B1.out.1).f) ((D.out.2.1.below B1.out.1).f)).mono ?_
  rintro e w2 ⟨rfl, hb⟩
  rw [hq1]
  have B2 := Lib.hid (And.intro (B1.out.1.trans (hb.mono B1.out.1.size)) (B1.out.2.trans (hb.mono B1.out.2.size)))
  clear hb
  go_wp2_with fail
  go_ret
  exact ⟨rfl, B2.out.2⟩
theorem eq10_2 (i j : Unt) (r s : UntV) (w : World) (h : IsUnt w i r) (h' : IsUnt w j s) (hq0 : (tgtEq i.t j.t) = true) (hq1 : (funEq i.f j.f) = true) (hq2 : (i.has == j.has) = false) :
    Calls Try.prog 10 #[.agg (untR i r), .agg (untR j s)] w fun e w' => e = .returned (.bool false) ∧ Below w.heap.size w w' := by
  have B0 : Below w.heap.size w ((w.alloc (.cells (untR i r) 36)).alloc (.cells (untR j s) 36)) := ((Below.refl _ w).alloc (Nat.le_refl _) _).alloc (by simp) _
  have hs : w.heap.size ≤ ((w.alloc (.cells (untR i r) 36)).alloc (.cells (untR j s) 36)).heap.size := by simp; omega
  have D := Lib.hid (And.intro (h.below B0) (And.intro (h'.below B0) (And.intro B0 (And.intro hs (box_two w (.cells (untR i r) 36) (.cells (untR j s) 36))))))
  clear h h' B0 hs
  obtain ⟨⟨r0, r1, c0, c1, slots⟩, ⟨machine, name, regs, params, blocks⟩, has, ⟨aslots, segs⟩⟩ := i
  obtain ⟨⟨r0', r1', c0', c1', slots'⟩, ⟨machine', name', regs', params', blocks'⟩, has', ⟨aslots', segs'⟩⟩ := j
  obtain ⟨⟨a0, n0, p0, a1, n1, p1⟩, ⟨ra, rn, rc, pa, pn, pc, ba, bn, bc, rr⟩, ⟨sa, sn, sc⟩⟩ := r
  obtain ⟨⟨a0', n0', p0', a1', n1', p1'⟩, ⟨ra', rn', rc', pa', pn', pc', ba', bn', bc', rr'⟩, ⟨sa', sn', sc'⟩⟩ := s
  unfold untR at D ⊢
  dsimp only at D ⊢
  dsimp only at hq0 hq1 hq2
  have e2 : (has == has') = false := hq2
  have e2' : ¬ has = has' := by simpa using hq2
  go_enter Try.func10, Try.ntmps10
  go_wp2_with fail
  refine (eq16_v ⟨r0, r1, c0, c1, slots⟩ ⟨r0', r1', c0', c1', slots'⟩ ⟨a0, n0, p0, a1, n1, p1⟩ ⟨a0', n0', p0', a1', n1', p1'⟩ _ (D.out.1.t) (D.out.2.1.t)).mono ?_
  rintro e w1 ⟨rfl, hb⟩
  rw [hq0]
  have B1 := Lib.hid (And.intro hb (D.out.2.2.1.trans (hb.mono D.out.2.2.2.1)))
  clear hb
  obtain ⟨l1, l2⟩ := D.out.2.2.2.2
  have m1 := kept_box l1 B1.out.1
  have m2 := kept_box l2 B1.out.1
  have z1_5 : w1.cell? ⟨w.heap.size, 5, none⟩ = some (.bool machine) := cell_in m1 5
  have y1_5 : w1.cell? ⟨w.heap.size + 1, 5, none⟩ = some (.bool machine') := cell_in m2 5
  have z1_6 : w1.cell? ⟨w.heap.size, 6, none⟩ = some (.string name) := cell_in m1 6
  have y1_6 : w1.cell? ⟨w.heap.size + 1, 6, none⟩ = some (.string name') := cell_in m2 6
  have z1_7 : w1.cell? ⟨w.heap.size, 7, none⟩ = some (.slice ra rn rc) := cell_in m1 7
  have y1_7 : w1.cell? ⟨w.heap.size + 1, 7, none⟩ = some (.slice ra' rn' rc') := cell_in m2 7
  have z1_8 : w1.cell? ⟨w.heap.size, 8, none⟩ = some (.slice pa pn pc) := cell_in m1 8
  have y1_8 : w1.cell? ⟨w.heap.size + 1, 8, none⟩ = some (.slice pa' pn' pc') := cell_in m2 8
  have z1_9 : w1.cell? ⟨w.heap.size, 9, none⟩ = some (.slice ba bn bc) := cell_in m1 9
  have y1_9 : w1.cell? ⟨w.heap.size + 1, 9, none⟩ = some (.slice ba' bn' bc') := cell_in m2 9
  have z1_10 : w1.cell? ⟨w.heap.size, 10, none⟩ = some (.bool has) := cell_in m1 10
  have y1_10 : w1.cell? ⟨w.heap.size + 1, 10, none⟩ = some (.bool has') := cell_in m2 10
  clear l1 l2 m1 m2
  go_wp2_with fail
  refine (eq12_v ⟨machine, name, regs, params, blocks⟩ ⟨machine', name', regs', params', blocks'⟩ ⟨ra, rn, rc, pa, pn, pc, ba, bn, bc, rr⟩ ⟨ra', rn', rc', pa', pn', pc', ba', bn', bc', rr'⟩ _ ((D.out.1.below B1.out.1).f) ((D.out.2.1.below B1.out.1).f)).mono ?_
  rintro e w2 ⟨rfl, hb⟩
  rw [hq1]
  have B2 := Lib.hid (And.intro (B1.out.1.trans (hb.mono B1.out.1.size)) (B1.out.2.trans (hb.mono B1.out.2.size)))
  clear hb
  obtain ⟨l1, l2⟩ := D.out.2.2.2.2
  have m1 := kept_box l1 B2.out.1
  have m2 := kept_box l2 B2.out.1
  have z2_10 : w2.cell? ⟨w.heap.size, 10, none⟩ = some (.bool has) := cell_in m1 10
  have y2_10 : w2.cell? ⟨w.heap.size + 1, 10, none⟩ = some (.bool has') := cell_in m2 10
  clear l1 l2 m1 m2
  go_wp2_with fail
  go_ret
  exact ⟨rfl, B2.out.2⟩
theorem eq10_3 (i j : Unt) (r s : UntV) (w : World) (h : IsUnt w i r) (h' : IsUnt w j s) (hq0 : (tgtEq i.t j.t) = true) (hq1 : (funEq i.f j.f) = true) (hq2 : (i.has == j.has) = true) (hq3 : (aloEq i.al j.al) = false) :
    Calls Try.prog 10 #[.agg (untR i r), .agg (untR j s)] w fun e w' => e = .returned (.bool false) ∧ Below w.heap.size w w' := by
  have B0 : Below w.heap.size w ((w.alloc (.cells (untR i r) 36)).alloc (.cells (untR j s) 36)) := ((Below.refl _ w).alloc (Nat.le_refl _) _).alloc (by simp) _
  have hs : w.heap.size ≤ ((w.alloc (.cells (untR i r) 36)).alloc (.cells (untR j s) 36)).heap.size := by simp; omega
  have D := Lib.hid (And.intro (h.below B0) (And.intro (h'.below B0) (And.intro B0 (And.intro hs (box_two w (.cells (untR i r) 36) (.cells (untR j s) 36))))))
  clear h h' B0 hs
  obtain ⟨⟨r0, r1, c0, c1, slots⟩, ⟨machine, name, regs, params, blocks⟩, has, ⟨aslots, segs⟩⟩ := i
  obtain ⟨⟨r0', r1', c0', c1', slots'⟩, ⟨machine', name', regs', params', blocks'⟩, has', ⟨aslots', segs'⟩⟩ := j
  obtain ⟨⟨a0, n0, p0, a1, n1, p1⟩, ⟨ra, rn, rc, pa, pn, pc, ba, bn, bc, rr⟩, ⟨sa, sn, sc⟩⟩ := r
  obtain ⟨⟨a0', n0', p0', a1', n1', p1'⟩, ⟨ra', rn', rc', pa', pn', pc', ba', bn', bc', rr'⟩, ⟨sa', sn', sc'⟩⟩ := s
  unfold untR at D ⊢
  dsimp only at D ⊢
  dsimp only at hq0 hq1 hq2 hq3
  obtain rfl : has = has' := by simpa using hq2
  go_enter Try.func10, Try.ntmps10
  go_wp2_with fail
  refine (eq16_v ⟨r0, r1, c0, c1, slots⟩ ⟨r0', r1', c0', c1', slots'⟩ ⟨a0, n0, p0, a1, n1, p1⟩ ⟨a0', n0', p0', a1', n1', p1'⟩ _ (D.out.1.t) (D.out.2.1.t)).mono ?_
  rintro e w1 ⟨rfl, hb⟩
  rw [hq0]
  have B1 := Lib.hid (And.intro hb (D.out.2.2.1.trans (hb.mono D.out.2.2.2.1)))
  clear hb
  obtain ⟨l1, l2⟩ := D.out.2.2.2.2
  have m1 := kept_box l1 B1.out.1
  have m2 := kept_box l2 B1.out.1
  have z1_5 : w1.cell? ⟨w.heap.size, 5, none⟩ = some (.bool machine) := cell_in m1 5
  have y1_5 : w1.cell? ⟨w.heap.size + 1, 5, none⟩ = some (.bool machine') := cell_in m2 5
  have z1_6 : w1.cell? ⟨w.heap.size, 6, none⟩ = some (.string name) := cell_in m1 6
  have y1_6 : w1.cell? ⟨w.heap.size + 1, 6, none⟩ = some (.string name') := cell_in m2 6
  have z1_7 : w1.cell? ⟨w.heap.size, 7, none⟩ = some (.slice ra rn rc) := cell_in m1 7
  have y1_7 : w1.cell? ⟨w.heap.size + 1, 7, none⟩ = some (.slice ra' rn' rc') := cell_in m2 7
  have z1_8 : w1.cell? ⟨w.heap.size, 8, none⟩ = some (.slice pa pn pc) := cell_in m1 8
  have y1_8 : w1.cell? ⟨w.heap.size + 1, 8, none⟩ = some (.slice pa' pn' pc') := cell_in m2 8
  have z1_9 : w1.cell? ⟨w.heap.size, 9, none⟩ = some (.slice ba bn bc) := cell_in m1 9
  have y1_9 : w1.cell? ⟨w.heap.size + 1, 9, none⟩ = some (.slice ba' bn' bc') := cell_in m2 9
  have z1_10 : w1.cell? ⟨w.heap.size, 10, none⟩ = some (.bool has) := cell_in m1 10
  have y1_10 : w1.cell? ⟨w.heap.size + 1, 10, none⟩ = some (.bool has) := cell_in m2 10
  have z1_11 : w1.cell? ⟨w.heap.size, 11, none⟩ = some (.int .i64 aslots) := cell_in m1 11
  have y1_11 : w1.cell? ⟨w.heap.size + 1, 11, none⟩ = some (.int .i64 aslots') := cell_in m2 11
  have z1_12 : w1.cell? ⟨w.heap.size, 12, none⟩ = some (.slice sa sn sc) := cell_in m1 12
  have y1_12 : w1.cell? ⟨w.heap.size + 1, 12, none⟩ = some (.slice sa' sn' sc') := cell_in m2 12
  clear l1 l2 m1 m2
  go_wp2_with fail
  refine (eq12_v ⟨machine, name, regs, params, blocks⟩ ⟨machine', name', regs', params', blocks'⟩ ⟨ra, rn, rc, pa, pn, pc, ba, bn, bc, rr⟩ ⟨ra', rn', rc', pa', pn', pc', ba', bn', bc', rr'⟩ _ ((D.out.1.below B1.out.1).f) ((D.out.2.1.below B1.out.1).f)).mono ?_
  rintro e w2 ⟨rfl, hb⟩
  rw [hq1]
  have B2 := Lib.hid (And.intro (B1.out.1.trans (hb.mono B1.out.1.size)) (B1.out.2.trans (hb.mono B1.out.2.size)))
  clear hb
  obtain ⟨l1, l2⟩ := D.out.2.2.2.2
  have m1 := kept_box l1 B2.out.1
  have m2 := kept_box l2 B2.out.1
  have z2_10 : w2.cell? ⟨w.heap.size, 10, none⟩ = some (.bool has) := cell_in m1 10
  have y2_10 : w2.cell? ⟨w.heap.size + 1, 10, none⟩ = some (.bool has) := cell_in m2 10
  have z2_11 : w2.cell? ⟨w.heap.size, 11, none⟩ = some (.int .i64 aslots) := cell_in m1 11
  have y2_11 : w2.cell? ⟨w.heap.size + 1, 11, none⟩ = some (.int .i64 aslots') := cell_in m2 11
  have z2_12 : w2.cell? ⟨w.heap.size, 12, none⟩ = some (.slice sa sn sc) := cell_in m1 12
  have y2_12 : w2.cell? ⟨w.heap.size + 1, 12, none⟩ = some (.slice sa' sn' sc') := cell_in m2 12
  clear l1 l2 m1 m2
  go_wp2_with fail
  refine (eq14_v ⟨aslots, segs⟩ ⟨aslots', segs'⟩ ⟨sa, sn, sc⟩ ⟨sa', sn', sc'⟩ _ ((D.out.1.below B2.out.1).al) ((D.out.2.1.below B2.out.1).al)).mono ?_
  rintro e w3 ⟨rfl, hb⟩
  rw [hq3]
  have B3 := Lib.hid (And.intro (B2.out.1.trans (hb.mono B2.out.1.size)) (B2.out.2.trans (hb.mono B2.out.2.size)))
  clear hb
  go_wp2_with fail
  go_ret
  exact ⟨rfl, B3.out.2⟩
theorem eq10_4 (i j : Unt) (r s : UntV) (w : World) (h : IsUnt w i r) (h' : IsUnt w j s) (hq0 : (tgtEq i.t j.t) = true) (hq1 : (funEq i.f j.f) = true) (hq2 : (i.has == j.has) = true) (hq3 : (aloEq i.al j.al) = true) :
    Calls Try.prog 10 #[.agg (untR i r), .agg (untR j s)] w fun e w' => e = .returned (.bool true) ∧ Below w.heap.size w w' := by
  have B0 : Below w.heap.size w ((w.alloc (.cells (untR i r) 36)).alloc (.cells (untR j s) 36)) := ((Below.refl _ w).alloc (Nat.le_refl _) _).alloc (by simp) _
  have hs : w.heap.size ≤ ((w.alloc (.cells (untR i r) 36)).alloc (.cells (untR j s) 36)).heap.size := by simp; omega
  have D := Lib.hid (And.intro (h.below B0) (And.intro (h'.below B0) (And.intro B0 (And.intro hs (box_two w (.cells (untR i r) 36) (.cells (untR j s) 36))))))
  clear h h' B0 hs
  obtain ⟨⟨r0, r1, c0, c1, slots⟩, ⟨machine, name, regs, params, blocks⟩, has, ⟨aslots, segs⟩⟩ := i
  obtain ⟨⟨r0', r1', c0', c1', slots'⟩, ⟨machine', name', regs', params', blocks'⟩, has', ⟨aslots', segs'⟩⟩ := j
  obtain ⟨⟨a0, n0, p0, a1, n1, p1⟩, ⟨ra, rn, rc, pa, pn, pc, ba, bn, bc, rr⟩, ⟨sa, sn, sc⟩⟩ := r
  obtain ⟨⟨a0', n0', p0', a1', n1', p1'⟩, ⟨ra', rn', rc', pa', pn', pc', ba', bn', bc', rr'⟩, ⟨sa', sn', sc'⟩⟩ := s
  unfold untR at D ⊢
  dsimp only at D ⊢
  dsimp only at hq0 hq1 hq2 hq3
  obtain rfl : has = has' := by simpa using hq2
  go_enter Try.func10, Try.ntmps10
  go_wp2_with fail
  refine (eq16_v ⟨r0, r1, c0, c1, slots⟩ ⟨r0', r1', c0', c1', slots'⟩ ⟨a0, n0, p0, a1, n1, p1⟩ ⟨a0', n0', p0', a1', n1', p1'⟩ _ (D.out.1.t) (D.out.2.1.t)).mono ?_
  rintro e w1 ⟨rfl, hb⟩
  rw [hq0]
  have B1 := Lib.hid (And.intro hb (D.out.2.2.1.trans (hb.mono D.out.2.2.2.1)))
  clear hb
  obtain ⟨l1, l2⟩ := D.out.2.2.2.2
  have m1 := kept_box l1 B1.out.1
  have m2 := kept_box l2 B1.out.1
  have z1_5 : w1.cell? ⟨w.heap.size, 5, none⟩ = some (.bool machine) := cell_in m1 5
  have y1_5 : w1.cell? ⟨w.heap.size + 1, 5, none⟩ = some (.bool machine') := cell_in m2 5
  have z1_6 : w1.cell? ⟨w.heap.size, 6, none⟩ = some (.string name) := cell_in m1 6
  have y1_6 : w1.cell? ⟨w.heap.size + 1, 6, none⟩ = some (.string name') := cell_in m2 6
  have z1_7 : w1.cell? ⟨w.heap.size, 7, none⟩ = some (.slice ra rn rc) := cell_in m1 7
  have y1_7 : w1.cell? ⟨w.heap.size + 1, 7, none⟩ = some (.slice ra' rn' rc') := cell_in m2 7
  have z1_8 : w1.cell? ⟨w.heap.size, 8, none⟩ = some (.slice pa pn pc) := cell_in m1 8
  have y1_8 : w1.cell? ⟨w.heap.size + 1, 8, none⟩ = some (.slice pa' pn' pc') := cell_in m2 8
  have z1_9 : w1.cell? ⟨w.heap.size, 9, none⟩ = some (.slice ba bn bc) := cell_in m1 9
  have y1_9 : w1.cell? ⟨w.heap.size + 1, 9, none⟩ = some (.slice ba' bn' bc') := cell_in m2 9
  have z1_10 : w1.cell? ⟨w.heap.size, 10, none⟩ = some (.bool has) := cell_in m1 10
  have y1_10 : w1.cell? ⟨w.heap.size + 1, 10, none⟩ = some (.bool has) := cell_in m2 10
  have z1_11 : w1.cell? ⟨w.heap.size, 11, none⟩ = some (.int .i64 aslots) := cell_in m1 11
  have y1_11 : w1.cell? ⟨w.heap.size + 1, 11, none⟩ = some (.int .i64 aslots') := cell_in m2 11
  have z1_12 : w1.cell? ⟨w.heap.size, 12, none⟩ = some (.slice sa sn sc) := cell_in m1 12
  have y1_12 : w1.cell? ⟨w.heap.size + 1, 12, none⟩ = some (.slice sa' sn' sc') := cell_in m2 12
  clear l1 l2 m1 m2
  go_wp2_with fail
  refine (eq12_v ⟨machine, name, regs, params, blocks⟩ ⟨machine', name', regs', params', blocks'⟩ ⟨ra, rn, rc, pa, pn, pc, ba, bn, bc, rr⟩ ⟨ra', rn', rc', pa', pn', pc', ba', bn', bc', rr'⟩ _ ((D.out.1.below B1.out.1).f) ((D.out.2.1.below B1.out.1).f)).mono ?_
  rintro e w2 ⟨rfl, hb⟩
  rw [hq1]
  have B2 := Lib.hid (And.intro (B1.out.1.trans (hb.mono B1.out.1.size)) (B1.out.2.trans (hb.mono B1.out.2.size)))
  clear hb
  obtain ⟨l1, l2⟩ := D.out.2.2.2.2
  have m1 := kept_box l1 B2.out.1
  have m2 := kept_box l2 B2.out.1
  have z2_10 : w2.cell? ⟨w.heap.size, 10, none⟩ = some (.bool has) := cell_in m1 10
  have y2_10 : w2.cell? ⟨w.heap.size + 1, 10, none⟩ = some (.bool has) := cell_in m2 10
  have z2_11 : w2.cell? ⟨w.heap.size, 11, none⟩ = some (.int .i64 aslots) := cell_in m1 11
  have y2_11 : w2.cell? ⟨w.heap.size + 1, 11, none⟩ = some (.int .i64 aslots') := cell_in m2 11
  have z2_12 : w2.cell? ⟨w.heap.size, 12, none⟩ = some (.slice sa sn sc) := cell_in m1 12
  have y2_12 : w2.cell? ⟨w.heap.size + 1, 12, none⟩ = some (.slice sa' sn' sc') := cell_in m2 12
  clear l1 l2 m1 m2
  go_wp2_with fail
  refine (eq14_v ⟨aslots, segs⟩ ⟨aslots', segs'⟩ ⟨sa, sn, sc⟩ ⟨sa', sn', sc'⟩ _ ((D.out.1.below B2.out.1).al) ((D.out.2.1.below B2.out.1).al)).mono ?_
  rintro e w3 ⟨rfl, hb⟩
  rw [hq3]
  have B3 := Lib.hid (And.intro (B2.out.1.trans (hb.mono B2.out.1.size)) (B2.out.2.trans (hb.mono B2.out.2.size)))
  clear hb
  go_wp2_with fail
  go_ret
  exact ⟨rfl, B3.out.2⟩
theorem eq10_v (i j : Unt) (r s : UntV) (w : World) (h : IsUnt w i r) (h' : IsUnt w j s) :
    Calls Try.prog 10 #[.agg (untR i r), .agg (untR j s)] w fun e w' => e = .returned (.bool (untEq2 i j)) ∧ Below w.heap.size w w' := by
  cases hq0 : tgtEq i.t j.t
  · have hR : untEq2 i j = false := by unfold untEq2; simp [hq0]
    rw [hR]; exact eq10_0 i j r s w h h' hq0
  cases hq1 : funEq i.f j.f
  · have hR : untEq2 i j = false := by unfold untEq2; simp [hq0, hq1]
    rw [hR]; exact eq10_1 i j r s w h h' hq0 hq1
  cases hq2 : i.has == j.has
  · have hR : untEq2 i j = false := by unfold untEq2; simp [hq0, hq1, hq2]
    rw [hR]; exact eq10_2 i j r s w h h' hq0 hq1 hq2
  cases hq3 : aloEq i.al j.al
  · have hR : untEq2 i j = false := by unfold untEq2; simp [hq0, hq1, hq2, hq3]
    rw [hR]; exact eq10_3 i j r s w h h' hq0 hq1 hq2 hq3
  have hR : untEq2 i j = true := by unfold untEq2; simp [hq0, hq1, hq2, hq3]
  rw [hR]; exact eq10_4 i j r s w h h' hq0 hq1 hq2 hq3
theorem untEq_two (a b : Unt) : untEq2 a b = untEq a b := by
  unfold untEq untEq2
  cases a.has == b.has <;> cases tgtEq a.t b.t <;> cases funEq a.f b.f <;> cases aloEq a.al b.al <;> rfl
end Go.Proofs.Ytocelaebokikcaa
