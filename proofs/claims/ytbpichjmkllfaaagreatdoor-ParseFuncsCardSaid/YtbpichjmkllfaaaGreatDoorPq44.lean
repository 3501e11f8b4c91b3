/- Packed texts of one proof. Conditions: none. -/
import Derived.Test.YtbpichjmkllfaaaGreatDoorPq43
import Derived.BigRegion
import Derived.ChangeAlike
namespace Go.Proofs.YtbpichjmkllfaaaGreatDoor
open Go.ChangeShapes Go.WideShapes Go.RowKit
set_option linter.unusedVariables false
set_option maxRecDepth 20000
theorem eq11_0 (i j : Fun) (r s : FunV) (w : World) (h : IsFun w i r) (h' : IsFun w j s) (hq0 : (i.machine == j.machine) = false) :
  Calls Tryz.prog 11 #[.agg (funR i r), .agg (funR j s)] w fun e w' => e = .returned (.bool false) ∧ Below w.heap.size w w' := by
 have B0 : Below w.heap.size w ((w.alloc (.cells (funR i r) 27)).alloc (.cells (funR j s) 27)) := ((Below.refl _ w).alloc (Nat.le_refl _) _).alloc (by simp) _
 have hs : w.heap.size ≤ ((w.alloc (.cells (funR i r) 27)).alloc (.cells (funR j s) 27)).heap.size := by simp; omega
 have hmr := h.regs.2.1
 have hmb := h.blocks.2.1
 have LR := Hh (Ai h.regs.1 (Ai h'.regs.1 (Ai h.blocks.1 h'.blocks.1)))
 have D := Hh (Ai (h.below B0) (Ai (h'.below B0) (Ai B0 (Ai hs (box_two w (.cells (funR i r) 27) (.cells (funR j s) 27))))))
 clear h h' B0 hs
 obtain ⟨machine, name, regs, params, blocks⟩ := i
 obtain ⟨machine', name', regs', params', blocks'⟩ := j
 obtain ⟨ra, rn, rc, pa, pn, pc, ba, bn, bc, rr⟩ := r
 obtain ⟨ra', rn', rc', pa', pn', pc', ba', bn', bc', rr'⟩ := s
 unfold funR at D ⊢
 dsimp only at D hmr hmb LR ⊢
 dsimp only at hq0
 have e0 : (machine == machine') = false := hq0
 have e0' : ¬ machine = machine' := by simpa using hq0
 go_enter Tryz.func11, Tryz.ntmps11
 go_wp2_with fail
 go_ret
 exact ⟨rfl, D.out.2.2.1⟩
theorem eq11_1 (i j : Fun) (r s : FunV) (w : World) (h : IsFun w i r) (h' : IsFun w j s) (hq0 : (i.machine == j.machine) = true) (hq1 : (i.name.toList == j.name.toList) = false) :
  Calls Tryz.prog 11 #[.agg (funR i r), .agg (funR j s)] w fun e w' => e = .returned (.bool false) ∧ Below w.heap.size w w' := by
 have B0 : Below w.heap.size w ((w.alloc (.cells (funR i r) 27)).alloc (.cells (funR j s) 27)) := ((Below.refl _ w).alloc (Nat.le_refl _) _).alloc (by simp) _
 have hs : w.heap.size ≤ ((w.alloc (.cells (funR i r) 27)).alloc (.cells (funR j s) 27)).heap.size := by simp; omega
 have hmr := h.regs.2.1
 have hmb := h.blocks.2.1
 have LR := Hh (Ai h.regs.1 (Ai h'.regs.1 (Ai h.blocks.1 h'.blocks.1)))
 have D := Hh (Ai (h.below B0) (Ai (h'.below B0) (Ai B0 (Ai hs (box_two w (.cells (funR i r) 27) (.cells (funR j s) 27))))))
 clear h h' B0 hs
 obtain ⟨machine, name, regs, params, blocks⟩ := i
 obtain ⟨machine', name', regs', params', blocks'⟩ := j
 obtain ⟨ra, rn, rc, pa, pn, pc, ba, bn, bc, rr⟩ := r
 obtain ⟨ra', rn', rc', pa', pn', pc', ba', bn', bc', rr'⟩ := s
 unfold funR at D ⊢
 dsimp only at D hmr hmb LR ⊢
 dsimp only at hq0 hq1
 obtain rfl : machine = machine' := by simpa using hq0
 have e1 : ¬ name.toList = name'.toList := by simpa using hq1
 go_enter Tryz.func11, Tryz.ntmps11
 go_wp2_with fail
 go_ret
 exact ⟨rfl, D.out.2.2.1⟩
theorem eq11_2 (i j : Fun) (r s : FunV) (w : World) (h : IsFun w i r) (h' : IsFun w j s) (hq0 : (i.machine == j.machine) = true) (hq1 : (i.name.toList == j.name.toList) = true) (hq2 : ((r.rn == s.rn)) = false) :
  Calls Tryz.prog 11 #[.agg (funR i r), .agg (funR j s)] w fun e w' => e = .returned (.bool false) ∧ Below w.heap.size w w' := by
 have B0 : Below w.heap.size w ((w.alloc (.cells (funR i r) 27)).alloc (.cells (funR j s) 27)) := ((Below.refl _ w).alloc (Nat.le_refl _) _).alloc (by simp) _
 have hs : w.heap.size ≤ ((w.alloc (.cells (funR i r) 27)).alloc (.cells (funR j s) 27)).heap.size := by simp; omega
 have hmr := h.regs.2.1
 have hmb := h.blocks.2.1
 have LR := Hh (Ai h.regs.1 (Ai h'.regs.1 (Ai h.blocks.1 h'.blocks.1)))
 have D := Hh (Ai (h.below B0) (Ai (h'.below B0) (Ai B0 (Ai hs (box_two w (.cells (funR i r) 27) (.cells (funR j s) 27))))))
 clear h h' B0 hs
 obtain ⟨machine, name, regs, params, blocks⟩ := i
 obtain ⟨machine', name', regs', params', blocks'⟩ := j
 obtain ⟨ra, rn, rc, pa, pn, pc, ba, bn, bc, rr⟩ := r
 obtain ⟨ra', rn', rc', pa', pn', pc', ba', bn', bc', rr'⟩ := s
 unfold funR at D ⊢
 dsimp only at D hmr hmb LR ⊢
 dsimp only at hq0 hq1 hq2
 obtain rfl : machine = machine' := by simpa using hq0
 have e1 : name.toList = name'.toList := by simpa using hq1
 have e2 : ¬ (rn : Int) = (rn' : Int) := by have : ¬ rn = rn' := (by simpa using hq2); omega
 go_enter Tryz.func11, Tryz.ntmps11
 go_wp2_with fail
 go_ret
 exact ⟨rfl, D.out.2.2.1⟩
theorem eq11_3 (i j : Fun) (r s : FunV) (w : World) (h : IsFun w i r) (h' : IsFun w j s) (hq0 : (i.machine == j.machine) = true) (hq1 : (i.name.toList == j.name.toList) = true) (hq2 : ((r.rn == s.rn)) = true) (hq3 : (sameL opEq i.params j.params) = false) :
  Calls Tryz.prog 11 #[.agg (funR i r), .agg (funR j s)] w fun e w' => e = .returned (.bool false) ∧ Below w.heap.size w w' := by
 have B0 : Below w.heap.size w ((w.alloc (.cells (funR i r) 27)).alloc (.cells (funR j s) 27)) := ((Below.refl _ w).alloc (Nat.le_refl _) _).alloc (by simp) _
 have hs : w.heap.size ≤ ((w.alloc (.cells (funR i r) 27)).alloc (.cells (funR j s) 27)).heap.size := by simp; omega
 have hmr := h.regs.2.1
 have hmb := h.blocks.2.1
 have LR := Hh (Ai h.regs.1 (Ai h'.regs.1 (Ai h.blocks.1 h'.blocks.1)))
 have D := Hh (Ai (h.below B0) (Ai (h'.below B0) (Ai B0 (Ai hs (box_two w (.cells (funR i r) 27) (.cells (funR j s) 27))))))
 clear h h' B0 hs
 obtain ⟨machine, name, regs, params, blocks⟩ := i
 obtain ⟨machine', name', regs', params', blocks'⟩ := j
 obtain ⟨ra, rn, rc, pa, pn, pc, ba, bn, bc, rr⟩ := r
 obtain ⟨ra', rn', rc', pa', pn', pc', ba', bn', bc', rr'⟩ := s
 unfold funR at D ⊢
 dsimp only at D hmr hmb LR ⊢
 dsimp only at hq0 hq1 hq2 hq3
 obtain rfl : machine = machine' := by simpa using hq0
 have e1 : name.toList = name'.toList := by simpa using hq1
 obtain rfl : rn = rn' := by simpa using hq2
 go_enter Tryz.func11, Tryz.ntmps11
 go_wp2_with fail
 refine (eq29_v _ _ _ _ _ _ _ _ _ (D.out.1.params) (D.out.2.1.params)).mono ?_
 rintro e w1 ⟨rfl, hb⟩
 rw [hq3]
 have B1 := Hh (Ai hb (D.out.2.2.1.trans (hb.mono D.out.2.2.2.1)))
 clear hb
 go_wp2_with fail
 go_ret
 exact ⟨rfl, B1.out.2⟩
theorem eq11_4 (i j : Fun) (r s : FunV) (w : World) (h : IsFun w i r) (h' : IsFun w j s) (hq0 : (i.machine == j.machine) = true) (hq1 : (i.name.toList == j.name.toList) = true) (hq2 : ((r.rn == s.rn)) = true) (hq3 : (sameL opEq i.params j.params) = true) (hq4 : ((r.bn == s.bn)) = false) :
  Calls Tryz.prog 11 #[.agg (funR i r), .agg (funR j s)] w fun e w' => e = .returned (.bool false) ∧ Below w.heap.size w w' := by
 have B0 : Below w.heap.size w ((w.alloc (.cells (funR i r) 27)).alloc (.cells (funR j s) 27)) := ((Below.refl _ w).alloc (Nat.le_refl _) _).alloc (by simp) _
 have hs : w.heap.size ≤ ((w.alloc (.cells (funR i r) 27)).alloc (.cells (funR j s) 27)).heap.size := by simp; omega
 have hmr := h.regs.2.1
 have hmb := h.blocks.2.1
 have LR := Hh (Ai h.regs.1 (Ai h'.regs.1 (Ai h.blocks.1 h'.blocks.1)))
 have D := Hh (Ai (h.below B0) (Ai (h'.below B0) (Ai B0 (Ai hs (box_two w (.cells (funR i r) 27) (.cells (funR j s) 27))))))
 clear h h' B0 hs
 obtain ⟨machine, name, regs, params, blocks⟩ := i
 obtain ⟨machine', name', regs', params', blocks'⟩ := j
 obtain ⟨ra, rn, rc, pa, pn, pc, ba, bn, bc, rr⟩ := r
 obtain ⟨ra', rn', rc', pa', pn', pc', ba', bn', bc', rr'⟩ := s
 unfold funR at D ⊢
 dsimp only at D hmr hmb LR ⊢
 dsimp only at hq0 hq1 hq2 hq3 hq4
 obtain rfl : machine = machine' := by simpa using hq0
 have e1 : name.toList = name'.toList := by simpa using hq1
 obtain rfl : rn = rn' := by simpa using hq2
 have e4 : ¬ (bn : Int) = (bn' : Int) := by have : ¬ bn = bn' := (by simpa using hq4); omega
 go_enter Tryz.func11, Tryz.ntmps11
 go_wp2_with fail
 refine (eq29_v _ _ _ _ _ _ _ _ _ (D.out.1.params) (D.out.2.1.params)).mono ?_
 rintro e w1 ⟨rfl, hb⟩
 rw [hq3]
 have B1 := Hh (Ai hb (D.out.2.2.1.trans (hb.mono D.out.2.2.2.1)))
 clear hb
 obtain ⟨l1, l2⟩ := D.out.2.2.2.2
 have m1 := kept_box l1 B1.out.1
 have m2 := kept_box l2 B1.out.1
 have z4 : w1.cell? ⟨w.heap.size, 4, none⟩ = some (.slice ba bn bc) := cell_in m1 4
 have y4 : w1.cell? ⟨w.heap.size + 1, 4, none⟩ = some (.slice ba' bn' bc') := cell_in m2 4
 clear l1 l2 m1 m2
 go_wp2_with fail
 go_ret
 exact ⟨rfl, B1.out.2⟩
set_option maxHeartbeats 4000000 in
theorem eq11_5 (i j : Fun) (r s : FunV) (w : World) (h : IsFun w i r) (h' : IsFun w j s) (hq0 : (i.machine == j.machine) = true) (hq1 : (i.name.toList == j.name.toList) = true) (hq2 : ((r.rn == s.rn)) = true) (hq3 : (sameL opEq i.params j.params) = true) (hq4 : ((r.bn == s.bn)) = true) :
  Calls Tryz.prog 11 #[.agg (funR i r), .agg (funR j s)] w fun e w' => e = .returned (.bool (sameL rgEq i.regs j.regs && sameL blkEq i.blocks j.blocks)) ∧ Below w.heap.size w w' := by
 have B0 : Below w.heap.size w ((w.alloc (.cells (funR i r) 27)).alloc (.cells (funR j s) 27)) := ((Below.refl _ w).alloc (Nat.le_refl _) _).alloc (by simp) _
 have hs : w.heap.size ≤ ((w.alloc (.cells (funR i r) 27)).alloc (.cells (funR j s) 27)).heap.size := by simp; omega
 have hmr := h.regs.2.1
 have hmb := h.blocks.2.1
 have LR := Hh (Ai h.regs.1 (Ai h'.regs.1 (Ai h.blocks.1 h'.blocks.1)))
 have D := Hh (Ai (h.below B0) (Ai (h'.below B0) (Ai B0 (Ai hs (box_two w (.cells (funR i r) 27) (.cells (funR j s) 27))))))
 clear h h' B0 hs
 obtain ⟨machine, name, regs, params, blocks⟩ := i
 obtain ⟨machine', name', regs', params', blocks'⟩ := j
 obtain ⟨ra, rn, rc, pa, pn, pc, ba, bn, bc, rr⟩ := r
 obtain ⟨ra', rn', rc', pa', pn', pc', ba', bn', bc', rr'⟩ := s
 unfold funR at D ⊢
 dsimp only at D hmr hmb LR ⊢
 dsimp only at hq0 hq1 hq2 hq3 hq4
 obtain rfl : machine = machine' := by simpa using hq0
 have e1 : name.toList = name'.toList := by simpa using hq1
 obtain rfl : rn = rn' := by simpa using hq2
 obtain rfl : bn = bn' := by simpa using hq4
 go_enter Tryz.func11, Tryz.ntmps11
 go_wp2_with fail
 refine (eq29_v _ _ _ _ _ _ _ _ _ (D.out.1.params) (D.out.2.1.params)).mono ?_
 rintro e w1 ⟨rfl, hb⟩
 rw [hq3]
 have B1 := Hh (Ai hb (D.out.2.2.1.trans (hb.mono D.out.2.2.2.1)))
 clear hb
 obtain ⟨l1, l2⟩ := D.out.2.2.2.2
 have m1 := kept_box l1 B1.out.1
 have m2 := kept_box l2 B1.out.1
 have z4 : w1.cell? ⟨w.heap.size, 4, none⟩ = some (.slice ba bn bc) := cell_in m1 4
 have y4 : w1.cell? ⟨w.heap.size + 1, 4, none⟩ = some (.slice ba' bn bc') := cell_in m2 4
 clear l1 l2 m1 m2
 go_wp2_with fail
 go_loopg [5] rn (fun gk u wr => ∃ k : Nat, k + gk = rn ∧ u = .int .i64 (k : Int) ∧ Hid (Below ((w.alloc (.cells #[.bool machine, .string name, .slice ra rn rc, .slice pa pn pc, .slice ba bn bc] 27)).alloc (.cells #[.bool machine, .string name', .slice ra' rn rc', .slice pa' pn' pc', .slice ba' bn bc'] 27)).heap.size ((w.alloc (.cells #[.bool machine, .string name, .slice ra rn rc, .slice pa pn pc, .slice ba bn bc] 27)).alloc (.cells #[.bool machine, .string name', .slice ra' rn rc', .slice pa' pn' pc', .slice ba' bn bc'] 27)) wr ∧ ∀ (j : Nat) (x y : Rg), j < k → regs[j]? = some x → regs'[j]? = some y → rgEq x y = true))
 case atStart => exact ⟨0, by omega, rfl, B1.out.1, fun j x y hj => by omega⟩
 case round =>
  obtain ⟨k, hk, rfl, HH⟩ := hrel
  obtain ⟨l1, l2⟩ := D.out.2.2.2.2
  have m1 := kept_box l1 HH.out.1
  have m2 := kept_box l2 HH.out.1
  have z2 : wr.cell? ⟨w.heap.size, 2, none⟩ = some (.slice ra rn rc) := cell_in m1 2
  have y2 : wr.cell? ⟨w.heap.size + 1, 2, none⟩ = some (.slice ra' rn rc') := cell_in m2 2
  clear l1 l2 m1 m2
  have BB := Hh (D.out.2.2.1.trans (HH.out.1.mono D.out.2.2.2.1))
  by_cases hlt : k < rn
  ·obtain ⟨b, o, rfl, hb, x, hx, c0, c1⟩ := (D.out.1.below HH.out.1).regs.at hlt
   obtain ⟨b', o', rfl, hb', y, hy, d0, d1⟩ := (D.out.2.1.below HH.out.1).regs.at hlt
   have i1 : (k : Int) < (rn : Int) := by omega
   cases hq : rgEq x y
   ·have HX := Hh (sameL_no rgEq regs regs' k x y hx hy hq)
    clear hx hy
    obtain ⟨px, py⟩ := x
    obtain ⟨qx, qy⟩ := y
    dsimp only at c0 c1 d0 d1
    unfold rgEq at hq; dsimp only at hq
    have E := neq81 px py qx qy true (by simpa using hq)
    clear hq
    go_wp2_with fail
    go_quiet (fail)
    go_wp2_with fail
    go_ret
    exact ⟨by rw [HX.out]; rfl, Below.drewQ BB.out _⟩
   ·have RR : Hid (∀ (j : Nat) (x y : Rg), j < k + 1 → regs[j]? = some x → regs'[j]? = some y → rgEq x y = true) := Hh (fun j x2 y2 hj h2 h3 => by
     rcases Nat.lt_or_ge j k with h4 | h4
     ·exact HH.out.2 j x2 y2 h4 h2 h3
     ·obtain rfl : j = k := by omega
      rw [hx] at h2; injection h2 with h2; rw [hy] at h3; injection h3 with h3
      subst h2 h3; exact hq)
    clear hx hy
    obtain ⟨px, py⟩ := x
    obtain ⟨qx, qy⟩ := y
    dsimp only at c0 c1 d0 d1
    unfold rgEq at hq; dsimp only at hq
    have E := neq81 px py qx qy false (by simpa using hq)
    clear hq
    go_wp2_with fail
    go_quiet (fail)
    go_wp2_with fail
    go_roundg (gk - 1)
    case measure => omega
    case rel => exact ⟨k + 1, by omega, by go_num, Below.drewQ HH.out.1 _, RR.out⟩
  ·obtain rfl : k = rn := by omega
   have hge : ¬ (k : Int) < (k : Int) := by omega
   have HX := Hh (sameL_yes rgEq regs regs' (by rw [LR.out.1, LR.out.2.1]) (fun j x y hx hy => HH.out.2 j x y (by
    have := (List.getElem?_eq_some_iff.1 hx).1; have := LR.out.1; omega) hx hy))
   go_wp2_with fail
   go_loopg [6] bn (fun gk u wr => ∃ q : Nat, q + gk = bn ∧ u = .int .i64 (q : Int) ∧ Hid (Below ((w.alloc (.cells #[.bool machine, .string name, .slice ra k rc, .slice pa pn pc, .slice ba bn bc] 27)).alloc (.cells #[.bool machine, .string name', .slice ra' k rc', .slice pa' pn' pc', .slice ba' bn bc'] 27)).heap.size ((w.alloc (.cells #[.bool machine, .string name, .slice ra k rc, .slice pa pn pc, .slice ba bn bc] 27)).alloc (.cells #[.bool machine, .string name', .slice ra' k rc', .slice pa' pn' pc', .slice ba' bn bc'] 27)) wr ∧ ∀ (j : Nat) (x y : Blk), j < q → blocks[j]? = some x → blocks'[j]? = some y → blkEq x y = true))
   case atStart => exact ⟨0, by omega, rfl, HH.out.1, fun j x y hj => by omega⟩
   case round =>
    clear z2 y2
    obtain ⟨q, hkq, rfl, HB⟩ := hrel
    obtain ⟨l1, l2⟩ := D.out.2.2.2.2
    have m1 := kept_box l1 HB.out.1
    have m2 := kept_box l2 HB.out.1
    have z4 : wr.cell? ⟨w.heap.size, 4, none⟩ = some (.slice ba bn bc) := cell_in m1 4
    have y4 : wr.cell? ⟨w.heap.size + 1, 4, none⟩ = some (.slice ba' bn bc') := cell_in m2 4
    clear l1 l2 m1 m2
    have B5 := Hh (D.out.2.2.1.trans (HB.out.1.mono D.out.2.2.2.1))
    by_cases hlq : q < bn
    ·obtain ⟨b, o, rfl, hb, x, hx, hix, c0, c1, c2, c3⟩ := (D.out.1.below HB.out.1).blocks.at hlq
     obtain ⟨b', o', rfl, hb', y, hy, hiy, d0, d1, d2, d3⟩ := (D.out.2.1.below HB.out.1).blocks.at hlq
     have i1 : (q : Int) < (bn : Int) := by omega
     have s1 : w.heap.size < wr.heap.size := spot_lt z4
     have s2 : w.heap.size + 1 < wr.heap.size := spot_lt y4
     dsimp only at hix hiy c0 c1 c2 c3 d0 d1 d2 d3
     generalize rr q = r at hix c0 c1 c2 c3
     generalize rr' q = r' at hiy d0 d1 d2 d3
     obtain ⟨ia, il, ic, ka, kn, kc, rr⟩ := r
     obtain ⟨ia', il', ic', ka', kn', kc', rr'⟩ := r'
     have HI := Hh (Ai hix hiy)
     clear hix hiy
     dsimp only at c0 c1 c2 c3 d0 d1 d2 d3
     cases hq0 : x.label.toList == y.label.toList
     ·have HY := Hh (sameL_no blkEq blocks blocks' q x y hx hy (by unfold blkEq; simp [hq0]))
      clear hx hy
      obtain ⟨label, edge, ins, code⟩ := x
      obtain ⟨label', edge', ins', code'⟩ := y
      dsimp only at c0 c1 d0 d1 hq0
      have f0 : ¬ label.toList = label'.toList := by simpa using hq0
      go_wp2_with fail
      go_region
      ·go_wp2_with fail
       go_ret
       exact ⟨by rw [HX.out, HY.out]; rfl, (((B5.out.alloc B5.out.size _).alloc (by have := B5.out.size; simp; omega) _).drew)⟩
      ·go_wp2_with fail
       go_ret
       exact ⟨by rw [HX.out, HY.out]; rfl, (((B5.out.alloc B5.out.size _).alloc (by have := B5.out.size; simp; omega) _).drew)⟩
     cases hq1 : x.edge == y.edge
     ·have HY := Hh (sameL_no blkEq blocks blocks' q x y hx hy (by unfold blkEq; simp [hq0, hq1]))
      clear hx hy
      obtain ⟨label, edge, ins, code⟩ := x
      obtain ⟨label', edge', ins', code'⟩ := y
      dsimp only at c0 c1 d0 d1 hq0 hq1
      have f0 : label.toList = label'.toList := by simpa using hq0
      have f1 : (edge == edge') = false := hq1
      have f1' : ¬ edge = edge' := by simpa using hq1
      go_wp2_with fail
      go_region
      ·go_wp2_with fail
       go_ret
       exact ⟨by rw [HX.out, HY.out]; rfl, (((B5.out.alloc B5.out.size _).alloc (by have := B5.out.size; simp; omega) _).drew)⟩
      ·go_wp2_with fail
       go_ret
       exact ⟨by rw [HX.out, HY.out]; rfl, (((B5.out.alloc B5.out.size _).alloc (by have := B5.out.size; simp; omega) _).drew)⟩
     cases hq2 : sameL opEq x.ins y.ins
     ·have HY := Hh (sameL_no blkEq blocks blocks' q x y hx hy (by unfold blkEq; simp [hq0, hq1, hq2]))
      clear hx hy
      obtain ⟨label, edge, ins, code⟩ := x
      obtain ⟨label', edge', ins', code'⟩ := y
      dsimp only at c0 c1 d0 d1 hq0 hq1 hq2
      have f0 : label.toList = label'.toList := by simpa using hq0
      obtain rfl : edge = edge' := by simpa using hq1
      go_wp2_with fail
      go_region
      ·go_wp2_with fail
       have l := box_two wr (.cells #[.string label, .bool edge, .slice ia il ic, .slice ka kn kc] 62) (.cells #[.string label', .bool edge, .slice ia' il' ic', .slice ka' kn' kc'] 62)
       have BW : Below wr.heap.size wr (((wr.alloc (.cells #[.string label, .bool edge, .slice ia il ic, .slice ka kn kc] 62)).alloc (.cells #[.string label', .bool edge, .slice ia' il' ic', .slice ka' kn' kc'] 62)).drew) := (((Below.refl _ wr).alloc (Nat.le_refl _) _).alloc (by simp) _).drew
       have s3 : wr.heap.size ≤ (((wr.alloc (.cells #[.string label, .bool edge, .slice ia il ic, .slice ka kn kc] 62)).alloc (.cells #[.string label', .bool edge, .slice ia' il' ic', .slice ka' kn' kc'] 62)).drew).heap.size := BW.size
       refine (eq29_v _ _ _ _ _ _ _ _ _ (HI.out.1.ins.below BW) (HI.out.2.ins.below BW)).mono ?_
       rintro e w2 ⟨rfl, hb⟩
       rw [hq2]
       have C1 := Hh (Ai (BW.trans (hb.mono s3)) (HB.out.1.trans ((BW.trans (hb.mono s3)).mono HB.out.1.size)))
       clear l BW s3 hb
       go_wp2_with fail
       go_ret
       exact ⟨by rw [HX.out, HY.out]; rfl, (D.out.2.2.1.trans (C1.out.2.mono D.out.2.2.2.1))⟩
      ·go_wp2_with fail
       have l := box_two wr (.cells #[.string label', .bool edge, .slice ia' il' ic', .slice ka' kn' kc'] 62) (.cells #[.string label, .bool edge, .slice ia il ic, .slice ka kn kc] 62)
       have BW : Below wr.heap.size wr (((wr.alloc (.cells #[.string label', .bool edge, .slice ia' il' ic', .slice ka' kn' kc'] 62)).alloc (.cells #[.string label, .bool edge, .slice ia il ic, .slice ka kn kc] 62)).drew) := (((Below.refl _ wr).alloc (Nat.le_refl _) _).alloc (by simp) _).drew
       have s3 : wr.heap.size ≤ (((wr.alloc (.cells #[.string label', .bool edge, .slice ia' il' ic', .slice ka' kn' kc'] 62)).alloc (.cells #[.string label, .bool edge, .slice ia il ic, .slice ka kn kc] 62)).drew).heap.size := BW.size
       refine (eq29_v _ _ _ _ _ _ _ _ _ (HI.out.1.ins.below BW) (HI.out.2.ins.below BW)).mono ?_
       rintro e w2 ⟨rfl, hb⟩
       rw [hq2]
       have C1 := Hh (Ai (BW.trans (hb.mono s3)) (HB.out.1.trans ((BW.trans (hb.mono s3)).mono HB.out.1.size)))
       clear l BW s3 hb
       go_wp2_with fail
       go_ret
       exact ⟨by rw [HX.out, HY.out]; rfl, (D.out.2.2.1.trans (C1.out.2.mono D.out.2.2.2.1))⟩
     cases hq3 : sameL insEq x.code y.code
     ·have HY := Hh (sameL_no blkEq blocks blocks' q x y hx hy (by unfold blkEq; simp [hq0, hq1, hq2, hq3]))
      clear hx hy
      obtain ⟨label, edge, ins, code⟩ := x
      obtain ⟨label', edge', ins', code'⟩ := y
      dsimp only at c0 c1 d0 d1 hq0 hq1 hq2 hq3
      have f0 : label.toList = label'.toList := by simpa using hq0
      obtain rfl : edge = edge' := by simpa using hq1
      go_wp2_with fail
      go_region
      ·go_wp2_with fail
       have l := box_two wr (.cells #[.string label, .bool edge, .slice ia il ic, .slice ka kn kc] 62) (.cells #[.string label', .bool edge, .slice ia' il' ic', .slice ka' kn' kc'] 62)
       have BW : Below wr.heap.size wr (((wr.alloc (.cells #[.string label, .bool edge, .slice ia il ic, .slice ka kn kc] 62)).alloc (.cells #[.string label', .bool edge, .slice ia' il' ic', .slice ka' kn' kc'] 62)).drew) := (((Below.refl _ wr).alloc (Nat.le_refl _) _).alloc (by simp) _).drew
       have s3 : wr.heap.size ≤ (((wr.alloc (.cells #[.string label, .bool edge, .slice ia il ic, .slice ka kn kc] 62)).alloc (.cells #[.string label', .bool edge, .slice ia' il' ic', .slice ka' kn' kc'] 62)).drew).heap.size := BW.size
       refine (eq29_v _ _ _ _ _ _ _ _ _ (HI.out.1.ins.below BW) (HI.out.2.ins.below BW)).mono ?_
       rintro e w2 ⟨rfl, hb⟩
       rw [hq2]
       have C1 := Hh (Ai (BW.trans (hb.mono s3)) (HB.out.1.trans ((BW.trans (hb.mono s3)).mono HB.out.1.size)))
       have v1 : w2.cell? ⟨wr.heap.size, 3, none⟩ = some (.slice ka kn kc) := cell_in (kept_box (w := (((wr.alloc (.cells #[.string label, .bool edge, .slice ia il ic, .slice ka kn kc] 62)).alloc (.cells #[.string label', .bool edge, .slice ia' il' ic', .slice ka' kn' kc'] 62)).drew)) l.1 hb) 3
       have v2 : w2.cell? ⟨wr.heap.size + 1, 3, none⟩ = some (.slice ka' kn' kc') := cell_in (kept_box (w := (((wr.alloc (.cells #[.string label, .bool edge, .slice ia il ic, .slice ka kn kc] 62)).alloc (.cells #[.string label', .bool edge, .slice ia' il' ic', .slice ka' kn' kc'] 62)).drew)) l.2 hb) 3
       clear l BW s3 hb
       go_wp2_with fail
       refine (eq30_v _ _ _ _ _ _ _ _ _ _ _ (HI.out.1.code.below C1.out.1) (HI.out.2.code.below C1.out.1)).mono ?_
       rintro e w3 ⟨rfl, hb⟩
       rw [hq3]
       have C2 := Hh (C1.out.2.trans (hb.mono C1.out.2.size))
       clear hb
       go_wp2_with fail
       go_ret
       exact ⟨by rw [HX.out, HY.out]; rfl, (D.out.2.2.1.trans (C2.out.mono D.out.2.2.2.1))⟩
      ·go_wp2_with fail
       have l := box_two wr (.cells #[.string label', .bool edge, .slice ia' il' ic', .slice ka' kn' kc'] 62) (.cells #[.string label, .bool edge, .slice ia il ic, .slice ka kn kc] 62)
       have BW : Below wr.heap.size wr (((wr.alloc (.cells #[.string label', .bool edge, .slice ia' il' ic', .slice ka' kn' kc'] 62)).alloc (.cells #[.string label, .bool edge, .slice ia il ic, .slice ka kn kc] 62)).drew) := (((Below.refl _ wr).alloc (Nat.le_refl _) _).alloc (by simp) _).drew
       have s3 : wr.heap.size ≤ (((wr.alloc (.cells #[.string label', .bool edge, .slice ia' il' ic', .slice ka' kn' kc'] 62)).alloc (.cells #[.string label, .bool edge, .slice ia il ic, .slice ka kn kc] 62)).drew).heap.size := BW.size
       refine (eq29_v _ _ _ _ _ _ _ _ _ (HI.out.1.ins.below BW) (HI.out.2.ins.below BW)).mono ?_
       rintro e w2 ⟨rfl, hb⟩
       rw [hq2]
       have C1 := Hh (Ai (BW.trans (hb.mono s3)) (HB.out.1.trans ((BW.trans (hb.mono s3)).mono HB.out.1.size)))
       have v1 : w2.cell? ⟨wr.heap.size + 1, 3, none⟩ = some (.slice ka kn kc) := cell_in (kept_box (w := (((wr.alloc (.cells #[.string label', .bool edge, .slice ia' il' ic', .slice ka' kn' kc'] 62)).alloc (.cells #[.string label, .bool edge, .slice ia il ic, .slice ka kn kc] 62)).drew)) l.2 hb) 3
       have v2 : w2.cell? ⟨wr.heap.size, 3, none⟩ = some (.slice ka' kn' kc') := cell_in (kept_box (w := (((wr.alloc (.cells #[.string label', .bool edge, .slice ia' il' ic', .slice ka' kn' kc'] 62)).alloc (.cells #[.string label, .bool edge, .slice ia il ic, .slice ka kn kc] 62)).drew)) l.1 hb) 3
       clear l BW s3 hb
       go_wp2_with fail
       refine (eq30_v _ _ _ _ _ _ _ _ _ _ _ (HI.out.1.code.below C1.out.1) (HI.out.2.code.below C1.out.1)).mono ?_
       rintro e w3 ⟨rfl, hb⟩
       rw [hq3]
       have C2 := Hh (C1.out.2.trans (hb.mono C1.out.2.size))
       clear hb
       go_wp2_with fail
       go_ret
       exact ⟨by rw [HX.out, HY.out]; rfl, (D.out.2.2.1.trans (C2.out.mono D.out.2.2.2.1))⟩
     have RR : Hid (∀ (j : Nat) (x y : Blk), j < q + 1 → blocks[j]? = some x → blocks'[j]? = some y → blkEq x y = true) := Hh (fun j x2 y2 hj h2 h3 => by
      rcases Nat.lt_or_ge j q with h4 | h4
      ·exact HB.out.2 j x2 y2 h4 h2 h3
      ·obtain rfl : j = q := by omega
       rw [hx] at h2; injection h2 with h2; rw [hy] at h3; injection h3 with h3
       subst h2 h3; unfold blkEq; simp [hq0, hq1, hq2, hq3])
     clear hx hy
     obtain ⟨label, edge, ins, code⟩ := x
     obtain ⟨label', edge', ins', code'⟩ := y
     dsimp only at c0 c1 d0 d1 hq0 hq1 hq2 hq3
     have f0 : label.toList = label'.toList := by simpa using hq0
     obtain rfl : edge = edge' := by simpa using hq1
     go_wp2_with fail
     go_region
     ·go_wp2_with fail
      have l := box_two wr (.cells #[.string label, .bool edge, .slice ia il ic, .slice ka kn kc] 62) (.cells #[.string label', .bool edge, .slice ia' il' ic', .slice ka' kn' kc'] 62)
      have BW : Below wr.heap.size wr (((wr.alloc (.cells #[.string label, .bool edge, .slice ia il ic, .slice ka kn kc] 62)).alloc (.cells #[.string label', .bool edge, .slice ia' il' ic', .slice ka' kn' kc'] 62)).drew) := (((Below.refl _ wr).alloc (Nat.le_refl _) _).alloc (by simp) _).drew
      have s3 : wr.heap.size ≤ (((wr.alloc (.cells #[.string label, .bool edge, .slice ia il ic, .slice ka kn kc] 62)).alloc (.cells #[.string label', .bool edge, .slice ia' il' ic', .slice ka' kn' kc'] 62)).drew).heap.size := BW.size
      refine (eq29_v _ _ _ _ _ _ _ _ _ (HI.out.1.ins.below BW) (HI.out.2.ins.below BW)).mono ?_
      rintro e w2 ⟨rfl, hb⟩
      rw [hq2]
      have C1 := Hh (Ai (BW.trans (hb.mono s3)) (HB.out.1.trans ((BW.trans (hb.mono s3)).mono HB.out.1.size)))
      have v1 : w2.cell? ⟨wr.heap.size, 3, none⟩ = some (.slice ka kn kc) := cell_in (kept_box (w := (((wr.alloc (.cells #[.string label, .bool edge, .slice ia il ic, .slice ka kn kc] 62)).alloc (.cells #[.string label', .bool edge, .slice ia' il' ic', .slice ka' kn' kc'] 62)).drew)) l.1 hb) 3
      have v2 : w2.cell? ⟨wr.heap.size + 1, 3, none⟩ = some (.slice ka' kn' kc') := cell_in (kept_box (w := (((wr.alloc (.cells #[.string label, .bool edge, .slice ia il ic, .slice ka kn kc] 62)).alloc (.cells #[.string label', .bool edge, .slice ia' il' ic', .slice ka' kn' kc'] 62)).drew)) l.2 hb) 3
      clear l BW s3 hb
      go_wp2_with fail
      refine (eq30_v _ _ _ _ _ _ _ _ _ _ _ (HI.out.1.code.below C1.out.1) (HI.out.2.code.below C1.out.1)).mono ?_
      rintro e w3 ⟨rfl, hb⟩
      rw [hq3]
      have C2 := Hh (C1.out.2.trans (hb.mono C1.out.2.size))
      clear hb
      go_wp2_with fail
      go_roundg (gk - 1)
      case measure => omega
      case rel => exact ⟨q + 1, by omega, by go_num, C2.out, RR.out⟩
     ·go_wp2_with fail
      have l := box_two wr (.cells #[.string label', .bool edge, .slice ia' il' ic', .slice ka' kn' kc'] 62) (.cells #[.string label, .bool edge, .slice ia il ic, .slice ka kn kc] 62)
      have BW : Below wr.heap.size wr (((wr.alloc (.cells #[.string label', .bool edge, .slice ia' il' ic', .slice ka' kn' kc'] 62)).alloc (.cells #[.string label, .bool edge, .slice ia il ic, .slice ka kn kc] 62)).drew) := (((Below.refl _ wr).alloc (Nat.le_refl _) _).alloc (by simp) _).drew
      have s3 : wr.heap.size ≤ (((wr.alloc (.cells #[.string label', .bool edge, .slice ia' il' ic', .slice ka' kn' kc'] 62)).alloc (.cells #[.string label, .bool edge, .slice ia il ic, .slice ka kn kc] 62)).drew).heap.size := BW.size
      refine (eq29_v _ _ _ _ _ _ _ _ _ (HI.out.1.ins.below BW) (HI.out.2.ins.below BW)).mono ?_
      rintro e w2 ⟨rfl, hb⟩
      rw [hq2]
      have C1 := Hh (Ai (BW.trans (hb.mono s3)) (HB.out.1.trans ((BW.trans (hb.mono s3)).mono HB.out.1.size)))
      have v1 : w2.cell? ⟨wr.heap.size + 1, 3, none⟩ = some (.slice ka kn kc) := cell_in (kept_box (w := (((wr.alloc (.cells #[.string label', .bool edge, .slice ia' il' ic', .slice ka' kn' kc'] 62)).alloc (.cells #[.string label, .bool edge, .slice ia il ic, .slice ka kn kc] 62)).drew)) l.2 hb) 3
      have v2 : w2.cell? ⟨wr.heap.size, 3, none⟩ = some (.slice ka' kn' kc') := cell_in (kept_box (w := (((wr.alloc (.cells #[.string label', .bool edge, .slice ia' il' ic', .slice ka' kn' kc'] 62)).alloc (.cells #[.string label, .bool edge, .slice ia il ic, .slice ka kn kc] 62)).drew)) l.1 hb) 3
      clear l BW s3 hb
      go_wp2_with fail
      refine (eq30_v _ _ _ _ _ _ _ _ _ _ _ (HI.out.1.code.below C1.out.1) (HI.out.2.code.below C1.out.1)).mono ?_
      rintro e w3 ⟨rfl, hb⟩
      rw [hq3]
      have C2 := Hh (C1.out.2.trans (hb.mono C1.out.2.size))
      clear hb
      go_wp2_with fail
      go_roundg (gk - 1)
      case measure => omega
      case rel => exact ⟨q + 1, by omega, by go_num, C2.out, RR.out⟩
    ·obtain rfl : q = bn := by omega
     have hge : ¬ (q : Int) < (q : Int) := by omega
     have HY := Hh (sameL_yes blkEq blocks blocks' (by rw [LR.out.2.2.1, LR.out.2.2.2]) (fun j x y hx hy => HB.out.2 j x y (by
      have := (List.getElem?_eq_some_iff.1 hx).1; have := LR.out.2.2.1; omega) hx hy))
     go_wp2_with fail
     go_ret
     exact ⟨by rw [HX.out, HY.out]; rfl, B5.out⟩
theorem eq11_v (i j : Fun) (r s : FunV) (w : World) (h : IsFun w i r) (h' : IsFun w j s) :
  Calls Tryz.prog 11 #[.agg (funR i r), .agg (funR j s)] w fun e w' => e = .returned (.bool (funEq i j)) ∧ Below w.heap.size w w' := by
 have lr := h.regs.1
 have lr' := h'.regs.1
 have lb := h.blocks.1
 have lb' := h'.blocks.1
 cases hq0 : i.machine == j.machine
 ·have hR : funEq i j = false := by unfold funEq; simp [hq0]
  rw [hR]; exact eq11_0 i j r s w h h' hq0
 cases hq1 : i.name.toList == j.name.toList
 ·have hR : funEq i j = false := by unfold funEq; simp [hq0, hq1]
  rw [hR]; exact eq11_1 i j r s w h h' hq0 hq1
 cases hq2 : r.rn == s.rn
 ·have hR : funEq i j = false := by
   unfold funEq
   have : ¬ r.rn = s.rn := by simpa using hq2
   rw [sameL_len rgEq i.regs j.regs (by omega)]; simp
  rw [hR]; exact eq11_2 i j r s w h h' hq0 hq1 hq2
 cases hq3 : sameL opEq i.params j.params
 ·have hR : funEq i j = false := by unfold funEq; simp [hq3]
  rw [hR]; exact eq11_3 i j r s w h h' hq0 hq1 hq2 hq3
 cases hq4 : r.bn == s.bn
 ·have hR : funEq i j = false := by
   unfold funEq
   have : ¬ r.bn = s.bn := by simpa using hq4
   rw [sameL_len blkEq i.blocks j.blocks (by omega)]; simp
  rw [hR]; exact eq11_4 i j r s w h h' hq0 hq1 hq2 hq3 hq4
 have hR : funEq i j = (sameL rgEq i.regs j.regs && sameL blkEq i.blocks j.blocks) := by unfold funEq; simp [hq0, hq1, hq3]
 rw [hR]; exact eq11_5 i j r s w h h' hq0 hq1 hq2 hq3 hq4
end Go.Proofs.YtbpichjmkllfaaaGreatDoor
