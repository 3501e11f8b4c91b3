
/- Large ends and leaves all as it was; a function that is not large has few blocks. -/
import Derived.Test.YtojfbcfbnadboaaIrData
import Derived.ProofKit
import Derived.OwnWalk
import Derived.Laws.OwnMore
import Derived.Deep.Light
import Derived.BigQuiet
import Derived.Deep.QuietTactic
import Derived.StillTailTactics
import Derived.Laws.Strings
namespace Go.Proofs.Ytojfbcfbnadboaa.Gra
open Go.ChangeShapes Go.WideShapes Go.RowKit
set_option linter.unusedVariables false
set_option maxRecDepth 20000

theorem drewQ {B : Nat} {a w : World} (h : Below B a w) (n : Nat) : Below B a (w.drewN n) := ⟨h.os, h.tape, h.output, h.size, h.block⟩
/-- A truth value is answered. -/
def FewB (n : Nat) (e : Ending) : Prop := ∃ b, e = .returned (.bool b) ∧ (b = false → n ≤ 80)
set_option maxHeartbeats 4000000 in
theorem large_v (f : Fun) (v : FunV) (w : World) (h : IsFun w f v) : Calls Try.prog 7 #[.agg (funR f v)] w fun e w' => FewB f.blocks.length e ∧ Below w.heap.size w w' := by
  have hm := h.blocks.2.1
  have hbl := h.blocks.1
  rw [hbl]
  have B0 : Below w.heap.size w (w.alloc (.cells (funR f v) 26)) := (Below.refl _ w).alloc (Nat.le_refl _) _
  have D := Lib.hid (And.intro (h.below B0) (And.intro (show w.heap.size ≤ (w.alloc (.cells (funR f v) 26)).heap.size by simp) (And.intro B0 (heap_alloc_new w (.cells (funR f v) 26)))))
  clear h B0
  obtain ⟨machine, name, regs, params, blocks⟩ := f
  obtain ⟨ra, rn, rc, pa, pn, pc, ba, bn, bc, rr⟩ := v
  unfold funR at D ⊢
  dsimp only at D hm ⊢
  obtain ⟨wa, hwa⟩ : ∃ wa, w.alloc (.cells #[.bool machine, .string name, .slice ra rn rc, .slice pa pn pc, .slice ba bn bc] 26) = wa := ⟨_, rfl⟩
  rw [hwa] at D
  have z1 : wa.cell? ⟨w.heap.size, 1, none⟩ = some (.string name) := cell_in D.out.2.2.2 1
  have z2 : wa.cell? ⟨w.heap.size, 2, none⟩ = some (.slice ra rn rc) := cell_in D.out.2.2.2 2
  have z3 : wa.cell? ⟨w.heap.size, 3, none⟩ = some (.slice pa pn pc) := cell_in D.out.2.2.2 3
  have z4 : wa.cell? ⟨w.heap.size, 4, none⟩ = some (.slice ba bn bc) := cell_in D.out.2.2.2 4
  go_enter Try.func7, Try.ntmps7
  go_wp2_with fail
  go_loopg [3, 4] bn (fun gk u v wr => ∃ (k : Nat) (z : Int), k + gk = bn ∧ v = .int .i64 (k : Int) ∧ u = .int .i64 z ∧ Hid (Below wa.heap.size wa wr))
  case atStart => exact ⟨0, _, by omega, rfl, rfl, Below.refl _ _⟩
  case round =>
    clear z1 z2 z3 z4
    obtain ⟨k, z, hk, rfl, rfl, HH⟩ := hrel
    have z4 : wr.cell? ⟨w.heap.size, 4, none⟩ = some (.slice ba bn bc) := cell_in (kept_box D.out.2.2.2 HH.out) 4
    by_cases hlt : k < bn
    · obtain ⟨b, o, rfl, hb, x, hx, hix, c0, c1, c2, c3⟩ := (D.out.1.below HH.out).blocks.at hlt
      have i1 : (k : Int) < (bn : Int) := by omega
      dsimp only at hix c0 c1 c2 c3
      generalize rr k = r at hix c0 c1 c2 c3
      obtain ⟨label, edge, ins, code⟩ := x
      obtain ⟨ia, il, ic, ka, kn, kc, R⟩ := r
      have HI := Lib.hid hix.code
      have hkn := hix.code.2.1
      dsimp only at HI hkn c0 c1 c2 c3
      clear hx hix
      go_wp2_with fail
      go_quiet (fail)
      go_wp2_with fail
      generalize wrap64 (wrap64 (z + (label.size : Int)) + (il : Int)) = zz
      have HQ := Lib.hid (drewQ HH.out 0)
      go_loopg [3, 5] kn (fun gk u v wr2 => ∃ (q : Nat) (z : Int), q + gk = kn ∧ v = .int .i64 (q : Int) ∧ u = .int .i64 z ∧ Hid (Below wr.heap.size wr wr2))
      case atStart => exact ⟨0, _, by omega, rfl, rfl, ⟨rfl, rfl, rfl, Nat.le_refl _, fun _ _ => rfl⟩⟩
      case round =>
        clear z4
        obtain ⟨q, z, hq, rfl, rfl, HJ⟩ := hrel
        have z4 : wr.cell? ⟨w.heap.size, 4, none⟩ = some (.slice (some ⟨b, o, none⟩) bn bc) := cell_in (kept_box D.out.2.2.2 (HH.out.trans (HJ.out.mono HH.out.size))) 4
        have c3 : wr.cell? ⟨b, o + k * 4 + 3, none⟩ = some (.slice ka kn kc) := (HJ.out.cell hb).trans c3
        clear c0 c1 c2
        have hb : b < wr.heap.size := Nat.lt_of_lt_of_le hb HJ.out.size
        by_cases hlq : q < kn
        · obtain ⟨b2, o2, rfl, hb2, x, hx, hix, d0, d1, d2, d3, d4, d5, d6, d7, d8, d9⟩ := (HI.out.below HJ.out).at hlq
          have i2 : (q : Int) < (kn : Int) := by omega
          generalize R q = r at hix d5 d8 d9
          obtain ⟨op, ⟨k0, k1, k2, k3⟩, args, name2, off, labels, cas⟩ := x
          obtain ⟨aa, an, ac, la, ln, lc, ca, cn, cc⟩ := r
          dsimp only at hix d0 d1 d2 d3 d4 d5 d6 d7 d8 d9
          have hln := hix.labels.2.1
          have BW : Below wr.heap.size wr (wr.alloc (.cells #[.int .i64 op, .int .i64 k0, .int .i64 k1, .int .i64 k2, .int .i64 k3, .slice aa an ac, .string name2, .int .i64 off, .slice la ln lc, .slice ca cn cc] 66)) := (Below.refl _ wr).alloc (Nat.le_refl _) _
          have HL := Lib.hid (And.intro (hix.labels.below BW) (And.intro (HJ.out.trans (BW.mono HJ.out.size)) (heap_alloc_new wr (.cells #[.int .i64 op, .int .i64 k0, .int .i64 k1, .int .i64 k2, .int .i64 k3, .slice aa an ac, .string name2, .int .i64 off, .slice la ln lc, .slice ca cn cc] 66))))
          dsimp only at HL hln
          clear hx hix BW
          go_wp2_with fail
          obtain ⟨wB, hwB⟩ : ∃ wB, wr.alloc (.cells #[.int .i64 op, .int .i64 k0, .int .i64 k1, .int .i64 k2, .int .i64 k3, .slice aa an ac, .string name2, .int .i64 off, .slice la ln lc, .slice ca cn cc] 66) = wB := ⟨_, rfl⟩
          rw [hwB] at HL ⊢
          have e8 : wB.cell? ⟨wr.heap.size, 8, none⟩ = some (.slice la ln lc) := cell_in HL.out.2.2 8
          clear hwB d0 d1 d2 d3 d4 d5 d6 d7 d8 d9 c3 z4
          generalize wrap64 (wrap64 (wrap64 (wrap64 (z + 1) + (an : Int)) + (name2.size : Int)) + (cn : Int)) = zz2
          go_loopg [3, 7] ln (fun gk u v wr3 => ∃ (p : Nat) (z : Int), p + gk = ln ∧ v = .int .i64 (p : Int) ∧ u = .int .i64 z ∧ wr3 = wB)
          case atStart => exact ⟨0, _, by omega, rfl, rfl, rfl⟩
          case round =>
            obtain ⟨p, z, hp, rfl, rfl, rfl⟩ := hrel
            by_cases hlp : p < ln
            · obtain ⟨b3, o3, rfl, hb3, x, hx, f0⟩ := HL.out.1.at hlp
              have i3 : (p : Int) < (ln : Int) := by omega
              clear hx
              go_wp2_with fail
              go_roundg (gk - 1)
              case measure => omega
              case rel => exact ⟨p + 1, _, by omega, by go_num, rfl, rfl⟩
            · obtain rfl : p = ln := by omega
              have hge : ¬ (p : Int) < (p : Int) := by omega
              go_wp2_with fail
              go_roundg (kn - q - 1)
              case measure => omega
              case rel => exact ⟨q + 1, _, by omega, by go_num, rfl, HL.out.2.1⟩
        · obtain rfl : q = kn := by omega
          have hge : ¬ (q : Int) < (q : Int) := by omega
          go_wp2_with fail
          go_roundg (bn - k - 1)
          case measure => omega
          case rel => exact ⟨k + 1, _, by omega, by go_num, rfl, HH.out.trans (HJ.out.mono HH.out.size)⟩
    · obtain rfl : k = bn := by omega
      have hge : ¬ (k : Int) < (k : Int) := by omega
      have BB := Lib.hid (D.out.2.2.1.trans (HH.out.mono D.out.2.1))
      cases h1 : decide (2000 < z)
      · have h2 : ¬ z > 2000 := by simpa using h1
        by_cases h3 : (k : Int) > 80
        · go_wp2_with fail
          go_ret
          exact ⟨⟨true, rfl, fun h => by cases h⟩, BB.out⟩
        · have h4 : k ≤ 80 := by omega
          have H4 := Lib.hid h4
          clear h4
          go_wp2_with fail
          go_ret
          refine ⟨⟨_, rfl, fun _ => H4.out⟩, BB.out⟩
      · have h2 : z > 2000 := by simpa using h1
        go_wp2_with fail
        go_ret
        exact ⟨⟨true, rfl, fun h => by cases h⟩, BB.out⟩
end Go.Proofs.Ytojfbcfbnadboaa.Gra
