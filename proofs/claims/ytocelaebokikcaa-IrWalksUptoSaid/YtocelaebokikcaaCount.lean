/- What Count answers. -/
import Derived.Test.YtocelaebokikcaaAsk
namespace Go.Proofs.Ytocelaebokikcaa
open Go.ChangeShapes Go.WideShapes Go.RowKit
set_option linter.unusedVariables false
set_option maxRecDepth 20000

def codeSum (l : List Blk) : Nat := (l.map fun b => b.code.length).sum
theorem codeSum_step (l : List Blk) (k : Nat) (x : Blk) (hx : l[k]? = some x) : codeSum (l.take (k + 1)) = codeSum (l.take k) + x.code.length := by
  unfold codeSum
  rw [List.take_add_one, hx, List.map_append, List.sum_append]
  simp
theorem codeSum_take (l : List Blk) (k : Nat) : codeSum (l.take k) ≤ codeSum l := by
  have e : codeSum l = codeSum (l.take k) + codeSum (l.drop k) := by
    unfold codeSum; rw [← List.sum_append, ← List.map_append, List.take_append_drop]
  omega
set_option maxHeartbeats 2000000 in
theorem count_v (f : Fun) (v : FunV) (w : World) (h : IsFun w f v) (hN : codeSum f.blocks ≤ 1048576) : Calls Try.prog 38 #[.agg (funR f v)] w fun e w' => e = .returned (.int .i64 (codeSum f.blocks : Nat)) ∧ Below w.heap.size w w' := by
  have hm := h.blocks.2.1
  have hl := h.blocks.1
  have B0 : Below w.heap.size w (w.alloc (.cells (funR f v) 31)) := (Below.refl _ w).alloc (Nat.le_refl _) _
  have D := Lib.hid (And.intro (h.below B0) (And.intro (show w.heap.size ≤ (w.alloc (.cells (funR f v) 31)).heap.size by simp) (And.intro B0 (And.intro (heap_alloc_new w (.cells (funR f v) 31)) hN))))
  clear h B0 hN
  obtain ⟨machine, name, regs, params, blocks⟩ := f
  obtain ⟨ra, rn, rc, pa, pn, pc, ba, bn, bc, rr⟩ := v
  unfold funR at D ⊢
  dsimp only at D hm hl ⊢
  obtain ⟨wa, hwa⟩ : ∃ wa, w.alloc (.cells #[.bool machine, .string name, .slice ra rn rc, .slice pa pn pc, .slice ba bn bc] 31) = wa := ⟨_, rfl⟩
  rw [hwa] at D
  have z : wa.cell? ⟨w.heap.size, 4, none⟩ = some (.slice ba bn bc) := cell_in D.out.2.2.2.1 4
  have HL := Lib.hid hl
  clear hl
  go_enter Try.func38, Try.ntmps38
  go_wp2_with fail
  clear z
  go_loopg [3, 9] bn (fun gk u v wr => ∃ (k L : Nat), k + gk = bn ∧ u = .int .i64 (L : Int) ∧ v = .int .i64 (k : Int) ∧ L ≤ 1048576 ∧ Hid (codeSum (blocks.take k) = L ∧ Below wa.heap.size wa wr))
  case atStart => exact ⟨0, 0, by omega, rfl, rfl, by omega, rfl, Below.refl _ _⟩
  case round =>
    obtain ⟨k, L, hk, rfl, rfl, hL, HH⟩ := hrel
    by_cases hlt : k < bn
    · obtain ⟨b, o, rfl, hb, y, hy, hi, c0, c1, c2, c3⟩ := (D.out.1.below HH.out.2).blocks.at hlt
      have i1 : (k : Int) < (bn : Int) := by omega
      dsimp only at hi c0 c1 c2 c3
      have hst := codeSum_step blocks k y hy
      have hle : codeSum (blocks.take (k + 1)) ≤ 1048576 := Nat.le_trans (codeSum_take blocks (k + 1)) D.out.2.2.2.2
      have hkn := hi.code.1
      rw [hst, hkn, HH.out.1] at hle
      have HX := Lib.hid (And.intro hst hkn)
      clear hst hy hi hkn
      obtain ⟨label, edge, ins, code⟩ := y
      generalize rr k = r at c2 c3 hle HX
      obtain ⟨ia, il, ic, ka, kn, kc, R⟩ := r
      dsimp only at c0 c1 c2 c3 hle HX
      go_wp2_with fail
      go_roundg (gk - 1)
      case measure => omega
      case rel => exact ⟨k + 1, L + kn, by omega, by go_num, by go_num, hle, by rw [HX.out.1, HX.out.2, HH.out.1], HH.out.2.alloc HH.out.2.size _⟩
    · obtain rfl : k = bn := by omega
      have hge : ¬ (k : Int) < (k : Int) := by omega
      go_wp2_with fail
      go_ret
      have e : blocks.take k = blocks := List.take_of_length_le (by rw [HL.out]; exact Nat.le_refl _)
      have h1 := HH.out.1
      rw [e] at h1
      rw [h1]
      exact ⟨rfl, D.out.2.2.1.trans (HH.out.2.mono D.out.2.1)⟩
end Go.Proofs.Ytocelaebokikcaa
