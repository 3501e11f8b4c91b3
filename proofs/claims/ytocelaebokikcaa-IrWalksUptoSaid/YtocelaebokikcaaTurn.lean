/- An operand turned in its place; an instruction, each operand of which is turned. -/
import Derived.Test.YtocelaebokikcaaEach
import Derived.Test.YtocelaebokikcaaSmall
import Derived.Deep.RegionHeld3
import Derived.Deep.RegionWith
import Derived.StillTailTactics
namespace Go.Proofs.Ytocelaebokikcaa
open Go.ChangeShapes Go.WideShapes Go.RowKit
set_option linter.unusedVariables false
set_option maxRecDepth 20000

/-- An operand turned. -/
def Opn.T (x : Opn) : Opn := ⟨x.k, x.c, x.t, x.n⟩
theorem Opn.T_T (x : Opn) : x.T.T = x := rfl
/-- A function that turns operands. -/
def Turns (F : FuncId) : Prop := ∀ (k c n t : Int) (w : World), Calls Try.prog F #[.agg #[.int .i64 k, .int .i64 c, .int .i64 n, .int .i64 t]] w fun e w' => e = .returned (.agg #[.int .i64 k, .int .i64 c, .int .i64 t, .int .i64 n]) ∧ Below w.heap.size w w'
theorem turns21 : Turns 21 := fun k c n t w => by
  go_enter Try.func21, Try.ntmps21
  go_wp2_with fail
  refine bodyPost_ret (results_cell_row (fn := Try.f21) rfl _ _ (w.heap.size + 1) 44 #[.int .i64 k, .int .i64 c, .int .i64 t, .int .i64 n] (0, 0) _ rfl (box_two w _ _).2 Try.underlying44 rfl (by kernel_rfl)) rfl ?_
  exact ⟨rfl, (((Below.refl _ w).alloc (Nat.le_refl _) _).alloc (by simp) _)⟩
theorem turns22 : Turns 22 := fun k c n t w => by
  go_enter Try.func22, Try.ntmps22
  go_wp2_with fail
  refine bodyPost_ret (results_cell_row (fn := Try.f22) rfl _ _ (w.heap.size + 1) 44 #[.int .i64 k, .int .i64 c, .int .i64 t, .int .i64 n] (0, 0) _ rfl (box_two w _ _).2 Try.underlying44 rfl (by kernel_rfl)) rfl ?_
  exact ⟨rfl, (((Below.refl _ w).alloc (Nat.le_refl _) _).alloc (by simp) _)⟩
theorem turns27 : Turns 27 := fun k c n t w => by
  go_enter Try.func27, Try.ntmps27
  go_wp2_with fail
  refine bodyPost_ret (results_cell_row (fn := Try.f27) rfl _ _ (w.heap.size + 1) 44 #[.int .i64 k, .int .i64 c, .int .i64 t, .int .i64 n] (0, 0) _ rfl (box_two w _ _).2 Try.underlying44 rfl (by kernel_rfl)) rfl ?_
  exact ⟨rfl, (((Below.refl _ w).alloc (Nat.le_refl _) _).alloc (by simp) _)⟩
theorem turns28 : Turns 28 := fun k c n t w => by
  go_enter Try.func28, Try.ntmps28
  go_wp2_with fail
  refine bodyPost_ret (results_cell_row (fn := Try.f28) rfl _ _ (w.heap.size + 1) 44 #[.int .i64 k, .int .i64 c, .int .i64 t, .int .i64 n] (0, 0) _ rfl (box_two w _ _).2 Try.underlying44 rfl (by kernel_rfl)) rfl ?_
  exact ⟨rfl, (((Below.refl _ w).alloc (Nat.le_refl _) _).alloc (by simp) _)⟩
theorem func58_nil (F : FuncId) (b : Array Value) (w : World) : (binOp .neq 58 (.func (.func F) #[] #[]) Value.nilFunc).run Try.prog w = .ok (.bool true) w := by rfl
/-- Four cells written. -/
def put4 (w : World) (g o : Nat) (x : Opn) : World := (((w.setCell ⟨g, o, none⟩ (.int .i64 x.k)).setCell ⟨g, o + 1, none⟩ (.int .i64 x.c)).setCell ⟨g, o + 2, none⟩ (.int .i64 x.n)).setCell ⟨g, o + 3, none⟩ (.int .i64 x.t)
structure InplP (g o : Nat) (x : Opn) (w : World) (e : Ending) (w' : World) : Prop where
  out : e = .returned (.tuple #[]) ∧ ∃ w2, Below w.heap.size w w2 ∧ w' = put4 w2 g o x.T
/-- A function that turns operands turns one in its place. -/
def Inpl (F : FuncId) : Prop := ∀ (g o C : Nat) (x : Opn) (w : World) (hC : w.cell? ⟨C, 0, none⟩ = some (.func (.func F) #[] #[]))
    (c0 : w.cell? ⟨g, o, none⟩ = some (.int .i64 x.k)) (c1 : w.cell? ⟨g, o + 1, none⟩ = some (.int .i64 x.c)) (c2 : w.cell? ⟨g, o + 2, none⟩ = some (.int .i64 x.n)) (c3 : w.cell? ⟨g, o + 3, none⟩ = some (.int .i64 x.t))
    (z0 : w.frozen? ⟨g, o, none⟩ = false) (z1 : w.frozen? ⟨g, o + 1, none⟩ = false) (z2 : w.frozen? ⟨g, o + 2, none⟩ = false) (z3 : w.frozen? ⟨g, o + 3, none⟩ = false),
    Calls Try.prog 71 #[.pointer (some ⟨g, o, none⟩), .pointer (some ⟨C, 0, none⟩)] w (InplP g o x w)
set_option maxHeartbeats 2000000 in
theorem inpl21 : Inpl 21 := fun g o C x w hC c0 c1 c2 c3 z0 z1 z2 z3 => by
  have hg : g < w.heap.size := spot_lt c0
  have hCg : C < w.heap.size := spot_lt hC
  have HZ := Lib.hid (And.intro c0 (And.intro c1 (And.intro c2 (And.intro c3 (And.intro z0 (And.intro z1 (And.intro z2 z3)))))))
  clear z0 z1 z2 z3
  obtain ⟨k, c, n, t⟩ := x
  dsimp only at c0 c1 c2 c3 HZ
  have hn := func58_nil 21 #[] w
  go_enter Try.func71, Try.ntmps71
  go_wp2_with fail
  clear hn
  (first | go_region_with ((go_at_call 21; (refine Calls.mono (turns21 k c n t w.drew) ?_); rintro e w2 ⟨rfl, hb⟩; have HW := Lib.hid (show Below w.heap.size w w2 from (below_drewN w 1).trans hb); clear hb; have d0 : w2.cell? ⟨g, o, none⟩ = some (.int .i64 k) := (HW.out.cell (p := ⟨g, _, none⟩) hg).trans HZ.out.1; have d1 : w2.cell? ⟨g, o + 1, none⟩ = some (.int .i64 c) := (HW.out.cell (p := ⟨g, _, none⟩) hg).trans HZ.out.2.1; have d2 : w2.cell? ⟨g, o + 2, none⟩ = some (.int .i64 n) := (HW.out.cell (p := ⟨g, _, none⟩) hg).trans HZ.out.2.2.1; have d3 : w2.cell? ⟨g, o + 3, none⟩ = some (.int .i64 t) := (HW.out.cell (p := ⟨g, _, none⟩) hg).trans HZ.out.2.2.2.1; have f0 : w2.frozen? ⟨g, o, none⟩ = false := (HW.out.frozen (p := ⟨g, _, none⟩) hg).trans HZ.out.2.2.2.2.1; have f1 : w2.frozen? ⟨g, o + 1, none⟩ = false := (HW.out.frozen (p := ⟨g, _, none⟩) hg).trans HZ.out.2.2.2.2.2.1; have f2 : w2.frozen? ⟨g, o + 2, none⟩ = false := (HW.out.frozen (p := ⟨g, _, none⟩) hg).trans HZ.out.2.2.2.2.2.2.1; have f3 : w2.frozen? ⟨g, o + 3, none⟩ = false := (HW.out.frozen (p := ⟨g, _, none⟩) hg).trans HZ.out.2.2.2.2.2.2.2)) | fail)
  all_goals
    go_wp2_with fail
    go_end0
    exact ⟨rfl, _, HW.out, rfl⟩
set_option maxHeartbeats 2000000 in
theorem inpl22 : Inpl 22 := fun g o C x w hC c0 c1 c2 c3 z0 z1 z2 z3 => by
  have hg : g < w.heap.size := spot_lt c0
  have hCg : C < w.heap.size := spot_lt hC
  have HZ := Lib.hid (And.intro c0 (And.intro c1 (And.intro c2 (And.intro c3 (And.intro z0 (And.intro z1 (And.intro z2 z3)))))))
  clear z0 z1 z2 z3
  obtain ⟨k, c, n, t⟩ := x
  dsimp only at c0 c1 c2 c3 HZ
  have hn := func58_nil 22 #[] w
  go_enter Try.func71, Try.ntmps71
  go_wp2_with fail
  clear hn
  (first | go_region_with ((go_at_call 22; (refine Calls.mono (turns22 k c n t w.drew) ?_); rintro e w2 ⟨rfl, hb⟩; have HW := Lib.hid (show Below w.heap.size w w2 from (below_drewN w 1).trans hb); clear hb; have d0 : w2.cell? ⟨g, o, none⟩ = some (.int .i64 k) := (HW.out.cell (p := ⟨g, _, none⟩) hg).trans HZ.out.1; have d1 : w2.cell? ⟨g, o + 1, none⟩ = some (.int .i64 c) := (HW.out.cell (p := ⟨g, _, none⟩) hg).trans HZ.out.2.1; have d2 : w2.cell? ⟨g, o + 2, none⟩ = some (.int .i64 n) := (HW.out.cell (p := ⟨g, _, none⟩) hg).trans HZ.out.2.2.1; have d3 : w2.cell? ⟨g, o + 3, none⟩ = some (.int .i64 t) := (HW.out.cell (p := ⟨g, _, none⟩) hg).trans HZ.out.2.2.2.1; have f0 : w2.frozen? ⟨g, o, none⟩ = false := (HW.out.frozen (p := ⟨g, _, none⟩) hg).trans HZ.out.2.2.2.2.1; have f1 : w2.frozen? ⟨g, o + 1, none⟩ = false := (HW.out.frozen (p := ⟨g, _, none⟩) hg).trans HZ.out.2.2.2.2.2.1; have f2 : w2.frozen? ⟨g, o + 2, none⟩ = false := (HW.out.frozen (p := ⟨g, _, none⟩) hg).trans HZ.out.2.2.2.2.2.2.1; have f3 : w2.frozen? ⟨g, o + 3, none⟩ = false := (HW.out.frozen (p := ⟨g, _, none⟩) hg).trans HZ.out.2.2.2.2.2.2.2)) | fail)
  all_goals
    go_wp2_with fail
    go_end0
    exact ⟨rfl, _, HW.out, rfl⟩
set_option maxHeartbeats 2000000 in
theorem inpl27 : Inpl 27 := fun g o C x w hC c0 c1 c2 c3 z0 z1 z2 z3 => by
  have hg : g < w.heap.size := spot_lt c0
  have hCg : C < w.heap.size := spot_lt hC
  have HZ := Lib.hid (And.intro c0 (And.intro c1 (And.intro c2 (And.intro c3 (And.intro z0 (And.intro z1 (And.intro z2 z3)))))))
  clear z0 z1 z2 z3
  obtain ⟨k, c, n, t⟩ := x
  dsimp only at c0 c1 c2 c3 HZ
  have hn := func58_nil 27 #[] w
  go_enter Try.func71, Try.ntmps71
  go_wp2_with fail
  clear hn
  (first | go_region_with ((go_at_call 27; (refine Calls.mono (turns27 k c n t w.drew) ?_); rintro e w2 ⟨rfl, hb⟩; have HW := Lib.hid (show Below w.heap.size w w2 from (below_drewN w 1).trans hb); clear hb; have d0 : w2.cell? ⟨g, o, none⟩ = some (.int .i64 k) := (HW.out.cell (p := ⟨g, _, none⟩) hg).trans HZ.out.1; have d1 : w2.cell? ⟨g, o + 1, none⟩ = some (.int .i64 c) := (HW.out.cell (p := ⟨g, _, none⟩) hg).trans HZ.out.2.1; have d2 : w2.cell? ⟨g, o + 2, none⟩ = some (.int .i64 n) := (HW.out.cell (p := ⟨g, _, none⟩) hg).trans HZ.out.2.2.1; have d3 : w2.cell? ⟨g, o + 3, none⟩ = some (.int .i64 t) := (HW.out.cell (p := ⟨g, _, none⟩) hg).trans HZ.out.2.2.2.1; have f0 : w2.frozen? ⟨g, o, none⟩ = false := (HW.out.frozen (p := ⟨g, _, none⟩) hg).trans HZ.out.2.2.2.2.1; have f1 : w2.frozen? ⟨g, o + 1, none⟩ = false := (HW.out.frozen (p := ⟨g, _, none⟩) hg).trans HZ.out.2.2.2.2.2.1; have f2 : w2.frozen? ⟨g, o + 2, none⟩ = false := (HW.out.frozen (p := ⟨g, _, none⟩) hg).trans HZ.out.2.2.2.2.2.2.1; have f3 : w2.frozen? ⟨g, o + 3, none⟩ = false := (HW.out.frozen (p := ⟨g, _, none⟩) hg).trans HZ.out.2.2.2.2.2.2.2)) | fail)
  all_goals
    go_wp2_with fail
    go_end0
    exact ⟨rfl, _, HW.out, rfl⟩
set_option maxHeartbeats 2000000 in
theorem inpl28 : Inpl 28 := fun g o C x w hC c0 c1 c2 c3 z0 z1 z2 z3 => by
  have hg : g < w.heap.size := spot_lt c0
  have hCg : C < w.heap.size := spot_lt hC
  have HZ := Lib.hid (And.intro c0 (And.intro c1 (And.intro c2 (And.intro c3 (And.intro z0 (And.intro z1 (And.intro z2 z3)))))))
  clear z0 z1 z2 z3
  obtain ⟨k, c, n, t⟩ := x
  dsimp only at c0 c1 c2 c3 HZ
  have hn := func58_nil 28 #[] w
  go_enter Try.func71, Try.ntmps71
  go_wp2_with fail
  clear hn
  (first | go_region_with ((go_at_call 28; (refine Calls.mono (turns28 k c n t w.drew) ?_); rintro e w2 ⟨rfl, hb⟩; have HW := Lib.hid (show Below w.heap.size w w2 from (below_drewN w 1).trans hb); clear hb; have d0 : w2.cell? ⟨g, o, none⟩ = some (.int .i64 k) := (HW.out.cell (p := ⟨g, _, none⟩) hg).trans HZ.out.1; have d1 : w2.cell? ⟨g, o + 1, none⟩ = some (.int .i64 c) := (HW.out.cell (p := ⟨g, _, none⟩) hg).trans HZ.out.2.1; have d2 : w2.cell? ⟨g, o + 2, none⟩ = some (.int .i64 n) := (HW.out.cell (p := ⟨g, _, none⟩) hg).trans HZ.out.2.2.1; have d3 : w2.cell? ⟨g, o + 3, none⟩ = some (.int .i64 t) := (HW.out.cell (p := ⟨g, _, none⟩) hg).trans HZ.out.2.2.2.1; have f0 : w2.frozen? ⟨g, o, none⟩ = false := (HW.out.frozen (p := ⟨g, _, none⟩) hg).trans HZ.out.2.2.2.2.1; have f1 : w2.frozen? ⟨g, o + 1, none⟩ = false := (HW.out.frozen (p := ⟨g, _, none⟩) hg).trans HZ.out.2.2.2.2.2.1; have f2 : w2.frozen? ⟨g, o + 2, none⟩ = false := (HW.out.frozen (p := ⟨g, _, none⟩) hg).trans HZ.out.2.2.2.2.2.2.1; have f3 : w2.frozen? ⟨g, o + 3, none⟩ = false := (HW.out.frozen (p := ⟨g, _, none⟩) hg).trans HZ.out.2.2.2.2.2.2.2)) | fail)
  all_goals
    go_wp2_with fail
    go_end0
    exact ⟨rfl, _, HW.out, rfl⟩

theorem put4_cell (w : World) (g o : Nat) (x : Opn) (c0 : ∃ v, w.cell? ⟨g, o, none⟩ = some v) (c1 : ∃ v, w.cell? ⟨g, o + 1, none⟩ = some v) (c2 : ∃ v, w.cell? ⟨g, o + 2, none⟩ = some v) (c3 : ∃ v, w.cell? ⟨g, o + 3, none⟩ = some v) :
    (put4 w g o x).cell? ⟨g, o, none⟩ = some (.int .i64 x.k) ∧ (put4 w g o x).cell? ⟨g, o + 1, none⟩ = some (.int .i64 x.c) ∧ (put4 w g o x).cell? ⟨g, o + 2, none⟩ = some (.int .i64 x.n) ∧ (put4 w g o x).cell? ⟨g, o + 3, none⟩ = some (.int .i64 x.t) := by
  obtain ⟨v0, c0⟩ := c0
  obtain ⟨v1, c1⟩ := c1
  obtain ⟨v2, c2⟩ := c2
  obtain ⟨v3, c3⟩ := c3
  unfold put4
  have ne : ∀ i j : Nat, i ≠ j → (⟨g, o + i, none⟩ : Addr) ≠ ⟨g, o + j, none⟩ := fun i j h e => by injection e with _ e; omega
  have n01 := ne 0 1 (by omega)
  have n02 := ne 0 2 (by omega)
  have n03 := ne 0 3 (by omega)
  have n12 := ne 1 2 (by omega)
  have n13 := ne 1 3 (by omega)
  have n23 := ne 2 3 (by omega)
  simp only [Nat.add_zero] at n01 n02 n03
  have s1 : (w.setCell ⟨g, o, none⟩ (.int .i64 x.k)).cell? ⟨g, o + 1, none⟩ = some v1 := (World.cell?_setCell_other _ _ _ _ n01).trans c1
  have s2 : ((w.setCell ⟨g, o, none⟩ (.int .i64 x.k)).setCell ⟨g, o + 1, none⟩ (.int .i64 x.c)).cell? ⟨g, o + 2, none⟩ = some v2 := (World.cell?_setCell_other _ _ _ _ n12).trans ((World.cell?_setCell_other _ _ _ _ n02).trans c2)
  have s3 : (((w.setCell ⟨g, o, none⟩ (.int .i64 x.k)).setCell ⟨g, o + 1, none⟩ (.int .i64 x.c)).setCell ⟨g, o + 2, none⟩ (.int .i64 x.n)).cell? ⟨g, o + 3, none⟩ = some v3 := (World.cell?_setCell_other _ _ _ _ n23).trans ((World.cell?_setCell_other _ _ _ _ n13).trans ((World.cell?_setCell_other _ _ _ _ n03).trans c3))
  refine ⟨?_, ?_, ?_, World.cell?_setCell_same _ _ _ s3⟩
  · rw [World.cell?_setCell_other _ _ _ _ n03.symm, World.cell?_setCell_other _ _ _ _ n02.symm, World.cell?_setCell_other _ _ _ _ n01.symm]; exact World.cell?_setCell_same _ _ _ c0
  · rw [World.cell?_setCell_other _ _ _ _ n13.symm, World.cell?_setCell_other _ _ _ _ n12.symm]; exact World.cell?_setCell_same _ _ _ s1
  · rw [World.cell?_setCell_other _ _ _ _ n23.symm]; exact World.cell?_setCell_same _ _ _ s2
theorem put4_far (w : World) (g o : Nat) (x : Opn) (a : Addr) (h : a.block ≠ g ∨ a.off < o ∨ o + 4 ≤ a.off) : (put4 w g o x).cell? a = w.cell? a := by
  unfold put4
  have ne : ∀ j, j < 4 → (⟨g, o + j, none⟩ : Addr) ≠ a := fun j hj e => by subst e; simp at h; omega
  have n0 := ne 0 (by omega)
  simp only [Nat.add_zero] at n0
  rw [World.cell?_setCell_other _ _ _ _ (ne 3 (by omega)), World.cell?_setCell_other _ _ _ _ (ne 2 (by omega)), World.cell?_setCell_other _ _ _ _ (ne 1 (by omega)), World.cell?_setCell_other _ _ _ _ n0]
theorem put4_block (w : World) (g o : Nat) (x : Opn) (b : Nat) (h : b ≠ g) : (put4 w g o x).heap[b]? = w.heap[b]? := by
  unfold put4
  rw [set_far h, set_far h, set_far h, set_far h]
theorem put4_size (w : World) (g o : Nat) (x : Opn) : (put4 w g o x).heap.size = w.heap.size := by unfold put4; simp [World.setCell]
theorem put4_froz (w : World) (g o : Nat) (x : Opn) (a : Addr) : (put4 w g o x).frozen? a = w.frozen? a := by
  unfold put4; simp
theorem put4_below {B : Nat} {a w : World} {g o : Nat} (x : Opn) (h : Below B a w) (hg : B ≤ g) : Below B a (put4 w g o x) :=
  ((((h.setCell (p := ⟨g, o, none⟩) hg _).setCell (p := ⟨g, o + 1, none⟩) hg _).setCell (p := ⟨g, o + 2, none⟩) hg _).setCell (p := ⟨g, o + 3, none⟩) hg _)
/-- An instruction turned. -/
def Ins.turned (i : Ins) : Ins := { i with dst := i.dst.T, args := i.args.map Opn.T }
theorem Ins.turned_turned (i : Ins) : i.turned.turned = i := by
  unfold Ins.turned
  cases i
  simp [Opn.T]
  rw [List.map_congr_left (g := id)]
  · simp
  · intro x _; rfl
end Go.Proofs.Ytocelaebokikcaa
