/- OpTable's walk, some of its ways. -/
import Derived.Test.YtmpcjjlffebljaaDoorTable
namespace Go.Proofs.YtmpcjjlffebljaaDoor
open Go.ChangeShapes Go.WideShapes Go.RowKit
set_option linter.unusedVariables false

set_option maxHeartbeats 4000000 in
theorem table_a (n cs : Int) (h0 : 0 ≤ cs) (h1 : cs ≤ 4096) (nm ds : ByteArray) (ar : List ByteArray) (lb : Int) (al k : Bool) (M : Nat) (hR : rowOf n = ⟨nm, ds, ar, lb, al⟩) (hM : ar.length = M) (hM8 : M ≤ 8) (hk : isOp n = k)
    (c19 : (n == 19) = false) (c20 : decide (20 ≤ n) = false) (c23 : decide (n ≤ 23) = true) (cd : ¬ ds.toList = []) (ce : ds.toList.isEmpty = false) (cl : decide (lb < 0) = false)
    (hlo : (if n = 19 then 0 else M) = M) (hmu : mustOf n = true) (hma : mayOf n = true) (hal : machOf n = al) (hla : lastOf n = false) (hlb : labsOf n cs = lb) (w : World) (hG : Glob w) :
    Calls Tryd.prog 3 #[.int .i64 n, .int .i64 cs] w fun e w' => e = .returned (.bool true) ∧ Below w.heap.size w w' := by
  have c0 : decide (cs < 0) = false := by rw [decide_eq_false_iff_not]; omega
  have c1 : decide (4096 < cs) = false := by rw [decide_eq_false_iff_not]; omega
  have n19 : (n != 19) = true := by rw [bne, c19]; rfl
  have hn : nameOf n = nm := by unfold nameOf; rw [hR]
  have hmany : many n = M := by unfold many; rw [hR]; exact hM
  have HG := Lib.hid hG
  have HC := Lib.hid (And.intro h0 h1)
  have HR := Lib.hid (And.intro hR (And.intro hM (And.intro hk (And.intro hlo (And.intro hmu (And.intro hma (And.intro hal (And.intro hla (And.intro hlb (And.intro hn hmany))))))))))
  clear hG hR hM hk hlo hmu hma hal hla hlb hn hmany
  go_enter Tryd.func3, Tryd.ntmps3
  go_wp2_with fail
  refine (rfind_v n _).mono ?_
  rintro e w1 ⟨A, rfl, _, hb1⟩
  have B1 := Lib.hid hb1
  clear hb1
  rw [HR.out.1, HR.out.2.2.1]
  unfold rc
  dsimp only
  rw [HR.out.2.1]
  go_wp2_with fail
  obtain ⟨w2, hw2⟩ : ∃ w2, w1.alloc (.cells #[.string nm, .string ds, .slice A M M, .int .i64 lb, .bool al] 25) = w2 := ⟨_, rfl⟩
  rw [hw2]
  obtain ⟨g, hg⟩ : ∃ g, w1.heap.size = g := ⟨_, rfl⟩
  have B2 := Lib.hid (show Below w.heap.size w w2 by rw [← hw2]; exact B1.out.alloc B1.out.size _)
  have G2 := Lib.hid (show Glob w2 from HG.out.below B2.out HG.out.1)
  have r0 : w2.heap[g]? = some (.cells #[.string nm, .string ds, .slice A M M, .int .i64 lb, .bool al] 25 (0, 0)) := by rw [← hw2, ← hg]; exact heap_alloc_new w1 _
  rw [hg]
  have z0 : w2.cell? ⟨g, 0, none⟩ = some (.string nm) := by rw [cell_of_row _ _ _ _ _ _ r0]; rfl
  have z1 : w2.cell? ⟨g, 1, none⟩ = some (.string ds) := by rw [cell_of_row _ _ _ _ _ _ r0]; rfl
  have z2 : w2.cell? ⟨g, 2, none⟩ = some (.slice A M M) := by rw [cell_of_row _ _ _ _ _ _ r0]; rfl
  have z3 : w2.cell? ⟨g, 3, none⟩ = some (.int .i64 lb) := by rw [cell_of_row _ _ _ _ _ _ r0]; rfl
  have z4 : w2.cell? ⟨g, 4, none⟩ = some (.bool al) := by rw [cell_of_row _ _ _ _ _ _ r0]; rfl
  clear r0 hw2 hg B1
  refine (args_v n M M HR.out.2.2.2.2.2.2.2.2.2.2 HR.out.2.2.2.1 _).mono ?_
  rintro e w3 ⟨rfl, rfl⟩
  go_wp2_with fail
  refine (gives_v n true true HR.out.2.2.2.2.1 HR.out.2.2.2.2.2.1 _).mono ?_
  rintro e w3 ⟨rfl, rfl⟩
  go_wp2_with fail
  simp only [List.append]
  clear z3
  refine wp_region_still_tail 67 (by kernel_rfl) (by kernel_rfl) ?_
  simp only [List.take_succ_cons, List.take_zero, List.drop_succ_cons, List.drop_zero]
  repeat still_step
  still_call (is_w n k HR.out.2.2.1 _)
  repeat still_step
  still_call (name_w n nm HR.out.2.2.2.2.2.2.2.2.2.1 _ (by exact G2.out))
  repeat still_step
  still_call (mach_w n al HR.out.2.2.2.2.2.2.1 _)
  repeat still_step
  still_call (last_w n false HR.out.2.2.2.2.2.2.2.1 _)
  repeat still_step
  still_call (labs_w n cs HC.out.1 HC.out.2 lb HR.out.2.2.2.2.2.2.2.2.1 _)
  repeat still_step
  refine wpStill_nil ?_
  go_wp2_with fail
  refine (works_v _ (by exact G2.out)).mono ?_
  rintro e w4 ⟨rfl, hb4⟩
  have B4 := Lib.hid hb4
  clear hb4
  go_wp2_with fail
  go_ret
  exact ⟨rfl, (B2.out.trans (below_drew _ _)).trans (B4.out.mono B2.out.size)⟩
end Go.Proofs.YtmpcjjlffebljaaDoor
