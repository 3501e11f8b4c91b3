/- What the program's New, In, Of, At answer. -/
import Derived.Test.YtnpdmcgfhieepaaDoorAsD
namespace Go.Proofs.YtnpdmcgfhieepaaDoor
open Go.RowKit Go.Extern.Stop Go.Stop Go.Extern
set_option linter.unusedVariables false

theorem int_beq {x y : Int} (h : ¬ x = y) : (x == y) = false := by simpa using h
theorem new_ok (place : Int) (w : World) : Calls Tryd.prog 15 #[.int .i64 0, .int .i64 place] w fun e w' => e = .returned .nilIface ∧ w = w' := by
  go_enter Tryd.func15, Tryd.ntmps15
  go_wp2_with fail
  go_ret
  exact ⟨rfl, rfl⟩
theorem new_v (code place : Int) (hc : ¬ code = 0) (w : World) : Calls Tryd.prog 15 #[.int .i64 code, .int .i64 place] w fun e w' => e = .returned (err code place []) ∧ w = w' := by
  have h := int_beq hc
  go_enter Tryd.func15, Tryd.ntmps15
  go_wp2_with fail
  go_ret
  exact ⟨rfl, rfl⟩
theorem in_nil (p : ByteArray) (w : World) : Calls Tryd.prog 14 #[.string p, .nilIface] w fun e w' => e = .returned .nilIface ∧ w = w' := by
  go_enter Tryd.func14, Tryd.ntmps14
  go_wp2_with fail
  go_ret
  exact ⟨rfl, rfl⟩
theorem in_v (p : ByteArray) (code place : Int) (r : List ByteArray) (w : World) : Calls Tryd.prog 14 #[.string p, err code place r] w fun e w' => e = .returned (err code place (p :: r)) ∧ w = w' := by
  obtain ⟨T, v, h1, h2⟩ := err_cons code place p r
  rw [h1, h2]
  clear h1 h2
  go_enter Tryd.func14, Tryd.ntmps14
  go_wp2_with fail
  go_ret
  exact ⟨rfl, rfl⟩
theorem alloc_zero (w : World) : (w.alloc (.cells #[.int .i64 0, .int .i64 0] 41)).heap[w.heap.size]? = some (.cells #[.int .i64 0, .int .i64 0] 41 (0, 0)) := heap_alloc_new w _
set_option maxHeartbeats 1000000 in
theorem inmost_nil (w : World) : Calls Tryd.prog 16 #[.nilIface] w fun e w' => e = .returned (.agg #[.int .i64 0, .int .i64 0]) ∧ Below w.heap.size w w' := by
  have hb : Below w.heap.size w (((w.alloc (.cells #[.int .i64 0, .int .i64 0] 41)).alloc (.cells #[.int .i64 0, .int .i64 0] 41))) := ((Below.refl _ w).alloc (Nat.le_refl _) _).alloc (by simp) _
  have HB := Lib.hid hb
  clear hb
  go_enter Tryd.func16, Tryd.ntmps16
  go_wp2_with fail
  refine (as_nil _ _).mono ?_
  rintro e w1 ⟨rfl, rfl⟩
  go_wp2_with fail
  have hz : ((w.alloc (.cells #[.int .i64 0, .int .i64 0] 41)).alloc (.cells #[.int .i64 0, .int .i64 0] 41)).heap[w.heap.size]? = some (.cells #[.int .i64 0, .int .i64 0] 41 (0, 0)) := by
    rw [Below.heap_alloc _ _ _ (by simp)]; exact alloc_zero w
  refine bodyPost_ret (results_cell_row (fn := Tryd.f16) rfl _ _ w.heap.size 41 #[.int .i64 0, .int .i64 0] (0, 0) _ rfl hz Tryd.underlying41 rfl (by kernel_rfl)) rfl ?_
  exact ⟨rfl, HB.out⟩
set_option maxHeartbeats 1000000 in
theorem inmost_v (code place : Int) (path : List ByteArray) (w : World) (hg : Glob w) : Calls Tryd.prog 16 #[err code place path] w fun e w' => e = .returned (.agg #[.int .i64 code, .int .i64 place]) ∧ Below w.heap.size w w' := by
  have hb : Below w.heap.size w (((w.alloc (.cells #[.int .i64 0, .int .i64 0] 41)).alloc (.cells #[.int .i64 0, .int .i64 0] 41))) := ((Below.refl _ w).alloc (Nat.le_refl _) _).alloc (by simp) _
  have HG := Lib.hid hg
  have HB := Lib.hid hb
  clear hg hb
  go_enter Tryd.func16, Tryd.ntmps16
  go_wp2_with fail
  refine (As_f code place path (w.heap.size + 1) (.int .i64 0) (.int .i64 0) _ ((HG.out.alloc _).alloc _) (by have := alloc_zero (w.alloc (.cells #[.int .i64 0, .int .i64 0] 41)); simpa using this)).mono ?_
  rintro e w1 ⟨rfl, hgr, hh⟩
  have c0 : w1.cell? ⟨w.heap.size + 1, 0, none⟩ = some (.int .i64 code) := by rw [Lib.cell_of_heap hh]; rfl
  have c1 : w1.cell? ⟨w.heap.size + 1, 1, none⟩ = some (.int .i64 place) := by rw [Lib.cell_of_heap hh]; rfl
  have hr : w1.heap[w.heap.size]? = some (.cells #[.int .i64 0, .int .i64 0] 41 (0, 0)) := by
    rw [hgr.block _ (by simp; omega) (by simp), Below.heap_alloc _ _ _ (by simp)]; exact alloc_zero w
  have r0 : w1.cell? ⟨w.heap.size, 0, none⟩ = some (.int .i64 0) := by rw [Lib.cell_of_heap hr]; rfl
  have r1 : w1.cell? ⟨w.heap.size, 1, none⟩ = some (.int .i64 0) := by rw [Lib.cell_of_heap hr]; rfl
  have z0 : w1.frozen? ⟨w.heap.size, 0, none⟩ = false := Lib.frozen_of_heap hr 0
  have z1 : w1.frozen? ⟨w.heap.size, 1, none⟩ = false := Lib.frozen_of_heap hr 1
  have H1 := Lib.hid (HB.out.grown hgr (by simp; omega) (fun k hk => by injection hk; omega))
  have HR := Lib.hid hr
  clear hgr hh hr
  go_wp2_with fail
  refine bodyPost_ret (results_cell_row (fn := Tryd.f16) rfl _ _ w.heap.size 41 #[.int .i64 code, .int .i64 place] (0, 0) _ rfl (two_heap HR.out) Tryd.underlying41 rfl (by kernel_rfl)) rfl ?_
  exact ⟨rfl, (H1.out.setCell (Nat.le_refl _) _).setCell (Nat.le_refl _) _⟩
theorem field0 (x y : Int) (w : World) : (Instr.field 41 (.agg #[.int .i64 x, .int .i64 y]) 0).run Tryd.prog w = .ok (.int .i64 x) w := by kernel_rfl
theorem field1 (x y : Int) (w : World) : (Instr.field 41 (.agg #[.int .i64 x, .int .i64 y]) 1).run Tryd.prog w = .ok (.int .i64 y) w := by kernel_rfl
theorem of_nil (w : World) : Calls Tryd.prog 8 #[.nilIface] w fun e w' => e = .returned (.int .i64 0) ∧ Below w.heap.size w w' := by
  have hf := field0
  go_enter Tryd.func8, Tryd.ntmps8
  go_wp2_with fail
  refine (inmost_nil _).mono ?_
  rintro e w1 ⟨rfl, hb⟩
  have H1 := Lib.hid hb
  clear hb
  go_wp2_with fail
  go_ret
  exact ⟨rfl, H1.out⟩
theorem of_v (code place : Int) (path : List ByteArray) (w : World) (hg : Glob w) : Calls Tryd.prog 8 #[err code place path] w fun e w' => e = .returned (.int .i64 code) ∧ Below w.heap.size w w' := by
  have HG := Lib.hid hg
  clear hg
  have hf := field0
  go_enter Tryd.func8, Tryd.ntmps8
  go_wp2_with fail
  refine (inmost_v code place path _ HG.out).mono ?_
  rintro e w1 ⟨rfl, hb⟩
  have H1 := Lib.hid hb
  clear hb
  go_wp2_with fail
  go_ret
  exact ⟨rfl, H1.out⟩
theorem at_nil (w : World) : Calls Tryd.prog 9 #[.nilIface] w fun e w' => e = .returned (.int .i64 0) ∧ Below w.heap.size w w' := by
  have hf := field1
  go_enter Tryd.func9, Tryd.ntmps9
  go_wp2_with fail
  refine (inmost_nil _).mono ?_
  rintro e w1 ⟨rfl, hb⟩
  have H1 := Lib.hid hb
  clear hb
  go_wp2_with fail
  go_ret
  exact ⟨rfl, H1.out⟩
theorem at_v (code place : Int) (path : List ByteArray) (w : World) (hg : Glob w) : Calls Tryd.prog 9 #[err code place path] w fun e w' => e = .returned (.int .i64 place) ∧ Below w.heap.size w w' := by
  have HG := Lib.hid hg
  clear hg
  have hf := field1
  go_enter Tryd.func9, Tryd.ntmps9
  go_wp2_with fail
  refine (inmost_v code place path _ HG.out).mono ?_
  rintro e w1 ⟨rfl, hb⟩
  have H1 := Lib.hid hb
  clear hb
  go_wp2_with fail
  go_ret
  exact ⟨rfl, H1.out⟩
end Go.Proofs.YtnpdmcgfhieepaaDoor
