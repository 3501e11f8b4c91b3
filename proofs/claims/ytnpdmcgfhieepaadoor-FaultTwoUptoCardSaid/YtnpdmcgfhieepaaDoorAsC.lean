/- errors.as at a variable for an error within a part; errors.As at both. -/
import Derived.Test.YtnpdmcgfhieepaaDoorAsB
namespace Go.Proofs.YtnpdmcgfhieepaaDoor
open Go.RowKit Go.Extern.Stop Go.Stop Go.Extern
set_option linter.unusedVariables false

set_option maxRecDepth 100000 in
set_option maxHeartbeats 4000000 in
theorem as_w (p : ByteArray) (T : TypeId) (v : Value) (tb a : Nat) (x y : Value) (w : World)
    (ht : w.heap[tb]? = some (.cells #[x, y] 52 (0, 0))) (ha : w.cell? ⟨a, 0, none⟩ = some (.pointer (some ⟨tb, 0, none⟩))) (hal : a < w.heap.size) :
    Calls Tryd.prog 28 #[.iface 52 (.agg #[.string p, .iface T v]), .iface 54 (.pointer (some ⟨tb, 0, none⟩)), .agg #[.pointer (some ⟨1, 54, none⟩), .pointer (some ⟨a, 0, none⟩), .int .u64 150], .iface 79 (.agg #[.pointer (some ⟨1, 52, none⟩)])] w
      fun e w' => e = .returned (.bool true) ∧ w.grownBy w' (some tb) ∧ w'.heap[tb]? = some (.cells #[.string p, .iface T v] 52 (0, 0)) := by
  have h25 := @run_callFunc_extern Tryd.prog 25 _ (fun args => ReflectliteValue.unpack (args.getD 0 (.tuple #[]))) Tryd.func25 (by kernel_rfl) (by kernel_rfl) (by kernel_rfl) (by kernel_rfl)
  have h30 := @run_callFunc_extern Tryd.prog 30 _ ReflectliteType.typeOf Tryd.func30 (by kernel_rfl) (by kernel_rfl) (by kernel_rfl) (by kernel_rfl)
  have h62 := @run_callFunc_extern Tryd.prog 62 _ (ReflectliteType.relation "AssignableTo" ReflectliteType.assignableTo) Tryd.func62 (by kernel_rfl) (by kernel_rfl) (by kernel_rfl) (by kernel_rfl)
  have h34 := @run_callFunc_extern Tryd.prog 34 _ (ReflectliteValue.method (ReflectliteValue.valueError "reflectlite.Value.Elem" 0) ReflectliteValue.elem) Tryd.func34 (by kernel_rfl) (by kernel_rfl) (by kernel_rfl) (by kernel_rfl)
  have h35 := @run_callFunc_extern Tryd.prog 35 _ ReflectliteValue.set Tryd.func35 (by kernel_rfl) (by kernel_rfl) (by kernel_rfl) (by kernel_rfl)
  have tP := typeOf52
  have mA := methodAssignableTo
  have a52 := assignable52_52
  have v52 := valueOf52
  have htl := fresh0 ht
  obtain ⟨W, hW⟩ : ∃ W, w.alloc (.cells #[.pointer (some ⟨1, 54, none⟩), .pointer (some ⟨a, 0, none⟩), .int .u64 150] 62) = W := ⟨_, rfl⟩
  have el := elemV54 ⟨a, 0, none⟩ ⟨tb, 0, none⟩ (w.alloc (.cells #[.pointer (some ⟨1, 54, none⟩), .pointer (some ⟨a, 0, none⟩), .int .u64 150] 62)) (by rw [World.cell?_alloc_lt _ _ ⟨a, 0, none⟩ hal]; exact ha)
  have htw : (w.alloc (.cells #[.pointer (some ⟨1, 54, none⟩), .pointer (some ⟨a, 0, none⟩), .int .u64 150] 62)).heap[tb]? = some (.cells #[x, y] 52 (0, 0)) := by rw [Below.heap_alloc _ _ _ htl]; exact ht
  have c0 : W.cell? ⟨w.heap.size, 0, none⟩ = some (.pointer (some ⟨1, 54, none⟩)) := by rw [← hW]; simp
  have c1 : W.cell? ⟨w.heap.size, 1, none⟩ = some (.pointer (some ⟨a, 0, none⟩)) := by rw [← hW]; simp
  have c2 : W.cell? ⟨w.heap.size, 2, none⟩ = some (.int .u64 150) := by rw [← hW]; simp
  have hb : Below w.heap.size w W := by rw [← hW]; exact (Below.refl _ w).alloc (Nat.le_refl _) _
  rw [hW] at el htw
  have st := set52 tb W.heap.size (.string p) (.iface T v) x y (W.alloc (.cells #[.string p, .iface T v] 52)) rfl rfl (heap_alloc_new W _) (by rw [Below.heap_alloc _ _ _ (fresh0 htw)]; exact htw)
  have HW := Lib.hid (And.intro htw hb)
  clear htw htl ht ha hal hb
  go_enter Tryd.func28, Tryd.ntmps28
  go_wp2_with fail
  clear hW
  refine wp_loop_rounds 1 ?_
  rw [rounds_succ]
  go_wp2_with fail
  go_ret
  refine ⟨rfl, two_grown (HW.out.2.alloc HW.out.2.size _), two_heap (u := x) (v := y) ?_⟩
  rw [Below.heap_alloc _ _ _ (fresh0 HW.out.1)]; exact HW.out.1

set_option maxRecDepth 100000 in
set_option maxHeartbeats 4000000 in
theorem as_miss (code place : Int) (t a : Addr) (w : World) :
    Calls Tryd.prog 28 #[bare code place, .iface 54 (.pointer (some t)), .agg #[.pointer (some ⟨1, 54, none⟩), .pointer (some a), .int .u64 150], .iface 79 (.agg #[.pointer (some ⟨1, 52, none⟩)])] w
      fun e w' => e = .returned (.bool false) ∧ Below w.heap.size w w' := by
  have h30 := @run_callFunc_extern Tryd.prog 30 _ ReflectliteType.typeOf Tryd.func30 (by kernel_rfl) (by kernel_rfl) (by kernel_rfl) (by kernel_rfl)
  have h62 := @run_callFunc_extern Tryd.prog 62 _ (ReflectliteType.relation "AssignableTo" ReflectliteType.assignableTo) Tryd.func62 (by kernel_rfl) (by kernel_rfl) (by kernel_rfl) (by kernel_rfl)
  have tO := typeOf41
  have mA := methodAssignableTo
  have a41 := assignable41_52
  have nA := noAs41
  have nU := noUnwrap41
  have nV := noUnwraps41
  unfold bare
  go_enter Tryd.func28, Tryd.ntmps28
  go_wp2_with fail
  refine wp_loop_rounds 1 ?_
  rw [rounds_succ]
  go_wp2_with fail
  go_ret
  exact ⟨rfl, (Below.refl _ w).alloc (Nat.le_refl _) _⟩
end Go.Proofs.YtnpdmcgfhieepaaDoor
