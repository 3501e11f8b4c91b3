/- errors.as, and errors.As, at a variable for a fault. -/
import Derived.Test.YtnpdmcgfhieepaaDoorAsA
import Derived.Deep.Light
import Derived.StillTailTactics
import Derived.BigQuiet
namespace Go.Proofs.YtnpdmcgfhieepaaDoor
open Go.RowKit Go.Extern.Stop Go.Stop Go.Extern
set_option linter.unusedVariables false

theorem err_iface (code place : Int) (r : List ByteArray) : ∃ T v, err code place r = .iface T v := by
  cases r with
  | nil => exact ⟨_, _, rfl⟩
  | cons p r => exact ⟨_, _, rfl⟩
theorem err_cons (code place : Int) (p : ByteArray) (r : List ByteArray) : ∃ T v, err code place r = .iface T v ∧ err code place (p :: r) = .iface 52 (.agg #[.string p, .iface T v]) := by
  obtain ⟨T, v, h⟩ := err_iface code place r
  exact ⟨T, v, h, by rw [← h]; rfl⟩
set_option maxRecDepth 100000 in
set_option maxHeartbeats 4000000 in
theorem as_f (code place : Int) (path : List ByteArray) (tb a : Nat) (x y : Value) (w : World)
    (ht : w.heap[tb]? = some (.cells #[x, y] 41 (0, 0))) (ha : w.cell? ⟨a, 0, none⟩ = some (.pointer (some ⟨tb, 0, none⟩))) (hal : a < w.heap.size) :
    Calls Tryd.prog 28 #[err code place path, .iface 56 (.pointer (some ⟨tb, 0, none⟩)), .agg #[.pointer (some ⟨1, 56, none⟩), .pointer (some ⟨a, 0, none⟩), .int .u64 150], .iface 79 (.agg #[.pointer (some ⟨1, 41, none⟩)])] w
      fun e w' => e = .returned (.bool true) ∧ w.grownBy w' (some tb) ∧ w'.heap[tb]? = some (.cells #[.int .i64 code, .int .i64 place] 41 (0, 0)) := by
  have h25 := @run_callFunc_extern Tryd.prog 25 _ (fun args => ReflectliteValue.unpack (args.getD 0 (.tuple #[]))) Tryd.func25 (by kernel_rfl) (by kernel_rfl) (by kernel_rfl) (by kernel_rfl)
  have h30 := @run_callFunc_extern Tryd.prog 30 _ ReflectliteType.typeOf Tryd.func30 (by kernel_rfl) (by kernel_rfl) (by kernel_rfl) (by kernel_rfl)
  have h62 := @run_callFunc_extern Tryd.prog 62 _ (ReflectliteType.relation "AssignableTo" ReflectliteType.assignableTo) Tryd.func62 (by kernel_rfl) (by kernel_rfl) (by kernel_rfl) (by kernel_rfl)
  have h34 := @run_callFunc_extern Tryd.prog 34 _ (ReflectliteValue.method (ReflectliteValue.valueError "reflectlite.Value.Elem" 0) ReflectliteValue.elem) Tryd.func34 (by kernel_rfl) (by kernel_rfl) (by kernel_rfl) (by kernel_rfl)
  have h35 := @run_callFunc_extern Tryd.prog 35 _ ReflectliteValue.set Tryd.func35 (by kernel_rfl) (by kernel_rfl) (by kernel_rfl) (by kernel_rfl)
  have tO := typeOf41
  have tP := typeOf52
  have mA := methodAssignableTo
  have a41 := assignable41_41
  have a52 := assignable52_41
  have v41 := valueOf41
  have nA := noAs52
  have hU := hasUnwrap52
  have mU := methodUnwrap
  have HT := Lib.hid (And.intro ht (And.intro ha hal))
  clear ht ha hal
  go_enter Tryd.func28, Tryd.ntmps28
  go_wp2_with fail
  go_loopg [0] path.length (fun gk v wr => ∃ r : List ByteArray, r.length = gk ∧ v = err code place r ∧ Hid (Below (w.heap.size + 1) (w.alloc (.cells #[.pointer (some ⟨1, 56, none⟩), .pointer (some ⟨a, 0, none⟩), .int .u64 150] 62)) wr))
  case atStart => exact ⟨path, rfl, rfl, Below.refl _ _⟩
  case round =>
    obtain ⟨r, hr, rfl, HB⟩ := hrel
    have c0 : wr.cell? ⟨w.heap.size, 0, none⟩ = some (.pointer (some ⟨1, 56, none⟩)) := by rw [HB.out.cell (Nat.lt_succ_self _)]; simp
    have c1 : wr.cell? ⟨w.heap.size, 1, none⟩ = some (.pointer (some ⟨a, 0, none⟩)) := by rw [HB.out.cell (Nat.lt_succ_self _)]; simp
    have c2 : wr.cell? ⟨w.heap.size, 2, none⟩ = some (.int .u64 150) := by rw [HB.out.cell (Nat.lt_succ_self _)]; simp
    cases r with
    | nil =>
      have ca : wr.cell? ⟨a, 0, none⟩ = some (.pointer (some ⟨tb, 0, none⟩)) := by
        rw [HB.out.cell (Nat.lt_succ_of_lt HT.out.2.2), World.cell?_alloc_lt _ _ ⟨a, 0, none⟩ HT.out.2.2]; exact HT.out.2.1
      have el := elemV56 ⟨a, 0, none⟩ ⟨tb, 0, none⟩ wr ca
      have htw : wr.heap[tb]? = some (.cells #[x, y] 41 (0, 0)) := by
        have l := fresh0 HT.out.1
        rw [HB.out.block tb (by omega), Below.heap_alloc _ _ _ l]; exact HT.out.1
      have hlt := fresh0 htw
      have st := set41 tb wr.heap.size (.int .i64 code) (.int .i64 place) x y (wr.alloc (.cells #[.int .i64 code, .int .i64 place] 41)) rfl rfl (heap_alloc_new wr _) (by rw [Below.heap_alloc _ _ _ hlt]; exact htw)
      have HW := Lib.hid htw
      clear htw ca hlt hr
      simp only [err, bare]
      go_wp2_with fail
      go_ret
      have hb : Below w.heap.size w (wr.alloc (.cells #[.int .i64 code, .int .i64 place] 41)) := by
        have h1 := HB.out.mono (Nat.le_succ _)
        have h2 := ((Below.refl _ w).alloc (Nat.le_refl _) _).trans h1
        exact h2.alloc h2.size _
      refine ⟨rfl, two_grown hb, two_heap (u := x) (v := y) ?_⟩
      rw [Below.heap_alloc _ _ _ (fresh0 HW.out)]; exact HW.out
    | cons p r =>
      obtain ⟨T, v, hE, hC⟩ := err_cons code place p r
      have HE := Lib.hid hE
      rw [hC]
      clear hE hC
      obtain ⟨q, rfl⟩ : ∃ q, gk = q + 1 := ⟨r.length, by simpa using hr.symm⟩
      have HR := Lib.hid hr
      clear hr
      go_wp2_with (go_at_call 57; refine (unwrap_v p T v _).mono ?_; rintro e w' ⟨rfl, rfl⟩)
      go_roundg q
      case measure => omega
      case rel => exact ⟨r, by have := HR.out; simpa using this, HE.out.symm, HB.out.alloc (by have := HB.out.size; simpa using this) _⟩
end Go.Proofs.YtnpdmcgfhieepaaDoor
