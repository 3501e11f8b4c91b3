/- (Value).Set at the two types; what Unwrap answers. -/
import Derived.Test.YtnpdmcgfhieepaaDoorAs
namespace Go.Proofs.YtnpdmcgfhieepaaDoor
open Go.RowKit Go.Extern.Stop Go.Stop Go.Extern
set_option linter.unusedVariables false

theorem isAgg41' (w : World) : (isAgg 41).run Tryd.prog w = .ok true w := by kernel_rfl
theorem isAgg52' (w : World) : (isAgg 52).run Tryd.prog w = .ok true w := by kernel_rfl
theorem size41' (w : World) : (Go.sizeOf 41).run Tryd.prog w = .ok 2 w := by kernel_rfl
theorem size52' (w : World) : (Go.sizeOf 52).run Tryd.prog w = .ok 2 w := by kernel_rfl
theorem two_load {T : TypeId} (hA : ∀ w, (isAgg T).run Tryd.prog w = .ok true w) (hS : ∀ w, (Go.sizeOf T).run Tryd.prog w = .ok 2 w) (W : World) (b : Nat) (x y : Value) {U : TypeId} (h : W.heap[b]? = some (.cells #[x, y] U (0, 0))) :
    (loadVar T ⟨b, 0, none⟩).run Tryd.prog W = .ok (.agg #[x, y]) W := by
  have c0 : W.cell? ⟨b, 0, none⟩ = some x := by rw [Lib.cell_of_heap h]; rfl
  have c1 : W.cell? ⟨b, 1, none⟩ = some y := by rw [Lib.cell_of_heap h]; rfl
  simp [loadVar, hA, hS, loadCells, loadCellsFrom, Addr.add, c0, c1, Result.andThen]
theorem two_store {T : TypeId} (hS : ∀ w, (Go.sizeOf T).run Tryd.prog w = .ok 2 w) (W : World) (b : Nat) (x y u v : Value) {U : TypeId} (hx : x.oneCell' = true) (hy : y.oneCell' = true) (h : W.heap[b]? = some (.cells #[u, v] U (0, 0))) :
    (storeVar T ⟨b, 0, none⟩ (.agg #[x, y])).run Tryd.prog W = .ok () (two W b x y) := by
  have c0 : W.cell? ⟨b, 0, none⟩ = some u := by rw [Lib.cell_of_heap h]; rfl
  have f0 : W.frozen? ⟨b, 0, none⟩ = false := Lib.frozen_of_heap h 0
  have h1 : (W.setCell ⟨b, 0, none⟩ x).heap[b]? = some (.cells #[x, v] U (0, 0)) := by simp [World.setCell, Array.getElem?_modify, h]
  have c1 : (W.setCell ⟨b, 0, none⟩ x).cell? ⟨b, 1, none⟩ = some v := by rw [Lib.cell_of_heap h1]; rfl
  have f1 : (W.setCell ⟨b, 0, none⟩ x).frozen? ⟨b, 1, none⟩ = false := Lib.frozen_of_heap h1 1
  simp [storeVar, hS, Value.cells, storeCells, Addr.add, Result.andThen]
  rw [run_store Tryd.prog W ⟨b, 0, none⟩ _ _ hx]
  simp [c0, f0]
  rw [run_store Tryd.prog _ ⟨b, 1, none⟩ _ _ hy]
  simp [c1, f1, two]
theorem set41 (tb b : Nat) (x y u v : Value) (W : World) (hx : x.oneCell' = true) (hy : y.oneCell' = true) (hb : W.heap[b]? = some (.cells #[x, y] 41 (0, 0))) (ht : W.heap[tb]? = some (.cells #[u, v] 41 (0, 0))) :
    (ReflectliteValue.set #[.agg #[.pointer (some ⟨1, 41, none⟩), .pointer (some ⟨tb, 0, none⟩), .int .u64 409], .agg #[.pointer (some ⟨1, 41, none⟩), .pointer (some ⟨b, 0, none⟩), .int .u64 153]]).run Tryd.prog W
      = .ok (.tuple #[]) (two W tb x y) := by
  change (ReflectliteValue.parts _ >>= _).run Tryd.prog W = _
  simp only [Array.getLit, List.getElem_toArray, List.getElem_cons_zero, List.getElem_cons_succ, Sem.run_bind, parts41a, parts41, Result.andThen]
  simp [ReflectliteValue.flagAddr, two_load isAgg41' size41' W b x y hb, Result.andThen, direct41, two_store size41' W tb x y u v hx hy ht]
theorem set52 (tb b : Nat) (x y u v : Value) (W : World) (hx : x.oneCell' = true) (hy : y.oneCell' = true) (hb : W.heap[b]? = some (.cells #[x, y] 52 (0, 0))) (ht : W.heap[tb]? = some (.cells #[u, v] 52 (0, 0))) :
    (ReflectliteValue.set #[.agg #[.pointer (some ⟨1, 52, none⟩), .pointer (some ⟨tb, 0, none⟩), .int .u64 409], .agg #[.pointer (some ⟨1, 52, none⟩), .pointer (some ⟨b, 0, none⟩), .int .u64 153]]).run Tryd.prog W
      = .ok (.tuple #[]) (two W tb x y) := by
  change (ReflectliteValue.parts _ >>= _).run Tryd.prog W = _
  simp only [Array.getLit, List.getElem_toArray, List.getElem_cons_zero, List.getElem_cons_succ, Sem.run_bind, parts52a, parts52, Result.andThen]
  simp [ReflectliteValue.flagAddr, two_load isAgg52' size52' W b x y hb, Result.andThen, direct52, two_store size52' W tb x y u v hx hy ht]

theorem unwrap_v (p : ByteArray) (T : TypeId) (v : Value) (w : World) :
    Calls Tryd.prog 57 #[.agg #[.string p, .iface T v]] w fun e w' => e = .returned (.iface T v) ∧ w' = w.alloc (.cells #[.string p, .iface T v] 52) := by
  go_enter Tryd.func57, Tryd.ntmps57
  go_wp2
  go_ret
  exact ⟨rfl, rfl⟩
end Go.Proofs.YtnpdmcgfhieepaaDoor
