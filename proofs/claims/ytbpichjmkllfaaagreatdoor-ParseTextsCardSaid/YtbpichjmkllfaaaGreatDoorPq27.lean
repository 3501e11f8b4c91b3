/- Packed texts of one proof. Conditions: none. -/
import Derived.Test.YtbpichjmkllfaaaGreatDoorPq01
import Derived.LaidEql
import Derived.Stop.Asserts
import Derived.RowKitTokens
import Derived.Lib.Builder
import Derived.Deep.Light
import Derived.StillTailTactics
import Derived.BigQuiet
namespace Go.Proofs.YtbpichjmkllfaaaGreatDoor.Flt
open Go.RowKit Go.Extern.Stop Go.Stop Go.Extern
set_option linter.unusedVariables false
def bare (code place : Int) : Value := .iface 84 (.agg #[.int .i64 code, .int .i64 place])
def inn (p : ByteArray) (e : Value) : Value := .iface 76 (.agg #[.string p, e])
def err (code place : Int) : List ByteArray → Value
 | [] => bare code place
 | p :: r => inn p (err code place r)
theorem valueOf56 (t : Addr) (w : World) : (ReflectliteValue.unpack (.iface 140 (.pointer (some t)))).run Tryz.prog w
  = .ok (.agg #[.pointer (some ⟨3, 140, none⟩), .pointer (some ⟨w.heap.size, 0, none⟩), .int .u64 150]) (w.alloc (.cells #[.pointer (some t)] 140)) := by kernel_rfl
theorem valueOf54 (t : Addr) (w : World) : (ReflectliteValue.unpack (.iface 78 (.pointer (some t)))).run Tryz.prog w
  = .ok (.agg #[.pointer (some ⟨3, 78, none⟩), .pointer (some ⟨w.heap.size, 0, none⟩), .int .u64 150]) (w.alloc (.cells #[.pointer (some t)] 78)) := by kernel_rfl
theorem valueOf41 (x y : Int) (w : World) : (ReflectliteValue.unpack (.iface 84 (.agg #[.int .i64 x, .int .i64 y]))).run Tryz.prog w
  = .ok (.agg #[.pointer (some ⟨3, 84, none⟩), .pointer (some ⟨w.heap.size, 0, none⟩), .int .u64 153]) (w.alloc (.cells #[.int .i64 x, .int .i64 y] 84)) := by kernel_rfl
theorem type56 (a : Addr) (w : World) : (ReflectliteValue.methodAny (ReflectliteValue.valueError "reflectlite.Value.Type" 0) (fun t _ _ _ => ReflectliteType.toType t) #[.agg #[.pointer (some ⟨3, 140, none⟩), .pointer (some a), .int .u64 150]]).run Tryz.prog w
  = .ok (.iface 172 (.agg #[.pointer (some ⟨3, 140, none⟩)])) w := by kernel_rfl
theorem type54 (a : Addr) (w : World) : (ReflectliteValue.methodAny (ReflectliteValue.valueError "reflectlite.Value.Type" 0) (fun t _ _ _ => ReflectliteType.toType t) #[.agg #[.pointer (some ⟨3, 78, none⟩), .pointer (some a), .int .u64 150]]).run Tryz.prog w
  = .ok (.iface 172 (.agg #[.pointer (some ⟨3, 78, none⟩)])) w := by kernel_rfl
theorem methodKind (h : Value) (w : World) : (Go.method 389 172 (.agg #[h]) "Kind").run Tryz.prog w = .ok (218, h) w := by kernel_rfl
theorem methodElem (h : Value) (w : World) : (Go.method 389 172 (.agg #[h]) "Elem").run Tryz.prog w = .ok (231, .agg #[h]) w := by kernel_rfl
theorem methodImplements (h : Value) (w : World) : (Go.method 389 172 (.agg #[h]) "Implements").run Tryz.prog w = .ok (232, .agg #[h]) w := by kernel_rfl
theorem methodAssignableTo (h : Value) (w : World) : (Go.method 389 172 (.agg #[h]) "AssignableTo").run Tryz.prog w = .ok (229, .agg #[h]) w := by kernel_rfl
theorem kind56 (w : World) : ((ReflectliteType.abiMethod fun t => (fun a : Nat => Value.int IntKind.u8 (a : Int)) <$> Rtype.kind t) #[.pointer (some ⟨3, 140, none⟩)]).run Tryz.prog w = .ok (.int .u8 22) w := by kernel_rfl
theorem kind54 (w : World) : ((ReflectliteType.abiMethod fun t => (fun a : Nat => Value.int IntKind.u8 (a : Int)) <$> Rtype.kind t) #[.pointer (some ⟨3, 78, none⟩)]).run Tryz.prog w = .ok (.int .u8 22) w := by kernel_rfl
theorem kind41 (w : World) : ((ReflectliteType.abiMethod fun t => (fun a : Nat => Value.int IntKind.u8 (a : Int)) <$> Rtype.kind t) #[.pointer (some ⟨3, 84, none⟩)]).run Tryz.prog w = .ok (.int .u8 25) w := by kernel_rfl
theorem kind52 (w : World) : ((ReflectliteType.abiMethod fun t => (fun a : Nat => Value.int IntKind.u8 (a : Int)) <$> Rtype.kind t) #[.pointer (some ⟨3, 76, none⟩)]).run Tryz.prog w = .ok (.int .u8 25) w := by kernel_rfl
theorem parts56 (a : Addr) (w : World) : (ReflectliteValue.parts (.agg #[.pointer (some ⟨3, 140, none⟩), .pointer (some a), .int .u64 150])).run Tryz.prog w = .ok (some (140, a, 150)) w := by kernel_rfl
theorem parts54 (a : Addr) (w : World) : (ReflectliteValue.parts (.agg #[.pointer (some ⟨3, 78, none⟩), .pointer (some a), .int .u64 150])).run Tryz.prog w = .ok (some (78, a, 150)) w := by kernel_rfl
theorem isNil56 (a p : Addr) (W : World) (ha : W.cell? a = some (.pointer (some p))) :
  (ReflectliteValue.method (ReflectliteValue.valueError "reflectlite.Value.IsNil" 0) ReflectliteValue.isNil #[.agg #[.pointer (some ⟨3, 140, none⟩), .pointer (some a), .int .u64 150]]).run Tryz.prog W = .ok (.bool false) W := by
 change (ReflectliteValue.parts _ >>= _).run Tryz.prog W = _
 simp only [Array.getLit, List.getElem_toArray, List.getElem_cons_zero, Sem.run_bind, parts56, Result.andThen]
 simp [ReflectliteValue.isNil, loadVar, isAgg, underlying, Tryz.underlying140, ha, Result.andThen]
theorem isNil54 (a p : Addr) (W : World) (ha : W.cell? a = some (.pointer (some p))) :
  (ReflectliteValue.method (ReflectliteValue.valueError "reflectlite.Value.IsNil" 0) ReflectliteValue.isNil #[.agg #[.pointer (some ⟨3, 78, none⟩), .pointer (some a), .int .u64 150]]).run Tryz.prog W = .ok (.bool false) W := by
 change (ReflectliteValue.parts _ >>= _).run Tryz.prog W = _
 simp only [Array.getLit, List.getElem_toArray, List.getElem_cons_zero, Sem.run_bind, parts54, Result.andThen]
 simp [ReflectliteValue.isNil, loadVar, isAgg, underlying, Tryz.underlying78, ha, Result.andThen]
theorem elem56 (w : World) : (ReflectliteType.method ReflectliteType.elem #[.agg #[.pointer (some ⟨3, 140, none⟩)]]).run Tryz.prog w = .ok (.iface 172 (.agg #[.pointer (some ⟨3, 84, none⟩)])) w := by kernel_rfl
theorem elem54 (w : World) : (ReflectliteType.method ReflectliteType.elem #[.agg #[.pointer (some ⟨3, 78, none⟩)]]).run Tryz.prog w = .ok (.iface 172 (.agg #[.pointer (some ⟨3, 76, none⟩)])) w := by kernel_rfl
theorem implements41 (w : World) : (ReflectliteType.relation "Implements" ReflectliteType.implements_ #[.agg #[.pointer (some ⟨3, 84, none⟩)], .iface 172 (.agg #[.pointer (some ⟨3, 29, none⟩)])]).run Tryz.prog w = .ok (.bool true) w := by kernel_rfl
theorem implements52 (w : World) : (ReflectliteType.relation "Implements" ReflectliteType.implements_ #[.agg #[.pointer (some ⟨3, 76, none⟩)], .iface 172 (.agg #[.pointer (some ⟨3, 29, none⟩)])]).run Tryz.prog w = .ok (.bool true) w := by kernel_rfl
theorem typeOf41 (v : Value) (w : World) : (ReflectliteType.typeOf #[.iface 84 v]).run Tryz.prog w = .ok (.iface 172 (.agg #[.pointer (some ⟨3, 84, none⟩)])) w := by kernel_rfl
theorem typeOf52 (v : Value) (w : World) : (ReflectliteType.typeOf #[.iface 76 v]).run Tryz.prog w = .ok (.iface 172 (.agg #[.pointer (some ⟨3, 76, none⟩)])) w := by kernel_rfl
theorem assignable41_41 (w : World) : (ReflectliteType.relation "AssignableTo" ReflectliteType.assignableTo #[.agg #[.pointer (some ⟨3, 84, none⟩)], .iface 172 (.agg #[.pointer (some ⟨3, 84, none⟩)])]).run Tryz.prog w = .ok (.bool true) w := by kernel_rfl
theorem assignable52_41 (w : World) : (ReflectliteType.relation "AssignableTo" ReflectliteType.assignableTo #[.agg #[.pointer (some ⟨3, 76, none⟩)], .iface 172 (.agg #[.pointer (some ⟨3, 84, none⟩)])]).run Tryz.prog w = .ok (.bool false) w := by kernel_rfl
theorem assignable52_52 (w : World) : (ReflectliteType.relation "AssignableTo" ReflectliteType.assignableTo #[.agg #[.pointer (some ⟨3, 76, none⟩)], .iface 172 (.agg #[.pointer (some ⟨3, 76, none⟩)])]).run Tryz.prog w = .ok (.bool true) w := by kernel_rfl
theorem assignable41_52 (w : World) : (ReflectliteType.relation "AssignableTo" ReflectliteType.assignableTo #[.agg #[.pointer (some ⟨3, 84, none⟩)], .iface 172 (.agg #[.pointer (some ⟨3, 76, none⟩)])]).run Tryz.prog w = .ok (.bool false) w := by kernel_rfl
theorem elemOf56 (w : World) : (Rtype.elem? 140).run Tryz.prog w = .ok (some 84) w := by kernel_rfl
theorem elemOf54 (w : World) : (Rtype.elem? 78).run Tryz.prog w = .ok (some 76) w := by kernel_rfl
theorem mk41 (p : Addr) (w : World) : (ReflectliteValue.mk 84 p ReflectliteValue.flagAddr).run Tryz.prog w = .ok (.agg #[.pointer (some ⟨3, 84, none⟩), .pointer (some p), .int .u64 409]) w := by kernel_rfl
theorem mk52 (p : Addr) (w : World) : (ReflectliteValue.mk 76 p ReflectliteValue.flagAddr).run Tryz.prog w = .ok (.agg #[.pointer (some ⟨3, 76, none⟩), .pointer (some p), .int .u64 409]) w := by kernel_rfl
theorem elemV56 (a p : Addr) (W : World) (ha : W.cell? a = some (.pointer (some p))) :
  (ReflectliteValue.method (ReflectliteValue.valueError "reflectlite.Value.Elem" 0) ReflectliteValue.elem #[.agg #[.pointer (some ⟨3, 140, none⟩), .pointer (some a), .int .u64 150]]).run Tryz.prog W
   = .ok (.agg #[.pointer (some ⟨3, 84, none⟩), .pointer (some p), .int .u64 409]) W := by
 change (ReflectliteValue.parts _ >>= _).run Tryz.prog W = _
 simp only [Array.getLit, List.getElem_toArray, List.getElem_cons_zero, Sem.run_bind, parts56, Result.andThen]
 simp [ReflectliteValue.elem, loadVar, isAgg, underlying, Tryz.underlying140, ha, Result.andThen, elemOf56, mk41]
theorem elemV54 (a p : Addr) (W : World) (ha : W.cell? a = some (.pointer (some p))) :
  (ReflectliteValue.method (ReflectliteValue.valueError "reflectlite.Value.Elem" 0) ReflectliteValue.elem #[.agg #[.pointer (some ⟨3, 78, none⟩), .pointer (some a), .int .u64 150]]).run Tryz.prog W
   = .ok (.agg #[.pointer (some ⟨3, 76, none⟩), .pointer (some p), .int .u64 409]) W := by
 change (ReflectliteValue.parts _ >>= _).run Tryz.prog W = _
 simp only [Array.getLit, List.getElem_toArray, List.getElem_cons_zero, Sem.run_bind, parts54, Result.andThen]
 simp [ReflectliteValue.elem, loadVar, isAgg, underlying, Tryz.underlying78, ha, Result.andThen, elemOf54, mk52]
theorem parts41a (a : Addr) (w : World) : (ReflectliteValue.parts (.agg #[.pointer (some ⟨3, 84, none⟩), .pointer (some a), .int .u64 409])).run Tryz.prog w = .ok (some (84, a, 409)) w := by kernel_rfl
theorem parts41 (a : Addr) (w : World) : (ReflectliteValue.parts (.agg #[.pointer (some ⟨3, 84, none⟩), .pointer (some a), .int .u64 153])).run Tryz.prog w = .ok (some (84, a, 153)) w := by kernel_rfl
theorem parts52a (a : Addr) (w : World) : (ReflectliteValue.parts (.agg #[.pointer (some ⟨3, 76, none⟩), .pointer (some a), .int .u64 409])).run Tryz.prog w = .ok (some (76, a, 409)) w := by kernel_rfl
theorem parts52 (a : Addr) (w : World) : (ReflectliteValue.parts (.agg #[.pointer (some ⟨3, 76, none⟩), .pointer (some a), .int .u64 153])).run Tryz.prog w = .ok (some (76, a, 153)) w := by kernel_rfl
theorem direct41 (w : World) : (Rtype.directlyAssignable 84 84).run Tryz.prog w = .ok true w := by kernel_rfl
theorem direct52 (w : World) : (Rtype.directlyAssignable 76 76).run Tryz.prog w = .ok true w := by kernel_rfl
theorem noAs41 (v : Value) (xT : TypeId) (w : World) : (Instr.typeAssert (.iface 84 v) xT 176 true).run Tryz.prog w = .ok (.tuple #[.nilIface, .bool false]) w := run_typeAssert_lacksB Tryz.underlying176 (by kernel_rfl) (by kernel_rfl) v xT w
theorem noAs52 (v : Value) (xT : TypeId) (w : World) : (Instr.typeAssert (.iface 76 v) xT 176 true).run Tryz.prog w = .ok (.tuple #[.nilIface, .bool false]) w := run_typeAssert_lacksB Tryz.underlying176 (by kernel_rfl) (by kernel_rfl) v xT w
theorem noUnwrap41 (v : Value) (xT : TypeId) (w : World) : (Instr.typeAssert (.iface 84 v) xT 179 true).run Tryz.prog w = .ok (.tuple #[.nilIface, .bool false]) w := run_typeAssert_lacksB Tryz.underlying179 (by kernel_rfl) (by kernel_rfl) v xT w
theorem noUnwraps41 (v : Value) (xT : TypeId) (w : World) : (Instr.typeAssert (.iface 84 v) xT 181 true).run Tryz.prog w = .ok (.tuple #[.nilIface, .bool false]) w := run_typeAssert_lacksB Tryz.underlying181 (by kernel_rfl) (by kernel_rfl) v xT w
theorem hasUnwrap52 (v : Value) (xT : TypeId) (w : World) : (Instr.typeAssert (.iface 76 v) xT 179 true).run Tryz.prog w = .ok (.tuple #[.iface 76 v, .bool true]) w := run_typeAssert_hasB Tryz.underlying179 (by kernel_rfl) v xT w
theorem methodUnwrap (v : Value) (w : World) : (Go.method 389 76 v "Unwrap").run Tryz.prog w = .ok (222, v) w := by kernel_rfl
theorem valueOf52 (p : ByteArray) (T : TypeId) (v : Value) (w : World) : (ReflectliteValue.unpack (.iface 76 (.agg #[.string p, .iface T v]))).run Tryz.prog w
  = .ok (.agg #[.pointer (some ⟨3, 76, none⟩), .pointer (some ⟨w.heap.size, 0, none⟩), .int .u64 153]) (w.alloc (.cells #[.string p, .iface T v] 76)) := by kernel_rfl
def two (w : World) (b : Nat) (x y : Value) : World := (w.setCell ⟨b, 0, none⟩ x).setCell ⟨b, 1, none⟩ y
theorem two_heap {w : World} {b : Nat} {x y u v : Value} {T : TypeId} (h : w.heap[b]? = some (.cells #[u, v] T (0, 0))) : (two w b x y).heap[b]? = some (.cells #[x, y] T (0, 0)) := by
 unfold two
 simp [World.setCell, Array.getElem?_modify, h]
theorem two_block {w : World} {b k : Nat} {x y : Value} (h : k ≠ b) : (two w b x y).heap[k]? = w.heap[k]? := by
 unfold two
 rw [Below.heap_setCell _ _ _ _ (by exact h), Below.heap_setCell _ _ _ _ (by exact h)]
theorem two_grown {w w1 : World} {b : Nat} {x y : Value} (h : Below w.heap.size w w1) : w.grownBy (two w1 b x y) (some b) :=
 ⟨h.os, h.tape, h.output, by have := h.size; unfold two; simpa [World.setCell] using this, fun k hk hne => (two_block (fun e => hne (by rw [e]))).trans (h.block k hk)⟩
theorem fresh0 {w : World} {b : Nat} {cs : Array Value} {T : TypeId} (h : w.heap[b]? = some (.cells cs T (0, 0))) : b < w.heap.size := by
 rcases Nat.lt_or_ge b w.heap.size with h' | h'
 ·exact h'
 ·simp [Array.getElem?_eq_none h'] at h
theorem isAgg41' (w : World) : (isAgg 84).run Tryz.prog w = .ok true w := by kernel_rfl
theorem isAgg52' (w : World) : (isAgg 76).run Tryz.prog w = .ok true w := by kernel_rfl
theorem size41' (w : World) : (Go.sizeOf 84).run Tryz.prog w = .ok 2 w := by kernel_rfl
theorem size52' (w : World) : (Go.sizeOf 76).run Tryz.prog w = .ok 2 w := by kernel_rfl
theorem two_load {T : TypeId} (hA : ∀ w, (isAgg T).run Tryz.prog w = .ok true w) (hS : ∀ w, (Go.sizeOf T).run Tryz.prog w = .ok 2 w) (W : World) (b : Nat) (x y : Value) {U : TypeId} (h : W.heap[b]? = some (.cells #[x, y] U (0, 0))) :
  (loadVar T ⟨b, 0, none⟩).run Tryz.prog W = .ok (.agg #[x, y]) W := by
 have c0 : W.cell? ⟨b, 0, none⟩ = some x := by rw [Lib.cell_of_heap h]; rfl
 have c1 : W.cell? ⟨b, 1, none⟩ = some y := by rw [Lib.cell_of_heap h]; rfl
 simp [loadVar, hA, hS, loadCells, loadCellsFrom, Addr.add, c0, c1, Result.andThen]
theorem two_store {T : TypeId} (hS : ∀ w, (Go.sizeOf T).run Tryz.prog w = .ok 2 w) (W : World) (b : Nat) (x y u v : Value) {U : TypeId} (hx : x.oneCell' = true) (hy : y.oneCell' = true) (h : W.heap[b]? = some (.cells #[u, v] U (0, 0))) :
  (storeVar T ⟨b, 0, none⟩ (.agg #[x, y])).run Tryz.prog W = .ok () (two W b x y) := by
 have c0 : W.cell? ⟨b, 0, none⟩ = some u := by rw [Lib.cell_of_heap h]; rfl
 have f0 : W.frozen? ⟨b, 0, none⟩ = false := Lib.frozen_of_heap h 0
 have h1 : (W.setCell ⟨b, 0, none⟩ x).heap[b]? = some (.cells #[x, v] U (0, 0)) := by simp [World.setCell, Array.getElem?_modify, h]
 have c1 : (W.setCell ⟨b, 0, none⟩ x).cell? ⟨b, 1, none⟩ = some v := by rw [Lib.cell_of_heap h1]; rfl
 have f1 : (W.setCell ⟨b, 0, none⟩ x).frozen? ⟨b, 1, none⟩ = false := Lib.frozen_of_heap h1 1
 simp [storeVar, hS, Value.cells, storeCells, Addr.add, Result.andThen]
 rw [run_store Tryz.prog W ⟨b, 0, none⟩ _ _ hx]
 simp [c0, f0]
 rw [run_store Tryz.prog _ ⟨b, 1, none⟩ _ _ hy]
 simp [c1, f1, two]
theorem set41 (tb b : Nat) (x y u v : Value) (W : World) (hx : x.oneCell' = true) (hy : y.oneCell' = true) (hb : W.heap[b]? = some (.cells #[x, y] 84 (0, 0))) (ht : W.heap[tb]? = some (.cells #[u, v] 84 (0, 0))) :
  (ReflectliteValue.set #[.agg #[.pointer (some ⟨3, 84, none⟩), .pointer (some ⟨tb, 0, none⟩), .int .u64 409], .agg #[.pointer (some ⟨3, 84, none⟩), .pointer (some ⟨b, 0, none⟩), .int .u64 153]]).run Tryz.prog W
   = .ok (.tuple #[]) (two W tb x y) := by
 change (ReflectliteValue.parts _ >>= _).run Tryz.prog W = _
 simp only [Array.getLit, List.getElem_toArray, List.getElem_cons_zero, List.getElem_cons_succ, Sem.run_bind, parts41a, parts41, Result.andThen]
 simp [ReflectliteValue.flagAddr, two_load isAgg41' size41' W b x y hb, Result.andThen, direct41, two_store size41' W tb x y u v hx hy ht]
theorem set52 (tb b : Nat) (x y u v : Value) (W : World) (hx : x.oneCell' = true) (hy : y.oneCell' = true) (hb : W.heap[b]? = some (.cells #[x, y] 76 (0, 0))) (ht : W.heap[tb]? = some (.cells #[u, v] 76 (0, 0))) :
  (ReflectliteValue.set #[.agg #[.pointer (some ⟨3, 76, none⟩), .pointer (some ⟨tb, 0, none⟩), .int .u64 409], .agg #[.pointer (some ⟨3, 76, none⟩), .pointer (some ⟨b, 0, none⟩), .int .u64 153]]).run Tryz.prog W
   = .ok (.tuple #[]) (two W tb x y) := by
 change (ReflectliteValue.parts _ >>= _).run Tryz.prog W = _
 simp only [Array.getLit, List.getElem_toArray, List.getElem_cons_zero, List.getElem_cons_succ, Sem.run_bind, parts52a, parts52, Result.andThen]
 simp [ReflectliteValue.flagAddr, two_load isAgg52' size52' W b x y hb, Result.andThen, direct52, two_store size52' W tb x y u v hx hy ht]
theorem unwrap_v (p : ByteArray) (T : TypeId) (v : Value) (w : World) :
  Calls Tryz.prog 222 #[.agg #[.string p, .iface T v]] w fun e w' => e = .returned (.iface T v) ∧ w' = w.alloc (.cells #[.string p, .iface T v] 76) := by
 go_enter Tryz.func222, Tryz.ntmps222
 go_wp2
 go_ret
 exact ⟨rfl, rfl⟩
theorem err_iface (code place : Int) (r : List ByteArray) : ∃ T v, err code place r = .iface T v := by
 cases r with
 | nil => exact ⟨_, _, rfl⟩
 | cons p r => exact ⟨_, _, rfl⟩
theorem err_cons (code place : Int) (p : ByteArray) (r : List ByteArray) : ∃ T v, err code place r = .iface T v ∧ err code place (p :: r) = .iface 76 (.agg #[.string p, .iface T v]) := by
 obtain ⟨T, v, h⟩ := err_iface code place r
 exact ⟨T, v, h, by rw [← h]; rfl⟩
set_option maxRecDepth 100000 in
set_option maxHeartbeats 4000000 in
theorem as_f (code place : Int) (path : List ByteArray) (tb a : Nat) (x y : Value) (w : World)
  (ht : w.heap[tb]? = some (.cells #[x, y] 84 (0, 0))) (ha : w.cell? ⟨a, 0, none⟩ = some (.pointer (some ⟨tb, 0, none⟩))) (hal : a < w.heap.size) :
  Calls Tryz.prog 60 #[err code place path, .iface 140 (.pointer (some ⟨tb, 0, none⟩)), .agg #[.pointer (some ⟨3, 140, none⟩), .pointer (some ⟨a, 0, none⟩), .int .u64 150], .iface 172 (.agg #[.pointer (some ⟨3, 84, none⟩)])] w
   fun e w' => e = .returned (.bool true) ∧ w.grownBy w' (some tb) ∧ w'.heap[tb]? = some (.cells #[.int .i64 code, .int .i64 place] 84 (0, 0)) := by
 have h25 := @run_callFunc_extern Tryz.prog 57 _ (fun args => ReflectliteValue.unpack (args.getD 0 (.tuple #[]))) Tryz.func57 (by kernel_rfl) (by kernel_rfl) (by kernel_rfl) (by kernel_rfl)
 have h30 := @run_callFunc_extern Tryz.prog 85 _ ReflectliteType.typeOf Tryz.func85 (by kernel_rfl) (by kernel_rfl) (by kernel_rfl) (by kernel_rfl)
 have h62 := @run_callFunc_extern Tryz.prog 229 _ (ReflectliteType.relation "AssignableTo" ReflectliteType.assignableTo) Tryz.func229 (by kernel_rfl) (by kernel_rfl) (by kernel_rfl) (by kernel_rfl)
 have h34 := @run_callFunc_extern Tryz.prog 103 _ (ReflectliteValue.method (ReflectliteValue.valueError "reflectlite.Value.Elem" 0) ReflectliteValue.elem) Tryz.func103 (by kernel_rfl) (by kernel_rfl) (by kernel_rfl) (by kernel_rfl)
 have h35 := @run_callFunc_extern Tryz.prog 104 _ ReflectliteValue.set Tryz.func104 (by kernel_rfl) (by kernel_rfl) (by kernel_rfl) (by kernel_rfl)
 have tO := typeOf41
 have tP := typeOf52
 have mA := methodAssignableTo
 have a41 := assignable41_41
 have a52 := assignable52_41
 have v41 := valueOf41
 have nA := noAs52
 have hU := hasUnwrap52
 have mU := methodUnwrap
 have HT := Hh (Ai ht (Ai ha hal))
 clear ht ha hal
 go_enter Tryz.func60, Tryz.ntmps60
 go_wp2_with fail
 go_loopg [0] path.length (fun gk v wr => ∃ r : List ByteArray, r.length = gk ∧ v = err code place r ∧ Hid (Below (w.heap.size + 1) (w.alloc (.cells #[.pointer (some ⟨3, 140, none⟩), .pointer (some ⟨a, 0, none⟩), .int .u64 150] 130)) wr))
 case atStart => exact ⟨path, rfl, rfl, Below.refl _ _⟩
 case round =>
  obtain ⟨r, hr, rfl, HB⟩ := hrel
  have c0 : wr.cell? ⟨w.heap.size, 0, none⟩ = some (.pointer (some ⟨3, 140, none⟩)) := by rw [HB.out.cell (Nat.lt_succ_self _)]; simp
  have c1 : wr.cell? ⟨w.heap.size, 1, none⟩ = some (.pointer (some ⟨a, 0, none⟩)) := by rw [HB.out.cell (Nat.lt_succ_self _)]; simp
  have c2 : wr.cell? ⟨w.heap.size, 2, none⟩ = some (.int .u64 150) := by rw [HB.out.cell (Nat.lt_succ_self _)]; simp
  cases r with
  | nil =>
   have ca : wr.cell? ⟨a, 0, none⟩ = some (.pointer (some ⟨tb, 0, none⟩)) := by
    rw [HB.out.cell (Nat.lt_succ_of_lt HT.out.2.2), World.cell?_alloc_lt _ _ ⟨a, 0, none⟩ HT.out.2.2]; exact HT.out.2.1
   have el := elemV56 ⟨a, 0, none⟩ ⟨tb, 0, none⟩ wr ca
   have htw : wr.heap[tb]? = some (.cells #[x, y] 84 (0, 0)) := by
    have l := fresh0 HT.out.1
    rw [HB.out.block tb (by omega), Below.heap_alloc _ _ _ l]; exact HT.out.1
   have hlt := fresh0 htw
   have st := set41 tb wr.heap.size (.int .i64 code) (.int .i64 place) x y (wr.alloc (.cells #[.int .i64 code, .int .i64 place] 84)) rfl rfl (heap_alloc_new wr _) (by rw [Below.heap_alloc _ _ _ hlt]; exact htw)
   have HW := Hh htw
   clear htw ca hlt hr
   simp only [err, bare]
   go_wp2_with fail
   go_ret
   have hb : Below w.heap.size w (wr.alloc (.cells #[.int .i64 code, .int .i64 place] 84)) := by
    have h1 := HB.out.mono (Nat.le_succ _)
    have h2 := ((Below.refl _ w).alloc (Nat.le_refl _) _).trans h1
    exact h2.alloc h2.size _
   refine ⟨rfl, two_grown hb, two_heap (u := x) (v := y) ?_⟩
   rw [Below.heap_alloc _ _ _ (fresh0 HW.out)]; exact HW.out
  | cons p r =>
   obtain ⟨T, v, hE, hC⟩ := err_cons code place p r
   have HE := Hh hE
   rw [hC]
   clear hE hC
   obtain ⟨q, rfl⟩ : ∃ q, gk = q + 1 := ⟨r.length, by simpa using hr.symm⟩
   have HR := Hh hr
   clear hr
   go_wp2_with (go_at_call 222; refine (unwrap_v p T v _).mono ?_; rintro e w' ⟨rfl, rfl⟩)
   go_roundg q
   case measure => omega
   case rel => exact ⟨r, by have := HR.out; simpa using this, HE.out.symm, HB.out.alloc (by have := HB.out.size; simpa using this) _⟩
set_option maxRecDepth 100000 in
set_option maxHeartbeats 4000000 in
theorem as_w (p : ByteArray) (T : TypeId) (v : Value) (tb a : Nat) (x y : Value) (w : World)
  (ht : w.heap[tb]? = some (.cells #[x, y] 76 (0, 0))) (ha : w.cell? ⟨a, 0, none⟩ = some (.pointer (some ⟨tb, 0, none⟩))) (hal : a < w.heap.size) :
  Calls Tryz.prog 60 #[.iface 76 (.agg #[.string p, .iface T v]), .iface 78 (.pointer (some ⟨tb, 0, none⟩)), .agg #[.pointer (some ⟨3, 78, none⟩), .pointer (some ⟨a, 0, none⟩), .int .u64 150], .iface 172 (.agg #[.pointer (some ⟨3, 76, none⟩)])] w
   fun e w' => e = .returned (.bool true) ∧ w.grownBy w' (some tb) ∧ w'.heap[tb]? = some (.cells #[.string p, .iface T v] 76 (0, 0)) := by
 have h25 := @run_callFunc_extern Tryz.prog 57 _ (fun args => ReflectliteValue.unpack (args.getD 0 (.tuple #[]))) Tryz.func57 (by kernel_rfl) (by kernel_rfl) (by kernel_rfl) (by kernel_rfl)
 have h30 := @run_callFunc_extern Tryz.prog 85 _ ReflectliteType.typeOf Tryz.func85 (by kernel_rfl) (by kernel_rfl) (by kernel_rfl) (by kernel_rfl)
 have h62 := @run_callFunc_extern Tryz.prog 229 _ (ReflectliteType.relation "AssignableTo" ReflectliteType.assignableTo) Tryz.func229 (by kernel_rfl) (by kernel_rfl) (by kernel_rfl) (by kernel_rfl)
 have h34 := @run_callFunc_extern Tryz.prog 103 _ (ReflectliteValue.method (ReflectliteValue.valueError "reflectlite.Value.Elem" 0) ReflectliteValue.elem) Tryz.func103 (by kernel_rfl) (by kernel_rfl) (by kernel_rfl) (by kernel_rfl)
 have h35 := @run_callFunc_extern Tryz.prog 104 _ ReflectliteValue.set Tryz.func104 (by kernel_rfl) (by kernel_rfl) (by kernel_rfl) (by kernel_rfl)
 have tP := typeOf52
 have mA := methodAssignableTo
 have a52 := assignable52_52
 have v52 := valueOf52
 have htl := fresh0 ht
 obtain ⟨W, hW⟩ : ∃ W, w.alloc (.cells #[.pointer (some ⟨3, 78, none⟩), .pointer (some ⟨a, 0, none⟩), .int .u64 150] 130) = W := ⟨_, rfl⟩
 have el := elemV54 ⟨a, 0, none⟩ ⟨tb, 0, none⟩ (w.alloc (.cells #[.pointer (some ⟨3, 78, none⟩), .pointer (some ⟨a, 0, none⟩), .int .u64 150] 130)) (by rw [World.cell?_alloc_lt _ _ ⟨a, 0, none⟩ hal]; exact ha)
 have htw : (w.alloc (.cells #[.pointer (some ⟨3, 78, none⟩), .pointer (some ⟨a, 0, none⟩), .int .u64 150] 130)).heap[tb]? = some (.cells #[x, y] 76 (0, 0)) := by rw [Below.heap_alloc _ _ _ htl]; exact ht
 have c0 : W.cell? ⟨w.heap.size, 0, none⟩ = some (.pointer (some ⟨3, 78, none⟩)) := by rw [← hW]; simp
 have c1 : W.cell? ⟨w.heap.size, 1, none⟩ = some (.pointer (some ⟨a, 0, none⟩)) := by rw [← hW]; simp
 have c2 : W.cell? ⟨w.heap.size, 2, none⟩ = some (.int .u64 150) := by rw [← hW]; simp
 have hb : Below w.heap.size w W := by rw [← hW]; exact (Below.refl _ w).alloc (Nat.le_refl _) _
 rw [hW] at el htw
 have st := set52 tb W.heap.size (.string p) (.iface T v) x y (W.alloc (.cells #[.string p, .iface T v] 76)) rfl rfl (heap_alloc_new W _) (by rw [Below.heap_alloc _ _ _ (fresh0 htw)]; exact htw)
 have HW := Hh (Ai htw hb)
 clear htw htl ht ha hal hb
 go_enter Tryz.func60, Tryz.ntmps60
 go_wp2_with fail
 clear hW
 refine wp_loop_rounds 1 ?_
 rw [rounds_succ]
 go_wp2_with fail
 go_ret
 refine ⟨rfl, two_grown (HW.out.2.alloc HW.out.2.size _), two_heap (u := x) (v := y) ?_⟩
 rw [Below.heap_alloc _ _ _ (fresh0 HW.out.1)]; exact HW.out.1
set_option maxRecDepth 100000 in
set_option maxHeartbeats 4000000 in
theorem as_miss (code place : Int) (t a : Addr) (w : World) :
  Calls Tryz.prog 60 #[bare code place, .iface 78 (.pointer (some t)), .agg #[.pointer (some ⟨3, 78, none⟩), .pointer (some a), .int .u64 150], .iface 172 (.agg #[.pointer (some ⟨3, 76, none⟩)])] w
   fun e w' => e = .returned (.bool false) ∧ Below w.heap.size w w' := by
 have h30 := @run_callFunc_extern Tryz.prog 85 _ ReflectliteType.typeOf Tryz.func85 (by kernel_rfl) (by kernel_rfl) (by kernel_rfl) (by kernel_rfl)
 have h62 := @run_callFunc_extern Tryz.prog 229 _ (ReflectliteType.relation "AssignableTo" ReflectliteType.assignableTo) Tryz.func229 (by kernel_rfl) (by kernel_rfl) (by kernel_rfl) (by kernel_rfl)
 have tO := typeOf41
 have mA := methodAssignableTo
 have a41 := assignable41_52
 have nA := noAs41
 have nU := noUnwrap41
 have nV := noUnwraps41
 unfold bare
 go_enter Tryz.func60, Tryz.ntmps60
 go_wp2_with fail
 refine wp_loop_rounds 1 ?_
 rw [rounds_succ]
 go_wp2_with fail
 go_ret
 exact ⟨rfl, (Below.refl _ w).alloc (Nat.le_refl _) _⟩
end Go.Proofs.YtbpichjmkllfaaaGreatDoor.Flt
