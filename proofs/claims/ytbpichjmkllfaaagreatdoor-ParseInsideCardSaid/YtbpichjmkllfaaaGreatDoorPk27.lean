/- What internal/reflectlite answers at the program's own types, and what errors.As and errors.Is find in their method sets. 84: fault · 76: within · 140, 78: pointers to them · 29: error · 172: reflectlite's rtype · 130: reflectlite's Value. -/
import Derived.Test.YtbpichjmkllfaaaGreatDoorProg
import Derived.WalkKit
import Derived.LaidEql
import Derived.Stop.Asserts
import Derived.RowKitTokens
import Derived.Below
import Derived.Lib.Builder
import Derived.Lib.Hide
import Derived.Deep.Light
import Derived.StillTailTactics
import Derived.BigQuiet
import Derived.Test.YtbpichjmkllfaaaGreatDoorPk26
namespace Go.Proofs.YtbpichjmkllfaaaGreatDoor.Flt
open Go.RowKit Go.Extern.Stop Go.Stop Go.Extern
set_option linter.unusedVariables false

/-- A fault within no part. -/
def bare (code place : Int) : Value := .iface 84 (.agg #[.int .i64 code, .int .i64 place])
/-- An error within a part. -/
def inn (p : ByteArray) (e : Value) : Value := .iface 76 (.agg #[.string p, e])
/-- A fault within parts, the outmost first. -/
def err (code place : Int) : List ByteArray → Value
  | [] => bare code place
  | p :: r => inn p (err code place r)

theorem valueOf56 (t : Addr) (w : World) : (ReflectliteValue.unpack (.iface 140 (.pointer (some t)))).run Tryz.prog w
    = .ok (.agg #[.pointer (some ⟨3, 140, none⟩), .pointer (some ⟨w.heap.size, 0, none⟩), .int .u64 150]) (w.alloc (.cells #[.pointer (some t)] 140)) := by kernel_rfl
theorem valueOf54 (t : Addr) (w : World) : (ReflectliteValue.unpack (.iface 78 (.pointer (some t)))).run Tryz.prog w
    = .ok (.agg #[.pointer (some ⟨3, 78, none⟩), .pointer (some ⟨w.heap.size, 0, none⟩), .int .u64 150]) (w.alloc (.cells #[.pointer (some t)] 78)) := by kernel_rfl
theorem valueOf41 (x y : Int) (w : World) : (ReflectliteValue.unpack (.iface 84 (.agg #[.int .i64 x, .int .i64 y]))).run Tryz.prog w
    = .ok (.agg #[.pointer (some ⟨3, 84, none⟩), .pointer (some ⟨w.heap.size, 0, none⟩), .int .u64 153]) (w.alloc (.cells #[.int .i64 x, .int .i64 y] 84)) := by kernel_rfl
theorem valueOf52b (p : ByteArray) (x y : Int) (w : World) : (ReflectliteValue.unpack (inn p (bare x y))).run Tryz.prog w
    = .ok (.agg #[.pointer (some ⟨3, 76, none⟩), .pointer (some ⟨w.heap.size, 0, none⟩), .int .u64 153]) (w.alloc (.cells #[.string p, bare x y] 76)) := by kernel_rfl
theorem valueOf52i (p q : ByteArray) (e : Value) (w : World) : (ReflectliteValue.unpack (inn p (inn q e))).run Tryz.prog w
    = .ok (.agg #[.pointer (some ⟨3, 76, none⟩), .pointer (some ⟨w.heap.size, 0, none⟩), .int .u64 153]) (w.alloc (.cells #[.string p, inn q e] 76)) := by kernel_rfl
theorem type56 (a : Addr) (w : World) : (ReflectliteValue.methodAny (ReflectliteValue.valueError "reflectlite.Value.Type" 0) (fun t _ _ _ => ReflectliteType.toType t) #[.agg #[.pointer (some ⟨3, 140, none⟩), .pointer (some a), .int .u64 150]]).run Tryz.prog w
    = .ok (.iface 172 (.agg #[.pointer (some ⟨3, 140, none⟩)])) w := by kernel_rfl
theorem type54 (a : Addr) (w : World) : (ReflectliteValue.methodAny (ReflectliteValue.valueError "reflectlite.Value.Type" 0) (fun t _ _ _ => ReflectliteType.toType t) #[.agg #[.pointer (some ⟨3, 78, none⟩), .pointer (some a), .int .u64 150]]).run Tryz.prog w
    = .ok (.iface 172 (.agg #[.pointer (some ⟨3, 78, none⟩)])) w := by kernel_rfl
theorem methodKind (h : Value) (w : World) : (Go.method 389 172 (.agg #[h]) "Kind").run Tryz.prog w = .ok (218, h) w := by kernel_rfl
theorem methodElem (h : Value) (w : World) : (Go.method 389 172 (.agg #[h]) "Elem").run Tryz.prog w = .ok (231, .agg #[h]) w := by kernel_rfl
theorem methodImplements (h : Value) (w : World) : (Go.method 389 172 (.agg #[h]) "Implements").run Tryz.prog w = .ok (232, .agg #[h]) w := by kernel_rfl
theorem methodAssignableTo (h : Value) (w : World) : (Go.method 389 172 (.agg #[h]) "AssignableTo").run Tryz.prog w = .ok (229, .agg #[h]) w := by kernel_rfl
theorem methodComparable (h : Value) (w : World) : (Go.method 389 172 (.agg #[h]) "Comparable").run Tryz.prog w = .ok (230, .agg #[h]) w := by kernel_rfl
theorem kind56 (w : World) : ((ReflectliteType.abiMethod fun t => (fun a : Nat => Value.int IntKind.u8 (a : Int)) <$> Rtype.kind t) #[.pointer (some ⟨3, 140, none⟩)]).run Tryz.prog w = .ok (.int .u8 22) w := by kernel_rfl
theorem kind54 (w : World) : ((ReflectliteType.abiMethod fun t => (fun a : Nat => Value.int IntKind.u8 (a : Int)) <$> Rtype.kind t) #[.pointer (some ⟨3, 78, none⟩)]).run Tryz.prog w = .ok (.int .u8 22) w := by kernel_rfl
theorem kind41 (w : World) : ((ReflectliteType.abiMethod fun t => (fun a : Nat => Value.int IntKind.u8 (a : Int)) <$> Rtype.kind t) #[.pointer (some ⟨3, 84, none⟩)]).run Tryz.prog w = .ok (.int .u8 25) w := by kernel_rfl
theorem kind52 (w : World) : ((ReflectliteType.abiMethod fun t => (fun a : Nat => Value.int IntKind.u8 (a : Int)) <$> Rtype.kind t) #[.pointer (some ⟨3, 76, none⟩)]).run Tryz.prog w = .ok (.int .u8 25) w := by kernel_rfl
theorem parts56 (a : Addr) (w : World) : (ReflectliteValue.parts (.agg #[.pointer (some ⟨3, 140, none⟩), .pointer (some a), .int .u64 150])).run Tryz.prog w = .ok (some (140, a, 150)) w := by kernel_rfl
theorem parts54 (a : Addr) (w : World) : (ReflectliteValue.parts (.agg #[.pointer (some ⟨3, 78, none⟩), .pointer (some a), .int .u64 150])).run Tryz.prog w = .ok (some (78, a, 150)) w := by kernel_rfl
/-- (Value).IsNil at the Value of a pointer that is not nil. -/
theorem isNil56 (a p : Addr) (W : World) (ha : W.cell? a = some (.pointer (some p))) :
    (ReflectliteValue.method (ReflectliteValue.valueError "reflectlite.Value.IsNil" 0) ReflectliteValue.isNil #[.agg #[.pointer (some ⟨3, 140, none⟩), .pointer (some a), .int .u64 150]]).run Tryz.prog W = .ok (.bool false) W := by
  change (ReflectliteValue.parts _ >>= _).run Tryz.prog W = _
  simp only [Array.getLit, List.getElem_toArray, List.getElem_cons_zero, Sem.run_bind, parts56, Result.andThen]
  simp [ReflectliteValue.isNil, loadVar, isAgg, underlying, Tryz.underlying140, ha, Result.andThen]
theorem isNil54 (a p : Addr) (W : World) (ha : W.cell? a = some (.pointer (some p))) :
    (ReflectliteValue.method (ReflectliteValue.valueError "reflectlite.Value.IsNil" 0) ReflectliteValue.isNil #[.agg #[.pointer (some ⟨3, 78, none⟩), .pointer (some a), .int .u64 150]]).run Tryz.prog W = .ok (.bool false) W := by
  change (ReflectliteValue.parts _ >>= _).run Tryz.prog W = _
  simp only [Array.getLit, List.getElem_toArray, List.getElem_cons_zero, Sem.run_bind, parts54, Result.andThen]
  simp [ReflectliteValue.isNil, loadVar, isAgg, underlying, Tryz.underlying78, ha, Result.andThen]
theorem elem56 (w : World) : (ReflectliteType.method ReflectliteType.elem #[.agg #[.pointer (some ⟨3, 140, none⟩)]]).run Tryz.prog w = .ok (.iface 172 (.agg #[.pointer (some ⟨3, 84, none⟩)])) w := by kernel_rfl
theorem elem54 (w : World) : (ReflectliteType.method ReflectliteType.elem #[.agg #[.pointer (some ⟨3, 78, none⟩)]]).run Tryz.prog w = .ok (.iface 172 (.agg #[.pointer (some ⟨3, 76, none⟩)])) w := by kernel_rfl
theorem implements41 (w : World) : (ReflectliteType.relation "Implements" ReflectliteType.implements_ #[.agg #[.pointer (some ⟨3, 84, none⟩)], .iface 172 (.agg #[.pointer (some ⟨3, 29, none⟩)])]).run Tryz.prog w = .ok (.bool true) w := by kernel_rfl
theorem implements52 (w : World) : (ReflectliteType.relation "Implements" ReflectliteType.implements_ #[.agg #[.pointer (some ⟨3, 76, none⟩)], .iface 172 (.agg #[.pointer (some ⟨3, 29, none⟩)])]).run Tryz.prog w = .ok (.bool true) w := by kernel_rfl
theorem typeOf41 (v : Value) (w : World) : (ReflectliteType.typeOf #[.iface 84 v]).run Tryz.prog w = .ok (.iface 172 (.agg #[.pointer (some ⟨3, 84, none⟩)])) w := by kernel_rfl
theorem typeOf52 (v : Value) (w : World) : (ReflectliteType.typeOf #[.iface 76 v]).run Tryz.prog w = .ok (.iface 172 (.agg #[.pointer (some ⟨3, 76, none⟩)])) w := by kernel_rfl
theorem assignable41_41 (w : World) : (ReflectliteType.relation "AssignableTo" ReflectliteType.assignableTo #[.agg #[.pointer (some ⟨3, 84, none⟩)], .iface 172 (.agg #[.pointer (some ⟨3, 84, none⟩)])]).run Tryz.prog w = .ok (.bool true) w := by kernel_rfl
theorem assignable52_41 (w : World) : (ReflectliteType.relation "AssignableTo" ReflectliteType.assignableTo #[.agg #[.pointer (some ⟨3, 76, none⟩)], .iface 172 (.agg #[.pointer (some ⟨3, 84, none⟩)])]).run Tryz.prog w = .ok (.bool false) w := by kernel_rfl
theorem assignable52_52 (w : World) : (ReflectliteType.relation "AssignableTo" ReflectliteType.assignableTo #[.agg #[.pointer (some ⟨3, 76, none⟩)], .iface 172 (.agg #[.pointer (some ⟨3, 76, none⟩)])]).run Tryz.prog w = .ok (.bool true) w := by kernel_rfl
theorem assignable41_52 (w : World) : (ReflectliteType.relation "AssignableTo" ReflectliteType.assignableTo #[.agg #[.pointer (some ⟨3, 84, none⟩)], .iface 172 (.agg #[.pointer (some ⟨3, 76, none⟩)])]).run Tryz.prog w = .ok (.bool false) w := by kernel_rfl
theorem comparable41 (w : World) : ((ReflectliteType.method fun t => (fun a => Value.bool a.comparable) <$> typeInfo t) #[.agg #[.pointer (some ⟨3, 84, none⟩)]]).run Tryz.prog w = .ok (.bool true) w := by kernel_rfl

theorem elemOf56 (w : World) : (Rtype.elem? 140).run Tryz.prog w = .ok (some 84) w := by kernel_rfl
theorem elemOf54 (w : World) : (Rtype.elem? 78).run Tryz.prog w = .ok (some 76) w := by kernel_rfl
theorem mk41 (p : Addr) (w : World) : (ReflectliteValue.mk 84 p ReflectliteValue.flagAddr).run Tryz.prog w = .ok (.agg #[.pointer (some ⟨3, 84, none⟩), .pointer (some p), .int .u64 409]) w := by kernel_rfl
theorem mk52 (p : Addr) (w : World) : (ReflectliteValue.mk 76 p ReflectliteValue.flagAddr).run Tryz.prog w = .ok (.agg #[.pointer (some ⟨3, 76, none⟩), .pointer (some p), .int .u64 409]) w := by kernel_rfl
/-- (Value).Elem at the Value of a pointer that is not nil: the Value of the variable that it points to, addressable. -/
theorem elemV56 (a p : Addr) (W : World) (ha : W.cell? a = some (.pointer (some p))) :
    (ReflectliteValue.method (ReflectliteValue.valueError "reflectlite.Value.Elem" 0) ReflectliteValue.elem #[.agg #[.pointer (some ⟨3, 140, none⟩), .pointer (some a), .int .u64 150]]).run Tryz.prog W
      = .ok (.agg #[.pointer (some ⟨3, 84, none⟩), .pointer (some p), .int .u64 409]) W := by
  change (ReflectliteValue.parts _ >>= _).run Tryz.prog W = _
  simp only [Array.getLit, List.getElem_toArray, List.getElem_cons_zero, Sem.run_bind, parts56, Result.andThen]
  simp [ReflectliteValue.elem, loadVar, isAgg, underlying, Tryz.underlying140, ha, Result.andThen, elemOf56, mk41]
theorem elemV54 (a p : Addr) (W : World) (ha : W.cell? a = some (.pointer (some p))) :
    (ReflectliteValue.method (ReflectliteValue.valueError "reflectlite.Value.Elem" 0) ReflectliteValue.elem #[.agg #[.pointer (some ⟨3, 78, none⟩), .pointer (some a), .int .u64 150]]).run Tryz.prog W
      = .ok (.agg #[.pointer (some ⟨3, 76, none⟩), .pointer (some p), .int .u64 409]) W := by
  change (ReflectliteValue.parts _ >>= _).run Tryz.prog W = _
  simp only [Array.getLit, List.getElem_toArray, List.getElem_cons_zero, Sem.run_bind, parts54, Result.andThen]
  simp [ReflectliteValue.elem, loadVar, isAgg, underlying, Tryz.underlying78, ha, Result.andThen, elemOf54, mk52]
theorem parts41a (a : Addr) (w : World) : (ReflectliteValue.parts (.agg #[.pointer (some ⟨3, 84, none⟩), .pointer (some a), .int .u64 409])).run Tryz.prog w = .ok (some (84, a, 409)) w := by kernel_rfl
theorem parts41 (a : Addr) (w : World) : (ReflectliteValue.parts (.agg #[.pointer (some ⟨3, 84, none⟩), .pointer (some a), .int .u64 153])).run Tryz.prog w = .ok (some (84, a, 153)) w := by kernel_rfl
theorem parts52a (a : Addr) (w : World) : (ReflectliteValue.parts (.agg #[.pointer (some ⟨3, 76, none⟩), .pointer (some a), .int .u64 409])).run Tryz.prog w = .ok (some (76, a, 409)) w := by kernel_rfl
theorem parts52 (a : Addr) (w : World) : (ReflectliteValue.parts (.agg #[.pointer (some ⟨3, 76, none⟩), .pointer (some a), .int .u64 153])).run Tryz.prog w = .ok (some (76, a, 153)) w := by kernel_rfl
theorem direct41 (w : World) : (Rtype.directlyAssignable 84 84).run Tryz.prog w = .ok true w := by kernel_rfl
theorem direct52 (w : World) : (Rtype.directlyAssignable 76 76).run Tryz.prog w = .ok true w := by kernel_rfl

/-! What errors.As and errors.Is find in the two types' method sets. -/
theorem noAs41 (v : Value) (xT : TypeId) (w : World) : (Instr.typeAssert (.iface 84 v) xT 176 true).run Tryz.prog w = .ok (.tuple #[.nilIface, .bool false]) w := run_typeAssert_lacksB Tryz.underlying176 (by kernel_rfl) (by kernel_rfl) v xT w
theorem noAs52 (v : Value) (xT : TypeId) (w : World) : (Instr.typeAssert (.iface 76 v) xT 176 true).run Tryz.prog w = .ok (.tuple #[.nilIface, .bool false]) w := run_typeAssert_lacksB Tryz.underlying176 (by kernel_rfl) (by kernel_rfl) v xT w
theorem noUnwrap41 (v : Value) (xT : TypeId) (w : World) : (Instr.typeAssert (.iface 84 v) xT 179 true).run Tryz.prog w = .ok (.tuple #[.nilIface, .bool false]) w := run_typeAssert_lacksB Tryz.underlying179 (by kernel_rfl) (by kernel_rfl) v xT w
theorem noUnwraps41 (v : Value) (xT : TypeId) (w : World) : (Instr.typeAssert (.iface 84 v) xT 181 true).run Tryz.prog w = .ok (.tuple #[.nilIface, .bool false]) w := run_typeAssert_lacksB Tryz.underlying181 (by kernel_rfl) (by kernel_rfl) v xT w
theorem hasUnwrap52 (v : Value) (xT : TypeId) (w : World) : (Instr.typeAssert (.iface 76 v) xT 179 true).run Tryz.prog w = .ok (.tuple #[.iface 76 v, .bool true]) w := run_typeAssert_hasB Tryz.underlying179 (by kernel_rfl) v xT w
theorem hasIs41 (v : Value) (xT : TypeId) (w : World) : (Instr.typeAssert (.iface 84 v) xT 199 true).run Tryz.prog w = .ok (.tuple #[.iface 84 v, .bool true]) w := run_typeAssert_hasB Tryz.underlying199 (by kernel_rfl) v xT w
theorem noIs52 (v : Value) (xT : TypeId) (w : World) : (Instr.typeAssert (.iface 76 v) xT 199 true).run Tryz.prog w = .ok (.tuple #[.nilIface, .bool false]) w := run_typeAssert_lacksB Tryz.underlying199 (by kernel_rfl) (by kernel_rfl) v xT w
theorem methodUnwrap (v : Value) (w : World) : (Go.method 389 76 v "Unwrap").run Tryz.prog w = .ok (222, v) w := by kernel_rfl
theorem methodIs (v : Value) (w : World) : (Go.method 389 84 v "Is").run Tryz.prog w = .ok (224, v) w := by kernel_rfl
end Go.Proofs.YtbpichjmkllfaaaGreatDoor.Flt

/- What errors.As answers: at a variable for a fault (the fault that an error is, within whatever parts), at a variable for an error within a part. -/
namespace Go.Proofs.YtbpichjmkllfaaaGreatDoor.Flt
open Go.RowKit Go.Extern.Stop Go.Stop Go.Extern
set_option linter.unusedVariables false

theorem valueOf52 (p : ByteArray) (T : TypeId) (v : Value) (w : World) : (ReflectliteValue.unpack (.iface 76 (.agg #[.string p, .iface T v]))).run Tryz.prog w
    = .ok (.agg #[.pointer (some ⟨3, 76, none⟩), .pointer (some ⟨w.heap.size, 0, none⟩), .int .u64 153]) (w.alloc (.cells #[.string p, .iface T v] 76)) := by kernel_rfl
/-- Two cells laid in. -/
def two (w : World) (b : Nat) (x y : Value) : World := (w.setCell ⟨b, 0, none⟩ x).setCell ⟨b, 1, none⟩ y
theorem two_heap {w : World} {b : Nat} {x y u v : Value} {T : TypeId} (h : w.heap[b]? = some (.cells #[u, v] T (0, 0))) : (two w b x y).heap[b]? = some (.cells #[x, y] T (0, 0)) := by
  unfold two
  simp [World.setCell, Array.getElem?_modify, h]
theorem two_block {w : World} {b k : Nat} {x y : Value} (h : k ≠ b) : (two w b x y).heap[k]? = w.heap[k]? := by
  unfold two
  rw [Below.heap_setCell _ _ _ _ (by exact h), Below.heap_setCell _ _ _ _ (by exact h)]
theorem two_grown {w w1 : World} {b : Nat} {x y : Value} (h : Below w.heap.size w w1) : w.grownBy (two w1 b x y) (some b) :=
  ⟨h.os, h.tape, h.output, by have := h.size; unfold two; simpa [World.setCell] using this, fun k hk hne => (two_block (fun e => hne (by rw [e]))).trans (h.block k hk)⟩
theorem fresh0 {w : World} {b : Nat} {cs : Array Value} {T : TypeId} (h : w.heap[b]? = some (.cells cs T (0, 0))) : b < w.heap.size := by
  rcases Nat.lt_or_ge b w.heap.size with h' | h'
  · exact h'
  · simp [Array.getElem?_eq_none h'] at h
end Go.Proofs.YtbpichjmkllfaaaGreatDoor.Flt

/- (Value).Set at the two types; what Unwrap answers. -/
namespace Go.Proofs.YtbpichjmkllfaaaGreatDoor.Flt
open Go.RowKit Go.Extern.Stop Go.Stop Go.Extern
set_option linter.unusedVariables false

theorem isAgg41' (w : World) : (isAgg 84).run Tryz.prog w = .ok true w := by kernel_rfl
theorem isAgg52' (w : World) : (isAgg 76).run Tryz.prog w = .ok true w := by kernel_rfl
theorem size41' (w : World) : (Go.sizeOf 84).run Tryz.prog w = .ok 2 w := by kernel_rfl
theorem size52' (w : World) : (Go.sizeOf 76).run Tryz.prog w = .ok 2 w := by kernel_rfl
theorem two_load {T : TypeId} (hA : ∀ w, (isAgg T).run Tryz.prog w = .ok true w) (hS : ∀ w, (Go.sizeOf T).run Tryz.prog w = .ok 2 w) (W : World) (b : Nat) (x y : Value) {U : TypeId} (h : W.heap[b]? = some (.cells #[x, y] U (0, 0))) :
    (loadVar T ⟨b, 0, none⟩).run Tryz.prog W = .ok (.agg #[x, y]) W := by
  have c0 : W.cell? ⟨b, 0, none⟩ = some x := by rw [Lib.cell_of_heap h]; rfl
  have c1 : W.cell? ⟨b, 1, none⟩ = some y := by rw [Lib.cell_of_heap h]; rfl
  simp [loadVar, hA, hS, loadCells, loadCellsFrom, Addr.add, c0, c1, Result.andThen]
theorem two_store {T : TypeId} (hS : ∀ w, (Go.sizeOf T).run Tryz.prog w = .ok 2 w) (W : World) (b : Nat) (x y u v : Value) {U : TypeId} (hx : x.oneCell' = true) (hy : y.oneCell' = true) (h : W.heap[b]? = some (.cells #[u, v] U (0, 0))) :
    (storeVar T ⟨b, 0, none⟩ (.agg #[x, y])).run Tryz.prog W = .ok () (two W b x y) := by
  have c0 : W.cell? ⟨b, 0, none⟩ = some u := by rw [Lib.cell_of_heap h]; rfl
  have f0 : W.frozen? ⟨b, 0, none⟩ = false := Lib.frozen_of_heap h 0
  have h1 : (W.setCell ⟨b, 0, none⟩ x).heap[b]? = some (.cells #[x, v] U (0, 0)) := by simp [World.setCell, Array.getElem?_modify, h]
  have c1 : (W.setCell ⟨b, 0, none⟩ x).cell? ⟨b, 1, none⟩ = some v := by rw [Lib.cell_of_heap h1]; rfl
  have f1 : (W.setCell ⟨b, 0, none⟩ x).frozen? ⟨b, 1, none⟩ = false := Lib.frozen_of_heap h1 1
  simp [storeVar, hS, Value.cells, storeCells, Addr.add, Result.andThen]
  rw [run_store Tryz.prog W ⟨b, 0, none⟩ _ _ hx]
  simp [c0, f0]
  rw [run_store Tryz.prog _ ⟨b, 1, none⟩ _ _ hy]
  simp [c1, f1, two]
theorem set41 (tb b : Nat) (x y u v : Value) (W : World) (hx : x.oneCell' = true) (hy : y.oneCell' = true) (hb : W.heap[b]? = some (.cells #[x, y] 84 (0, 0))) (ht : W.heap[tb]? = some (.cells #[u, v] 84 (0, 0))) :
    (ReflectliteValue.set #[.agg #[.pointer (some ⟨3, 84, none⟩), .pointer (some ⟨tb, 0, none⟩), .int .u64 409], .agg #[.pointer (some ⟨3, 84, none⟩), .pointer (some ⟨b, 0, none⟩), .int .u64 153]]).run Tryz.prog W
      = .ok (.tuple #[]) (two W tb x y) := by
  change (ReflectliteValue.parts _ >>= _).run Tryz.prog W = _
  simp only [Array.getLit, List.getElem_toArray, List.getElem_cons_zero, List.getElem_cons_succ, Sem.run_bind, parts41a, parts41, Result.andThen]
  simp [ReflectliteValue.flagAddr, two_load isAgg41' size41' W b x y hb, Result.andThen, direct41, two_store size41' W tb x y u v hx hy ht]
theorem set52 (tb b : Nat) (x y u v : Value) (W : World) (hx : x.oneCell' = true) (hy : y.oneCell' = true) (hb : W.heap[b]? = some (.cells #[x, y] 76 (0, 0))) (ht : W.heap[tb]? = some (.cells #[u, v] 76 (0, 0))) :
    (ReflectliteValue.set #[.agg #[.pointer (some ⟨3, 76, none⟩), .pointer (some ⟨tb, 0, none⟩), .int .u64 409], .agg #[.pointer (some ⟨3, 76, none⟩), .pointer (some ⟨b, 0, none⟩), .int .u64 153]]).run Tryz.prog W
      = .ok (.tuple #[]) (two W tb x y) := by
  change (ReflectliteValue.parts _ >>= _).run Tryz.prog W = _
  simp only [Array.getLit, List.getElem_toArray, List.getElem_cons_zero, List.getElem_cons_succ, Sem.run_bind, parts52a, parts52, Result.andThen]
  simp [ReflectliteValue.flagAddr, two_load isAgg52' size52' W b x y hb, Result.andThen, direct52, two_store size52' W tb x y u v hx hy ht]

theorem unwrap_v (p : ByteArray) (T : TypeId) (v : Value) (w : World) :
    Calls Tryz.prog 222 #[.agg #[.string p, .iface T v]] w fun e w' => e = .returned (.iface T v) ∧ w' = w.alloc (.cells #[.string p, .iface T v] 76) := by
  go_enter Tryz.func222, Tryz.ntmps222
  go_wp2
  go_ret
  exact ⟨rfl, rfl⟩
end Go.Proofs.YtbpichjmkllfaaaGreatDoor.Flt

/- errors.as, and errors.As, at a variable for a fault. -/
namespace Go.Proofs.YtbpichjmkllfaaaGreatDoor.Flt
open Go.RowKit Go.Extern.Stop Go.Stop Go.Extern
set_option linter.unusedVariables false

theorem err_iface (code place : Int) (r : List ByteArray) : ∃ T v, err code place r = .iface T v := by
  cases r with
  | nil => exact ⟨_, _, rfl⟩
  | cons p r => exact ⟨_, _, rfl⟩
theorem err_cons (code place : Int) (p : ByteArray) (r : List ByteArray) : ∃ T v, err code place r = .iface T v ∧ err code place (p :: r) = .iface 76 (.agg #[.string p, .iface T v]) := by
  obtain ⟨T, v, h⟩ := err_iface code place r
  exact ⟨T, v, h, by rw [← h]; rfl⟩
set_option maxRecDepth 100000 in
set_option maxHeartbeats 4000000 in
theorem as_f (code place : Int) (path : List ByteArray) (tb a : Nat) (x y : Value) (w : World)
    (ht : w.heap[tb]? = some (.cells #[x, y] 84 (0, 0))) (ha : w.cell? ⟨a, 0, none⟩ = some (.pointer (some ⟨tb, 0, none⟩))) (hal : a < w.heap.size) :
    Calls Tryz.prog 60 #[err code place path, .iface 140 (.pointer (some ⟨tb, 0, none⟩)), .agg #[.pointer (some ⟨3, 140, none⟩), .pointer (some ⟨a, 0, none⟩), .int .u64 150], .iface 172 (.agg #[.pointer (some ⟨3, 84, none⟩)])] w
      fun e w' => e = .returned (.bool true) ∧ w.grownBy w' (some tb) ∧ w'.heap[tb]? = some (.cells #[.int .i64 code, .int .i64 place] 84 (0, 0)) := by
  have h25 := @run_callFunc_extern Tryz.prog 57 _ (fun args => ReflectliteValue.unpack (args.getD 0 (.tuple #[]))) Tryz.func57 (by kernel_rfl) (by kernel_rfl) (by kernel_rfl) (by kernel_rfl)
  have h30 := @run_callFunc_extern Tryz.prog 85 _ ReflectliteType.typeOf Tryz.func85 (by kernel_rfl) (by kernel_rfl) (by kernel_rfl) (by kernel_rfl)
  have h62 := @run_callFunc_extern Tryz.prog 229 _ (ReflectliteType.relation "AssignableTo" ReflectliteType.assignableTo) Tryz.func229 (by kernel_rfl) (by kernel_rfl) (by kernel_rfl) (by kernel_rfl)
  have h34 := @run_callFunc_extern Tryz.prog 103 _ (ReflectliteValue.method (ReflectliteValue.valueError "reflectlite.Value.Elem" 0) ReflectliteValue.elem) Tryz.func103 (by kernel_rfl) (by kernel_rfl) (by kernel_rfl) (by kernel_rfl)
  have h35 := @run_callFunc_extern Tryz.prog 104 _ ReflectliteValue.set Tryz.func104 (by kernel_rfl) (by kernel_rfl) (by kernel_rfl) (by kernel_rfl)
  have tO := typeOf41
  have tP := typeOf52
  have mA := methodAssignableTo
  have a41 := assignable41_41
  have a52 := assignable52_41
  have v41 := valueOf41
  have nA := noAs52
  have hU := hasUnwrap52
  have mU := methodUnwrap
  have HT := Lib.hid (And.intro ht (And.intro ha hal))
  clear ht ha hal
  go_enter Tryz.func60, Tryz.ntmps60
  go_wp2_with fail
  go_loopg [0] path.length (fun gk v wr => ∃ r : List ByteArray, r.length = gk ∧ v = err code place r ∧ Hid (Below (w.heap.size + 1) (w.alloc (.cells #[.pointer (some ⟨3, 140, none⟩), .pointer (some ⟨a, 0, none⟩), .int .u64 150] 130)) wr))
  case atStart => exact ⟨path, rfl, rfl, Below.refl _ _⟩
  case round =>
    obtain ⟨r, hr, rfl, HB⟩ := hrel
    have c0 : wr.cell? ⟨w.heap.size, 0, none⟩ = some (.pointer (some ⟨3, 140, none⟩)) := by rw [HB.out.cell (Nat.lt_succ_self _)]; simp
    have c1 : wr.cell? ⟨w.heap.size, 1, none⟩ = some (.pointer (some ⟨a, 0, none⟩)) := by rw [HB.out.cell (Nat.lt_succ_self _)]; simp
    have c2 : wr.cell? ⟨w.heap.size, 2, none⟩ = some (.int .u64 150) := by rw [HB.out.cell (Nat.lt_succ_self _)]; simp
    cases r with
    | nil =>
      have ca : wr.cell? ⟨a, 0, none⟩ = some (.pointer (some ⟨tb, 0, none⟩)) := by
        rw [HB.out.cell (Nat.lt_succ_of_lt HT.out.2.2), World.cell?_alloc_lt _ _ ⟨a, 0, none⟩ HT.out.2.2]; exact HT.out.2.1
      have el := elemV56 ⟨a, 0, none⟩ ⟨tb, 0, none⟩ wr ca
      have htw : wr.heap[tb]? = some (.cells #[x, y] 84 (0, 0)) := by
        have l := fresh0 HT.out.1
        rw [HB.out.block tb (by omega), Below.heap_alloc _ _ _ l]; exact HT.out.1
      have hlt := fresh0 htw
      have st := set41 tb wr.heap.size (.int .i64 code) (.int .i64 place) x y (wr.alloc (.cells #[.int .i64 code, .int .i64 place] 84)) rfl rfl (heap_alloc_new wr _) (by rw [Below.heap_alloc _ _ _ hlt]; exact htw)
      have HW := Lib.hid htw
      clear htw ca hlt hr
      simp only [err, bare]
      go_wp2_with fail
      go_ret
      have hb : Below w.heap.size w (wr.alloc (.cells #[.int .i64 code, .int .i64 place] 84)) := by
        have h1 := HB.out.mono (Nat.le_succ _)
        have h2 := ((Below.refl _ w).alloc (Nat.le_refl _) _).trans h1
        exact h2.alloc h2.size _
      refine ⟨rfl, two_grown hb, two_heap (u := x) (v := y) ?_⟩
      rw [Below.heap_alloc _ _ _ (fresh0 HW.out)]; exact HW.out
    | cons p r =>
      obtain ⟨T, v, hE, hC⟩ := err_cons code place p r
      have HE := Lib.hid hE
      rw [hC]
      clear hE hC
      obtain ⟨q, rfl⟩ : ∃ q, gk = q + 1 := ⟨r.length, by simpa using hr.symm⟩
      have HR := Lib.hid hr
      clear hr
      go_wp2_with (go_at_call 222; refine (unwrap_v p T v _).mono ?_; rintro e w' ⟨rfl, rfl⟩)
      go_roundg q
      case measure => omega
      case rel => exact ⟨r, by have := HR.out; simpa using this, HE.out.symm, HB.out.alloc (by have := HB.out.size; simpa using this) _⟩
end Go.Proofs.YtbpichjmkllfaaaGreatDoor.Flt

/- errors.as at a variable for an error within a part; errors.As at both. -/
namespace Go.Proofs.YtbpichjmkllfaaaGreatDoor.Flt
open Go.RowKit Go.Extern.Stop Go.Stop Go.Extern
set_option linter.unusedVariables false

set_option maxRecDepth 100000 in
set_option maxHeartbeats 4000000 in
theorem as_w (p : ByteArray) (T : TypeId) (v : Value) (tb a : Nat) (x y : Value) (w : World)
    (ht : w.heap[tb]? = some (.cells #[x, y] 76 (0, 0))) (ha : w.cell? ⟨a, 0, none⟩ = some (.pointer (some ⟨tb, 0, none⟩))) (hal : a < w.heap.size) :
    Calls Tryz.prog 60 #[.iface 76 (.agg #[.string p, .iface T v]), .iface 78 (.pointer (some ⟨tb, 0, none⟩)), .agg #[.pointer (some ⟨3, 78, none⟩), .pointer (some ⟨a, 0, none⟩), .int .u64 150], .iface 172 (.agg #[.pointer (some ⟨3, 76, none⟩)])] w
      fun e w' => e = .returned (.bool true) ∧ w.grownBy w' (some tb) ∧ w'.heap[tb]? = some (.cells #[.string p, .iface T v] 76 (0, 0)) := by
  have h25 := @run_callFunc_extern Tryz.prog 57 _ (fun args => ReflectliteValue.unpack (args.getD 0 (.tuple #[]))) Tryz.func57 (by kernel_rfl) (by kernel_rfl) (by kernel_rfl) (by kernel_rfl)
  have h30 := @run_callFunc_extern Tryz.prog 85 _ ReflectliteType.typeOf Tryz.func85 (by kernel_rfl) (by kernel_rfl) (by kernel_rfl) (by kernel_rfl)
  have h62 := @run_callFunc_extern Tryz.prog 229 _ (ReflectliteType.relation "AssignableTo" ReflectliteType.assignableTo) Tryz.func229 (by kernel_rfl) (by kernel_rfl) (by kernel_rfl) (by kernel_rfl)
  have h34 := @run_callFunc_extern Tryz.prog 103 _ (ReflectliteValue.method (ReflectliteValue.valueError "reflectlite.Value.Elem" 0) ReflectliteValue.elem) Tryz.func103 (by kernel_rfl) (by kernel_rfl) (by kernel_rfl) (by kernel_rfl)
  have h35 := @run_callFunc_extern Tryz.prog 104 _ ReflectliteValue.set Tryz.func104 (by kernel_rfl) (by kernel_rfl) (by kernel_rfl) (by kernel_rfl)
  have tP := typeOf52
  have mA := methodAssignableTo
  have a52 := assignable52_52
  have v52 := valueOf52
  have htl := fresh0 ht
  obtain ⟨W, hW⟩ : ∃ W, w.alloc (.cells #[.pointer (some ⟨3, 78, none⟩), .pointer (some ⟨a, 0, none⟩), .int .u64 150] 130) = W := ⟨_, rfl⟩
  have el := elemV54 ⟨a, 0, none⟩ ⟨tb, 0, none⟩ (w.alloc (.cells #[.pointer (some ⟨3, 78, none⟩), .pointer (some ⟨a, 0, none⟩), .int .u64 150] 130)) (by rw [World.cell?_alloc_lt _ _ ⟨a, 0, none⟩ hal]; exact ha)
  have htw : (w.alloc (.cells #[.pointer (some ⟨3, 78, none⟩), .pointer (some ⟨a, 0, none⟩), .int .u64 150] 130)).heap[tb]? = some (.cells #[x, y] 76 (0, 0)) := by rw [Below.heap_alloc _ _ _ htl]; exact ht
  have c0 : W.cell? ⟨w.heap.size, 0, none⟩ = some (.pointer (some ⟨3, 78, none⟩)) := by rw [← hW]; simp
  have c1 : W.cell? ⟨w.heap.size, 1, none⟩ = some (.pointer (some ⟨a, 0, none⟩)) := by rw [← hW]; simp
  have c2 : W.cell? ⟨w.heap.size, 2, none⟩ = some (.int .u64 150) := by rw [← hW]; simp
  have hb : Below w.heap.size w W := by rw [← hW]; exact (Below.refl _ w).alloc (Nat.le_refl _) _
  rw [hW] at el htw
  have st := set52 tb W.heap.size (.string p) (.iface T v) x y (W.alloc (.cells #[.string p, .iface T v] 76)) rfl rfl (heap_alloc_new W _) (by rw [Below.heap_alloc _ _ _ (fresh0 htw)]; exact htw)
  have HW := Lib.hid (And.intro htw hb)
  clear htw htl ht ha hal hb
  go_enter Tryz.func60, Tryz.ntmps60
  go_wp2_with fail
  clear hW
  refine wp_loop_rounds 1 ?_
  rw [rounds_succ]
  go_wp2_with fail
  go_ret
  refine ⟨rfl, two_grown (HW.out.2.alloc HW.out.2.size _), two_heap (u := x) (v := y) ?_⟩
  rw [Below.heap_alloc _ _ _ (fresh0 HW.out.1)]; exact HW.out.1

set_option maxRecDepth 100000 in
set_option maxHeartbeats 4000000 in
theorem as_miss (code place : Int) (t a : Addr) (w : World) :
    Calls Tryz.prog 60 #[bare code place, .iface 78 (.pointer (some t)), .agg #[.pointer (some ⟨3, 78, none⟩), .pointer (some a), .int .u64 150], .iface 172 (.agg #[.pointer (some ⟨3, 76, none⟩)])] w
      fun e w' => e = .returned (.bool false) ∧ Below w.heap.size w w' := by
  have h30 := @run_callFunc_extern Tryz.prog 85 _ ReflectliteType.typeOf Tryz.func85 (by kernel_rfl) (by kernel_rfl) (by kernel_rfl) (by kernel_rfl)
  have h62 := @run_callFunc_extern Tryz.prog 229 _ (ReflectliteType.relation "AssignableTo" ReflectliteType.assignableTo) Tryz.func229 (by kernel_rfl) (by kernel_rfl) (by kernel_rfl) (by kernel_rfl)
  have tO := typeOf41
  have mA := methodAssignableTo
  have a41 := assignable41_52
  have nA := noAs41
  have nU := noUnwrap41
  have nV := noUnwraps41
  unfold bare
  go_enter Tryz.func60, Tryz.ntmps60
  go_wp2_with fail
  refine wp_loop_rounds 1 ?_
  rw [rounds_succ]
  go_wp2_with fail
  go_ret
  exact ⟨rfl, (Below.refl _ w).alloc (Nat.le_refl _) _⟩
end Go.Proofs.YtbpichjmkllfaaaGreatDoor.Flt

/- errors.As: of nil, at a variable for a fault, at a variable for an error within a part. -/
namespace Go.Proofs.YtbpichjmkllfaaaGreatDoor.Flt
open Go.RowKit Go.Extern.Stop Go.Stop Go.Extern
set_option linter.unusedVariables false

/-- The library's variable for the type error, as the program's text lays it. -/
def Glob (w : World) : Prop := w.cell? ⟨0, 0, none⟩ = some (.iface 172 (.agg #[.pointer (some ⟨3, 29, none⟩)]))
theorem Glob.pos {w : World} (h : Glob w) : 0 < w.heap.size := World.block_lt_of_cell? w _ h
theorem Glob.below {B : Nat} {w w' : World} (h : Glob w) (hb : Below B w w') (hB : 0 < B) : Glob w' := (hb.cell (by exact hB)).trans h
theorem Glob.alloc {w : World} (h : Glob w) (o : Obj) : Glob (w.alloc o) := (World.cell?_alloc_lt _ _ ⟨0, 0, none⟩ h.pos).trans h

theorem as_nil (t : Value) (w : World) :
    Calls Tryz.prog 28 #[.nilIface, t] w fun e w' => e = .returned (.bool false) ∧ w' = w := by
  go_enter Tryz.func28, Tryz.ntmps28
  go_wp2
  go_ret
  exact ⟨rfl, rfl⟩

theorem grown_after {w w1 w2 : World} {b : Nat} (h : Below w.heap.size w w1) (g : w1.grownBy w2 (some b)) : w.grownBy w2 (some b) :=
  ⟨g.os.trans h.os, g.tape.trans h.tape, g.output.trans h.output, Nat.le_trans h.size g.size, fun k hk hne => (g.block k (Nat.lt_of_lt_of_le hk h.size) hne).trans (h.block k hk)⟩

set_option maxRecDepth 100000 in
set_option maxHeartbeats 4000000 in
theorem As_f (code place : Int) (path : List ByteArray) (tb : Nat) (x y : Value) (w : World) (hg : Glob w)
    (ht : w.heap[tb]? = some (.cells #[x, y] 84 (0, 0))) :
    Calls Tryz.prog 28 #[err code place path, .iface 140 (.pointer (some ⟨tb, 0, none⟩))] w
      fun e w' => e = .returned (.bool true) ∧ w.grownBy w' (some tb) ∧ w'.heap[tb]? = some (.cells #[.int .i64 code, .int .i64 place] 84 (0, 0)) := by
  have h25 := @run_callFunc_extern Tryz.prog 57 _ (fun args => ReflectliteValue.unpack (args.getD 0 (.tuple #[]))) Tryz.func57 (by kernel_rfl) (by kernel_rfl) (by kernel_rfl) (by kernel_rfl)
  have h26 := @run_callFunc_extern Tryz.prog 58 _ (ReflectliteValue.methodAny (ReflectliteValue.valueError "reflectlite.Value.Type" 0) (fun t _ _ _ => ReflectliteType.toType t)) Tryz.func58 (by kernel_rfl) (by kernel_rfl) (by kernel_rfl) (by kernel_rfl)
  have h27 := @run_callFunc_extern Tryz.prog 59 _ (ReflectliteValue.method (ReflectliteValue.valueError "reflectlite.Value.IsNil" 0) ReflectliteValue.isNil) Tryz.func59 (by kernel_rfl) (by kernel_rfl) (by kernel_rfl) (by kernel_rfl)
  have h50 := @run_callFunc_extern Tryz.prog 218 _ (ReflectliteType.abiMethod fun t => do pure (.int .u8 (← Rtype.kind t))) Tryz.func218 (by kernel_rfl) (by kernel_rfl) (by kernel_rfl) (by kernel_rfl)
  have h64 := @run_callFunc_extern Tryz.prog 231 _ (ReflectliteType.method ReflectliteType.elem) Tryz.func231 (by kernel_rfl) (by kernel_rfl) (by kernel_rfl) (by kernel_rfl)
  have h65 := @run_callFunc_extern Tryz.prog 232 _ (ReflectliteType.relation "Implements" ReflectliteType.implements_) Tryz.func232 (by kernel_rfl) (by kernel_rfl) (by kernel_rfl) (by kernel_rfl)
  have f6 := valueOf56
  have f7 := type56
  have mK := methodKind
  have mE := methodElem
  have mI := methodImplements
  have k56 := kind56
  have k41 := kind41
  have e56 := elem56
  have i41 := implements41
  have n8 := isNil56 ⟨w.heap.size, 0, none⟩ ⟨tb, 0, none⟩ ((w.alloc (.cells #[.pointer (some ⟨tb, 0, none⟩)] 140)).alloc (.cells #[.pointer (some ⟨3, 140, none⟩), .pointer (some ⟨w.heap.size, 0, none⟩), .int .u64 150] 130)) (by simp)
  have hg2 : ((w.alloc (.cells #[.pointer (some ⟨tb, 0, none⟩)] 140)).alloc (.cells #[.pointer (some ⟨3, 140, none⟩), .pointer (some ⟨w.heap.size, 0, none⟩), .int .u64 150] 130)).cell? ⟨0, 0, none⟩ = some (.iface 172 (.agg #[.pointer (some ⟨3, 29, none⟩)])) := (hg.alloc _).alloc _
  have hb : Below w.heap.size w ((w.alloc (.cells #[.pointer (some ⟨tb, 0, none⟩)] 140)).alloc (.cells #[.pointer (some ⟨3, 140, none⟩), .pointer (some ⟨w.heap.size, 0, none⟩), .int .u64 150] 130)) := ((Below.refl _ w).alloc (Nat.le_refl _) _).alloc (by simp) _
  have HT := Lib.hid (And.intro ht hb)
  clear ht hg hb
  obtain ⟨T, v, hE⟩ := err_iface code place path
  have HE := Lib.hid hE
  rw [hE]
  clear hE
  go_enter Tryz.func28, Tryz.ntmps28
  go_wp2_with fail
  rw [← HE.out]
  refine (as_f code place path tb w.heap.size x y _ (by rw [HT.out.2.block tb (fresh0 HT.out.1)]; exact HT.out.1) (by simp) (by simp; omega)).mono ?_
  rintro e w1 ⟨rfl, hgr, hh⟩
  have H1 := Lib.hid (And.intro (grown_after HT.out.2 hgr) hh)
  clear hgr hh
  go_wp2_with fail
  go_ret
  exact ⟨rfl, H1.out⟩

set_option maxRecDepth 100000 in
set_option maxHeartbeats 4000000 in
theorem As_w (p : ByteArray) (T : TypeId) (v : Value) (tb : Nat) (x y : Value) (w : World) (hg : Glob w)
    (ht : w.heap[tb]? = some (.cells #[x, y] 76 (0, 0))) :
    Calls Tryz.prog 28 #[.iface 76 (.agg #[.string p, .iface T v]), .iface 78 (.pointer (some ⟨tb, 0, none⟩))] w
      fun e w' => e = .returned (.bool true) ∧ w.grownBy w' (some tb) ∧ w'.heap[tb]? = some (.cells #[.string p, .iface T v] 76 (0, 0)) := by
  have h25 := @run_callFunc_extern Tryz.prog 57 _ (fun args => ReflectliteValue.unpack (args.getD 0 (.tuple #[]))) Tryz.func57 (by kernel_rfl) (by kernel_rfl) (by kernel_rfl) (by kernel_rfl)
  have h26 := @run_callFunc_extern Tryz.prog 58 _ (ReflectliteValue.methodAny (ReflectliteValue.valueError "reflectlite.Value.Type" 0) (fun t _ _ _ => ReflectliteType.toType t)) Tryz.func58 (by kernel_rfl) (by kernel_rfl) (by kernel_rfl) (by kernel_rfl)
  have h27 := @run_callFunc_extern Tryz.prog 59 _ (ReflectliteValue.method (ReflectliteValue.valueError "reflectlite.Value.IsNil" 0) ReflectliteValue.isNil) Tryz.func59 (by kernel_rfl) (by kernel_rfl) (by kernel_rfl) (by kernel_rfl)
  have h50 := @run_callFunc_extern Tryz.prog 218 _ (ReflectliteType.abiMethod fun t => do pure (.int .u8 (← Rtype.kind t))) Tryz.func218 (by kernel_rfl) (by kernel_rfl) (by kernel_rfl) (by kernel_rfl)
  have h64 := @run_callFunc_extern Tryz.prog 231 _ (ReflectliteType.method ReflectliteType.elem) Tryz.func231 (by kernel_rfl) (by kernel_rfl) (by kernel_rfl) (by kernel_rfl)
  have h65 := @run_callFunc_extern Tryz.prog 232 _ (ReflectliteType.relation "Implements" ReflectliteType.implements_) Tryz.func232 (by kernel_rfl) (by kernel_rfl) (by kernel_rfl) (by kernel_rfl)
  have f6 := valueOf54
  have f7 := type54
  have mK := methodKind
  have mE := methodElem
  have mI := methodImplements
  have k54 := kind54
  have k52 := kind52
  have e54 := elem54
  have i52 := implements52
  have n8 := isNil54 ⟨w.heap.size, 0, none⟩ ⟨tb, 0, none⟩ ((w.alloc (.cells #[.pointer (some ⟨tb, 0, none⟩)] 78)).alloc (.cells #[.pointer (some ⟨3, 78, none⟩), .pointer (some ⟨w.heap.size, 0, none⟩), .int .u64 150] 130)) (by simp)
  have hg2 : ((w.alloc (.cells #[.pointer (some ⟨tb, 0, none⟩)] 78)).alloc (.cells #[.pointer (some ⟨3, 78, none⟩), .pointer (some ⟨w.heap.size, 0, none⟩), .int .u64 150] 130)).cell? ⟨0, 0, none⟩ = some (.iface 172 (.agg #[.pointer (some ⟨3, 29, none⟩)])) := (hg.alloc _).alloc _
  have hb : Below w.heap.size w ((w.alloc (.cells #[.pointer (some ⟨tb, 0, none⟩)] 78)).alloc (.cells #[.pointer (some ⟨3, 78, none⟩), .pointer (some ⟨w.heap.size, 0, none⟩), .int .u64 150] 130)) := ((Below.refl _ w).alloc (Nat.le_refl _) _).alloc (by simp) _
  have HT := Lib.hid (And.intro ht hb)
  clear ht hg hb
  go_enter Tryz.func28, Tryz.ntmps28
  go_wp2_with fail
  refine (as_w p T v tb w.heap.size x y _ (by rw [HT.out.2.block tb (fresh0 HT.out.1)]; exact HT.out.1) (by simp) (by simp; omega)).mono ?_
  rintro e w1 ⟨rfl, hgr, hh⟩
  have H1 := Lib.hid (And.intro (grown_after HT.out.2 hgr) hh)
  clear hgr hh
  go_wp2_with fail
  go_ret
  exact ⟨rfl, H1.out⟩

set_option maxRecDepth 100000 in
set_option maxHeartbeats 4000000 in
theorem As_miss (code place : Int) (tb : Nat) (w : World) (hg : Glob w) :
    Calls Tryz.prog 28 #[bare code place, .iface 78 (.pointer (some ⟨tb, 0, none⟩))] w
      fun e w' => e = .returned (.bool false) ∧ Below w.heap.size w w' := by
  have h25 := @run_callFunc_extern Tryz.prog 57 _ (fun args => ReflectliteValue.unpack (args.getD 0 (.tuple #[]))) Tryz.func57 (by kernel_rfl) (by kernel_rfl) (by kernel_rfl) (by kernel_rfl)
  have h26 := @run_callFunc_extern Tryz.prog 58 _ (ReflectliteValue.methodAny (ReflectliteValue.valueError "reflectlite.Value.Type" 0) (fun t _ _ _ => ReflectliteType.toType t)) Tryz.func58 (by kernel_rfl) (by kernel_rfl) (by kernel_rfl) (by kernel_rfl)
  have h27 := @run_callFunc_extern Tryz.prog 59 _ (ReflectliteValue.method (ReflectliteValue.valueError "reflectlite.Value.IsNil" 0) ReflectliteValue.isNil) Tryz.func59 (by kernel_rfl) (by kernel_rfl) (by kernel_rfl) (by kernel_rfl)
  have h50 := @run_callFunc_extern Tryz.prog 218 _ (ReflectliteType.abiMethod fun t => do pure (.int .u8 (← Rtype.kind t))) Tryz.func218 (by kernel_rfl) (by kernel_rfl) (by kernel_rfl) (by kernel_rfl)
  have h64 := @run_callFunc_extern Tryz.prog 231 _ (ReflectliteType.method ReflectliteType.elem) Tryz.func231 (by kernel_rfl) (by kernel_rfl) (by kernel_rfl) (by kernel_rfl)
  have h65 := @run_callFunc_extern Tryz.prog 232 _ (ReflectliteType.relation "Implements" ReflectliteType.implements_) Tryz.func232 (by kernel_rfl) (by kernel_rfl) (by kernel_rfl) (by kernel_rfl)
  have f6 := valueOf54
  have f7 := type54
  have mK := methodKind
  have mE := methodElem
  have mI := methodImplements
  have k54 := kind54
  have k52 := kind52
  have e54 := elem54
  have i52 := implements52
  have n8 := isNil54 ⟨w.heap.size, 0, none⟩ ⟨tb, 0, none⟩ ((w.alloc (.cells #[.pointer (some ⟨tb, 0, none⟩)] 78)).alloc (.cells #[.pointer (some ⟨3, 78, none⟩), .pointer (some ⟨w.heap.size, 0, none⟩), .int .u64 150] 130)) (by simp)
  have hg2 : ((w.alloc (.cells #[.pointer (some ⟨tb, 0, none⟩)] 78)).alloc (.cells #[.pointer (some ⟨3, 78, none⟩), .pointer (some ⟨w.heap.size, 0, none⟩), .int .u64 150] 130)).cell? ⟨0, 0, none⟩ = some (.iface 172 (.agg #[.pointer (some ⟨3, 29, none⟩)])) := (hg.alloc _).alloc _
  have hb : Below w.heap.size w ((w.alloc (.cells #[.pointer (some ⟨tb, 0, none⟩)] 78)).alloc (.cells #[.pointer (some ⟨3, 78, none⟩), .pointer (some ⟨w.heap.size, 0, none⟩), .int .u64 150] 130)) := ((Below.refl _ w).alloc (Nat.le_refl _) _).alloc (by simp) _
  have HT := Lib.hid hb
  clear hg hb
  unfold bare
  go_enter Tryz.func28, Tryz.ntmps28
  go_wp2_with fail
  refine (as_miss code place ⟨tb, 0, none⟩ ⟨w.heap.size, 0, none⟩ _).mono ?_
  rintro e w1 ⟨rfl, hb⟩
  have H1 := Lib.hid (HT.out.trans (hb.mono HT.out.size))
  clear hb
  go_wp2_with fail
  go_ret
  exact ⟨rfl, H1.out⟩
end Go.Proofs.YtbpichjmkllfaaaGreatDoor.Flt

/- What the program's New, In, Of, At answer. -/
namespace Go.Proofs.YtbpichjmkllfaaaGreatDoor.Flt
open Go.RowKit Go.Extern.Stop Go.Stop Go.Extern
set_option linter.unusedVariables false

theorem int_beq {x y : Int} (h : ¬ x = y) : (x == y) = false := by simpa using h
theorem new_ok (place : Int) (w : World) : Calls Tryz.prog 26 #[.int .i64 0, .int .i64 place] w fun e w' => e = .returned .nilIface ∧ w = w' := by
  go_enter Tryz.func26, Tryz.ntmps26
  go_wp2_with fail
  go_ret
  exact ⟨rfl, rfl⟩
theorem new_v (code place : Int) (hc : ¬ code = 0) (w : World) : Calls Tryz.prog 26 #[.int .i64 code, .int .i64 place] w fun e w' => e = .returned (err code place []) ∧ w = w' := by
  have h := int_beq hc
  go_enter Tryz.func26, Tryz.ntmps26
  go_wp2_with fail
  go_ret
  exact ⟨rfl, rfl⟩
theorem in_nil (p : ByteArray) (w : World) : Calls Tryz.prog 25 #[.string p, .nilIface] w fun e w' => e = .returned .nilIface ∧ w = w' := by
  go_enter Tryz.func25, Tryz.ntmps25
  go_wp2_with fail
  go_ret
  exact ⟨rfl, rfl⟩
theorem in_v (p : ByteArray) (code place : Int) (r : List ByteArray) (w : World) : Calls Tryz.prog 25 #[.string p, err code place r] w fun e w' => e = .returned (err code place (p :: r)) ∧ w = w' := by
  obtain ⟨T, v, h1, h2⟩ := err_cons code place p r
  rw [h1, h2]
  clear h1 h2
  go_enter Tryz.func25, Tryz.ntmps25
  go_wp2_with fail
  go_ret
  exact ⟨rfl, rfl⟩
theorem alloc_zero (w : World) : (w.alloc (.cells #[.int .i64 0, .int .i64 0] 84)).heap[w.heap.size]? = some (.cells #[.int .i64 0, .int .i64 0] 84 (0, 0)) := heap_alloc_new w _
set_option maxHeartbeats 1000000 in
theorem inmost_nil (w : World) : Calls Tryz.prog 31 #[.nilIface] w fun e w' => e = .returned (.agg #[.int .i64 0, .int .i64 0]) ∧ Below w.heap.size w w' := by
  have hb : Below w.heap.size w (((w.alloc (.cells #[.int .i64 0, .int .i64 0] 84)).alloc (.cells #[.int .i64 0, .int .i64 0] 84))) := ((Below.refl _ w).alloc (Nat.le_refl _) _).alloc (by simp) _
  have HB := Lib.hid hb
  clear hb
  go_enter Tryz.func31, Tryz.ntmps31
  go_wp2_with fail
  refine (as_nil _ _).mono ?_
  rintro e w1 ⟨rfl, rfl⟩
  go_wp2_with fail
  have hz : ((w.alloc (.cells #[.int .i64 0, .int .i64 0] 84)).alloc (.cells #[.int .i64 0, .int .i64 0] 84)).heap[w.heap.size]? = some (.cells #[.int .i64 0, .int .i64 0] 84 (0, 0)) := by
    rw [Below.heap_alloc _ _ _ (by simp)]; exact alloc_zero w
  refine bodyPost_ret (results_cell_row (fn := Tryz.f31) rfl _ _ w.heap.size 84 #[.int .i64 0, .int .i64 0] (0, 0) _ rfl hz Tryz.underlying84 rfl (by kernel_rfl)) rfl ?_
  exact ⟨rfl, HB.out⟩
set_option maxHeartbeats 1000000 in
theorem inmost_v (code place : Int) (path : List ByteArray) (w : World) (hg : Glob w) : Calls Tryz.prog 31 #[err code place path] w fun e w' => e = .returned (.agg #[.int .i64 code, .int .i64 place]) ∧ Below w.heap.size w w' := by
  have hb : Below w.heap.size w (((w.alloc (.cells #[.int .i64 0, .int .i64 0] 84)).alloc (.cells #[.int .i64 0, .int .i64 0] 84))) := ((Below.refl _ w).alloc (Nat.le_refl _) _).alloc (by simp) _
  have HG := Lib.hid hg
  have HB := Lib.hid hb
  clear hg hb
  go_enter Tryz.func31, Tryz.ntmps31
  go_wp2_with fail
  refine (As_f code place path (w.heap.size + 1) (.int .i64 0) (.int .i64 0) _ ((HG.out.alloc _).alloc _) (by have := alloc_zero (w.alloc (.cells #[.int .i64 0, .int .i64 0] 84)); simpa using this)).mono ?_
  rintro e w1 ⟨rfl, hgr, hh⟩
  have c0 : w1.cell? ⟨w.heap.size + 1, 0, none⟩ = some (.int .i64 code) := by rw [Lib.cell_of_heap hh]; rfl
  have c1 : w1.cell? ⟨w.heap.size + 1, 1, none⟩ = some (.int .i64 place) := by rw [Lib.cell_of_heap hh]; rfl
  have hr : w1.heap[w.heap.size]? = some (.cells #[.int .i64 0, .int .i64 0] 84 (0, 0)) := by
    rw [hgr.block _ (by simp; omega) (by simp), Below.heap_alloc _ _ _ (by simp)]; exact alloc_zero w
  have r0 : w1.cell? ⟨w.heap.size, 0, none⟩ = some (.int .i64 0) := by rw [Lib.cell_of_heap hr]; rfl
  have r1 : w1.cell? ⟨w.heap.size, 1, none⟩ = some (.int .i64 0) := by rw [Lib.cell_of_heap hr]; rfl
  have z0 : w1.frozen? ⟨w.heap.size, 0, none⟩ = false := Lib.frozen_of_heap hr 0
  have z1 : w1.frozen? ⟨w.heap.size, 1, none⟩ = false := Lib.frozen_of_heap hr 1
  have H1 := Lib.hid (HB.out.grown hgr (by simp; omega) (fun k hk => by injection hk; omega))
  have HR := Lib.hid hr
  clear hgr hh hr
  go_wp2_with fail
  refine bodyPost_ret (results_cell_row (fn := Tryz.f31) rfl _ _ w.heap.size 84 #[.int .i64 code, .int .i64 place] (0, 0) _ rfl (two_heap HR.out) Tryz.underlying84 rfl (by kernel_rfl)) rfl ?_
  exact ⟨rfl, (H1.out.setCell (Nat.le_refl _) _).setCell (Nat.le_refl _) _⟩
theorem field0 (x y : Int) (w : World) : (Instr.field 84 (.agg #[.int .i64 x, .int .i64 y]) 0).run Tryz.prog w = .ok (.int .i64 x) w := by kernel_rfl
theorem field1 (x y : Int) (w : World) : (Instr.field 84 (.agg #[.int .i64 x, .int .i64 y]) 1).run Tryz.prog w = .ok (.int .i64 y) w := by kernel_rfl
theorem of_nil (w : World) : Calls Tryz.prog 12 #[.nilIface] w fun e w' => e = .returned (.int .i64 0) ∧ Below w.heap.size w w' := by
  have hf := field0
  go_enter Tryz.func12, Tryz.ntmps12
  go_wp2_with fail
  refine (inmost_nil _).mono ?_
  rintro e w1 ⟨rfl, hb⟩
  have H1 := Lib.hid hb
  clear hb
  go_wp2_with fail
  go_ret
  exact ⟨rfl, H1.out⟩
theorem of_v (code place : Int) (path : List ByteArray) (w : World) (hg : Glob w) : Calls Tryz.prog 12 #[err code place path] w fun e w' => e = .returned (.int .i64 code) ∧ Below w.heap.size w w' := by
  have HG := Lib.hid hg
  clear hg
  have hf := field0
  go_enter Tryz.func12, Tryz.ntmps12
  go_wp2_with fail
  refine (inmost_v code place path _ HG.out).mono ?_
  rintro e w1 ⟨rfl, hb⟩
  have H1 := Lib.hid hb
  clear hb
  go_wp2_with fail
  go_ret
  exact ⟨rfl, H1.out⟩
theorem at_nil (w : World) : Calls Tryz.prog 13 #[.nilIface] w fun e w' => e = .returned (.int .i64 0) ∧ Below w.heap.size w w' := by
  have hf := field1
  go_enter Tryz.func13, Tryz.ntmps13
  go_wp2_with fail
  refine (inmost_nil _).mono ?_
  rintro e w1 ⟨rfl, hb⟩
  have H1 := Lib.hid hb
  clear hb
  go_wp2_with fail
  go_ret
  exact ⟨rfl, H1.out⟩
theorem at_v (code place : Int) (path : List ByteArray) (w : World) (hg : Glob w) : Calls Tryz.prog 13 #[err code place path] w fun e w' => e = .returned (.int .i64 place) ∧ Below w.heap.size w w' := by
  have HG := Lib.hid hg
  clear hg
  have hf := field1
  go_enter Tryz.func13, Tryz.ntmps13
  go_wp2_with fail
  refine (inmost_v code place path _ HG.out).mono ?_
  rintro e w1 ⟨rfl, hb⟩
  have H1 := Lib.hid hb
  clear hb
  go_wp2_with fail
  go_ret
  exact ⟨rfl, H1.out⟩
end Go.Proofs.YtbpichjmkllfaaaGreatDoor.Flt
