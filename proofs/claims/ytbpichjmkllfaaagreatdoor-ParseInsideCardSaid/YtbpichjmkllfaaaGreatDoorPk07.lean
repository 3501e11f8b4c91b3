/- Errors of the program as values: what New, Of, At answer of them. 84: fault · 140: a pointer to it · 29: error · 172: reflectlite's rtype · 130: reflectlite's Value. -/
import Derived.Test.YtbpichjmkllfaaaGreatDoorProg
import Derived.WalkKit
import Derived.LaidEql
import Derived.Stop.Asserts
import Derived.RowKitTokens
import Derived.Below
import Derived.Lib.Builder
import Derived.Lib.Hide
import Derived.Deep.Light
import Derived.StillTailTactics
import Derived.BigQuiet
import Derived.Test.YtbpichjmkllfaaaGreatDoorRows
import Derived.Test.YtbpichjmkllfaaaGreatDoorPk02
import Derived.Outline
import Derived.WalkLawsBesides
import Derived.LoopTactic
import Derived.IntWalk
import Derived.Deep.LoopGhost
import Derived.Deep.WholeRow
import Derived.Laws.IdiomStrings
import Derived.OwnWalk
import Derived.Test.YtbpichjmkllfaaaGreatDoorPk06
namespace Go.Proofs.YtbpichjmkllfaaaGreatDoor.Fau
open Go.RowKit Go.Extern.Stop Go.Stop Go.Extern
set_option linter.unusedVariables false

/-- A fault within no part. -/
def bare (code place : Int) : Value := .iface 84 (.agg #[.int .i64 code, .int .i64 place])
theorem valueOf56 (t : Addr) (w : World) : (ReflectliteValue.unpack (.iface 140 (.pointer (some t)))).run Tryz.prog w
    = .ok (.agg #[.pointer (some ⟨3, 140, none⟩), .pointer (some ⟨w.heap.size, 0, none⟩), .int .u64 150]) (w.alloc (.cells #[.pointer (some t)] 140)) := by kernel_rfl
theorem valueOf41 (x y : Int) (w : World) : (ReflectliteValue.unpack (.iface 84 (.agg #[.int .i64 x, .int .i64 y]))).run Tryz.prog w
    = .ok (.agg #[.pointer (some ⟨3, 84, none⟩), .pointer (some ⟨w.heap.size, 0, none⟩), .int .u64 153]) (w.alloc (.cells #[.int .i64 x, .int .i64 y] 84)) := by kernel_rfl
theorem type56 (a : Addr) (w : World) : (ReflectliteValue.methodAny (ReflectliteValue.valueError "reflectlite.Value.Type" 0) (fun t _ _ _ => ReflectliteType.toType t) #[.agg #[.pointer (some ⟨3, 140, none⟩), .pointer (some a), .int .u64 150]]).run Tryz.prog w
    = .ok (.iface 172 (.agg #[.pointer (some ⟨3, 140, none⟩)])) w := by kernel_rfl
theorem methodKind (h : Value) (w : World) : (Go.method 389 172 (.agg #[h]) "Kind").run Tryz.prog w = .ok (218, h) w := by kernel_rfl
theorem methodElem (h : Value) (w : World) : (Go.method 389 172 (.agg #[h]) "Elem").run Tryz.prog w = .ok (231, .agg #[h]) w := by kernel_rfl
theorem methodImplements (h : Value) (w : World) : (Go.method 389 172 (.agg #[h]) "Implements").run Tryz.prog w = .ok (232, .agg #[h]) w := by kernel_rfl
theorem methodAssignableTo (h : Value) (w : World) : (Go.method 389 172 (.agg #[h]) "AssignableTo").run Tryz.prog w = .ok (229, .agg #[h]) w := by kernel_rfl
theorem kind56 (w : World) : ((ReflectliteType.abiMethod fun t => (fun a : Nat => Value.int IntKind.u8 (a : Int)) <$> Rtype.kind t) #[.pointer (some ⟨3, 140, none⟩)]).run Tryz.prog w = .ok (.int .u8 22) w := by kernel_rfl
theorem kind41 (w : World) : ((ReflectliteType.abiMethod fun t => (fun a : Nat => Value.int IntKind.u8 (a : Int)) <$> Rtype.kind t) #[.pointer (some ⟨3, 84, none⟩)]).run Tryz.prog w = .ok (.int .u8 25) w := by kernel_rfl
theorem parts56 (a : Addr) (w : World) : (ReflectliteValue.parts (.agg #[.pointer (some ⟨3, 140, none⟩), .pointer (some a), .int .u64 150])).run Tryz.prog w = .ok (some (140, a, 150)) w := by kernel_rfl
/-- (Value).IsNil at the Value of a pointer that is not nil. -/
theorem isNil56 (a p : Addr) (W : World) (ha : W.cell? a = some (.pointer (some p))) :
    (ReflectliteValue.method (ReflectliteValue.valueError "reflectlite.Value.IsNil" 0) ReflectliteValue.isNil #[.agg #[.pointer (some ⟨3, 140, none⟩), .pointer (some a), .int .u64 150]]).run Tryz.prog W = .ok (.bool false) W := by
  change (ReflectliteValue.parts _ >>= _).run Tryz.prog W = _
  simp only [Array.getLit, List.getElem_toArray, List.getElem_cons_zero, Sem.run_bind, parts56, Result.andThen]
  simp [ReflectliteValue.isNil, loadVar, isAgg, underlying, Tryz.underlying140, ha, Result.andThen]
theorem elem56 (w : World) : (ReflectliteType.method ReflectliteType.elem #[.agg #[.pointer (some ⟨3, 140, none⟩)]]).run Tryz.prog w = .ok (.iface 172 (.agg #[.pointer (some ⟨3, 84, none⟩)])) w := by kernel_rfl
theorem implements41 (w : World) : (ReflectliteType.relation "Implements" ReflectliteType.implements_ #[.agg #[.pointer (some ⟨3, 84, none⟩)], .iface 172 (.agg #[.pointer (some ⟨3, 29, none⟩)])]).run Tryz.prog w = .ok (.bool true) w := by kernel_rfl
theorem typeOf41 (v : Value) (w : World) : (ReflectliteType.typeOf #[.iface 84 v]).run Tryz.prog w = .ok (.iface 172 (.agg #[.pointer (some ⟨3, 84, none⟩)])) w := by kernel_rfl
theorem assignable41_41 (w : World) : (ReflectliteType.relation "AssignableTo" ReflectliteType.assignableTo #[.agg #[.pointer (some ⟨3, 84, none⟩)], .iface 172 (.agg #[.pointer (some ⟨3, 84, none⟩)])]).run Tryz.prog w = .ok (.bool true) w := by kernel_rfl
theorem elemOf56 (w : World) : (Rtype.elem? 140).run Tryz.prog w = .ok (some 84) w := by kernel_rfl
theorem mk41 (p : Addr) (w : World) : (ReflectliteValue.mk 84 p ReflectliteValue.flagAddr).run Tryz.prog w = .ok (.agg #[.pointer (some ⟨3, 84, none⟩), .pointer (some p), .int .u64 409]) w := by kernel_rfl
/-- (Value).Elem at the Value of a pointer that is not nil: the Value of the variable that it points to, addressable. -/
theorem elemV56 (a p : Addr) (W : World) (ha : W.cell? a = some (.pointer (some p))) :
    (ReflectliteValue.method (ReflectliteValue.valueError "reflectlite.Value.Elem" 0) ReflectliteValue.elem #[.agg #[.pointer (some ⟨3, 140, none⟩), .pointer (some a), .int .u64 150]]).run Tryz.prog W
      = .ok (.agg #[.pointer (some ⟨3, 84, none⟩), .pointer (some p), .int .u64 409]) W := by
  change (ReflectliteValue.parts _ >>= _).run Tryz.prog W = _
  simp only [Array.getLit, List.getElem_toArray, List.getElem_cons_zero, Sem.run_bind, parts56, Result.andThen]
  simp [ReflectliteValue.elem, loadVar, isAgg, underlying, Tryz.underlying140, ha, Result.andThen, elemOf56, mk41]
theorem parts41a (a : Addr) (w : World) : (ReflectliteValue.parts (.agg #[.pointer (some ⟨3, 84, none⟩), .pointer (some a), .int .u64 409])).run Tryz.prog w = .ok (some (84, a, 409)) w := by kernel_rfl
theorem parts41 (a : Addr) (w : World) : (ReflectliteValue.parts (.agg #[.pointer (some ⟨3, 84, none⟩), .pointer (some a), .int .u64 153])).run Tryz.prog w = .ok (some (84, a, 153)) w := by kernel_rfl
theorem direct41 (w : World) : (Rtype.directlyAssignable 84 84).run Tryz.prog w = .ok true w := by kernel_rfl
theorem noAs41 (v : Value) (xT : TypeId) (w : World) : (Instr.typeAssert (.iface 84 v) xT 176 true).run Tryz.prog w = .ok (.tuple #[.nilIface, .bool false]) w := run_typeAssert_lacksB Tryz.underlying176 (by kernel_rfl) (by kernel_rfl) v xT w
theorem noUnwrap41 (v : Value) (xT : TypeId) (w : World) : (Instr.typeAssert (.iface 84 v) xT 179 true).run Tryz.prog w = .ok (.tuple #[.nilIface, .bool false]) w := run_typeAssert_lacksB Tryz.underlying179 (by kernel_rfl) (by kernel_rfl) v xT w
theorem noUnwraps41 (v : Value) (xT : TypeId) (w : World) : (Instr.typeAssert (.iface 84 v) xT 181 true).run Tryz.prog w = .ok (.tuple #[.nilIface, .bool false]) w := run_typeAssert_lacksB Tryz.underlying181 (by kernel_rfl) (by kernel_rfl) v xT w
/-- Two cells laid in. -/
def two (w : World) (b : Nat) (x y : Value) : World := (w.setCell ⟨b, 0, none⟩ x).setCell ⟨b, 1, none⟩ y
theorem two_heap {w : World} {b : Nat} {x y u v : Value} {T : TypeId} (h : w.heap[b]? = some (.cells #[u, v] T (0, 0))) : (two w b x y).heap[b]? = some (.cells #[x, y] T (0, 0)) := by
  unfold two
  simp [World.setCell, Array.getElem?_modify, h]
theorem two_block {w : World} {b k : Nat} {x y : Value} (h : k ≠ b) : (two w b x y).heap[k]? = w.heap[k]? := by
  unfold two
  rw [Below.heap_setCell _ _ _ _ (by exact h), Below.heap_setCell _ _ _ _ (by exact h)]
theorem two_grown {w w1 : World} {b : Nat} {x y : Value} (h : Below w.heap.size w w1) : w.grownBy (two w1 b x y) (some b) :=
  ⟨h.os, h.tape, h.output, by have := h.size; unfold two; simpa [World.setCell] using this, fun k hk hne => (two_block (fun e => hne (by rw [e]))).trans (h.block k hk)⟩
theorem fresh0 {w : World} {b : Nat} {cs : Array Value} {T : TypeId} (h : w.heap[b]? = some (.cells cs T (0, 0))) : b < w.heap.size := by
  rcases Nat.lt_or_ge b w.heap.size with h' | h'
  · exact h'
  · simp [Array.getElem?_eq_none h'] at h
theorem isAgg41' (w : World) : (isAgg 84).run Tryz.prog w = .ok true w := by kernel_rfl
theorem size41' (w : World) : (Go.sizeOf 84).run Tryz.prog w = .ok 2 w := by kernel_rfl
theorem two_load {T : TypeId} (hA : ∀ w, (isAgg T).run Tryz.prog w = .ok true w) (hS : ∀ w, (Go.sizeOf T).run Tryz.prog w = .ok 2 w) (W : World) (b : Nat) (x y : Value) {U : TypeId} (h : W.heap[b]? = some (.cells #[x, y] U (0, 0))) :
    (loadVar T ⟨b, 0, none⟩).run Tryz.prog W = .ok (.agg #[x, y]) W := by
  have c0 : W.cell? ⟨b, 0, none⟩ = some x := by rw [Lib.cell_of_heap h]; rfl
  have c1 : W.cell? ⟨b, 1, none⟩ = some y := by rw [Lib.cell_of_heap h]; rfl
  simp [loadVar, hA, hS, loadCells, loadCellsFrom, Addr.add, c0, c1, Result.andThen]
theorem two_store {T : TypeId} (hS : ∀ w, (Go.sizeOf T).run Tryz.prog w = .ok 2 w) (W : World) (b : Nat) (x y u v : Value) {U : TypeId} (hx : x.oneCell' = true) (hy : y.oneCell' = true) (h : W.heap[b]? = some (.cells #[u, v] U (0, 0))) :
    (storeVar T ⟨b, 0, none⟩ (.agg #[x, y])).run Tryz.prog W = .ok () (two W b x y) := by
  have c0 : W.cell? ⟨b, 0, none⟩ = some u := by rw [Lib.cell_of_heap h]; rfl
  have f0 : W.frozen? ⟨b, 0, none⟩ = false := Lib.frozen_of_heap h 0
  have h1 : (W.setCell ⟨b, 0, none⟩ x).heap[b]? = some (.cells #[x, v] U (0, 0)) := by simp [World.setCell, Array.getElem?_modify, h]
  have c1 : (W.setCell ⟨b, 0, none⟩ x).cell? ⟨b, 1, none⟩ = some v := by rw [Lib.cell_of_heap h1]; rfl
  have f1 : (W.setCell ⟨b, 0, none⟩ x).frozen? ⟨b, 1, none⟩ = false := Lib.frozen_of_heap h1 1
  simp [storeVar, hS, Value.cells, storeCells, Addr.add, Result.andThen]
  rw [run_store Tryz.prog W ⟨b, 0, none⟩ _ _ hx]
  simp [c0, f0]
  rw [run_store Tryz.prog _ ⟨b, 1, none⟩ _ _ hy]
  simp [c1, f1, two]
theorem set41 (tb b : Nat) (x y u v : Value) (W : World) (hx : x.oneCell' = true) (hy : y.oneCell' = true) (hb : W.heap[b]? = some (.cells #[x, y] 84 (0, 0))) (ht : W.heap[tb]? = some (.cells #[u, v] 84 (0, 0))) :
    (ReflectliteValue.set #[.agg #[.pointer (some ⟨3, 84, none⟩), .pointer (some ⟨tb, 0, none⟩), .int .u64 409], .agg #[.pointer (some ⟨3, 84, none⟩), .pointer (some ⟨b, 0, none⟩), .int .u64 153]]).run Tryz.prog W
      = .ok (.tuple #[]) (two W tb x y) := by
  change (ReflectliteValue.parts _ >>= _).run Tryz.prog W = _
  simp only [Array.getLit, List.getElem_toArray, List.getElem_cons_zero, List.getElem_cons_succ, Sem.run_bind, parts41a, parts41, Result.andThen]
  simp [ReflectliteValue.flagAddr, two_load isAgg41' size41' W b x y hb, Result.andThen, direct41, two_store size41' W tb x y u v hx hy ht]
set_option maxRecDepth 100000 in
set_option maxHeartbeats 4000000 in
theorem as_f (code place : Int) (tb a : Nat) (x y : Value) (w : World)
    (ht : w.heap[tb]? = some (.cells #[x, y] 84 (0, 0))) (ha : w.cell? ⟨a, 0, none⟩ = some (.pointer (some ⟨tb, 0, none⟩))) (hal : a < w.heap.size) :
    Calls Tryz.prog 60 #[bare code place, .iface 140 (.pointer (some ⟨tb, 0, none⟩)), .agg #[.pointer (some ⟨3, 140, none⟩), .pointer (some ⟨a, 0, none⟩), .int .u64 150], .iface 172 (.agg #[.pointer (some ⟨3, 84, none⟩)])] w
      fun e w' => e = .returned (.bool true) ∧ w.grownBy w' (some tb) ∧ w'.heap[tb]? = some (.cells #[.int .i64 code, .int .i64 place] 84 (0, 0)) := by
  have h25 := @run_callFunc_extern Tryz.prog 57 _ (fun args => ReflectliteValue.unpack (args.getD 0 (.tuple #[]))) Tryz.func57 (by kernel_rfl) (by kernel_rfl) (by kernel_rfl) (by kernel_rfl)
  have h30 := @run_callFunc_extern Tryz.prog 85 _ ReflectliteType.typeOf Tryz.func85 (by kernel_rfl) (by kernel_rfl) (by kernel_rfl) (by kernel_rfl)
  have h62 := @run_callFunc_extern Tryz.prog 229 _ (ReflectliteType.relation "AssignableTo" ReflectliteType.assignableTo) Tryz.func229 (by kernel_rfl) (by kernel_rfl) (by kernel_rfl) (by kernel_rfl)
  have h34 := @run_callFunc_extern Tryz.prog 103 _ (ReflectliteValue.method (ReflectliteValue.valueError "reflectlite.Value.Elem" 0) ReflectliteValue.elem) Tryz.func103 (by kernel_rfl) (by kernel_rfl) (by kernel_rfl) (by kernel_rfl)
  have h35 := @run_callFunc_extern Tryz.prog 104 _ ReflectliteValue.set Tryz.func104 (by kernel_rfl) (by kernel_rfl) (by kernel_rfl) (by kernel_rfl)
  have tO := typeOf41
  have mA := methodAssignableTo
  have a41 := assignable41_41
  have v41 := valueOf41
  have HT := Lib.hid (And.intro ht (And.intro ha hal))
  clear ht ha hal
  go_enter Tryz.func60, Tryz.ntmps60
  go_wp2_with fail
  go_loopg [0] 0 (fun gk v wr => v = bare code place ∧ Hid (Below (w.heap.size + 1) (w.alloc (.cells #[.pointer (some ⟨3, 140, none⟩), .pointer (some ⟨a, 0, none⟩), .int .u64 150] 130)) wr))
  case atStart => exact ⟨rfl, Below.refl _ _⟩
  case round =>
    obtain ⟨rfl, HB⟩ := hrel
    have c0 : wr.cell? ⟨w.heap.size, 0, none⟩ = some (.pointer (some ⟨3, 140, none⟩)) := by rw [HB.out.cell (Nat.lt_succ_self _)]; simp
    have c1 : wr.cell? ⟨w.heap.size, 1, none⟩ = some (.pointer (some ⟨a, 0, none⟩)) := by rw [HB.out.cell (Nat.lt_succ_self _)]; simp
    have c2 : wr.cell? ⟨w.heap.size, 2, none⟩ = some (.int .u64 150) := by rw [HB.out.cell (Nat.lt_succ_self _)]; simp
    have ca : wr.cell? ⟨a, 0, none⟩ = some (.pointer (some ⟨tb, 0, none⟩)) := by
      rw [HB.out.cell (Nat.lt_succ_of_lt HT.out.2.2), World.cell?_alloc_lt _ _ ⟨a, 0, none⟩ HT.out.2.2]; exact HT.out.2.1
    have el := elemV56 ⟨a, 0, none⟩ ⟨tb, 0, none⟩ wr ca
    have htw : wr.heap[tb]? = some (.cells #[x, y] 84 (0, 0)) := by
      have l := fresh0 HT.out.1
      rw [HB.out.block tb (by omega), Below.heap_alloc _ _ _ l]; exact HT.out.1
    have hlt := fresh0 htw
    have st := set41 tb wr.heap.size (.int .i64 code) (.int .i64 place) x y (wr.alloc (.cells #[.int .i64 code, .int .i64 place] 84)) rfl rfl (heap_alloc_new wr _) (by rw [Below.heap_alloc _ _ _ hlt]; exact htw)
    have HW := Lib.hid htw
    clear htw ca hlt
    unfold bare
    go_wp2_with fail
    go_ret
    have hb : Below w.heap.size w (wr.alloc (.cells #[.int .i64 code, .int .i64 place] 84)) := by
      have h1 := HB.out.mono (Nat.le_succ _)
      have h2 := ((Below.refl _ w).alloc (Nat.le_refl _) _).trans h1
      exact h2.alloc h2.size _
    refine ⟨rfl, two_grown hb, two_heap (u := x) (v := y) ?_⟩
    rw [Below.heap_alloc _ _ _ (fresh0 HW.out)]; exact HW.out

/-- The library's variable for the type error, as the program's text lays it. -/
def Glob (w : World) : Prop := w.cell? ⟨0, 0, none⟩ = some (.iface 172 (.agg #[.pointer (some ⟨3, 29, none⟩)]))
theorem Glob.pos {w : World} (h : Glob w) : 0 < w.heap.size := World.block_lt_of_cell? w _ h
theorem Glob.below {B : Nat} {w w' : World} (h : Glob w) (hb : Below B w w') (hB : 0 < B) : Glob w' := (hb.cell (by exact hB)).trans h
theorem Glob.alloc {w : World} (h : Glob w) (o : Obj) : Glob (w.alloc o) := (World.cell?_alloc_lt _ _ ⟨0, 0, none⟩ h.pos).trans h

theorem as_nil (t : Value) (w : World) :
    Calls Tryz.prog 28 #[.nilIface, t] w fun e w' => e = .returned (.bool false) ∧ w' = w := by
  go_enter Tryz.func28, Tryz.ntmps28
  go_wp2
  go_ret
  exact ⟨rfl, rfl⟩

theorem grown_after {w w1 w2 : World} {b : Nat} (h : Below w.heap.size w w1) (g : w1.grownBy w2 (some b)) : w.grownBy w2 (some b) :=
  ⟨g.os.trans h.os, g.tape.trans h.tape, g.output.trans h.output, Nat.le_trans h.size g.size, fun k hk hne => (g.block k (Nat.lt_of_lt_of_le hk h.size) hne).trans (h.block k hk)⟩

set_option maxRecDepth 100000 in
set_option maxHeartbeats 4000000 in
theorem As_f (code place : Int) (tb : Nat) (x y : Value) (w : World) (hg : Glob w)
    (ht : w.heap[tb]? = some (.cells #[x, y] 84 (0, 0))) :
    Calls Tryz.prog 28 #[bare code place, .iface 140 (.pointer (some ⟨tb, 0, none⟩))] w
      fun e w' => e = .returned (.bool true) ∧ w.grownBy w' (some tb) ∧ w'.heap[tb]? = some (.cells #[.int .i64 code, .int .i64 place] 84 (0, 0)) := by
  have h25 := @run_callFunc_extern Tryz.prog 57 _ (fun args => ReflectliteValue.unpack (args.getD 0 (.tuple #[]))) Tryz.func57 (by kernel_rfl) (by kernel_rfl) (by kernel_rfl) (by kernel_rfl)
  have h26 := @run_callFunc_extern Tryz.prog 58 _ (ReflectliteValue.methodAny (ReflectliteValue.valueError "reflectlite.Value.Type" 0) (fun t _ _ _ => ReflectliteType.toType t)) Tryz.func58 (by kernel_rfl) (by kernel_rfl) (by kernel_rfl) (by kernel_rfl)
  have h27 := @run_callFunc_extern Tryz.prog 59 _ (ReflectliteValue.method (ReflectliteValue.valueError "reflectlite.Value.IsNil" 0) ReflectliteValue.isNil) Tryz.func59 (by kernel_rfl) (by kernel_rfl) (by kernel_rfl) (by kernel_rfl)
  have h50 := @run_callFunc_extern Tryz.prog 218 _ (ReflectliteType.abiMethod fun t => do pure (.int .u8 (← Rtype.kind t))) Tryz.func218 (by kernel_rfl) (by kernel_rfl) (by kernel_rfl) (by kernel_rfl)
  have h64 := @run_callFunc_extern Tryz.prog 231 _ (ReflectliteType.method ReflectliteType.elem) Tryz.func231 (by kernel_rfl) (by kernel_rfl) (by kernel_rfl) (by kernel_rfl)
  have h65 := @run_callFunc_extern Tryz.prog 232 _ (ReflectliteType.relation "Implements" ReflectliteType.implements_) Tryz.func232 (by kernel_rfl) (by kernel_rfl) (by kernel_rfl) (by kernel_rfl)
  have f6 := valueOf56
  have f7 := type56
  have mK := methodKind
  have mE := methodElem
  have mI := methodImplements
  have k56 := kind56
  have k41 := kind41
  have e56 := elem56
  have i41 := implements41
  have n8 := isNil56 ⟨w.heap.size, 0, none⟩ ⟨tb, 0, none⟩ ((w.alloc (.cells #[.pointer (some ⟨tb, 0, none⟩)] 140)).alloc (.cells #[.pointer (some ⟨3, 140, none⟩), .pointer (some ⟨w.heap.size, 0, none⟩), .int .u64 150] 130)) (by simp)
  have hg2 : ((w.alloc (.cells #[.pointer (some ⟨tb, 0, none⟩)] 140)).alloc (.cells #[.pointer (some ⟨3, 140, none⟩), .pointer (some ⟨w.heap.size, 0, none⟩), .int .u64 150] 130)).cell? ⟨0, 0, none⟩ = some (.iface 172 (.agg #[.pointer (some ⟨3, 29, none⟩)])) := (hg.alloc _).alloc _
  have hb : Below w.heap.size w ((w.alloc (.cells #[.pointer (some ⟨tb, 0, none⟩)] 140)).alloc (.cells #[.pointer (some ⟨3, 140, none⟩), .pointer (some ⟨w.heap.size, 0, none⟩), .int .u64 150] 130)) := ((Below.refl _ w).alloc (Nat.le_refl _) _).alloc (by simp) _
  have HT := Lib.hid (And.intro ht hb)
  clear ht hg hb
  obtain ⟨T, v, hE⟩ : ∃ T v, bare code place = .iface T v := ⟨_, _, rfl⟩
  have HE := Lib.hid hE
  rw [hE]
  clear hE
  go_enter Tryz.func28, Tryz.ntmps28
  go_wp2_with fail
  rw [← HE.out]
  refine (as_f code place tb w.heap.size x y _ (by rw [HT.out.2.block tb (fresh0 HT.out.1)]; exact HT.out.1) (by simp) (by simp; omega)).mono ?_
  rintro e w1 ⟨rfl, hgr, hh⟩
  have H1 := Lib.hid (And.intro (grown_after HT.out.2 hgr) hh)
  clear hgr hh
  go_wp2_with fail
  go_ret
  exact ⟨rfl, H1.out⟩

theorem int_beq {x y : Int} (h : ¬ x = y) : (x == y) = false := by simpa using h
theorem new_ok (place : Int) (w : World) : Calls Tryz.prog 26 #[.int .i64 0, .int .i64 place] w fun e w' => e = .returned .nilIface ∧ w = w' := by
  go_enter Tryz.func26, Tryz.ntmps26
  go_wp2_with fail
  go_ret
  exact ⟨rfl, rfl⟩
theorem new_v (code place : Int) (hc : ¬ code = 0) (w : World) : Calls Tryz.prog 26 #[.int .i64 code, .int .i64 place] w fun e w' => e = .returned (bare code place) ∧ w = w' := by
  have h := int_beq hc
  go_enter Tryz.func26, Tryz.ntmps26
  go_wp2_with fail
  go_ret
  exact ⟨rfl, rfl⟩
theorem alloc_zero (w : World) : (w.alloc (.cells #[.int .i64 0, .int .i64 0] 84)).heap[w.heap.size]? = some (.cells #[.int .i64 0, .int .i64 0] 84 (0, 0)) := heap_alloc_new w _
set_option maxHeartbeats 1000000 in
theorem inmost_nil (w : World) : Calls Tryz.prog 31 #[.nilIface] w fun e w' => e = .returned (.agg #[.int .i64 0, .int .i64 0]) ∧ Below w.heap.size w w' := by
  have hb : Below w.heap.size w (((w.alloc (.cells #[.int .i64 0, .int .i64 0] 84)).alloc (.cells #[.int .i64 0, .int .i64 0] 84))) := ((Below.refl _ w).alloc (Nat.le_refl _) _).alloc (by simp) _
  have HB := Lib.hid hb
  clear hb
  go_enter Tryz.func31, Tryz.ntmps31
  go_wp2_with fail
  refine (as_nil _ _).mono ?_
  rintro e w1 ⟨rfl, rfl⟩
  go_wp2_with fail
  have hz : ((w.alloc (.cells #[.int .i64 0, .int .i64 0] 84)).alloc (.cells #[.int .i64 0, .int .i64 0] 84)).heap[w.heap.size]? = some (.cells #[.int .i64 0, .int .i64 0] 84 (0, 0)) := by
    rw [Below.heap_alloc _ _ _ (by simp)]; exact alloc_zero w
  refine bodyPost_ret (results_cell_row (fn := Tryz.f31) rfl _ _ w.heap.size 84 #[.int .i64 0, .int .i64 0] (0, 0) _ rfl hz Tryz.underlying84 rfl (by kernel_rfl)) rfl ?_
  exact ⟨rfl, HB.out⟩
set_option maxHeartbeats 1000000 in
theorem inmost_v (code place : Int) (w : World) (hg : Glob w) : Calls Tryz.prog 31 #[bare code place] w fun e w' => e = .returned (.agg #[.int .i64 code, .int .i64 place]) ∧ Below w.heap.size w w' := by
  have hb : Below w.heap.size w (((w.alloc (.cells #[.int .i64 0, .int .i64 0] 84)).alloc (.cells #[.int .i64 0, .int .i64 0] 84))) := ((Below.refl _ w).alloc (Nat.le_refl _) _).alloc (by simp) _
  have HG := Lib.hid hg
  have HB := Lib.hid hb
  clear hg hb
  go_enter Tryz.func31, Tryz.ntmps31
  go_wp2_with fail
  refine (As_f code place (w.heap.size + 1) (.int .i64 0) (.int .i64 0) _ ((HG.out.alloc _).alloc _) (by have := alloc_zero (w.alloc (.cells #[.int .i64 0, .int .i64 0] 84)); simpa using this)).mono ?_
  rintro e w1 ⟨rfl, hgr, hh⟩
  have c0 : w1.cell? ⟨w.heap.size + 1, 0, none⟩ = some (.int .i64 code) := by rw [Lib.cell_of_heap hh]; rfl
  have c1 : w1.cell? ⟨w.heap.size + 1, 1, none⟩ = some (.int .i64 place) := by rw [Lib.cell_of_heap hh]; rfl
  have hr : w1.heap[w.heap.size]? = some (.cells #[.int .i64 0, .int .i64 0] 84 (0, 0)) := by
    rw [hgr.block _ (by simp; omega) (by simp), Below.heap_alloc _ _ _ (by simp)]; exact alloc_zero w
  have r0 : w1.cell? ⟨w.heap.size, 0, none⟩ = some (.int .i64 0) := by rw [Lib.cell_of_heap hr]; rfl
  have r1 : w1.cell? ⟨w.heap.size, 1, none⟩ = some (.int .i64 0) := by rw [Lib.cell_of_heap hr]; rfl
  have z0 : w1.frozen? ⟨w.heap.size, 0, none⟩ = false := Lib.frozen_of_heap hr 0
  have z1 : w1.frozen? ⟨w.heap.size, 1, none⟩ = false := Lib.frozen_of_heap hr 1
  have H1 := Lib.hid (HB.out.grown hgr (by simp; omega) (fun k hk => by injection hk; omega))
  have HR := Lib.hid hr
  clear hgr hh hr
  go_wp2_with fail
  refine bodyPost_ret (results_cell_row (fn := Tryz.f31) rfl _ _ w.heap.size 84 #[.int .i64 code, .int .i64 place] (0, 0) _ rfl (two_heap HR.out) Tryz.underlying84 rfl (by kernel_rfl)) rfl ?_
  exact ⟨rfl, (H1.out.setCell (Nat.le_refl _) _).setCell (Nat.le_refl _) _⟩
theorem field0 (x y : Int) (w : World) : (Instr.field 84 (.agg #[.int .i64 x, .int .i64 y]) 0).run Tryz.prog w = .ok (.int .i64 x) w := by kernel_rfl
theorem field1 (x y : Int) (w : World) : (Instr.field 84 (.agg #[.int .i64 x, .int .i64 y]) 1).run Tryz.prog w = .ok (.int .i64 y) w := by kernel_rfl
theorem of_nil (w : World) : Calls Tryz.prog 12 #[.nilIface] w fun e w' => e = .returned (.int .i64 0) ∧ Below w.heap.size w w' := by
  have hf := field0
  go_enter Tryz.func12, Tryz.ntmps12
  go_wp2_with fail
  refine (inmost_nil _).mono ?_
  rintro e w1 ⟨rfl, hb⟩
  have H1 := Lib.hid hb
  clear hb
  go_wp2_with fail
  go_ret
  exact ⟨rfl, H1.out⟩
theorem of_v (code place : Int) (w : World) (hg : Glob w) : Calls Tryz.prog 12 #[bare code place] w fun e w' => e = .returned (.int .i64 code) ∧ Below w.heap.size w w' := by
  have HG := Lib.hid hg
  clear hg
  have hf := field0
  go_enter Tryz.func12, Tryz.ntmps12
  go_wp2_with fail
  refine (inmost_v code place _ HG.out).mono ?_
  rintro e w1 ⟨rfl, hb⟩
  have H1 := Lib.hid hb
  clear hb
  go_wp2_with fail
  go_ret
  exact ⟨rfl, H1.out⟩
theorem at_nil (w : World) : Calls Tryz.prog 13 #[.nilIface] w fun e w' => e = .returned (.int .i64 0) ∧ Below w.heap.size w w' := by
  have hf := field1
  go_enter Tryz.func13, Tryz.ntmps13
  go_wp2_with fail
  refine (inmost_nil _).mono ?_
  rintro e w1 ⟨rfl, hb⟩
  have H1 := Lib.hid hb
  clear hb
  go_wp2_with fail
  go_ret
  exact ⟨rfl, H1.out⟩
theorem at_v (code place : Int) (w : World) (hg : Glob w) : Calls Tryz.prog 13 #[bare code place] w fun e w' => e = .returned (.int .i64 place) ∧ Below w.heap.size w w' := by
  have HG := Lib.hid hg
  clear hg
  have hf := field1
  go_enter Tryz.func13, Tryz.ntmps13
  go_wp2_with fail
  refine (inmost_v code place _ HG.out).mono ?_
  rintro e w1 ⟨rfl, hb⟩
  have H1 := Lib.hid hb
  clear hb
  go_wp2_with fail
  go_ret
  exact ⟨rfl, H1.out⟩
end Go.Proofs.YtbpichjmkllfaaaGreatDoor.Fau

/- What the program's Letter and Sign answer, and the document's Letter. -/
namespace Go.Proofs.YtbpichjmkllfaaaGreatDoor.Nam
open Go.ChangeShapes Go.WideShapes Go.RowKit
set_option linter.unusedVariables false

theorem len_list (s : ByteArray) : s.data.toList.length = s.size := rfl
theorem nat_beq {c : UInt8} {n : Nat} (h : c.toNat = n) : ((c.toNat : Int) == (n : Int)) = true := by rw [beq_iff_eq]; omega
theorem nat_bne {c : UInt8} {n : Nat} (h : c.toNat ≠ n) : ((c.toNat : Int) == (n : Int)) = false := by rw [beq_eq_false_iff_ne]; omega
theorem ret_b {x y : Bool} (h : x = y) : Ending.returned (.bool x) = .returned (.bool y) := by rw [h]
theorem letter_yes {c : UInt8} (h : (97 ≤ c.toNat ∧ c.toNat ≤ 122) ∨ c.toNat = 95) : letter c = true := by unfold letter; simp; exact h
theorem letter_no {c : UInt8} (h : ¬ ((97 ≤ c.toNat ∧ c.toNat ≤ 122) ∨ c.toNat = 95)) : letter c = false := by
  unfold letter; rw [Bool.or_eq_false_iff, decide_eq_false_iff_not, decide_eq_false_iff_not]; exact ⟨fun k => h (.inl k), fun k => h (.inr k)⟩
theorem letter_v (c : UInt8) (b : Bool) (hb : letter c = b) (w : World) : Calls Tryz.prog 91 #[.int .u8 (c.toNat : Int)] w fun e w' => e = .returned (.bool b) ∧ w = w' := by
  have ways : (97 ≤ c.toNat ∧ c.toNat ≤ 122) ∨ c.toNat = 95 ∨ (c.toNat < 97 ∧ c.toNat ≠ 95) ∨ 122 < c.toNat := by omega
  rcases ways with ⟨h1, h2⟩ | h | ⟨h1, h2⟩ | h
  · rw [letter_yes (.inl ⟨h1, h2⟩)] at hb; subst hb
    go_enter Tryz.func91, Tryz.ntmps91
    go_wp2
    go_ret
    exact ⟨ret_b (by first | rfl | assumption | (rw [decide_eq_true_iff]; omega) | (rw [decide_eq_false_iff_not]; omega) | (rw [Bool.or_eq_false_iff, decide_eq_false_iff_not, beq_eq_false_iff_ne]; omega)), rfl⟩
  · rw [letter_yes (.inr h)] at hb; subst hb
    have c1 := nat_beq h
    have h1 : c.toNat < 97 := by omega
    have h2 : c.toNat ≤ 122 := by omega
    clear h
    go_enter Tryz.func91, Tryz.ntmps91
    go_wp2
    go_ret
    exact ⟨ret_b (by first | rfl | assumption | (rw [decide_eq_true_iff]; omega) | (rw [decide_eq_false_iff_not]; omega) | (rw [Bool.or_eq_false_iff, decide_eq_false_iff_not, beq_eq_false_iff_ne]; omega)), rfl⟩
  · rw [letter_no (by omega)] at hb; subst hb
    have c1 := nat_bne h2
    clear h2
    go_enter Tryz.func91, Tryz.ntmps91
    go_wp2
    go_ret
    exact ⟨ret_b (by first | rfl | assumption | (rw [decide_eq_true_iff]; omega) | (rw [decide_eq_false_iff_not]; omega) | (rw [Bool.or_eq_false_iff, decide_eq_false_iff_not, beq_eq_false_iff_ne]; omega)), rfl⟩
  · rw [letter_no (by omega)] at hb; subst hb
    have c1 : ((c.toNat : Int) == ((95 : Nat) : Int)) = false := nat_bne (by omega)
    have h1 : 97 ≤ c.toNat := by omega
    go_enter Tryz.func91, Tryz.ntmps91
    go_wp2
    go_ret
    exact ⟨ret_b (by first | rfl | assumption | (rw [decide_eq_true_iff]; omega) | (rw [decide_eq_false_iff_not]; omega) | (rw [Bool.or_eq_false_iff, decide_eq_false_iff_not, beq_eq_false_iff_ne]; omega)), rfl⟩
theorem refletter_v (c : UInt8) (b : Bool) (hb : letter c = b) (w : World) : Calls Tryz.prog 112 #[.int .u8 (c.toNat : Int)] w fun e w' => e = .returned (.bool b) ∧ w = w' := by
  have ways : (97 ≤ c.toNat ∧ c.toNat ≤ 122) ∨ c.toNat = 95 ∨ (c.toNat < 97 ∧ c.toNat ≠ 95) ∨ 122 < c.toNat := by omega
  rcases ways with ⟨h1, h2⟩ | h | ⟨h1, h2⟩ | h
  · rw [letter_yes (.inl ⟨h1, h2⟩)] at hb; subst hb
    go_enter Tryz.func112, Tryz.ntmps112
    go_wp2
    go_ret
    exact ⟨ret_b (by first | rfl | assumption | (rw [decide_eq_true_iff]; omega) | (rw [decide_eq_false_iff_not]; omega) | (rw [Bool.or_eq_false_iff, decide_eq_false_iff_not, beq_eq_false_iff_ne]; omega)), rfl⟩
  · rw [letter_yes (.inr h)] at hb; subst hb
    have c1 := nat_beq h
    have h1 : c.toNat < 97 := by omega
    have h2 : c.toNat ≤ 122 := by omega
    clear h
    go_enter Tryz.func112, Tryz.ntmps112
    go_wp2
    go_ret
    exact ⟨ret_b (by first | rfl | assumption | (rw [decide_eq_true_iff]; omega) | (rw [decide_eq_false_iff_not]; omega) | (rw [Bool.or_eq_false_iff, decide_eq_false_iff_not, beq_eq_false_iff_ne]; omega)), rfl⟩
  · rw [letter_no (by omega)] at hb; subst hb
    have c1 := nat_bne h2
    clear h2
    go_enter Tryz.func112, Tryz.ntmps112
    go_wp2
    go_ret
    exact ⟨ret_b (by first | rfl | assumption | (rw [decide_eq_true_iff]; omega) | (rw [decide_eq_false_iff_not]; omega) | (rw [Bool.or_eq_false_iff, decide_eq_false_iff_not, beq_eq_false_iff_ne]; omega)), rfl⟩
  · rw [letter_no (by omega)] at hb; subst hb
    have c1 : ((c.toNat : Int) == ((95 : Nat) : Int)) = false := nat_bne (by omega)
    have h1 : 97 ≤ c.toNat := by omega
    go_enter Tryz.func112, Tryz.ntmps112
    go_wp2
    go_ret
    exact ⟨ret_b (by first | rfl | assumption | (rw [decide_eq_true_iff]; omega) | (rw [decide_eq_false_iff_not]; omega) | (rw [Bool.or_eq_false_iff, decide_eq_false_iff_not, beq_eq_false_iff_ne]; omega)), rfl⟩
theorem sign_v (c : UInt8) (b : Bool) (hb : sign c = b) (w : World) : Calls Tryz.prog 149 #[.int .u8 (c.toNat : Int)] w fun e w' => e = .returned (.bool b) ∧ w = w' := by
  obtain ⟨x, hx⟩ : ∃ x, letter c = x := ⟨_, rfl⟩
  have HX := Lib.hid hx
  cases x
  · have hs : sign c = decide (48 ≤ c.toNat ∧ c.toNat ≤ 57) := by unfold sign; rw [hx]; rfl
    rw [hs] at hb
    clear hs hx
    have ways : (48 ≤ c.toNat ∧ c.toNat ≤ 57) ∨ c.toNat < 48 ∨ 57 < c.toNat := by omega
    rcases ways with h | h | h
    · rw [decide_eq_true h] at hb; subst hb
      obtain ⟨h1, h2⟩ := h
      go_enter Tryz.func149, Tryz.ntmps149
      go_wp2_with fail
      refine (letter_v c _ HX.out _).mono ?_
      rintro e w1 ⟨rfl, rfl⟩
      go_wp2_with fail
      go_ret
      exact ⟨ret_b (by first | rfl | assumption | (rw [decide_eq_true_iff]; omega) | (rw [decide_eq_false_iff_not]; omega) | (rw [Bool.or_eq_false_iff, decide_eq_false_iff_not, beq_eq_false_iff_ne]; omega)), rfl⟩
    · rw [decide_eq_false (by omega)] at hb; subst hb
      go_enter Tryz.func149, Tryz.ntmps149
      go_wp2_with fail
      refine (letter_v c _ HX.out _).mono ?_
      rintro e w1 ⟨rfl, rfl⟩
      go_wp2_with fail
      go_ret
      exact ⟨ret_b (by first | rfl | assumption | (rw [decide_eq_true_iff]; omega) | (rw [decide_eq_false_iff_not]; omega) | (rw [Bool.or_eq_false_iff, decide_eq_false_iff_not, beq_eq_false_iff_ne]; omega)), rfl⟩
    · rw [decide_eq_false (by omega)] at hb; subst hb
      have h1 : 48 ≤ c.toNat := by omega
      go_enter Tryz.func149, Tryz.ntmps149
      go_wp2_with fail
      refine (letter_v c _ HX.out _).mono ?_
      rintro e w1 ⟨rfl, rfl⟩
      go_wp2_with fail
      go_ret
      exact ⟨ret_b (by first | rfl | assumption | (rw [decide_eq_true_iff]; omega) | (rw [decide_eq_false_iff_not]; omega) | (rw [Bool.or_eq_false_iff, decide_eq_false_iff_not, beq_eq_false_iff_ne]; omega)), rfl⟩
  · rw [letter_sign hx] at hb; subst hb
    clear hx
    go_enter Tryz.func149, Tryz.ntmps149
    go_wp2_with fail
    refine (letter_v c _ HX.out _).mono ?_
    rintro e w1 ⟨rfl, rfl⟩
    go_wp2_with fail
    go_ret
    exact ⟨ret_b (by first | rfl | assumption | (rw [decide_eq_true_iff]; omega) | (rw [decide_eq_false_iff_not]; omega) | (rw [Bool.or_eq_false_iff, decide_eq_false_iff_not, beq_eq_false_iff_ne]; omega)), rfl⟩
end Go.Proofs.YtbpichjmkllfaaaGreatDoor.Nam

/- What the program's Scan and Right answer. -/
namespace Go.Proofs.YtbpichjmkllfaaaGreatDoor.Nam
open Go.ChangeShapes Go.WideShapes Go.RowKit
set_option linter.unusedVariables false

theorem at_list (s : ByteArray) (a : Nat) (h : a < s.size) : s.data.toList[a]'(by rw [len_list]; exact h) = s[a] := by
  rw [ByteArray.getElem_eq_getElem_data]; simp
theorem scan_far (s : ByteArray) (z : Int) (h : z < 0 ∨ (s.size : Int) ≤ z) (w : World) : Calls Tryz.prog 129 #[.string s, .int .i64 z] w fun e w' => e = .returned (.int .i64 z) ∧ w = w' := by
  by_cases h0 : z < 0
  · have h1 : decide (z < 0) = true := by rw [decide_eq_true_iff]; exact h0
    clear h
    go_enter Tryz.func129, Tryz.ntmps129
    go_wp2_with fail
    go_ret
    exact ⟨rfl, rfl⟩
  · have h1 : (s.size : Int) ≤ z := by omega
    have h2 : 0 ≤ z := by omega
    clear h h0
    go_enter Tryz.func129, Tryz.ntmps129
    go_wp2_with fail
    go_ret
    exact ⟨rfl, rfl⟩
theorem scan_no (s : ByteArray) (a : Nat) (h : a < s.size) (hc : letter s[a] = false) (w : World) : Calls Tryz.prog 129 #[.string s, .int .i64 (a : Int)] w fun e w' => e = .returned (.int .i64 (a : Int)) ∧ w = w' := by
  have HC := Lib.hid hc
  have h1 : decide ((a : Int) < 0) = false := by rw [decide_eq_false_iff_not]; omega
  have h2 : decide (s.size ≤ a) = false := by rw [decide_eq_false_iff_not]; omega
  have h3 : (a : Int) < (s.size : Int) := by omega
  clear hc
  go_enter Tryz.func129, Tryz.ntmps129
  go_wp2_with fail
  refine (letter_v s[a] _ HC.out _).mono ?_
  rintro e w1 ⟨rfl, rfl⟩
  go_wp2_with fail
  go_ret
  exact ⟨rfl, rfl⟩
theorem ret_i {x y : Int} {k : IntKind} (h : x = y) : Ending.returned (.int k x) = .returned (.int k y) := by rw [h]
set_option maxHeartbeats 400000 in
theorem scan_yes (s : ByteArray) (a y : Nat) (hs : s.size ≤ 9223372036854775806) (h : a < s.size) (hc : letter s[a] = true) (hy : a + run (s.data.toList.drop a) = y) (w : World) : Calls Tryz.prog 129 #[.string s, .int .i64 (a : Int)] w fun e w' => e = .returned (.int .i64 (y : Int)) ∧ w = w' := by
  have HC := Lib.hid hc
  have HY := Lib.hid hy
  have h1 : decide ((a : Int) < 0) = false := by rw [decide_eq_false_iff_not]; omega
  have h2 : decide (s.size ≤ a) = false := by rw [decide_eq_false_iff_not]; omega
  have h3 : (a : Int) < (s.size : Int) := by omega
  clear hc hy
  go_enter Tryz.func129, Tryz.ntmps129
  go_wp2_with fail
  refine (letter_v s[a] _ HC.out _).mono ?_
  rintro e w1 ⟨rfl, rfl⟩
  go_wp2_with fail
  clear h1 h2
  go_loopg [1] (s.size - a) (fun gk x wr => ∃ n : Nat, n ≤ s.size ∧ x = .int .i64 (n : Int) ∧ Hid (gk = s.size - n ∧ n + run (s.data.toList.drop n) = y ∧ w = wr))
  case atStart => exact ⟨a, by omega, rfl, rfl, HY.out, rfl⟩
  case round =>
    obtain ⟨n, hn, rfl, HH⟩ := hrel
    by_cases hl : n < s.size
    · have hl' : (n : Int) < (s.size : Int) := by omega
      obtain ⟨b, hb⟩ : ∃ b, sign s[n] = b := ⟨_, rfl⟩
      have HB := Lib.hid hb
      cases b
      · clear hb
        go_wp2_with fail
        refine (sign_v s[n] _ HB.out _).mono ?_
        rintro e w1 ⟨rfl, rfl⟩
        go_wp2_with fail
        go_ret
        refine ⟨ret_i ?_, HH.out.2.2⟩
        have := HH.out.2.1
        rw [run_stop _ n (by rw [len_list]; exact hl) (by rw [at_list s n hl]; exact HB.out)] at this
        omega
      · clear hb
        go_wp2_with fail
        refine (sign_v s[n] _ HB.out _).mono ?_
        rintro e w1 ⟨rfl, rfl⟩
        go_wp2_with fail
        go_roundg (s.size - (n + 1))
        case measure => have := HH.out.1; omega
        case rel =>
          refine ⟨n + 1, by omega, by go_num, rfl, ?_, HH.out.2.2⟩
          have := HH.out.2.1
          rw [run_at _ n (by rw [len_list]; exact hl) (by rw [at_list s n hl]; exact HB.out)] at this
          exact this
    · obtain rfl : n = s.size := by omega
      clear hn
      go_wp2_with fail
      go_ret
      refine ⟨ret_i ?_, HH.out.2.2⟩
      have := HH.out.2.1
      rw [run_end _ _ (by rw [len_list]; exact Nat.le_refl _)] at this
      omega
/-- Where the name ends that begins at a place, whatever the place. -/
def scanZ (l : List UInt8) (z : Int) : Int := if z < 0 then z else (scan l z.toNat : Int)
theorem scan_v (s : ByteArray) (z y : Int) (hs : s.size ≤ 9223372036854775806) (hy : scanZ s.data.toList z = y) (w : World) : Calls Tryz.prog 129 #[.string s, .int .i64 z] w fun e w' => e = .returned (.int .i64 y) ∧ w = w' := by
  subst hy
  unfold scanZ
  by_cases h0 : z < 0
  · rw [if_pos h0]; exact scan_far s z (.inl h0) w
  · rw [if_neg h0]
    obtain ⟨a, rfl⟩ : ∃ a : Nat, z = a := ⟨z.toNat, by omega⟩
    rw [show ((a : Int)).toNat = a by omega]
    by_cases h1 : a < s.size
    · have hl : a < s.data.toList.length := by rw [len_list]; exact h1
      cases hc : letter s[a]
      · rw [scan_not _ a hl (by rw [at_list s a h1]; exact hc)]; exact scan_no s a h1 hc w
      · rw [scan_name _ a hl (by rw [at_list s a h1]; exact hc)]; exact scan_yes s a _ hs h1 hc rfl w
    · rw [scan_out _ a (by rw [len_list]; omega)]; exact scan_far s a (.inr (by omega)) w
end Go.Proofs.YtbpichjmkllfaaaGreatDoor.Nam

/- What the program's digit, twoDigits and piece answer. -/
namespace Go.Proofs.YtbpichjmkllfaaaGreatDoor.Quo
open Go.ChangeShapes Go.WideShapes Go.RowKit
set_option linter.unusedVariables false
set_option maxRecDepth 20000

theorem ret_two {a b : Int} {k l : IntKind} {c d : Int} (h : a = c) (h2 : b = d) : Ending.returned (.tuple #[.int k a, .int l b]) = .returned (.tuple #[.int k c, .int l d]) := by rw [h, h2]
theorem ret_ib {a : Int} {k : IntKind} {c : Int} {x : Bool} (h : a = c) : Ending.returned (.tuple #[.int k a, .bool x]) = .returned (.tuple #[.int k c, .bool x]) := by rw [h]
theorem digit_yes (c : UInt8) (h : dig c < 16) (w : World) : Calls Tryz.prog 173 #[.int .u8 (c.toNat : Int)] w fun e w' => e = .returned (.tuple #[.int .u8 (dig c : Int), .bool true]) ∧ w = w' := by
  have hl := c.toNat_lt
  obtain ⟨n, hn⟩ : ∃ n, dig c = n := ⟨_, rfl⟩
  rw [hn]
  by_cases h1 : 48 ≤ c.toNat ∧ c.toNat ≤ 57
  · have e : n = c.toNat - 48 := by rw [← hn]; unfold dig; rw [if_pos h1]
    obtain ⟨a1, a2⟩ := h1
    have H := Lib.hid e
    clear hn h e
    go_enter Tryz.func173, Tryz.ntmps173
    go_wp2
    go_ret2
    exact ⟨ret_ib (by have := H.out; omega), rfl⟩
  · by_cases h2 : 97 ≤ c.toNat ∧ c.toNat ≤ 102
    · have e : n = c.toNat - 87 := by rw [← hn]; unfold dig; rw [if_neg h1, if_pos h2]
      obtain ⟨a1, a2⟩ := h2
      have H := Lib.hid e
      clear hn h e h1
      go_enter Tryz.func173, Tryz.ntmps173
      go_wp2
      go_ret2
      exact ⟨ret_ib (by have := H.out; omega), rfl⟩
    · by_cases h3 : 65 ≤ c.toNat ∧ c.toNat ≤ 70
      · have e : n = c.toNat - 55 := by rw [← hn]; unfold dig; rw [if_neg h1, if_neg h2, if_pos h3]
        obtain ⟨a1, a2⟩ := h3
        have H := Lib.hid e
        clear hn h e h1 h2
        go_enter Tryz.func173, Tryz.ntmps173
        go_wp2
        go_ret2
        exact ⟨ret_ib (by have := H.out; omega), rfl⟩
      · unfold dig at h; rw [if_neg h1, if_neg h2, if_neg h3] at h; omega
theorem digit_no (c : UInt8) (h : ¬ dig c < 16) (w : World) : Calls Tryz.prog 173 #[.int .u8 (c.toNat : Int)] w fun e w' => e = .returned (.tuple #[.int .u8 0, .bool false]) ∧ w = w' := by
  have hl := c.toNat_lt
  have h1 : ¬ (48 ≤ c.toNat ∧ c.toNat ≤ 57) := fun k => h (by unfold dig; rw [if_pos k]; omega)
  have h2 : ¬ (97 ≤ c.toNat ∧ c.toNat ≤ 102) := fun k => h (by unfold dig; rw [if_neg h1, if_pos k]; omega)
  have h3 : ¬ (65 ≤ c.toNat ∧ c.toNat ≤ 70) := fun k => h (by unfold dig; rw [if_neg h1, if_neg h2, if_pos k]; omega)
  clear h
  have ways : c.toNat < 48 ∨ (57 < c.toNat ∧ c.toNat < 65) ∨ (70 < c.toNat ∧ c.toNat < 97) ∨ 102 < c.toNat := by omega
  clear h1 h2 h3
  rcases ways with a | ⟨a, b⟩ | ⟨a, b⟩ | a
  all_goals
    go_enter Tryz.func173, Tryz.ntmps173
    go_wp2
    go_ret2
    exact ⟨rfl, rfl⟩
end Go.Proofs.YtbpichjmkllfaaaGreatDoor.Quo
