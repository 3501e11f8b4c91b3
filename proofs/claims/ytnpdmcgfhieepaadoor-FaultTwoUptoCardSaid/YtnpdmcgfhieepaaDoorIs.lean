/- What errors.Is answers at a fault within parts and a fault's code. -/
import Derived.Test.YtnpdmcgfhieepaaDoorCore
import Derived.Laws.StructEq
namespace Go.Proofs.YtnpdmcgfhieepaaDoor
open Go.RowKit Go.Extern.Stop Go.Stop Go.Extern
set_option linter.unusedVariables false

theorem comp41 : (Tryd.prog.info? 41).map (·.comparable) = some true := by kernel_rfl
theorem fields41 : Tryd.prog.underlying 41 = some (.struct (Tryd.prog.fieldsOf 41)) := by kernel_rfl
theorem held41 : Tryd.prog.stoodInHeld 41 = false := by kernel_rfl
theorem part0 (x y : Int) (w : World) : (part 22 #[.int .i64 x, .int .i64 y] 0).run Tryd.prog w = .ok (.int .i64 x) w := by kernel_rfl
theorem part1 (x y : Int) (w : World) : (part 3 #[.int .i64 x, .int .i64 y] 1).run Tryd.prog w = .ok (.int .i64 y) w := by kernel_rfl
theorem names41 : (Tryd.prog.fieldsOf 41).toList.map (fun f => (f.name, f.type, f.offset)) = [("code", 22, 0), ("at", 3, 1)] := by kernel_rfl
theorem eqf (x y a b : Int) (w : World) (d : Nat) (fs : List Field) (h : fs.map (fun f => (f.name, f.type, f.offset)) = [("code", 22, 0), ("at", 3, 1)]) :
    (Op.eqFields (d + 1) #[.int .i64 x, .int .i64 y] #[.int .i64 a, .int .i64 b] fs).run Tryd.prog w = .ok (x == a && y == b) w := by
  obtain ⟨f, g, rfl⟩ : ∃ f g, fs = [f, g] := by
    have hl : fs.length = 2 := by have := congrArg List.length h; simpa using this
    match fs, hl with
    | [f, g], _ => exact ⟨f, g, rfl⟩
  · simp only [List.map_cons, List.map_nil, List.cons.injEq, Prod.mk.injEq] at h
    obtain ⟨⟨f1, f2, f3⟩, ⟨g1, g2, g3⟩, _⟩ := h
    simp [Op.eqFields, f1, f2, f3, g1, g2, g3, part0, part1, run_equalIn_int _ _ _ _ _ _ _ Tryd.underlying22, run_equalIn_int _ _ _ _ _ _ _ Tryd.underlying3, Result.andThen]
    cases h1 : x == a <;> cases h2 : y == b <;> simp_all
theorem eql41 (x y a b : Int) (w : World) : (binOp .eql 26 (.iface 41 (.agg #[.int .i64 x, .int .i64 y])) (.iface 41 (.agg #[.int .i64 a, .int .i64 b]))).run Tryd.prog w = .ok (.bool (x == a && y == b)) w := by
  obtain ⟨i, hi, hcmp⟩ := Option.map_eq_some_iff.1 comp41
  have h : ∀ d : Nat, (Op.equalIn (d + 3) 26 (.iface 41 (.agg #[.int .i64 x, .int .i64 y])) (.iface 41 (.agg #[.int .i64 a, .int .i64 b]))).run Tryd.prog w = .ok (x == a && y == b) w := fun d => by
    have k := run_equalIn_struct w (P := Tryd.prog) (d + 1) 41 #[.int .i64 x, .int .i64 y] #[.int .i64 a, .int .i64 b] fields41 held41
    rw [eqf x y a b w d _ names41] at k
    rw [Op.equalIn]
    simp [run_underlying Tryd.underlying26, typeInfo, hi, hcmp, k]
  simp only [binOp]
  simp [Op.equal, Op.maxDepth, h 9997]
theorem assert41 (v : Value) (w : World) : (Instr.typeAssert (.iface 41 v) 26 41 true).run Tryd.prog w = .ok (.tuple #[v, .bool true]) w := by kernel_rfl
theorem fis_v (x y a b : Int) (z : Bool) (hz : (a == x) = z) (w : World) :
    Calls Tryd.prog 54 #[.agg #[.int .i64 x, .int .i64 y], .iface 41 (.agg #[.int .i64 a, .int .i64 b])] w fun e w' => e = .returned (.bool z) ∧ Below w.heap.size w w' := by
  have hA := assert41
  have hb : Below w.heap.size w ((w.alloc (.cells #[.int .i64 x, .int .i64 y] 41)).alloc (.cells #[.int .i64 a, .int .i64 b] 41)) := ((Below.refl _ w).alloc (Nat.le_refl _) _).alloc (by simp) _
  have HB := Lib.hid hb
  clear hb
  go_enter Tryd.func54, Tryd.ntmps54
  go_wp2_with fail
  go_ret
  exact ⟨rfl, HB.out⟩
end Go.Proofs.YtnpdmcgfhieepaaDoor
