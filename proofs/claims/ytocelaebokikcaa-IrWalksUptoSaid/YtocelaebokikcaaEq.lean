/- Structs held against each other. -/
import Derived.Test.YtocelaebokikcaaData
import Derived.Laws.StructEq
import Derived.ChangeKeysEq
namespace Go.Proofs.Ytocelaebokikcaa
open Go.ChangeShapes Go.WideShapes Go.RowKit
set_option linter.unusedVariables false

theorem fields44 : Try.prog.underlying 44 = some (.struct (Try.prog.fieldsOf 44)) := by kernel_rfl
theorem held44 : Try.prog.stoodInHeld 44 = false := by kernel_rfl
theorem part44_0 (k c n t : Int) (w : World) : (part 3 #[.int .i64 k, .int .i64 c, .int .i64 n, .int .i64 t] 0).run Try.prog w = .ok (.int .i64 k) w := by kernel_rfl
theorem part44_1 (k c n t : Int) (w : World) : (part 3 #[.int .i64 k, .int .i64 c, .int .i64 n, .int .i64 t] 1).run Try.prog w = .ok (.int .i64 c) w := by kernel_rfl
theorem part44_2 (k c n t : Int) (w : World) : (part 3 #[.int .i64 k, .int .i64 c, .int .i64 n, .int .i64 t] 2).run Try.prog w = .ok (.int .i64 n) w := by kernel_rfl
theorem part44_3 (k c n t : Int) (w : World) : (part 3 #[.int .i64 k, .int .i64 c, .int .i64 n, .int .i64 t] 3).run Try.prog w = .ok (.int .i64 t) w := by kernel_rfl
theorem names44 : (Try.prog.fieldsOf 44).toList.map (fun f => (f.name, f.type, f.offset)) = [("Kind", 3, 0), ("Class", 3, 1), ("N", 3, 2), ("Tag", 3, 3)] := by kernel_rfl
theorem eqf44 (k c n t k' c' n' t' : Int) (w : World) (d : Nat) (fs : List Field) (h : fs.map (fun f => (f.name, f.type, f.offset)) = [("Kind", 3, 0), ("Class", 3, 1), ("N", 3, 2), ("Tag", 3, 3)]) :
    (Op.eqFields (d + 1) #[.int .i64 k, .int .i64 c, .int .i64 n, .int .i64 t] #[.int .i64 k', .int .i64 c', .int .i64 n', .int .i64 t'] fs).run Try.prog w = .ok (k == k' && (c == c' && (n == n' && (t == t')))) w := by
  obtain ⟨f0, f1, f2, f3, rfl⟩ : ∃ f0 f1 f2 f3, fs = [f0, f1, f2, f3] := by
    have hl : fs.length = 4 := by have := congrArg List.length h; simpa using this
    match fs, hl with
    | [f0, f1, f2, f3], _ => exact ⟨f0, f1, f2, f3, rfl⟩
  simp only [List.map_cons, List.map_nil, List.cons.injEq, Prod.mk.injEq] at h
  obtain ⟨⟨a0, b0, d0⟩, ⟨a1, b1, d1⟩, ⟨a2, b2, d2⟩, ⟨a3, b3, d3⟩, _⟩ := h
  simp [Op.eqFields, a0, b0, d0, a1, b1, d1, a2, b2, d2, a3, b3, d3, part44_0, part44_1, part44_2, part44_3, run_equalIn_int _ _ _ _ _ _ _ Try.underlying3, Result.andThen]
  clear a0 b0 d0 a1 b1 d1 a2 b2 d2 a3 b3 d3
  cases h0 : k == k' <;> cases h1 : c == c' <;> cases h2 : n == n' <;> cases h3 : t == t' <;> simp_all
theorem eqIn44 (k c n t k' c' n' t' : Int) (r : Bool) (hr : (k == k' && (c == c' && (n == n' && (t == t')))) = r) (W : World) : (Op.equalIn 10000 44 (.agg #[.int .i64 k, .int .i64 c, .int .i64 n, .int .i64 t]) (.agg #[.int .i64 k', .int .i64 c', .int .i64 n', .int .i64 t'])).run Try.prog W = .ok r W := by
  rw [run_equalIn_struct W (P := Try.prog) 9999 44 _ _ fields44 held44, eqf44 k c n t k' c' n' t' W 9998 _ names44, hr]
theorem eql44 (k c n t k' c' n' t' : Int) (r : Bool) (hr : (k == k' && (c == c' && (n == n' && (t == t')))) = r) (W : World) : (binOp .eql 44 (.agg #[.int .i64 k, .int .i64 c, .int .i64 n, .int .i64 t]) (.agg #[.int .i64 k', .int .i64 c', .int .i64 n', .int .i64 t'])).run Try.prog W = .ok (.bool r) W := by
  rw [run_eql_struct, eqIn44 k c n t k' c' n' t' r hr W]; rfl
theorem neq44 (k c n t k' c' n' t' : Int) (r : Bool) (hr : (k == k' && (c == c' && (n == n' && (t == t')))) = !r) (W : World) : (binOp .neq 44 (.agg #[.int .i64 k, .int .i64 c, .int .i64 n, .int .i64 t]) (.agg #[.int .i64 k', .int .i64 c', .int .i64 n', .int .i64 t'])).run Try.prog W = .ok (.bool r) W := by
  rw [run_neq_struct, eqIn44 k c n t k' c' n' t' _ hr W]; cases r <;> rfl
theorem fields71 : Try.prog.underlying 71 = some (.struct (Try.prog.fieldsOf 71)) := by kernel_rfl
theorem held71 : Try.prog.stoodInHeld 71 = false := by kernel_rfl
theorem part71_0 (k c : Int) (w : World) : (part 3 #[.int .i64 k, .int .i64 c] 0).run Try.prog w = .ok (.int .i64 k) w := by kernel_rfl
theorem part71_1 (k c : Int) (w : World) : (part 3 #[.int .i64 k, .int .i64 c] 1).run Try.prog w = .ok (.int .i64 c) w := by kernel_rfl
theorem names71 : (Try.prog.fieldsOf 71).toList.map (fun f => (f.name, f.type, f.offset)) = [("ID", 3, 0), ("Class", 3, 1)] := by kernel_rfl
theorem eqf71 (k c k' c' : Int) (w : World) (d : Nat) (fs : List Field) (h : fs.map (fun f => (f.name, f.type, f.offset)) = [("ID", 3, 0), ("Class", 3, 1)]) :
    (Op.eqFields (d + 1) #[.int .i64 k, .int .i64 c] #[.int .i64 k', .int .i64 c'] fs).run Try.prog w = .ok (k == k' && (c == c')) w := by
  obtain ⟨f0, f1, rfl⟩ : ∃ f0 f1, fs = [f0, f1] := by
    have hl : fs.length = 2 := by have := congrArg List.length h; simpa using this
    match fs, hl with
    | [f0, f1], _ => exact ⟨f0, f1, rfl⟩
  simp only [List.map_cons, List.map_nil, List.cons.injEq, Prod.mk.injEq] at h
  obtain ⟨⟨a0, b0, d0⟩, ⟨a1, b1, d1⟩, _⟩ := h
  simp [Op.eqFields, a0, b0, d0, a1, b1, d1, part71_0, part71_1, run_equalIn_int _ _ _ _ _ _ _ Try.underlying3, Result.andThen]
  clear a0 b0 d0 a1 b1 d1
  cases h0 : k == k' <;> cases h1 : c == c' <;> simp_all
theorem eqIn71 (k c k' c' : Int) (r : Bool) (hr : (k == k' && (c == c')) = r) (W : World) : (Op.equalIn 10000 71 (.agg #[.int .i64 k, .int .i64 c]) (.agg #[.int .i64 k', .int .i64 c'])).run Try.prog W = .ok r W := by
  rw [run_equalIn_struct W (P := Try.prog) 9999 71 _ _ fields71 held71, eqf71 k c k' c' W 9998 _ names71, hr]
theorem eql71 (k c k' c' : Int) (r : Bool) (hr : (k == k' && (c == c')) = r) (W : World) : (binOp .eql 71 (.agg #[.int .i64 k, .int .i64 c]) (.agg #[.int .i64 k', .int .i64 c'])).run Try.prog W = .ok (.bool r) W := by
  rw [run_eql_struct, eqIn71 k c k' c' r hr W]; rfl
theorem neq71 (k c k' c' : Int) (r : Bool) (hr : (k == k' && (c == c')) = !r) (W : World) : (binOp .neq 71 (.agg #[.int .i64 k, .int .i64 c]) (.agg #[.int .i64 k', .int .i64 c'])).run Try.prog W = .ok (.bool r) W := by
  rw [run_neq_struct, eqIn71 k c k' c' _ hr W]; cases r <;> rfl
theorem fields77 : Try.prog.underlying 77 = some (.struct (Try.prog.fieldsOf 77)) := by kernel_rfl
theorem held77 : Try.prog.stoodInHeld 77 = false := by kernel_rfl
theorem part77_0 (k c n : Int) (w : World) : (part 3 #[.int .i64 k, .int .i64 c, .int .i64 n] 0).run Try.prog w = .ok (.int .i64 k) w := by kernel_rfl
theorem part77_1 (k c n : Int) (w : World) : (part 3 #[.int .i64 k, .int .i64 c, .int .i64 n] 1).run Try.prog w = .ok (.int .i64 c) w := by kernel_rfl
theorem part77_2 (k c n : Int) (w : World) : (part 3 #[.int .i64 k, .int .i64 c, .int .i64 n] 2).run Try.prog w = .ok (.int .i64 n) w := by kernel_rfl
theorem names77 : (Try.prog.fieldsOf 77).toList.map (fun f => (f.name, f.type, f.offset)) = [("Kind", 3, 0), ("Class", 3, 1), ("N", 3, 2)] := by kernel_rfl
theorem eqf77 (k c n k' c' n' : Int) (w : World) (d : Nat) (fs : List Field) (h : fs.map (fun f => (f.name, f.type, f.offset)) = [("Kind", 3, 0), ("Class", 3, 1), ("N", 3, 2)]) :
    (Op.eqFields (d + 1) #[.int .i64 k, .int .i64 c, .int .i64 n] #[.int .i64 k', .int .i64 c', .int .i64 n'] fs).run Try.prog w = .ok (k == k' && (c == c' && (n == n'))) w := by
  obtain ⟨f0, f1, f2, rfl⟩ : ∃ f0 f1 f2, fs = [f0, f1, f2] := by
    have hl : fs.length = 3 := by have := congrArg List.length h; simpa using this
    match fs, hl with
    | [f0, f1, f2], _ => exact ⟨f0, f1, f2, rfl⟩
  simp only [List.map_cons, List.map_nil, List.cons.injEq, Prod.mk.injEq] at h
  obtain ⟨⟨a0, b0, d0⟩, ⟨a1, b1, d1⟩, ⟨a2, b2, d2⟩, _⟩ := h
  simp [Op.eqFields, a0, b0, d0, a1, b1, d1, a2, b2, d2, part77_0, part77_1, part77_2, run_equalIn_int _ _ _ _ _ _ _ Try.underlying3, Result.andThen]
  clear a0 b0 d0 a1 b1 d1 a2 b2 d2
  cases h0 : k == k' <;> cases h1 : c == c' <;> cases h2 : n == n' <;> simp_all
theorem fields89 : Try.prog.underlying 89 = some (.struct (Try.prog.fieldsOf 89)) := by kernel_rfl
theorem held89 : Try.prog.stoodInHeld 89 = false := by kernel_rfl
theorem part89_0 (v f t k c n : Int) (w : World) : (part 3 #[.int .i64 v, .int .i64 f, .int .i64 t, .int .i64 k, .int .i64 c, .int .i64 n] 0).run Try.prog w = .ok (.int .i64 v) w := by kernel_rfl
theorem part89_1 (v f t k c n : Int) (w : World) : (part 3 #[.int .i64 v, .int .i64 f, .int .i64 t, .int .i64 k, .int .i64 c, .int .i64 n] 1).run Try.prog w = .ok (.int .i64 f) w := by kernel_rfl
theorem part89_2 (v f t k c n : Int) (w : World) : (part 3 #[.int .i64 v, .int .i64 f, .int .i64 t, .int .i64 k, .int .i64 c, .int .i64 n] 2).run Try.prog w = .ok (.int .i64 t) w := by kernel_rfl
theorem part89_3 (v f t k c n : Int) (w : World) : (part 77 #[.int .i64 v, .int .i64 f, .int .i64 t, .int .i64 k, .int .i64 c, .int .i64 n] 3).run Try.prog w = .ok (.agg #[.int .i64 k, .int .i64 c, .int .i64 n]) w := by kernel_rfl
theorem names89 : (Try.prog.fieldsOf 89).toList.map (fun f => (f.name, f.type, f.offset)) = [("V", 3, 0), ("From", 3, 1), ("To", 3, 2), ("At", 77, 3)] := by kernel_rfl
theorem eqf89 (v f t k c n v' f' t' k' c' n' : Int) (w : World) (d : Nat) (fs : List Field) (h : fs.map (fun f => (f.name, f.type, f.offset)) = [("V", 3, 0), ("From", 3, 1), ("To", 3, 2), ("At", 77, 3)]) :
    (Op.eqFields (d + 3) #[.int .i64 v, .int .i64 f, .int .i64 t, .int .i64 k, .int .i64 c, .int .i64 n] #[.int .i64 v', .int .i64 f', .int .i64 t', .int .i64 k', .int .i64 c', .int .i64 n'] fs).run Try.prog w = .ok (v == v' && (f == f' && (t == t' && (k == k' && (c == c' && n == n'))))) w := by
  obtain ⟨f0, f1, f2, f3, rfl⟩ : ∃ f0 f1 f2 f3, fs = [f0, f1, f2, f3] := by
    have hl : fs.length = 4 := by have := congrArg List.length h; simpa using this
    match fs, hl with
    | [f0, f1, f2, f3], _ => exact ⟨f0, f1, f2, f3, rfl⟩
  simp only [List.map_cons, List.map_nil, List.cons.injEq, Prod.mk.injEq] at h
  obtain ⟨⟨a0, b0, d0⟩, ⟨a1, b1, d1⟩, ⟨a2, b2, d2⟩, ⟨a3, b3, d3⟩, _⟩ := h
  have e := fun w => run_equalIn_struct w (P := Try.prog) (d + 2) 77 #[.int .i64 k, .int .i64 c, .int .i64 n] #[.int .i64 k', .int .i64 c', .int .i64 n'] fields77 held77
  have e2 : ∀ w, (Op.equalIn (d + 3) 77 (.agg #[.int .i64 k, .int .i64 c, .int .i64 n]) (.agg #[.int .i64 k', .int .i64 c', .int .i64 n'])).run Try.prog w = .ok (k == k' && (c == c' && n == n')) w := fun w => by
    rw [e w, eqf77 k c n k' c' n' w (d + 1) _ names77]
  simp [Op.eqFields, a0, b0, d0, a1, b1, d1, a2, b2, d2, a3, b3, d3, part89_0, part89_1, part89_2, part89_3, run_equalIn_int _ _ _ _ _ _ _ Try.underlying3, e2, Result.andThen]
  clear a0 b0 d0 a1 b1 d1 a2 b2 d2 a3 b3 d3 e e2
  cases h0 : v == v' <;> cases h1 : f == f' <;> cases h2 : t == t' <;> cases h3 : k == k' <;> cases h4 : c == c' <;> cases h5 : n == n' <;> simp_all
theorem eqIn89 (v f t k c n v' f' t' k' c' n' : Int) (r : Bool) (hr : (v == v' && (f == f' && (t == t' && (k == k' && (c == c' && n == n'))))) = r) (W : World) : (Op.equalIn 10000 89 (.agg #[.int .i64 v, .int .i64 f, .int .i64 t, .int .i64 k, .int .i64 c, .int .i64 n]) (.agg #[.int .i64 v', .int .i64 f', .int .i64 t', .int .i64 k', .int .i64 c', .int .i64 n'])).run Try.prog W = .ok r W := by
  rw [run_equalIn_struct W (P := Try.prog) 9999 89 _ _ fields89 held89, eqf89 v f t k c n v' f' t' k' c' n' W 9996 _ names89, hr]
theorem eql89 (v f t k c n v' f' t' k' c' n' : Int) (r : Bool) (hr : (v == v' && (f == f' && (t == t' && (k == k' && (c == c' && n == n'))))) = r) (W : World) : (binOp .eql 89 (.agg #[.int .i64 v, .int .i64 f, .int .i64 t, .int .i64 k, .int .i64 c, .int .i64 n]) (.agg #[.int .i64 v', .int .i64 f', .int .i64 t', .int .i64 k', .int .i64 c', .int .i64 n'])).run Try.prog W = .ok (.bool r) W := by
  rw [run_eql_struct, eqIn89 v f t k c n v' f' t' k' c' n' r hr W]; rfl
theorem neq89 (v f t k c n v' f' t' k' c' n' : Int) (r : Bool) (hr : (v == v' && (f == f' && (t == t' && (k == k' && (c == c' && n == n'))))) = !r) (W : World) : (binOp .neq 89 (.agg #[.int .i64 v, .int .i64 f, .int .i64 t, .int .i64 k, .int .i64 c, .int .i64 n]) (.agg #[.int .i64 v', .int .i64 f', .int .i64 t', .int .i64 k', .int .i64 c', .int .i64 n'])).run Try.prog W = .ok (.bool r) W := by
  rw [run_neq_struct, eqIn89 v f t k c n v' f' t' k' c' n' _ hr W]; cases r <;> rfl
theorem part22_0 (a b : Int) (w : World) : (part 3 #[.int .i64 a, .int .i64 b] 0).run Try.prog w = .ok (.int .i64 a) w := by kernel_rfl
theorem part22_1 (a b : Int) (w : World) : (part 3 #[.int .i64 a, .int .i64 b] 1).run Try.prog w = .ok (.int .i64 b) w := by kernel_rfl
theorem cells3' : Try.prog.cellsOf 3 = 1 := by kernel_rfl
theorem eqIn22 (a b a' b' : Int) (r : Bool) (hr : (a == a' && b == b') = r) (W : World) : (Op.equalIn 10000 22 (.agg #[.int .i64 a, .int .i64 b]) (.agg #[.int .i64 a', .int .i64 b'])).run Try.prog W = .ok r W := by
  rw [run_equalIn_array W (P := Try.prog) 9999 (n := 2) (e := 3) (i := (Try.prog.info? 3).get (by kernel_rfl)) _ _ Try.underlying22 (by kernel_rfl), cells3']
  have hl : List.range 2 = [0, 1] := rfl
  rw [hl]
  simp [Op.eqItems, part22_0, part22_1, run_equalIn_int _ _ _ _ _ _ _ Try.underlying3, Result.andThen]
  subst hr
  cases h0 : a == a' <;> cases h1 : b == b' <;> simp_all
theorem eql22 (a b a' b' : Int) (r : Bool) (hr : (a == a' && b == b') = r) (W : World) : (binOp .eql 22 (.agg #[.int .i64 a, .int .i64 b]) (.agg #[.int .i64 a', .int .i64 b'])).run Try.prog W = .ok (.bool r) W := by
  have h : (binOp .eql 22 (.agg #[.int .i64 a, .int .i64 b]) (.agg #[.int .i64 a', .int .i64 b'])).run Try.prog W = ((Op.equalIn 10000 22 (.agg #[.int .i64 a, .int .i64 b]) (.agg #[.int .i64 a', .int .i64 b'])).run Try.prog W).andThen fun b w' => .ok (.bool b) w' := run_eql_struct W 22 _ _
  rw [h, eqIn22 a b a' b' r hr W]; rfl
end Go.Proofs.Ytocelaebokikcaa
