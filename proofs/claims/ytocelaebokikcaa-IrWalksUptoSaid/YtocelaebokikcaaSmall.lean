/- What Value, Def, At and Put answer. -/
import Derived.Test.YtocelaebokikcaaLoops
namespace Go.Proofs.Ytocelaebokikcaa
open Go.ChangeShapes Go.WideShapes Go.RowKit
set_option linter.unusedVariables false

/-- Whose value an operand has. -/
def valOf (k n t : Int) : Int × Bool := if k = 1 then (n, true) else if k = 2 ∨ k = 3 then (t, true) else (0, false)
def rvalOf (k n t : Int) : Int × Bool := if k = 1 then (n, true) else (t, decide (k = 2 ∨ k = 3))
theorem value_1 (c n t : Int) (w : World) : Calls Try.prog 29 #[.agg #[.int .i64 1, .int .i64 c, .int .i64 n, .int .i64 t]] w fun e w' => e = .returned (.tuple #[.int .i64 n, .bool true]) ∧ Below w.heap.size w w' := by
  have B := Lib.hid ((Below.refl _ w).alloc (Nat.le_refl _) (.cells #[.int .i64 1, .int .i64 c, .int .i64 n, .int .i64 t] 44))
  go_enter Try.func29, Try.ntmps29
  go_wp2_with fail
  go_ret2
  exact ⟨rfl, B.out⟩
theorem value_2 (c n t : Int) (w : World) : Calls Try.prog 29 #[.agg #[.int .i64 2, .int .i64 c, .int .i64 n, .int .i64 t]] w fun e w' => e = .returned (.tuple #[.int .i64 t, .bool true]) ∧ Below w.heap.size w w' := by
  have B := Lib.hid ((Below.refl _ w).alloc (Nat.le_refl _) (.cells #[.int .i64 2, .int .i64 c, .int .i64 n, .int .i64 t] 44))
  go_enter Try.func29, Try.ntmps29
  go_wp2_with fail
  go_ret2
  exact ⟨rfl, B.out⟩
theorem value_3 (c n t : Int) (w : World) : Calls Try.prog 29 #[.agg #[.int .i64 3, .int .i64 c, .int .i64 n, .int .i64 t]] w fun e w' => e = .returned (.tuple #[.int .i64 t, .bool true]) ∧ Below w.heap.size w w' := by
  have B := Lib.hid ((Below.refl _ w).alloc (Nat.le_refl _) (.cells #[.int .i64 3, .int .i64 c, .int .i64 n, .int .i64 t] 44))
  go_enter Try.func29, Try.ntmps29
  go_wp2_with fail
  go_ret2
  exact ⟨rfl, B.out⟩
theorem value_no (k c n t : Int) (h1 : ¬ k = 1) (h2 : ¬ k = 2) (h3 : ¬ k = 3) (w : World) : Calls Try.prog 29 #[.agg #[.int .i64 k, .int .i64 c, .int .i64 n, .int .i64 t]] w fun e w' => e = .returned (.tuple #[.int .i64 0, .bool false]) ∧ Below w.heap.size w w' := by
  have B := Lib.hid ((Below.refl _ w).alloc (Nat.le_refl _) (.cells #[.int .i64 k, .int .i64 c, .int .i64 n, .int .i64 t] 44))
  have d1 : (k == 1) = false := by rw [beq_eq_false_iff_ne]; exact h1
  have d2 : (k == 2) = false := by rw [beq_eq_false_iff_ne]; exact h2
  have d3 : (k == 3) = false := by rw [beq_eq_false_iff_ne]; exact h3
  go_enter Try.func29, Try.ntmps29
  go_wp2_with fail
  go_ret2
  exact ⟨rfl, B.out⟩
theorem value_v (k c n t z : Int) (b : Bool) (h : valOf k n t = (z, b)) (w : World) : Calls Try.prog 29 #[.agg #[.int .i64 k, .int .i64 c, .int .i64 n, .int .i64 t]] w fun e w' => e = .returned (.tuple #[.int .i64 z, .bool b]) ∧ Below w.heap.size w w' := by
  unfold valOf at h
  by_cases h1 : k = 1
  · subst h1; rw [if_pos rfl] at h; injection h with a b; subst a b; exact value_1 c n t w
  rw [if_neg h1] at h
  by_cases h2 : k = 2
  · subst h2; simp at h; obtain ⟨a, b⟩ := h; subst a b; exact value_2 c n t w
  by_cases h3 : k = 3
  · subst h3; simp at h; obtain ⟨a, b⟩ := h; subst a b; exact value_3 c n t w
  simp [h2, h3] at h; obtain ⟨a, b⟩ := h; subst a b; exact value_no k c n t h1 h2 h3 w
theorem rvalue_1 (c n t : Int) (w : World) : Calls Try.prog 30 #[.agg #[.int .i64 1, .int .i64 c, .int .i64 n, .int .i64 t]] w fun e w' => e = .returned (.tuple #[.int .i64 n, .bool true]) ∧ Below w.heap.size w w' := by
  have B := Lib.hid ((Below.refl _ w).alloc (Nat.le_refl _) (.cells #[.int .i64 1, .int .i64 c, .int .i64 n, .int .i64 t] 44))
  go_enter Try.func30, Try.ntmps30
  go_wp2_with fail
  go_ret2
  exact ⟨rfl, B.out⟩
theorem rvalue_2 (c n t : Int) (w : World) : Calls Try.prog 30 #[.agg #[.int .i64 2, .int .i64 c, .int .i64 n, .int .i64 t]] w fun e w' => e = .returned (.tuple #[.int .i64 t, .bool true]) ∧ Below w.heap.size w w' := by
  have B := Lib.hid ((Below.refl _ w).alloc (Nat.le_refl _) (.cells #[.int .i64 2, .int .i64 c, .int .i64 n, .int .i64 t] 44))
  go_enter Try.func30, Try.ntmps30
  go_wp2_with fail
  go_quiet (fail)
  go_wp2_with fail
  go_ret2
  exact ⟨rfl, Below.drewQ B.out _⟩
theorem rvalue_3 (c n t : Int) (w : World) : Calls Try.prog 30 #[.agg #[.int .i64 3, .int .i64 c, .int .i64 n, .int .i64 t]] w fun e w' => e = .returned (.tuple #[.int .i64 t, .bool true]) ∧ Below w.heap.size w w' := by
  have B := Lib.hid ((Below.refl _ w).alloc (Nat.le_refl _) (.cells #[.int .i64 3, .int .i64 c, .int .i64 n, .int .i64 t] 44))
  go_enter Try.func30, Try.ntmps30
  go_wp2_with fail
  go_quiet (fail)
  go_wp2_with fail
  go_ret2
  exact ⟨rfl, Below.drewQ B.out _⟩
theorem rvalue_no (k c n t : Int) (h1 : ¬ k = 1) (h2 : ¬ k = 2) (h3 : ¬ k = 3) (w : World) : Calls Try.prog 30 #[.agg #[.int .i64 k, .int .i64 c, .int .i64 n, .int .i64 t]] w fun e w' => e = .returned (.tuple #[.int .i64 t, .bool false]) ∧ Below w.heap.size w w' := by
  have B := Lib.hid ((Below.refl _ w).alloc (Nat.le_refl _) (.cells #[.int .i64 k, .int .i64 c, .int .i64 n, .int .i64 t] 44))
  have d1 : (k == 1) = false := by rw [beq_eq_false_iff_ne]; exact h1
  have d2 : (k == 2) = false := by rw [beq_eq_false_iff_ne]; exact h2
  have d3 : (k == 3) = false := by rw [beq_eq_false_iff_ne]; exact h3
  go_enter Try.func30, Try.ntmps30
  go_wp2_with fail
  go_quiet (fail)
  go_wp2_with fail
  go_ret2
  exact ⟨rfl, Below.drewQ B.out _⟩
theorem rvalue_v (k c n t z : Int) (b : Bool) (h : rvalOf k n t = (z, b)) (w : World) : Calls Try.prog 30 #[.agg #[.int .i64 k, .int .i64 c, .int .i64 n, .int .i64 t]] w fun e w' => e = .returned (.tuple #[.int .i64 z, .bool b]) ∧ Below w.heap.size w w' := by
  unfold rvalOf at h
  by_cases h1 : k = 1
  · subst h1; rw [if_pos rfl] at h; injection h with a b; subst a b; exact rvalue_1 c n t w
  rw [if_neg h1] at h
  by_cases h2 : k = 2
  · subst h2; simp at h; obtain ⟨a, b⟩ := h; subst a b; exact rvalue_2 c n t w
  by_cases h3 : k = 3
  · subst h3; simp at h; obtain ⟨a, b⟩ := h; subst a b; exact rvalue_3 c n t w
  simp [h2, h3] at h; obtain ⟨a, b⟩ := h; subst a b; exact rvalue_no k c n t h1 h2 h3 w
theorem results_cell2 {P : Program} {fn : Func} {p u : Tmp} {ty : TypeId} (h : fn.results = #[.cell p ty, .tmp u]) (tmps : Array Value) (w : World) (g : Nat) (t : TypeId) (cs : Array Value) (fr : Nat × Nat) (d : TypeDesc)
    (hp : tmps.getD p undef = .pointer (some ⟨g, 0, none⟩)) (hg : w.heap[g]? = some (.cells cs t fr))
    (hu : P.underlying ty = some d) (hd : (match d with | .struct _ | .array _ _ => true | _ => false) = true) (hi : (P.info? ty).map (·.size) = some cs.size) :
    (results fn tmps).run P w = .ok (.tuple #[.agg cs, tmps.getD u undef]) w := by
  have hp' : tmps[p]?.getD undef = .pointer (some ⟨g, 0, none⟩) := by simpa using hp
  simp [results, h, hp', asAddr, run_loadVar_row w g t ty cs fr d hg hu hd hi]
theorem at_reg (c n t : Int) (w : World) : Calls Try.prog 40 #[.agg #[.int .i64 2, .int .i64 c, .int .i64 n, .int .i64 t]] w fun e w' => e = .returned (.tuple #[.agg #[.int .i64 2, .int .i64 c, .int .i64 n], .bool true]) ∧ Below w.heap.size w w' := by
  go_enter Try.func40, Try.ntmps40
  go_wp2_with fail
  refine bodyPost_ret (results_cell2 (fn := Try.f40) rfl _ _ (w.heap.size + 1) 77 #[.int .i64 2, .int .i64 c, .int .i64 n] (0, 0) _ rfl (box_two w _ _).2 Try.underlying77 rfl (by kernel_rfl)) rfl ?_
  exact ⟨rfl, ((((Below.refl _ w).alloc (Nat.le_refl _) _).alloc (by simp) _))⟩
theorem put_v (k c n v : Int) (w : World) : Calls Try.prog 41 #[.agg #[.int .i64 k, .int .i64 c, .int .i64 n], .int .i64 v] w fun e w' => e = .returned (.agg #[.int .i64 k, .int .i64 c, .int .i64 n, .int .i64 v]) ∧ Below w.heap.size w w' := by
  go_enter Try.func41, Try.ntmps41
  go_wp2_with fail
  refine bodyPost_ret (results_cell_row (fn := Try.f41) rfl _ _ (w.heap.size + 1) 44 #[.int .i64 k, .int .i64 c, .int .i64 n, .int .i64 v] (0, 0) _ rfl (box_two w _ _).2 Try.underlying44 rfl (by kernel_rfl)) rfl ?_
  exact ⟨rfl, ((((Below.refl _ w).alloc (Nat.le_refl _) _).alloc (by simp) _))⟩
theorem works1_v (v : Int) (w : World) : Calls Try.prog 39 #[.int .i64 v] w fun e w' => e = .returned (.agg #[.int .i64 1, .int .i64 0, .int .i64 v, .int .i64 0]) ∧ Below w.heap.size w w' := by
  go_enter Try.func39, Try.ntmps39
  go_wp2_with fail
  refine bodyPost_ret (results_cell_row (fn := Try.f39) rfl _ _ w.heap.size 44 #[.int .i64 1, .int .i64 0, .int .i64 v, .int .i64 0] (0, 0) _ rfl (heap_alloc_new w _) Try.underlying44 rfl (by kernel_rfl)) rfl ?_
  exact ⟨rfl, (Below.refl _ w).alloc (Nat.le_refl _) _⟩
theorem def_v (i : Ins) (r : InsV) (z : Int) (b : Bool) (h : valOf i.dst.k i.dst.n i.dst.t = (z, b)) (w : World) : Calls Try.prog 32 #[.agg (insR i r)] w fun e w' => e = .returned (.tuple #[.int .i64 z, .bool b]) ∧ Below w.heap.size w w' := by
  have B := Lib.hid ((Below.refl _ w).alloc (Nat.le_refl _) (.cells (insR i r) 51))
  have H := Lib.hid h
  clear h
  obtain ⟨op, ⟨k, c, n, t⟩, args, name, off, labels, cas⟩ := i
  obtain ⟨aa, an, ac, la, ln, lc, ca, cn, cc⟩ := r
  unfold insR at B ⊢
  dsimp only at B H ⊢
  go_enter Try.func32, Try.ntmps32
  go_wp2_with fail
  refine (value_v k c n t z b H.out _).mono ?_
  rintro e w1 ⟨rfl, hb⟩
  have B1 := Lib.hid (B.out.trans (hb.mono B.out.size))
  clear hb
  go_wp2_with fail
  go_ret2
  exact ⟨rfl, B1.out⟩
end Go.Proofs.Ytocelaebokikcaa
