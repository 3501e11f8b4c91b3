/- What is open, one upon the other, in a slice of the call's own. -/
import Derived.Test.YtgjaajofhfhadaaDoorFoldOpen
import Derived.WalkSmall
namespace Go.Proofs.YtgjaajofhfhadaaDoor.Fol
open Go.ChangeShapes Go.WideShapes Go.RowKit Lex
set_option linter.unusedVariables false
set_option maxRecDepth 20000

def ocl (o : Opn) : List Value := [.bool o.minus, .int .i64 o.sum, .int .i64 o.joins, .int .i64 o.product]
def ocs (s : List Opn) : List Value := s.flatMap ocl
theorem ocs_append (l m : List Opn) : ocs (l ++ m) = ocs l ++ ocs m := List.flatMap_append
theorem ocs_one (o : Opn) : ocs [o] = ocl o := by unfold ocs; simp
theorem ocs_len (l : List Opn) : (ocs l).length = l.length * 4 := by
  induction l with
  | nil => rfl
  | cons t l ih => show (ocs ([t] ++ l)).length = _; rw [ocs_append, List.length_append, ih, ocs_one, List.length_cons]; show 4 + _ = _; omega
theorem ocs_rev (o : Opn) (r : List Opn) : ocs (o :: r).reverse = ocs r.reverse ++ ocl o := by rw [List.reverse_cons, ocs_append, ocs_one]
/-- The top is the list's head; in memory it stands last. -/
def StkAt (B : Nat) (w : World) (A : Option Addr) (c M : Nat) (stk : List Opn) : Prop := stk.length = M ∧ w.ownsRow B 55 4 (.slice A M c) M (ocs stk.reverse)
theorem StkAt.grow {B : Nat} {w w' : World} {A : Option Addr} {c M : Nat} {stk : List Opn} (h : StkAt B w A c M stk) (hb : Below w.heap.size w w') : StkAt B w' A c M stk := by
  refine ⟨h.1, World.ownsRow.kept h.2 (below_grown hb) ?_⟩
  cases e : Value.ownBlock (.slice A M c) with
  | none => exact .inl rfl
  | some k => exact .inr (by simp)
theorem StkAt.form {B : Nat} {w : World} {A : Option Addr} {c M : Nat} {stk : List Opn} (h : StkAt B w A c (M + 1) stk) : ∃ g, A = some ⟨g, 0, none⟩ ∧ B ≤ g ∧ M + 1 ≤ c ∧ c ≤ maxLen := by
  rcases h.2.2 with ⟨_, h0⟩ | ⟨g, cap, cur, hv, hg, _, hn, hm, _⟩
  · cases h0
  · injection hv with h1 h2 h3
    subst h3
    exact ⟨g, h1, hg, hn, hm⟩
theorem StkAt.top {B : Nat} {w : World} {g c M : Nat} {o : Opn} {r : List Opn} (h : StkAt B w (some ⟨g, 0, none⟩) c (M + 1) (o :: r)) :
    OpAt w g (M * 4) o ∧ ∀ j, w.frozen? ⟨g, j, none⟩ = false := by
  obtain ⟨hl, ho⟩ := h
  have hr : r.length = M := by simpa using hl
  rw [ocs_rev] at ho
  have hc : ∀ j, j < 4 → w.cell? ⟨g, M * 4 + j, none⟩ = (ocl o)[j]? := by
    intro j hj
    rw [ho.cellAt (M * 4 + j) (by omega), List.getElem?_append_right (by rw [ocs_len, List.length_reverse, hr]; omega), ocs_len, List.length_reverse, hr]
    congr 1
    omega
  exact ⟨⟨hc 0 (by omega), hc 1 (by omega), hc 2 (by omega), hc 3 (by omega)⟩, fun j => ho.frozenAt j⟩
theorem StkAt.set {B : Nat} {w : World} {g c M : Nat} {o o' : Opn} {r : List Opn} (h : StkAt B w (some ⟨g, 0, none⟩) c (M + 1) (o :: r)) (j : Nat) (u : Value) (hj : j < 4) (hu : (ocl o).set j u = ocl o') :
    StkAt B (w.setCell ⟨g, M * 4 + j, none⟩ u) (some ⟨g, 0, none⟩) c (M + 1) (o' :: r) := by
  obtain ⟨hl, ho⟩ := h
  have hr : r.length = M := by simpa using hl
  rw [ocs_rev] at ho
  refine ⟨by simpa using hl, ?_⟩
  have h1 := (ho.stored (M * 4 + j) u).1
  rw [List.set_append_right _ _ (by rw [ocs_len, List.length_reverse, hr]; omega), ocs_len, List.length_reverse, hr, show M * 4 + j - M * 4 = j by omega, hu] at h1
  rw [ocs_rev]; exact h1
theorem StkAt.pop {B : Nat} {w : World} {g c M : Nat} {o : Opn} {r : List Opn} (h : StkAt B w (some ⟨g, 0, none⟩) c (M + 1) (o :: r)) : StkAt B w (some ⟨g, 0, none⟩) c M r := by
  obtain ⟨hl, ho⟩ := h
  have hr : r.length = M := by simpa using hl
  rw [ocs_rev] at ho
  exact ⟨hr, ownsRow_pop (by rw [ocs_len, List.length_reverse, hr]) ho⟩
theorem StkAt.times {B : Nat} {w : World} {g c M : Nat} {o : Opn} {r : List Opn} (h : StkAt B w (some ⟨g, 0, none⟩) c (M + 1) (o :: r)) (n v : Int) (hv : reck 3 o.product n = v) :
    StkAt B (w.setCell ⟨g, M * 4 + 3, none⟩ (.int .i64 v)) (some ⟨g, 0, none⟩) c (M + 1) (o.times n :: r) := by
  subst hv
  exact h.set 3 _ (by omega) rfl
theorem StkAt.join {B : Nat} {w : World} {g c M : Nat} {o : Opn} {r : List Opn} (h : StkAt B w (some ⟨g, 0, none⟩) c (M + 1) (o :: r)) (op v : Int) (hv : o.all = v) :
    StkAt B ((((w.setCell ⟨g, M * 4 + 1, none⟩ (.int .i64 v)).setCell ⟨g, M * 4 + 2, none⟩ (.int .i64 op)).setCell ⟨g, M * 4 + 3, none⟩ (.int .i64 1)).drew) (some ⟨g, 0, none⟩) c (M + 1) (o.join op :: r) := by
  subst hv
  have h1 := h.set (o' := ⟨o.minus, o.all, o.joins, o.product⟩) 1 (.int .i64 o.all) (by omega) rfl
  have h2 := h1.set (o' := ⟨o.minus, o.all, op, o.product⟩) 2 (.int .i64 op) (by omega) rfl
  exact h2.set (o' := o.join op) 3 (.int .i64 1) (by omega) rfl
theorem info55z : (Tryd.prog.info? 55).map (fun i => (i.zero, i.size, i.bytes)) = some (some (.agg #[.bool false, .int .i64 0, .int .i64 0, .int .i64 0]), 4, 32) := by kernel_rfl
theorem ocl_cell (o : Opn) : ∀ u ∈ ocl o, u.oneCell' = true := by
  intro u hu
  unfold ocl at hu
  simp at hu
  rcases hu with rfl | rfl | rfl | rfl <;> rfl
theorem stk_step {B : Nat} {w w2 w3 : World} {A : Option Addr} {c M g' cap' : Nat} {stk : List Opn} {o : Opn} {D : Obj} (hb : Below B w w2) (ho : StkAt B w2 A c M stk)
    (hown : w3.ownsRow B 55 4 (.slice (some ⟨g', 0, none⟩) (M + 1) cap') (M + 1) (ocs stk.reverse ++ ocl o)) (hg : (w2.alloc D).grownBy w3 (Value.ownBlock (.slice A M c))) (hB : B ≤ w2.heap.size) :
    Below B w w3 ∧ StkAt B w3 (some ⟨g', 0, none⟩) cap' (M + 1) (o :: stk) := by
  have hr : ∀ k, Value.ownBlock (.slice A M c) = some k → B ≤ k := fun k e => (World.ownsRow.lt ho.2 k e).1
  refine ⟨(hb.alloc hB D).grown hg (by simp; omega) hr, by simp [ho.1], ?_⟩
  rw [ocs_rev]; exact hown
end Go.Proofs.YtgjaajofhfhadaaDoor.Fol
