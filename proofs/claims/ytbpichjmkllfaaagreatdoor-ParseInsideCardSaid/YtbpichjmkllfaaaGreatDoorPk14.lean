/- The statement on telling again, in parts: a token's bytes; what is compared. -/
import Derived.Test.YtbpichjmkllfaaaGreatDoorPk12
import Derived.Test.YtbpichjmkllfaaaGreatDoorPk03
import Derived.Test.YtbpichjmkllfaaaGreatDoorPk13
import Derived.Deep.RegionHeld3
import Derived.WalkSmall
import Derived.ScopeJumps
import Derived.Deep.LoopGhost
import Derived.WalkMore
namespace Go.Proofs.YtbpichjmkllfaaaGreatDoor.Lex
open Go.ChangeShapes Go.WideShapes Go.RowKit
set_option linter.unusedVariables false
set_option maxRecDepth 20000

/-- The five cells of token k. -/
theorem cells5 {N : Nat} {w : World} {g c : Nat} {l : List Tok} (h : OwnK N w (some ⟨g, 0, none⟩) c l) (k : Nat) (hk : k < l.length) :
    w.cell? ⟨g, k * 5, none⟩ = some (.int .i64 l[k].kind) ∧ w.cell? ⟨g, k * 5 + 1, none⟩ = some (.string ⟨l[k].text.toArray⟩) ∧ w.cell? ⟨g, k * 5 + 2, none⟩ = some (.int .i64 l[k].n) ∧ w.cell? ⟨g, k * 5 + 3, none⟩ = some (.int .i64 l[k].cls) ∧ w.cell? ⟨g, k * 5 + 4, none⟩ = some (.int .i64 l[k].at_) := by
  obtain ⟨g', e, _, _, hc⟩ := h.form (by omega)
  injection e with e
  injection e with e1 e2
  subst e1
  exact ⟨hc k 0 hk (by decide), hc k 1 hk (by decide), hc k 2 hk (by decide), hc k 3 hk (by decide), hc k 4 hk (by decide)⟩
theorem cells5t {N : Nat} {w : World} {g c : Nat} {l : List Tok} (h : OwnK N w (some ⟨g, 0, none⟩) c l) (k : Nat) (t : Tok) (ht : l[k]? = some t) :
    w.cell? ⟨g, k * 5, none⟩ = some (.int .i64 t.kind) ∧ w.cell? ⟨g, k * 5 + 1, none⟩ = some (.string ⟨t.text.toArray⟩) ∧ w.cell? ⟨g, k * 5 + 2, none⟩ = some (.int .i64 t.n) ∧ w.cell? ⟨g, k * 5 + 3, none⟩ = some (.int .i64 t.cls) ∧ w.cell? ⟨g, k * 5 + 4, none⟩ = some (.int .i64 t.at_) := by
  obtain ⟨hk, rfl⟩ := List.getElem?_eq_some_iff.1 ht
  exact cells5 h k hk
theorem bare_teq {a b : Tok} (h : bare a = bare b) : teq a.kind ⟨a.text.toArray⟩ a.n a.cls 0 b.kind ⟨b.text.toArray⟩ b.n b.cls 0 = true := by
  unfold bare at h
  injection h with h1 h2 h3 h4 h5
  rw [h1, h2, h3, h4]
  exact teq_refl _ _ _ _ _
theorem map_at {l m : List Tok} (h : m.map bare = l.map bare) (k : Nat) (t : Tok) (ht : l[k]? = some t) : ∃ u, m[k]? = some u ∧ bare t = bare u := by
  have e : (m.map bare)[k]? = (l.map bare)[k]? := by rw [h]
  rw [List.getElem?_map, List.getElem?_map, ht] at e
  cases hu : m[k]? with
  | none => rw [hu] at e; cases e
  | some u => rw [hu] at e; injection e with e; exact ⟨u, rfl, e.symm⟩
end Go.Proofs.YtbpichjmkllfaaaGreatDoor.Lex

/- What is asked of what is open: what it comes to, and how it goes on. -/
namespace Go.Proofs.YtbpichjmkllfaaaGreatDoor.Fol
open Go.ChangeShapes Go.WideShapes Go.RowKit Lex
set_option linter.unusedVariables false
set_option maxRecDepth 20000

/-- What is open, in memory: four cells. -/
structure OpAt (w : World) (g i : Nat) (o : Opn) : Prop where
  c0 : w.cell? ⟨g, i, none⟩ = some (.bool o.minus)
  c1 : w.cell? ⟨g, i + 1, none⟩ = some (.int .i64 o.sum)
  c2 : w.cell? ⟨g, i + 2, none⟩ = some (.int .i64 o.joins)
  c3 : w.cell? ⟨g, i + 3, none⟩ = some (.int .i64 o.product)
theorem closed_v (g i : Nat) (o : Opn) (v : Int) (h : o.closed = v) (w : World) (hc : OpAt w g i o) :
    Calls Tryz.prog 179 #[.pointer (some ⟨g, i, none⟩)] w fun e w' => e = .returned (.int .i64 v) ∧ Below w.heap.size w w' := by
  obtain ⟨m, su, j, p⟩ := o
  obtain ⟨c0, c1, c2, c3⟩ := hc
  obtain ⟨x, hx⟩ : ∃ x, reck j su p = x := ⟨_, rfl⟩
  have hv : (if m then reck 2 0 x else x) = v := by rw [← h, ← hx]; rfl
  have HX : Hid (∀ w : World, Calls Tryz.prog 185 #[.int .i64 j, .int .i64 su, .int .i64 p] w fun e w' => e = .returned (.int .i64 x) ∧ w' = w) := fun w => (reck_v _ _ _ _ hx w).mono fun e w' k => ⟨k.1, k.2.symm⟩
  have H := Lib.hid hv
  clear h hx hv
  cases m
  · go_enter Tryz.func179, Tryz.ntmps179
    go_wp2_with fail
    go_quiet (first | (go_at_call_of 185 (Value.int .i64 j); exact Calls.quiet_of_same (HX.out _)))
    go_wp2_with fail
    go_ret
    exact ⟨by rw [← H.out]; rfl, Quo.below_drewN _ _ _⟩
  · go_enter Tryz.func179, Tryz.ntmps179
    go_wp2_with fail
    go_quiet (first | (go_at_call_of 185 (Value.int .i64 j); exact Calls.quiet_of_same (HX.out _)))
    go_wp2_with fail
    refine (reck_v _ _ _ v (by rw [← H.out]; rfl) _).mono ?_
    rintro e w1 ⟨rfl, rfl⟩
    go_wp2_with fail
    go_ret
    exact ⟨rfl, Quo.below_drewN _ _ _⟩
theorem join_v (g i : Nat) (o : Opn) (op v : Int) (h : o.all = v) (w : World) (hc : OpAt w g i o) (hf1 : w.frozen? ⟨g, i + 1, none⟩ = false) (hf2 : w.frozen? ⟨g, i + 2, none⟩ = false) (hf3 : w.frozen? ⟨g, i + 3, none⟩ = false) :
    Calls Tryz.prog 180 #[.pointer (some ⟨g, i, none⟩), .int .i64 op] w fun e w' => e = .returned (.tuple #[]) ∧ w' = (((w.setCell ⟨g, i + 1, none⟩ (.int .i64 v)).setCell ⟨g, i + 2, none⟩ (.int .i64 op)).setCell ⟨g, i + 3, none⟩ (.int .i64 1)).drew := by
  obtain ⟨m, su, j, p⟩ := o
  obtain ⟨c0, c1, c2, c3⟩ := hc
  have hx : reck j su p = v := h
  have HX : Hid (∀ w : World, Calls Tryz.prog 185 #[.int .i64 j, .int .i64 su, .int .i64 p] w fun e w' => e = .returned (.int .i64 v) ∧ w' = w) := fun w => (reck_v _ _ _ _ hx w).mono fun e w' k => ⟨k.1, k.2.symm⟩
  have HX2 := Lib.hid hx
  clear h hx
  go_enter Tryz.func180, Tryz.ntmps180
  go_wp2_with fail
  refine wp_region_still_tail 16 (by kernel_rfl) (by kernel_rfl) ?_
  simp only [List.take_succ_cons, List.take_zero, List.drop_succ_cons, List.drop_zero]
  repeat still_step
  still_call (HX.out _)
  repeat still_step
  refine wpStill_nil ?_
  go_wp2_with fail

  go_end0
  exact ⟨rfl, rfl⟩
theorem wrong_v (l : List Tok) (N g c : Nat) (a : Nat) (code : Int) (hcode : ¬ code = 0) (t : Tok) (ht : l[a]? = some t) (w : World) (ho : OwnK N w (some ⟨g, 0, none⟩) c l) :
    Calls Tryz.prog 175 #[.slice (some ⟨g, 0, none⟩) l.length c, .int .i64 (a : Int), .int .i64 code] w fun e w' => e = .returned (.tuple #[.int .i64 0, .int .i64 0, Fau.bare code (t.at_ : Int)]) ∧ w = w' := by
  obtain ⟨c0, c1, c2, c3, c4⟩ := cells5t ho a t ht
  have hal : a < l.length := (List.getElem?_eq_some_iff.1 ht).1
  obtain ⟨L, hL⟩ : ∃ L, l.length = L := ⟨_, rfl⟩
  rw [hL] at hal ⊢
  have a1 : (a : Int) < (L : Int) := by omega
  have a0 : (0 : Int) ≤ (a : Int) := by omega
  have HC := Lib.hid hcode
  clear hcode c0 c1 c2 c3 ht hL ho
  go_enter Tryz.func175, Tryz.ntmps175
  go_wp2_with fail
  refine (Fau.new_v _ _ HC.out _).mono ?_
  rintro e w1 ⟨rfl, rfl⟩
  unfold Fau.bare
  go_wp2_with fail
  go_ret3
  exact ⟨rfl, rfl⟩
end Go.Proofs.YtbpichjmkllfaaaGreatDoor.Fol

/- What is open, one upon the other, in a slice of the call's own. -/
namespace Go.Proofs.YtbpichjmkllfaaaGreatDoor.Fol
open Go.ChangeShapes Go.WideShapes Go.RowKit Lex
set_option linter.unusedVariables false
set_option maxRecDepth 20000

def ocl (o : Opn) : List Value := [.bool o.minus, .int .i64 o.sum, .int .i64 o.joins, .int .i64 o.product]
def ocs (s : List Opn) : List Value := s.flatMap ocl
theorem ocs_append (l m : List Opn) : ocs (l ++ m) = ocs l ++ ocs m := List.flatMap_append
theorem ocs_one (o : Opn) : ocs [o] = ocl o := by unfold ocs; simp
theorem ocs_len (l : List Opn) : (ocs l).length = l.length * 4 := by
  induction l with
  | nil => rfl
  | cons t l ih => show (ocs ([t] ++ l)).length = _; rw [ocs_append, List.length_append, ih, ocs_one, List.length_cons]; show 4 + _ = _; omega
theorem ocs_rev (o : Opn) (r : List Opn) : ocs (o :: r).reverse = ocs r.reverse ++ ocl o := by rw [List.reverse_cons, ocs_append, ocs_one]
/-- The top is the list's head; in memory it stands last. -/
def StkAt (B : Nat) (w : World) (A : Option Addr) (c M : Nat) (stk : List Opn) : Prop := stk.length = M ∧ w.ownsRow B 241 4 (.slice A M c) M (ocs stk.reverse)
theorem StkAt.grow {B : Nat} {w w' : World} {A : Option Addr} {c M : Nat} {stk : List Opn} (h : StkAt B w A c M stk) (hb : Below w.heap.size w w') : StkAt B w' A c M stk := by
  refine ⟨h.1, World.ownsRow.kept h.2 (below_grown hb) ?_⟩
  cases e : Value.ownBlock (.slice A M c) with
  | none => exact .inl rfl
  | some k => exact .inr (by simp)
theorem StkAt.form {B : Nat} {w : World} {A : Option Addr} {c M : Nat} {stk : List Opn} (h : StkAt B w A c (M + 1) stk) : ∃ g, A = some ⟨g, 0, none⟩ ∧ B ≤ g ∧ M + 1 ≤ c ∧ c ≤ maxLen := by
  rcases h.2.2 with ⟨_, h0⟩ | ⟨g, cap, cur, hv, hg, _, hn, hm, _⟩
  · cases h0
  · injection hv with h1 h2 h3
    subst h3
    exact ⟨g, h1, hg, hn, hm⟩
theorem StkAt.top {B : Nat} {w : World} {g c M : Nat} {o : Opn} {r : List Opn} (h : StkAt B w (some ⟨g, 0, none⟩) c (M + 1) (o :: r)) :
    OpAt w g (M * 4) o ∧ ∀ j, w.frozen? ⟨g, j, none⟩ = false := by
  obtain ⟨hl, ho⟩ := h
  have hr : r.length = M := by simpa using hl
  rw [ocs_rev] at ho
  have hc : ∀ j, j < 4 → w.cell? ⟨g, M * 4 + j, none⟩ = (ocl o)[j]? := by
    intro j hj
    rw [ho.cellAt (M * 4 + j) (by omega), List.getElem?_append_right (by rw [ocs_len, List.length_reverse, hr]; omega), ocs_len, List.length_reverse, hr]
    congr 1
    omega
  exact ⟨⟨hc 0 (by omega), hc 1 (by omega), hc 2 (by omega), hc 3 (by omega)⟩, fun j => ho.frozenAt j⟩
theorem StkAt.set {B : Nat} {w : World} {g c M : Nat} {o o' : Opn} {r : List Opn} (h : StkAt B w (some ⟨g, 0, none⟩) c (M + 1) (o :: r)) (j : Nat) (u : Value) (hj : j < 4) (hu : (ocl o).set j u = ocl o') :
    StkAt B (w.setCell ⟨g, M * 4 + j, none⟩ u) (some ⟨g, 0, none⟩) c (M + 1) (o' :: r) := by
  obtain ⟨hl, ho⟩ := h
  have hr : r.length = M := by simpa using hl
  rw [ocs_rev] at ho
  refine ⟨by simpa using hl, ?_⟩
  have h1 := (ho.stored (M * 4 + j) u).1
  rw [List.set_append_right _ _ (by rw [ocs_len, List.length_reverse, hr]; omega), ocs_len, List.length_reverse, hr, show M * 4 + j - M * 4 = j by omega, hu] at h1
  rw [ocs_rev]; exact h1
theorem StkAt.pop {B : Nat} {w : World} {g c M : Nat} {o : Opn} {r : List Opn} (h : StkAt B w (some ⟨g, 0, none⟩) c (M + 1) (o :: r)) : StkAt B w (some ⟨g, 0, none⟩) c M r := by
  obtain ⟨hl, ho⟩ := h
  have hr : r.length = M := by simpa using hl
  rw [ocs_rev] at ho
  exact ⟨hr, ownsRow_pop (by rw [ocs_len, List.length_reverse, hr]) ho⟩
theorem StkAt.times {B : Nat} {w : World} {g c M : Nat} {o : Opn} {r : List Opn} (h : StkAt B w (some ⟨g, 0, none⟩) c (M + 1) (o :: r)) (n v : Int) (hv : reck 3 o.product n = v) :
    StkAt B (w.setCell ⟨g, M * 4 + 3, none⟩ (.int .i64 v)) (some ⟨g, 0, none⟩) c (M + 1) (o.times n :: r) := by
  subst hv
  exact h.set 3 _ (by omega) rfl
theorem StkAt.join {B : Nat} {w : World} {g c M : Nat} {o : Opn} {r : List Opn} (h : StkAt B w (some ⟨g, 0, none⟩) c (M + 1) (o :: r)) (op v : Int) (hv : o.all = v) :
    StkAt B ((((w.setCell ⟨g, M * 4 + 1, none⟩ (.int .i64 v)).setCell ⟨g, M * 4 + 2, none⟩ (.int .i64 op)).setCell ⟨g, M * 4 + 3, none⟩ (.int .i64 1)).drew) (some ⟨g, 0, none⟩) c (M + 1) (o.join op :: r) := by
  subst hv
  have h1 := h.set (o' := ⟨o.minus, o.all, o.joins, o.product⟩) 1 (.int .i64 o.all) (by omega) rfl
  have h2 := h1.set (o' := ⟨o.minus, o.all, op, o.product⟩) 2 (.int .i64 op) (by omega) rfl
  exact h2.set (o' := o.join op) 3 (.int .i64 1) (by omega) rfl
theorem info55z : (Tryz.prog.info? 241).map (fun i => (i.zero, i.size, i.bytes)) = some (some (.agg #[.bool false, .int .i64 0, .int .i64 0, .int .i64 0]), 4, 32) := by kernel_rfl
theorem ocl_cell (o : Opn) : ∀ u ∈ ocl o, u.oneCell' = true := by
  intro u hu
  unfold ocl at hu
  simp at hu
  rcases hu with rfl | rfl | rfl | rfl <;> rfl
theorem stk_step {B : Nat} {w w2 w3 : World} {A : Option Addr} {c M g' cap' : Nat} {stk : List Opn} {o : Opn} {D : Obj} (hb : Below B w w2) (ho : StkAt B w2 A c M stk)
    (hown : w3.ownsRow B 241 4 (.slice (some ⟨g', 0, none⟩) (M + 1) cap') (M + 1) (ocs stk.reverse ++ ocl o)) (hg : (w2.alloc D).grownBy w3 (Value.ownBlock (.slice A M c))) (hB : B ≤ w2.heap.size) :
    Below B w w3 ∧ StkAt B w3 (some ⟨g', 0, none⟩) cap' (M + 1) (o :: stk) := by
  have hr : ∀ k, Value.ownBlock (.slice A M c) = some k → B ≤ k := fun k e => (World.ownsRow.lt ho.2 k e).1
  refine ⟨(hb.alloc hB D).grown hg (by simp; omega) hr, by simp [ho.1], ?_⟩
  rw [ocs_rev]; exact hown
end Go.Proofs.YtbpichjmkllfaaaGreatDoor.Fol

/- A scope in which the run goes to one of two labels, again and again: what holds at each, with a number that every pass lowers. -/
namespace Go.Proofs.YtbpichjmkllfaaaGreatDoor.Fol

/-- As Q; by a goto to label 0: K0; to label 1: K1; by any other one: no way out. -/
def two (K0 K1 : Act → World → Prop) (Q : Exit → Act → World → Prop) : Exit → Act → World → Prop
  | .goto l, a, w => (l = 0 ∧ K0 a w) ∨ (l = 1 ∧ K1 a w)
  | .normal, a, w => Q .normal a w
  | .exit id, a, w => Q (.exit id) a w
  | .ret, a, w => Q .ret a w
  | .panic ch, a, w => Q (.panic ch) a w
  | .outgrown, a, w => Q .outgrown a w
theorem two_goto0 {K0 K1 : Act → World → Prop} {Q : Exit → Act → World → Prop} {a : Act} {w : World} (h : K0 a w) : two K0 K1 Q (.goto 0) a w := .inl ⟨rfl, h⟩
theorem two_goto1 {K0 K1 : Act → World → Prop} {Q : Exit → Act → World → Prop} {a : Act} {w : World} (h : K1 a w) : two K0 K1 Q (.goto 1) a w := .inr ⟨rfl, h⟩
theorem two_ret {K0 K1 : Act → World → Prop} {Q : Exit → Act → World → Prop} {a : Act} {w : World} (h : Q .ret a w) : two K0 K1 Q .ret a w := h
/-- At a smaller number. -/
def Less (J : Nat → Act → World → Prop) (n : Nat) (a : Act) (w : World) : Prop := ∃ m, m < n ∧ J m a w
def Some (J : Nat → Act → World → Prop) (a : Act) (w : World) : Prop := ∃ m, J m a w

section
variable {P : Program} {a : Act} {w : World} {Q : Exit → Act → World → Prop}
theorem wp_behind_skip {r : Code} {Q' : Exit → Act → World → Prop} {a : Act} {w : World} (h : r.wp P Q' a w) : (Code.seq .skip r).wp P Q' a w := wp_seq (wp_skip h)
theorem wp_scope_two {c r0 r1 : Code} (J0 J1 : Nat → Act → World → Prop) (hf0 : findLabel c 0 = some (.seq .skip r0)) (hf1 : findLabel c 1 = some (.seq .skip r1))
    (pass1 : ∀ (K0 K1 : Act → World → Prop) (n : Nat), (∀ a w, Less J0 n a w → K0 a w) → (∀ a w, Less J1 n a w → K1 a w) → ∀ a w, J1 n a w → r1.wp P (two K0 K1 Q) a w)
    (pass0 : ∀ (K0 K1 : Act → World → Prop) (n : Nat), (∀ a w, Less J0 n a w → K0 a w) → (∀ a w, Less J1 n a w → r1.wp P (two K0 K1 Q) a w) → ∀ a w, J0 n a w → r0.wp P (two K0 K1 Q) a w)
    (first : ∀ (K0 K1 : Act → World → Prop), (∀ a w, Some J0 a w → r0.wp P (two K0 K1 Q) a w) → c.wp P (two K0 K1 Q) a w) : (Code.scope c).wp P Q a w := by
  intro b k cs
  have hg0 : gotoIn 0 (.inScope c :: k) = some (.code (.seq .skip r0) :: .inScope c :: k) := by simp [gotoIn, hf0]
  have hg1 : gotoIn 1 (.inScope c :: k) = some (.code (.seq .skip r1) :: .inScope c :: k) := by simp [gotoIn, hf1]
  have step0 : ∀ (K0 K1 : Act → World → Prop) (n : Nat), (∀ a w, Less J0 n a w → K0 a w) → (∀ a w, Less J1 n a w → K1 a w) → ∀ a w, J0 n a w → r0.wp P (two K0 K1 Q) a w := by
    intro K0 K1 n h0 h1 a w hJ
    refine pass0 K0 K1 n h0 ?_ a w hJ
    rintro a' w' ⟨m, hm, h⟩
    exact pass1 K0 K1 m (fun a w ⟨j, hj, hh⟩ => h0 a w ⟨j, Nat.lt_trans hj hm, hh⟩) (fun a w ⟨j, hj, hh⟩ => h1 a w ⟨j, Nat.lt_trans hj hm, hh⟩) a' w' h
  have key : ∀ n, (∀ a w, J0 n a w → ∃ e a' w', Q e a' w' ∧ Arrives P (lone (b.at a (.code (.seq .skip r0) :: .inScope c :: k)) cs w) b k cs e a' w') ∧ (∀ a w, J1 n a w → ∃ e a' w', Q e a' w' ∧ Arrives P (lone (b.at a (.code (.seq .skip r1) :: .inScope c :: k)) cs w) b k cs e a' w') := by
    intro n
    induction n using Nat.strongRecOn with
    | _ n ih =>
      have fin : ∀ (r : Code) (a : Act) (w : World), r.wp P (two (Less J0 n) (Less J1 n) Q) a w → ∃ e a' w', Q e a' w' ∧ Arrives P (lone (b.at a (.code r :: .inScope c :: k)) cs w) b k cs e a' w' := by
        intro r a w h
        obtain ⟨e, a₁, w₁, hq, harr⟩ := h b (.inScope c :: k) cs
        cases e with
        | normal => exact ⟨.normal, a₁, w₁, hq, Steps.trans harr (.one step_inScope)⟩
        | exit id => exact ⟨.exit id, a₁, w₁, hq, fun k' hk => harr k' (by simp [exitTo, hk])⟩
        | goto l' =>
          rcases hq with ⟨rfl, m, hlt, hJ⟩ | ⟨rfl, m, hlt, hJ⟩
          · obtain ⟨e₂, a₂, w₂, hq₂, harr₂⟩ := (ih m hlt).1 a₁ w₁ hJ
            exact ⟨e₂, a₂, w₂, hq₂, .of_steps (harr _ hg0) harr₂⟩
          · obtain ⟨e₂, a₂, w₂, hq₂, harr₂⟩ := (ih m hlt).2 a₁ w₁ hJ
            exact ⟨e₂, a₂, w₂, hq₂, .of_steps (harr _ hg1) harr₂⟩
        | ret => exact ⟨_, a₁, w₁, hq, harr⟩
        | panic ch => exact ⟨_, a₁, w₁, hq, harr⟩
        | outgrown => exact ⟨_, a₁, w₁, hq, harr⟩
      exact ⟨fun a w hJ => fin _ a w (wp_behind_skip (step0 _ _ n (fun _ _ h => h) (fun _ _ h => h) a w hJ)), fun a w hJ => fin _ a w (wp_behind_skip (pass1 _ _ n (fun _ _ h => h) (fun _ _ h => h) a w hJ))⟩
  obtain ⟨e, a₁, w₁, hq, harr⟩ := first (Some J0) (Some J1) (fun a w ⟨n, h⟩ => step0 _ _ n (fun a w ⟨j, _, hh⟩ => ⟨j, hh⟩) (fun a w ⟨j, _, hh⟩ => ⟨j, hh⟩) a w h) b (.inScope c :: k) cs
  cases e with
  | normal => exact ⟨.normal, a₁, w₁, hq, .head step_scope (Steps.trans harr (.one step_inScope))⟩
  | exit id => exact ⟨.exit id, a₁, w₁, hq, fun k' hk => .head step_scope (harr k' (by simp [exitTo, hk]))⟩
  | goto l' =>
    rcases hq with ⟨rfl, m, hJ⟩ | ⟨rfl, m, hJ⟩
    · obtain ⟨e₂, a₂, w₂, hq₂, harr₂⟩ := (key m).1 a₁ w₁ hJ
      exact ⟨e₂, a₂, w₂, hq₂, .of_steps (.head step_scope (harr _ hg0)) harr₂⟩
    · obtain ⟨e₂, a₂, w₂, hq₂, harr₂⟩ := (key m).2 a₁ w₁ hJ
      exact ⟨e₂, a₂, w₂, hq₂, .of_steps (.head step_scope (harr _ hg1)) harr₂⟩
  | ret => exact ⟨_, a₁, w₁, hq, .of_steps (.one step_scope) harr⟩
  | panic ch => exact ⟨_, a₁, w₁, hq, .of_steps (.one step_scope) harr⟩
  | outgrown => exact ⟨_, a₁, w₁, hq, .of_steps (.one step_scope) harr⟩
end
end Go.Proofs.YtbpichjmkllfaaaGreatDoor.Fol

/- What Value answers: of tokens that are read on. -/
namespace Go.Proofs.YtbpichjmkllfaaaGreatDoor.Fol
open Go.ChangeShapes Go.WideShapes Go.RowKit Lex
set_option linter.unusedVariables false
set_option maxRecDepth 20000

/-- The frame at a label: the tokens, the place, what is open, the number. -/
structure FrB (L a s v : Value) (act : Act) : Prop where
  size : act.tmps.size = 147
  s0 : act.tmps.getD 0 undef = L
  s1 : act.tmps.getD 1 undef = a
  s4 : act.tmps.getD 4 undef = .int .i64 0
  s5 : act.tmps.getD 5 undef = .int .i64 0
  s6 : act.tmps.getD 6 undef = .nilIface
  s7 : act.tmps.getD 7 undef = s
  s10 : act.tmps.getD 10 undef = v
  defers : act.defers = []
theorem arr_fn (xs : Array Value) (n : Nat) (h : xs.size = n) : xs = ((List.range n).map (fun k => xs.getD k undef)).toArray := by
  apply Array.ext
  · simp [h]
  · intro i h1 h2
    simp [h1]
theorem arr147 (f : Nat → Value) : ((List.range 147).map f).toArray = #[f 0, f 1, f 2, f 3, f 4, f 5, f 6, f 7, f 8, f 9, f 10, f 11, f 12, f 13, f 14, f 15, f 16, f 17, f 18, f 19, f 20, f 21, f 22, f 23, f 24, f 25, f 26, f 27, f 28, f 29, f 30, f 31, f 32, f 33, f 34, f 35, f 36, f 37, f 38, f 39, f 40, f 41, f 42, f 43, f 44, f 45, f 46, f 47, f 48, f 49, f 50, f 51, f 52, f 53, f 54, f 55, f 56, f 57, f 58, f 59, f 60, f 61, f 62, f 63, f 64, f 65, f 66, f 67, f 68, f 69, f 70, f 71, f 72, f 73, f 74, f 75, f 76, f 77, f 78, f 79, f 80, f 81, f 82, f 83, f 84, f 85, f 86, f 87, f 88, f 89, f 90, f 91, f 92, f 93, f 94, f 95, f 96, f 97, f 98, f 99, f 100, f 101, f 102, f 103, f 104, f 105, f 106, f 107, f 108, f 109, f 110, f 111, f 112, f 113, f 114, f 115, f 116, f 117, f 118, f 119, f 120, f 121, f 122, f 123, f 124, f 125, f 126, f 127, f 128, f 129, f 130, f 131, f 132, f 133, f 134, f 135, f 136, f 137, f 138, f 139, f 140, f 141, f 142, f 143, f 144, f 145, f 146] := rfl
theorem FrB.out {L a s v : Value} {act : Act} (h : FrB L a s v act) : ∃ f : Nat → Value, act = { tmps := #[L, a, f 2, f 3, .int .i64 0, .int .i64 0, .nilIface, s, f 8, f 9, v, f 11, f 12, f 13, f 14, f 15, f 16, f 17, f 18, f 19, f 20, f 21, f 22, f 23, f 24, f 25, f 26, f 27, f 28, f 29, f 30, f 31, f 32, f 33, f 34, f 35, f 36, f 37, f 38, f 39, f 40, f 41, f 42, f 43, f 44, f 45, f 46, f 47, f 48, f 49, f 50, f 51, f 52, f 53, f 54, f 55, f 56, f 57, f 58, f 59, f 60, f 61, f 62, f 63, f 64, f 65, f 66, f 67, f 68, f 69, f 70, f 71, f 72, f 73, f 74, f 75, f 76, f 77, f 78, f 79, f 80, f 81, f 82, f 83, f 84, f 85, f 86, f 87, f 88, f 89, f 90, f 91, f 92, f 93, f 94, f 95, f 96, f 97, f 98, f 99, f 100, f 101, f 102, f 103, f 104, f 105, f 106, f 107, f 108, f 109, f 110, f 111, f 112, f 113, f 114, f 115, f 116, f 117, f 118, f 119, f 120, f 121, f 122, f 123, f 124, f 125, f 126, f 127, f 128, f 129, f 130, f 131, f 132, f 133, f 134, f 135, f 136, f 137, f 138, f 139, f 140, f 141, f 142, f 143, f 144, f 145, f 146], defers := [] } := by
  obtain ⟨hs, h0, h1, h4, h5, h6, h7, h10, hd⟩ := h
  obtain ⟨xs, ds⟩ := act
  subst hd
  have e := arr_fn xs 147 hs
  rw [arr147] at e
  refine ⟨fun k => xs.getD k undef, ?_⟩
  simp only at h0 h1 h4 h5 h6 h7 h10
  rw [h0, h1, h4, h5, h6, h7, h10] at e
  exact congrArg (fun t => ({ tmps := t, defers := [] } : Act)) e
/-- What holds at each pass. -/
structure Inv (w : World) (R : Res) (l : List Tok) (wr : World) (k : Nat) (md : Mode) (a : Nat) (A : Option Addr) (c M : Nat) (stk : List Opn) : Prop where
  run : mach l k md a stk = some R
  few : M ≤ 32
  stk : StkAt w.heap.size wr A c M stk
  below : Below w.heap.size w wr
def JF (w : World) (R : Res) (l : List Tok) (LV : Value) (k : Nat) (act : Act) (wr : World) : Prop := ∃ a A c M stk v, FrB LV (.int .i64 (a : Nat)) (.slice A M c) v act ∧ Inv w R l wr k .fac a A c M stk
def JB (w : World) (R : Res) (l : List Tok) (LV : Value) (k : Nat) (act : Act) (wr : World) : Prop := ∃ a A c M stk n, FrB LV (.int .i64 (a : Nat)) (.slice A M c) (.int .i64 n) act ∧ Inv w R l wr k (.beh n) a A c M stk
def resE : Res → Ending
  | .val n a => .returned (.tuple #[.int .i64 n, .int .i64 (a : Nat), .nilIface])
  | .bad c p => .returned (.tuple #[.int .i64 0, .int .i64 0, Fau.bare c (p : Nat)])
end Go.Proofs.YtbpichjmkllfaaaGreatDoor.Fol
