/- A scope in which the run goes to one of two labels, again and again: what holds at each, with a number that every pass lowers. -/
import Derived.ScopeJumps
import Derived.Deep.LoopGhost
namespace Go.Proofs.YtgjaajofhfhadaaDoor.Fol

/-- As Q; by a goto to label 0: K0; to label 1: K1; by any other one: no way out. -/
def two (K0 K1 : Act → World → Prop) (Q : Exit → Act → World → Prop) : Exit → Act → World → Prop
  | .goto l, a, w => (l = 0 ∧ K0 a w) ∨ (l = 1 ∧ K1 a w)
  | .normal, a, w => Q .normal a w
  | .exit id, a, w => Q (.exit id) a w
  | .ret, a, w => Q .ret a w
  | .panic ch, a, w => Q (.panic ch) a w
  | .outgrown, a, w => Q .outgrown a w
theorem two_goto0 {K0 K1 : Act → World → Prop} {Q : Exit → Act → World → Prop} {a : Act} {w : World} (h : K0 a w) : two K0 K1 Q (.goto 0) a w := .inl ⟨rfl, h⟩
theorem two_goto1 {K0 K1 : Act → World → Prop} {Q : Exit → Act → World → Prop} {a : Act} {w : World} (h : K1 a w) : two K0 K1 Q (.goto 1) a w := .inr ⟨rfl, h⟩
theorem two_ret {K0 K1 : Act → World → Prop} {Q : Exit → Act → World → Prop} {a : Act} {w : World} (h : Q .ret a w) : two K0 K1 Q .ret a w := h
/-- At a smaller number. -/
def Less (J : Nat → Act → World → Prop) (n : Nat) (a : Act) (w : World) : Prop := ∃ m, m < n ∧ J m a w
def Some (J : Nat → Act → World → Prop) (a : Act) (w : World) : Prop := ∃ m, J m a w

section
variable {P : Program} {a : Act} {w : World} {Q : Exit → Act → World → Prop}
theorem wp_behind_skip {r : Code} {Q' : Exit → Act → World → Prop} {a : Act} {w : World} (h : r.wp P Q' a w) : (Code.seq .skip r).wp P Q' a w := wp_seq (wp_skip h)
theorem wp_scope_two {c r0 r1 : Code} (J0 J1 : Nat → Act → World → Prop) (hf0 : findLabel c 0 = some (.seq .skip r0)) (hf1 : findLabel c 1 = some (.seq .skip r1))
    (pass1 : ∀ (K0 K1 : Act → World → Prop) (n : Nat), (∀ a w, Less J0 n a w → K0 a w) → (∀ a w, Less J1 n a w → K1 a w) → ∀ a w, J1 n a w → r1.wp P (two K0 K1 Q) a w)
    (pass0 : ∀ (K0 K1 : Act → World → Prop) (n : Nat), (∀ a w, Less J0 n a w → K0 a w) → (∀ a w, Less J1 n a w → r1.wp P (two K0 K1 Q) a w) → ∀ a w, J0 n a w → r0.wp P (two K0 K1 Q) a w)
    (first : ∀ (K0 K1 : Act → World → Prop), (∀ a w, Some J0 a w → r0.wp P (two K0 K1 Q) a w) → c.wp P (two K0 K1 Q) a w) : (Code.scope c).wp P Q a w := by
  intro b k cs
  have hg0 : gotoIn 0 (.inScope c :: k) = some (.code (.seq .skip r0) :: .inScope c :: k) := by simp [gotoIn, hf0]
  have hg1 : gotoIn 1 (.inScope c :: k) = some (.code (.seq .skip r1) :: .inScope c :: k) := by simp [gotoIn, hf1]
  have step0 : ∀ (K0 K1 : Act → World → Prop) (n : Nat), (∀ a w, Less J0 n a w → K0 a w) → (∀ a w, Less J1 n a w → K1 a w) → ∀ a w, J0 n a w → r0.wp P (two K0 K1 Q) a w := by
    intro K0 K1 n h0 h1 a w hJ
    refine pass0 K0 K1 n h0 ?_ a w hJ
    rintro a' w' ⟨m, hm, h⟩
    exact pass1 K0 K1 m (fun a w ⟨j, hj, hh⟩ => h0 a w ⟨j, Nat.lt_trans hj hm, hh⟩) (fun a w ⟨j, hj, hh⟩ => h1 a w ⟨j, Nat.lt_trans hj hm, hh⟩) a' w' h
  have key : ∀ n, (∀ a w, J0 n a w → ∃ e a' w', Q e a' w' ∧ Arrives P (lone (b.at a (.code (.seq .skip r0) :: .inScope c :: k)) cs w) b k cs e a' w') ∧ (∀ a w, J1 n a w → ∃ e a' w', Q e a' w' ∧ Arrives P (lone (b.at a (.code (.seq .skip r1) :: .inScope c :: k)) cs w) b k cs e a' w') := by
    intro n
    induction n using Nat.strongRecOn with
    | _ n ih =>
      have fin : ∀ (r : Code) (a : Act) (w : World), r.wp P (two (Less J0 n) (Less J1 n) Q) a w → ∃ e a' w', Q e a' w' ∧ Arrives P (lone (b.at a (.code r :: .inScope c :: k)) cs w) b k cs e a' w' := by
        intro r a w h
        obtain ⟨e, a₁, w₁, hq, harr⟩ := h b (.inScope c :: k) cs
        cases e with
        | normal => exact ⟨.normal, a₁, w₁, hq, Steps.trans harr (.one step_inScope)⟩
        | exit id => exact ⟨.exit id, a₁, w₁, hq, fun k' hk => harr k' (by simp [exitTo, hk])⟩
        | goto l' =>
          rcases hq with ⟨rfl, m, hlt, hJ⟩ | ⟨rfl, m, hlt, hJ⟩
          · obtain ⟨e₂, a₂, w₂, hq₂, harr₂⟩ := (ih m hlt).1 a₁ w₁ hJ
            exact ⟨e₂, a₂, w₂, hq₂, .of_steps (harr _ hg0) harr₂⟩
          · obtain ⟨e₂, a₂, w₂, hq₂, harr₂⟩ := (ih m hlt).2 a₁ w₁ hJ
            exact ⟨e₂, a₂, w₂, hq₂, .of_steps (harr _ hg1) harr₂⟩
        | ret => exact ⟨_, a₁, w₁, hq, harr⟩
        | panic ch => exact ⟨_, a₁, w₁, hq, harr⟩
        | outgrown => exact ⟨_, a₁, w₁, hq, harr⟩
      exact ⟨fun a w hJ => fin _ a w (wp_behind_skip (step0 _ _ n (fun _ _ h => h) (fun _ _ h => h) a w hJ)), fun a w hJ => fin _ a w (wp_behind_skip (pass1 _ _ n (fun _ _ h => h) (fun _ _ h => h) a w hJ))⟩
  obtain ⟨e, a₁, w₁, hq, harr⟩ := first (Some J0) (Some J1) (fun a w ⟨n, h⟩ => step0 _ _ n (fun a w ⟨j, _, hh⟩ => ⟨j, hh⟩) (fun a w ⟨j, _, hh⟩ => ⟨j, hh⟩) a w h) b (.inScope c :: k) cs
  cases e with
  | normal => exact ⟨.normal, a₁, w₁, hq, .head step_scope (Steps.trans harr (.one step_inScope))⟩
  | exit id => exact ⟨.exit id, a₁, w₁, hq, fun k' hk => .head step_scope (harr k' (by simp [exitTo, hk]))⟩
  | goto l' =>
    rcases hq with ⟨rfl, m, hJ⟩ | ⟨rfl, m, hJ⟩
    · obtain ⟨e₂, a₂, w₂, hq₂, harr₂⟩ := (key m).1 a₁ w₁ hJ
      exact ⟨e₂, a₂, w₂, hq₂, .of_steps (.head step_scope (harr _ hg0)) harr₂⟩
    · obtain ⟨e₂, a₂, w₂, hq₂, harr₂⟩ := (key m).2 a₁ w₁ hJ
      exact ⟨e₂, a₂, w₂, hq₂, .of_steps (.head step_scope (harr _ hg1)) harr₂⟩
  | ret => exact ⟨_, a₁, w₁, hq, .of_steps (.one step_scope) harr⟩
  | panic ch => exact ⟨_, a₁, w₁, hq, .of_steps (.one step_scope) harr⟩
  | outgrown => exact ⟨_, a₁, w₁, hq, .of_steps (.one step_scope) harr⟩
end
end Go.Proofs.YtgjaajofhfhadaaDoor.Fol
