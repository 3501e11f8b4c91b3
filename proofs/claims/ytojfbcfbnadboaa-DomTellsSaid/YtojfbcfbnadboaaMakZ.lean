
/- Regions that draw, where two or three operations may come next. -/
import Derived.Test.YtojfbcfbnadboaaParZ
namespace Go.Proofs.Ytojfbcfbnadboaa.Par
set_option linter.unusedVariables false

section
variable {P : Program} {ops : Array Oper} {Q : Exit → Act → World → Prop} {md : Region.Mode} {S : World → Prop} {z : Nat}
/-- What is asked of one that comes next. -/
def ZNext (P : Program) (md : Region.Mode) (ops : Array Oper) (Q : Exit → Act → World → Prop) (S : World → Prop) (z f : Nat) (l : Array Bool) (a : Act) (w : World) (i : Nat) : Prop :=
  ∃ o, ops[i]? = some o ∧ ∀ K' : Act → World → Prop, Shut (∀ a w, (i ≠ z → S w) → AnyZ P md ops Q S z f (l.setIfInBounds i true) a w → K' a w) → if Region.wanted o (yielded ops a.tmps) = true then Oper.wp P o a w K' Q else K' (a.put o.dst undef) w
theorem anyZ_some {f : Nat} {l : Array Bool} {a : Act} {w : World} (is : List Nat) (hr : Region.ready md ops l = is) (hne : is ≠ []) (h : ∀ i ∈ is, ZNext P md ops Q S z f l a w i) : AnyZ P md ops Q S z (f + 1) l a w := by
  refine ⟨fun h0 => absurd (hr ▸ h0) hne, fun j hj => ?_⟩
  obtain ⟨o, ho, h⟩ := h j (hr ▸ hj)
  exact wpOp_step ho fun K' hK => h K' fun a w hS hW => hK a w ⟨hS, hW⟩
theorem anyZ_two {f : Nat} {l : Array Bool} {a : Act} {w : World} {i j : Nat} (hr : Region.ready md ops l = [i, j]) (h1 : ZNext P md ops Q S z f l a w i) (h2 : ZNext P md ops Q S z f l a w j) : AnyZ P md ops Q S z (f + 1) l a w :=
  anyZ_some [i, j] hr (by simp) (by
    intro k hk
    rcases List.mem_cons.1 hk with rfl | hk
    · exact h1
    · rw [List.mem_singleton] at hk
      subst hk
      exact h2)
theorem anyZ_three {f : Nat} {l : Array Bool} {a : Act} {w : World} {i j k : Nat} (hr : Region.ready md ops l = [i, j, k]) (h1 : ZNext P md ops Q S z f l a w i) (h2 : ZNext P md ops Q S z f l a w j) (h3 : ZNext P md ops Q S z f l a w k) : AnyZ P md ops Q S z (f + 1) l a w :=
  anyZ_some [i, j, k] hr (by simp) (by
    intro m hm
    rcases List.mem_cons.1 hm with rfl | hm
    · exact h1
    · rcases List.mem_cons.1 hm with rfl | hm
      · exact h2
      · rw [List.mem_singleton] at hm
        subst hm
        exact h3)
/-- Whatever order: what holds is told of what was done. -/
theorem anyZ_inv (Inv : Nat → Array Bool → Act → World → Prop) (h0 : ∀ l a w, Inv 0 l a w → Region.ready md ops l = [] ∧ Q .normal a w)
    (h1 : ∀ f l a w, Inv (f + 1) l a w → Region.ready md ops l ≠ [] ∧ ∀ i ∈ Region.ready md ops l, wpOp P ops Q i (fun a' w' => (i ≠ z → S w') ∧ Inv f (l.setIfInBounds i true) a' w') a w) : ∀ f l a w, Inv f l a w → AnyZ P md ops Q S z f l a w
  | 0, l, a, w, h => h0 l a w h
  | f + 1, l, a, w, h => ⟨fun e => absurd e (h1 f l a w h).1, fun i hi => wpOp_mono (fun a' w' h' => ⟨h'.1, anyZ_inv Inv h0 h1 f _ a' w' h'.2⟩) ((h1 f l a w h).2 i hi)⟩
theorem anyZ_name {f : Nat} {l : Array Bool} {a : Act} {w : World} (h : ∀ a0, a0 = a → AnyZ P md ops Q S z f l a0 w) : AnyZ P md ops Q S z f l a w := h a rfl
end
end Go.Proofs.Ytojfbcfbnadboaa.Par
