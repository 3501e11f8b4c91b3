/- What each pass of reading on tells. -/
import Derived.Test.YtgjaajofhfhadaaDoorFoldMath
namespace Go.Proofs.YtgjaajofhfhadaaDoor.Fol
open Go.RowKit Lex
set_option linter.unusedVariables false

/-- Where a factor begins. -/
def FacP (l : List Tok) (k a : Nat) (stk : List Opn) (R : Res) (m : Bool) (p : Nat) (t : Tok) : Prop :=
  (isT t [40] = true ∧ mayT stk.length m = 0 ∧ mach l k .fac (p + 1) (opened m :: stk) = some R) ∨
  (isT t [40] = true ∧ ¬ mayT stk.length m = 0 ∧ R = .bad (mayT stk.length m) t.at_) ∨
  (isT t [40] = false ∧ ∃ n, numT t m = (n, 0) ∧ mach l k (.beh n) (p + 1) stk = some R) ∨
  (isT t [40] = false ∧ ∃ n c, numT t m = (n, c) ∧ ¬ c = 0 ∧ R = .bad c t.at_)
theorem mach_fac {l : List Tok} {k a : Nat} {stk : List Opn} {R : Res} (h : mach l (k + 1) .fac a stk = some R) :
    ∃ t0 t, l[a]? = some t0 ∧ ((isT t0 [45] = true ∧ l[a + 1]? = some t ∧ FacP l k a stk R true (a + 1) t) ∨ (isT t0 [45] = false ∧ l[a]? = some t ∧ FacP l k a stk R false a t)) := by
  rw [mach] at h
  cases h0 : l[a]? with
  | none => rw [h0] at h; cases h
  | some t0 =>
    rw [h0] at h
    simp only at h
    have key : ∀ (m : Bool) (p : Nat), (match l[p]? with
      | none => none
      | some t =>
        if isT t [40] then
          (if mayT stk.length m = 0 then mach l k .fac (p + 1) (opened m :: stk)
           else some (.bad (mayT stk.length m) t.at_))
        else if (numT t m).2 = 0 then mach l k (.beh (numT t m).1) (p + 1) stk
        else some (.bad (numT t m).2 t.at_)) = some R → ∃ t, l[p]? = some t ∧ FacP l k a stk R m p t := by
      intro m p h
      cases hp : l[p]? with
      | none => rw [hp] at h; cases h
      | some t =>
        rw [hp] at h
        simp only at h
        refine ⟨t, rfl, ?_⟩
        cases ho : isT t [40] with
        | true =>
          rw [ho, if_pos rfl] at h
          by_cases hm : mayT stk.length m = 0
          · rw [if_pos hm] at h; exact .inl ⟨ho, hm, h⟩
          · rw [if_neg hm] at h; injection h with h; exact .inr (.inl ⟨ho, hm, h.symm⟩)
        | false =>
          rw [ho, if_neg (by decide)] at h
          by_cases hm : (numT t m).2 = 0
          · rw [if_pos hm] at h; exact .inr (.inr (.inl ⟨ho, _, by rw [← hm], h⟩))
          · rw [if_neg hm] at h; injection h with h; exact .inr (.inr (.inr ⟨ho, _, _, rfl, hm, h.symm⟩))
    cases hm : isT t0 [45] with
    | true =>
      rw [hm] at h
      simp only [if_true] at h
      obtain ⟨t, h1, h2⟩ := key true (a + 1) h
      exact ⟨t0, t, rfl, .inl ⟨hm, h1, h2⟩⟩
    | false =>
      rw [hm] at h
      simp only [Bool.false_eq_true, if_false] at h
      obtain ⟨t, h1, h2⟩ := key false a h
      exact ⟨t0, t, rfl, .inr ⟨hm, h0 ▸ h1, h2⟩⟩
theorem mach_top {l : List Tok} {k a : Nat} {n : Int} {R : Res} (h : mach l (k + 1) (.beh n) a [] = some R) : R = .val n a := by
  rw [mach] at h; injection h with h; exact h.symm
theorem mach_beh {l : List Tok} {k a : Nat} {n : Int} {o : Opn} {r : List Opn} {R : Res} (h : mach l (k + 1) (.beh n) a (o :: r) = some R) :
    ∃ t, l[a]? = some t ∧ (
      (isT t [41] = true ∧ mach l k (.beh (o.times n).closed) (a + 1) r = some R) ∨
      (isT t [41] = false ∧ isT t [42] = true ∧ mach l k .fac (a + 1) (o.times n :: r) = some R) ∨
      (isT t [41] = false ∧ isT t [42] = false ∧ isT t [43] = true ∧ mach l k .fac (a + 1) ((o.times n).join 1 :: r) = some R) ∨
      (isT t [41] = false ∧ isT t [42] = false ∧ isT t [43] = false ∧ isT t [45] = true ∧ mach l k .fac (a + 1) ((o.times n).join 2 :: r) = some R) ∨
      (isT t [41] = false ∧ isT t [42] = false ∧ isT t [43] = false ∧ isT t [45] = false ∧ R = .bad 20 t.at_)) := by
  rw [mach] at h
  cases h0 : l[a]? with
  | none => rw [h0] at h; cases h
  | some t =>
    rw [h0] at h
    simp only at h
    refine ⟨t, rfl, ?_⟩
    cases h1 : isT t [41] with
    | true => rw [h1, if_pos rfl] at h; exact .inl ⟨rfl, h⟩
    | false =>
      rw [h1, if_neg (by decide)] at h
      cases h2 : isT t [42] with
      | true => rw [h2, if_pos rfl] at h; exact .inr (.inl ⟨rfl, rfl, h⟩)
      | false =>
        rw [h2, if_neg (by decide)] at h
        cases h3 : isT t [43] with
        | true => rw [h3, if_pos rfl] at h; exact .inr (.inr (.inl ⟨rfl, rfl, rfl, h⟩))
        | false =>
          rw [h3, if_neg (by decide)] at h
          cases h4 : isT t [45] with
          | true => rw [h4, if_pos rfl] at h; exact .inr (.inr (.inr (.inl ⟨rfl, rfl, rfl, rfl, h⟩)))
          | false =>
            rw [h4, if_neg (by decide)] at h
            injection h with h
            exact .inr (.inr (.inr (.inr ⟨rfl, rfl, rfl, rfl, h.symm⟩)))
end Go.Proofs.YtgjaajofhfhadaaDoor.Fol
