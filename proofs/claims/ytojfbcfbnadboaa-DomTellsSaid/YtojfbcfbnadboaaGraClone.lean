
/- slices.Clone at numbers, out of the library's contract. -/
import Derived.Test.YtojfbcfbnadboaaGraIn
import Derived.Test.YtojfbcfbnadboaaShelf
namespace Go.Proofs.Ytojfbcfbnadboaa.Gra
open Go.ChangeShapes Go.WideShapes Go.RowKit
set_option linter.unusedVariables false

theorem own_of {N n : Nat} {w : World} {v : Value} {l : List Int} (h : w.ownsRow N 3 1 v n (l.map (Value.int .i64))) (hl : l.length = n) : ∃ B d, v = .slice B n d ∧ OwnL 3 1 intC N w B d l := by
  have hf : ∀ l : List Int, l.map (Value.int .i64) = l.flatMap intC := by
    intro l
    induction l with
    | nil => rfl
    | cons x l ih => rw [List.map_cons, List.flatMap_cons, ih]; rfl
  rw [hf] at h
  obtain ⟨h1, ⟨rfl, h2⟩ | ⟨g, cap, cur, rfl, h2⟩⟩ := h
  · subst h2
    exact ⟨none, 0, rfl, by unfold OwnL; rw [hl]; exact ⟨h1, .inl ⟨rfl, rfl⟩⟩⟩
  · exact ⟨some ⟨g, 0, none⟩, cap, rfl, by unfold OwnL; rw [hl]; exact ⟨h1, .inr ⟨g, cap, cur, rfl, h2⟩⟩⟩
theorem clone_v (A : Option Addr) (n c : Nat) (l : List Int) (w : World) (h : IsInts w A n l) (hn : n ≤ 1000000) :
    Calls Try.prog 43 #[.slice A n c] w fun e w' => (∃ B d, e = .returned (.slice B n d) ∧ OwnL 3 1 intC w.heap.size w' B d l) ∧ Below w.heap.size w w' := by
  have hl := h.1
  cases A with
  | none =>
    have h0 : n = 0 := by
      rcases h.2.2 with h1 | ⟨b, o, h1, _⟩
      · rw [h1] at hl; simpa using hl.symm
      · cases h1
    subst h0
    obtain rfl : l = [] := List.eq_nil_of_length_eq_zero hl
    refine (Try.slices_Clone_int_nil 0 c w).mono ?_
    rintro e w' ⟨rfl, rfl⟩
    exact ⟨⟨none, 0, rfl, OwnL.nil⟩, Below.refl _ _⟩
  | some a =>
    by_cases h0 : n = 0
    · subst h0
      obtain rfl : l = [] := List.eq_nil_of_length_eq_zero hl
      refine (Try.slices_Clone_int_zero a c w).mono ?_
      rintro e w' ⟨v', rfl, h1, _, hb⟩
      obtain ⟨B, d, rfl, h2⟩ := own_of (l := []) h1 rfl
      exact ⟨⟨B, d, rfl, h2⟩, hb⟩
    · obtain ⟨b, o, e, hb, hc⟩ : ∃ b o, some a = some (⟨b, o, none⟩ : Addr) ∧ b < w.heap.size ∧ ∀ k, k < n → ∃ x, l[k]? = some x ∧ w.cell? ⟨b, o + k, none⟩ = some (.int .i64 x) := by
        obtain ⟨b, o, e, hb, _⟩ := h.at (k := 0) (by omega)
        refine ⟨b, o, e, hb, fun k hk => ?_⟩
        obtain ⟨b', o', e', _, x, hx, hy⟩ := h.at (k := k) hk
        rw [e] at e'
        injection e' with e'
        injection e' with e1 e2
        subst e1 e2
        exact ⟨x, hx, hy⟩
      injection e with e
      subst e
      refine (Try.slices_Clone_int b o n c l w (by omega) (by omega) (fun j hj => ?_)).mono ?_
      · obtain ⟨x, hx, hy⟩ := hc j (by omega)
        rw [hy, List.getD_eq_getElem?_getD, hx]
        rfl
      · rintro e w' ⟨v', rfl, h1, _, hb⟩
        rw [List.take_of_length_le (by omega)] at h1
        obtain ⟨B, d, rfl, h2⟩ := own_of h1 hl
        exact ⟨⟨B, d, rfl, h2⟩, hb⟩
end Go.Proofs.Ytojfbcfbnadboaa.Gra
