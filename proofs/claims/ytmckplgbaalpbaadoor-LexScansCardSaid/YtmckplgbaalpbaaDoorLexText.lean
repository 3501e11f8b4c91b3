/- How long tokens' texts are; tokens told one behind the other. -/
import Derived.Test.YtmckplgbaalpbaaDoorLexMore
namespace Go.Proofs.YtmckplgbaalpbaaDoor.Lex
set_option linter.unusedVariables false

theorem numb_text {kind cls top : Nat} {pre r : List UInt8} {at_ : Nat} {t : Tok} {k : Nat} (h : numb kind cls top pre r at_ = .tok t k) : t.text.length ≤ pre.length + r.length := by
  have := (numb_again h).1
  subst this
  have := dg_len r
  simp; omega
theorem plain_text {c : UInt8} {r : List UInt8} {at_ : Nat} {t : Tok} {k : Nat} (h : plain c r at_ = .tok t k) : t.text.length ≤ r.length + 1 := by
  unfold plain at h
  split at h
  · split at h
    · cases h
    · injection h with h _
      subst h
      have := Nam.run_le (c :: r)
      unfold Nam.run at this
      simpa using this
  · split at h
    · have := numb_text h; simp at this; omega
    · split at h
      · have := numb_text h; simp at this; omega
      · split at h
        · split at h
          · cases h
          · split at h
            · have := numb_text h; simp at this ⊢; omega
            · split at h
              · have := numb_text h; simp at this ⊢; omega
              · cases h
        · split at h
          · have := numb_text h; simp at this; omega
          · split at h
            · split at h
              · rename_i hh
                injection h with h _
                subst h
                cases r with
                | nil => simp at hh
                | cons a r => simp
              · injection h with h _; subst h; simp
            · cases h
theorem nx_text {l : List UInt8} {at_ k : Nat} {t : Tok} (h : nx l at_ = .tok t k) : t.text.length ≤ l.length + 64 := by
  unfold nx at h
  split at h
  · cases h
  · rename_i c r
    split at h
    · cases h
    · split at h
      · cases h
      · split at h
        · split at h
          · rename_i hs
            injection h with h _
            subst h
            obtain ⟨x, y, e⟩ : ∃ x y, Quo.scan (r.length + 1) r (at_ + 1) [] = (x, y, 0) := ⟨_, _, by rw [← hs]⟩
            have := (Quo.scan_out _ _ _ _ _ _ _ (by simp) e).1
            rw [e]; simp; omega
          · cases h
        · have := plain_text h; simp; omega
theorem go_text : ∀ (n : Nat) (l : List UInt8) (f p : Nat) (out : List Tok) (m : List Tok) (c : Int) (q B : Nat), l.length ≤ n → l.length + 64 ≤ B → (∀ t ∈ out, t.text.length ≤ B) → go f l p out = (m, c, q) → (∀ t ∈ m, t.text.length ≤ B) ∧ m.length ≤ out.length + l.length + 1 := by
  intro n
  induction n with
  | zero =>
    intro l f p out m c q B h1 hB ho h
    obtain rfl : l = [] := List.eq_nil_of_length_eq_zero (by omega)
    cases f with
    | zero => injection h with h _; subst h; exact ⟨(fun t ht => by cases ht), by simp⟩
    | succ f =>
      rw [go_end] at h
      injection h with h _
      subst h
      refine ⟨fun t ht => ?_, by simp⟩
      rcases List.mem_append.1 ht with ht | ht
      · exact ho t ht
      · rw [List.mem_singleton] at ht; subst ht; simp
  | succ n ih =>
    intro l f p out m c q B h1 hB ho h
    cases f with
    | zero => injection h with h _; subst h; exact ⟨(fun t ht => by cases ht), by simp⟩
    | succ f =>
      cases l with
      | nil =>
        rw [go_end] at h
        injection h with h _
        subst h
        refine ⟨fun t ht => ?_, by simp⟩
        rcases List.mem_append.1 ht with ht | ht
        · exact ho t ht
        · rw [List.mem_singleton] at ht; subst ht; simp
      | cons x r =>
        cases hx : nx (x :: r) p with
        | skip k =>
          have hk := nx_skip_size hx
          rw [go_skip out hx] at h
          obtain ⟨e1, e2⟩ := ih _ _ _ _ _ _ _ B (by rw [List.length_drop]; omega) (by rw [List.length_drop]; omega) ho h
          exact ⟨e1, by rw [List.length_drop] at e2; omega⟩
        | tok t k =>
          have hk := nx_tok_size hx
          have ht := nx_text hx
          rw [go_tok out hx] at h
          obtain ⟨e1, e2⟩ := ih _ _ _ _ _ _ _ B (by rw [List.length_drop]; omega) (by rw [List.length_drop]; omega) (by
            intro u hu
            rcases List.mem_append.1 hu with hu | hu
            · exact ho u hu
            · rw [List.mem_singleton] at hu; rw [hu]; omega) h
          exact ⟨e1, by rw [List.length_drop, List.length_append] at e2; simp at e2 ⊢; simp at hk; omega⟩
        | bad e p' =>
          rw [go_bad out hx] at h
          injection h with h _
          subst h
          exact ⟨(fun t ht => by cases ht), by simp⟩
theorem all_text {s : List UInt8} {m : List Tok} {c : Int} {q : Nat} (h : all s = (m, c, q)) : (∀ t ∈ m, t.text.length ≤ s.length + 64) ∧ m.length ≤ s.length + 1 := by
  unfold all at h
  split at h
  · injection h with h _; subst h; exact ⟨(fun t ht => by cases ht), by simp⟩
  · obtain ⟨e1, e2⟩ := go_text _ _ _ _ _ _ _ _ _ (Nat.le_refl _) (Nat.le_refl _) (by intro t ht; cases ht) h
    exact ⟨e1, by simpa using e2⟩
theorem again_len (t : Tok) : (again t).length ≤ 4 * t.text.length + 2 := by
  unfold again
  split
  · exact Quo.put_len _
  · omega
theorem glue_at (rem : List UInt8) (i : Nat) (l : List Tok) (h : i < l.length) : glue rem i (l.drop i) = again l[i] ++ 32 :: ((if i % 3 = 1 then 47 :: 47 :: (rem ++ [10]) else []) ++ glue rem (i + 1) (l.drop (i + 1))) := by
  rw [List.drop_eq_getElem_cons h]; rfl
theorem glue_end (rem : List UInt8) (i : Nat) (l : List Tok) (h : l.length ≤ i) : glue rem i (l.drop i) = [] := by rw [List.drop_eq_nil_of_le h]; rfl
end Go.Proofs.YtmckplgbaalpbaaDoor.Lex
