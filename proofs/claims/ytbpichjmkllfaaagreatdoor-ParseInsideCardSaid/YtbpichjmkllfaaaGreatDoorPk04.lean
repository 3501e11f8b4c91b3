/- Tokens of a text that is cut off where one begins. -/
import Derived.Test.YtbpichjmkllfaaaGreatDoorPk03
import Derived.Test.YtbpichjmkllfaaaGreatDoorPk01
import Derived.WalkKit
namespace Go.Proofs.YtbpichjmkllfaaaGreatDoor.Lex
set_option linter.unusedVariables false
set_option maxRecDepth 20000

theorem tw_take {α : Type} (p : α → Bool) : ∀ (l : List α) (m : Nat), (l.takeWhile p).length ≤ m → (l.take m).takeWhile p = l.takeWhile p := by
  intro l
  induction l with
  | nil => intro m h; simp
  | cons c r ih =>
    intro m h
    cases hc : p c with
    | true =>
      rw [List.takeWhile_cons_of_pos hc] at h ⊢
      cases m with
      | zero => simp at h
      | succ m => rw [List.take_succ_cons, List.takeWhile_cons_of_pos hc, ih m (by simpa using h)]
    | false =>
      rw [List.takeWhile_cons_of_neg (by simp [hc])]
      cases m with
      | zero => simp
      | succ m => rw [List.take_succ_cons, List.takeWhile_cons_of_neg (by simp [hc])]
theorem piece_take {l : List UInt8} {m : Nat} (h0 : (Quo.piece l).2 ≠ 0) (h : (Quo.piece l).2 ≤ m) : Quo.piece (l.take m) = Quo.piece l := by
  match l, h0, h with
  | [], h0, _ => exact absurd rfl h0
  | c :: r, h0, h =>
    unfold Quo.piece at h0 h
    by_cases hc : c = 92
    · simp only [if_pos hc] at h0 h
      match r, h0, h with
      | [], h0, _ => exact absurd rfl h0
      | d :: r, h0, h =>
        unfold Quo.esc at h0 h
        by_cases h1 : d = 34 ∨ d = 92
        · simp only [if_pos h1] at h
          obtain ⟨m, rfl⟩ : ∃ k, m = k + 2 := ⟨m - 2, by omega⟩
          simp only [List.take_succ_cons, Quo.piece, Quo.esc, if_pos hc, if_pos h1]
        · simp only [if_neg h1] at h0 h
          by_cases h2 : d = 110
          · simp only [if_pos h2] at h
            obtain ⟨m, rfl⟩ : ∃ k, m = k + 2 := ⟨m - 2, by omega⟩
            simp only [List.take_succ_cons, Quo.piece, Quo.esc, if_pos hc, if_neg h1, if_pos h2]
          · simp only [if_neg h2] at h0 h
            by_cases h3 : d = 116
            · simp only [if_pos h3] at h
              obtain ⟨m, rfl⟩ : ∃ k, m = k + 2 := ⟨m - 2, by omega⟩
              simp only [List.take_succ_cons, Quo.piece, Quo.esc, if_pos hc, if_neg h1, if_neg h2, if_pos h3]
            · simp only [if_neg h3] at h0 h
              by_cases h4 : d = 120
              · simp only [if_pos h4] at h0 h
                match r, h0, h with
                | [], h0, _ => exact absurd rfl h0
                | [_], h0, _ => exact absurd rfl h0
                | x :: y :: r, h0, h =>
                  unfold Quo.two at h0 h
                  by_cases h5 : Quo.dig x < 16 ∧ Quo.dig y < 16
                  · simp only [if_pos h5] at h
                    obtain ⟨m, rfl⟩ : ∃ k, m = k + 4 := ⟨m - 4, by omega⟩
                    simp only [List.take_succ_cons, Quo.piece, Quo.esc, Quo.two, if_pos hc, if_neg h1, if_neg h2, if_neg h3, if_pos h4, if_pos h5]
                  · simp only [if_neg h5] at h0; exact absurd rfl h0
              · simp only [if_neg h4] at h0; exact absurd rfl h0
    · simp only [if_neg hc] at h
      obtain ⟨m, rfl⟩ : ∃ k, m = k + 1 := ⟨m - 1, by omega⟩
      simp only [List.take_succ_cons, Quo.piece, if_neg hc]
theorem scan_take : ∀ (f : Nat) (l : List UInt8) (p : Nat) (t x : List UInt8) (y : Nat), Quo.scan f l p t = (x, y, 0) → ∀ m, y - p ≤ m → ∀ f', (l.take m).length < f' → Quo.scan f' (l.take m) p t = (x, y, 0) := by
  intro f
  induction f with
  | zero => intro l p t x y h; simp [Quo.scan] at h
  | succ f ih =>
    intro l p t x y h m hm f' hf
    cases l with
    | nil => simp [Quo.scan] at h
    | cons c r =>
      have hpl := scan_place _ _ _ _ _ _ h
      obtain ⟨f', rfl⟩ : ∃ k, f' = k + 1 := ⟨f' - 1, by omega⟩
      unfold Quo.scan at h
      have hlen : (c :: r).take m ≠ [] := by
        intro e
        have := congrArg List.length e
        rw [List.length_take, List.length_cons, List.length_nil] at this
        omega
      obtain ⟨m, rfl⟩ : ∃ k, m = k + 1 := ⟨m - 1, by omega⟩
      by_cases h1 : c = 34
      · rw [if_pos h1] at h
        rw [List.take_succ_cons]
        unfold Quo.scan
        rw [if_pos h1]
        exact h
      · rw [if_neg h1] at h
        by_cases h2 : c = 10
        · rw [if_pos h2] at h; simp at h
        · rw [if_neg h2] at h
          by_cases h3 : t.length = 64
          · rw [if_pos h3] at h; simp at h
          · rw [if_neg h3] at h
            by_cases h4 : (Quo.piece (c :: r)).2 = 0
            · rw [if_pos h4] at h; simp at h
            · rw [if_neg h4] at h
              have g := scan_place _ _ _ _ _ _ h
              have hp := piece_take (l := c :: r) (m := m + 1) h4 (by omega)
              have hi := ih _ _ _ _ _ h (m + 1 - (Quo.piece (c :: r)).2) (by omega) f' (by
                rw [List.length_take, List.length_drop] 
                rw [List.length_take] at hf
                omega)
              have e : ((c :: r).take (m + 1)).drop (Quo.piece (c :: r)).2 = ((c :: r).drop (Quo.piece (c :: r)).2).take (m + 1 - (Quo.piece (c :: r)).2) := List.drop_take
              have e2 : (c :: r).take (m + 1) = c :: r.take m := List.take_succ_cons
              rw [e2] at hp e ⊢
              unfold Quo.scan
              rw [if_neg h1, if_neg h2, if_neg h3, hp, if_neg h4, e]
              exact hi
theorem numb_take {kind cls top : Nat} {pre r : List UInt8} {a k m : Nat} {t : Tok} (h : numb kind cls top pre r a = .tok t k) (hm : k ≤ pre.length + m) : numb kind cls top pre (r.take m) a = .tok t k := by
  unfold numb at h ⊢
  split at h
  · rename_i hv
    injection h with h1 h2
    have e : dg (r.take m) = dg r := tw_take dgt r m (by unfold dg at h2; omega)
    rw [e, if_pos hv, h1, h2]
  · cases h
theorem plain_take {c : UInt8} {r : List UInt8} {a k m : Nat} {t : Tok} (h : plain c r a = .tok t k) (hm : k ≤ m + 1) : plain c (r.take m) a = .tok t k := by
  unfold plain at h ⊢
  by_cases h1 : Nam.letter c = true
  · rw [if_pos h1] at h ⊢
    by_cases h2 : 24 < Nam.run (c :: r)
    · rw [if_pos h2] at h; cases h
    · rw [if_neg h2] at h
      injection h with h3 h4
      have e : (c :: r.take m).takeWhile Nam.sign = (c :: r).takeWhile Nam.sign := by
        have := tw_take Nam.sign (c :: r) (m + 1) (by unfold Nam.run at h4; omega)
        rwa [List.take_succ_cons] at this
      have e2 : Nam.run (c :: r.take m) = Nam.run (c :: r) := by unfold Nam.run; rw [e]
      rw [e2, e, if_neg h2, h3, h4]
  · rw [if_neg h1] at h ⊢
    by_cases h2 : c = 37
    · rw [if_pos h2] at h ⊢; exact numb_take h (by simp; omega)
    · rw [if_neg h2] at h ⊢
      by_cases h3 : c = 35
      · rw [if_pos h3] at h ⊢; exact numb_take h (by simp; omega)
      · rw [if_neg h3] at h ⊢
        by_cases h4 : c = 36
        · rw [if_pos h4] at h ⊢
          match r, h with
          | [], h => cases h
          | d :: r', h =>
            simp only at h
            have hk : 2 ≤ k := by
              split at h
              · have := (numb_size h).1
                unfold numb at h
                split at h
                · injection h with _ h; simp at h; omega
                · cases h
              · split at h
                · unfold numb at h
                  split at h
                  · injection h with _ h; simp at h; omega
                  · cases h
                · cases h
            obtain ⟨m, rfl⟩ : ∃ j, m = j + 1 := ⟨m - 1, by omega⟩
            rw [List.take_succ_cons]
            simp only
            split at h
            · rename_i h5; rw [if_pos h5]; exact numb_take h (by simp; omega)
            · rename_i h5
              rw [if_neg h5]
              split at h
              · rename_i h6; rw [if_pos h6]; exact numb_take h (by simp; omega)
              · cases h
        · rw [if_neg h4] at h ⊢
          by_cases h5 : dgt c = true
          · rw [if_pos h5] at h ⊢
            have := numb_take (m := m + 1) h (by simp; omega)
            rwa [List.take_succ_cons] at this
          · rw [if_neg h5] at h ⊢
            by_cases h6 : c ∈ signs
            · rw [if_pos h6] at h ⊢
              by_cases h7 : c = 46 ∧ r.head? = some 46
              · rw [if_pos h7] at h
                injection h with h8 h9
                obtain ⟨m, rfl⟩ : ∃ j, m = j + 1 := ⟨m - 1, by omega⟩
                have : (r.take (m + 1)).head? = some 46 := by
                  cases r with
                  | nil => simp at h7
                  | cons d r => rw [List.take_succ_cons]; exact h7.2
                rw [if_pos ⟨h7.1, this⟩, h8, h9]
              · rw [if_neg h7] at h
                have : ¬ (c = 46 ∧ (r.take m).head? = some 46) := by
                  intro h8
                  refine h7 ⟨h8.1, ?_⟩
                  cases r with
                  | nil => simp at h8
                  | cons d r =>
                    cases m with
                    | zero => simp at h8
                    | succ m => rw [List.take_succ_cons] at h8; exact h8.2
                rw [if_neg this]; exact h
            · rw [if_neg h6] at h; cases h
theorem nx_take_tok {l : List UInt8} {a k m : Nat} {t : Tok} (h : nx l a = .tok t k) (hm : k ≤ m) : nx (l.take m) a = .tok t k := by
  have hs := nx_tok_size h
  cases l with
  | nil => cases h
  | cons c r =>
    obtain ⟨m, rfl⟩ : ∃ j, m = j + 1 := ⟨m - 1, by omega⟩
    rw [List.take_succ_cons]
    unfold nx at h ⊢
    simp only at h ⊢
    by_cases h1 : blank c = true
    · rw [if_pos h1] at h; cases h
    · rw [if_neg h1] at h ⊢
      by_cases h2 : c = 47 ∧ r.head? = some 47
      · rw [if_pos h2] at h; cases h
      · rw [if_neg h2] at h
        have : ¬ (c = 47 ∧ (r.take m).head? = some 47) := by
          intro h8
          refine h2 ⟨h8.1, ?_⟩
          cases r with
          | nil => simp at h8
          | cons d r =>
            cases m with
            | zero => simp at h8
            | succ m => rw [List.take_succ_cons] at h8; exact h8.2
        rw [if_neg this]
        by_cases h3 : c = 34
        · rw [if_pos h3] at h ⊢
          obtain ⟨x, y, z, e⟩ : ∃ x y z, Quo.scan (r.length + 1) r (a + 1) [] = (x, y, z) := ⟨_, _, _, rfl⟩
          rw [e] at h
          simp only at h
          split at h
          · rename_i hz
            subst hz
            injection h with h4 h5
            have g := scan_place _ _ _ _ _ _ e
            have := scan_take _ _ _ _ _ _ e m (by omega) ((r.take m).length + 1) (by omega)
            rw [this]
            simp only [if_true]
            rw [h4, h5]
          · cases h
        · rw [if_neg h3] at h ⊢
          exact plain_take h hm
theorem nx_take_skip {l : List UInt8} {a k m : Nat} (h : nx l a = .skip k) (hm : k ≤ m) : nx (l.take m) a = .skip k := by
  have hs := nx_skip_size h
  cases l with
  | nil => cases h
  | cons c r =>
    obtain ⟨m, rfl⟩ : ∃ j, m = j + 1 := ⟨m - 1, by omega⟩
    rw [List.take_succ_cons]
    unfold nx at h ⊢
    simp only at h ⊢
    by_cases h1 : blank c = true
    · rw [if_pos h1] at h ⊢; exact h
    · rw [if_neg h1] at h ⊢
      by_cases h2 : c = 47 ∧ r.head? = some 47
      · rw [if_pos h2] at h
        injection h with h
        have h2' : 2 ≤ k := by
          rw [← h]
          cases r with
          | nil => simp at h2
          | cons d r =>
            have hd : d = 47 := by simpa using h2.2
            rw [h2.1, hd, List.takeWhile_cons_of_pos (by decide), List.takeWhile_cons_of_pos (by decide)]
            simp
        have e : (c :: r.take m).takeWhile (· != 10) = (c :: r).takeWhile (· != 10) := by
          have := tw_take (· != 10) (c :: r) (m + 1) (by omega)
          rwa [List.take_succ_cons] at this
        have : c = 47 ∧ (r.take m).head? = some 47 := by
          refine ⟨h2.1, ?_⟩
          obtain ⟨m, rfl⟩ : ∃ j, m = j + 1 := ⟨m - 1, by omega⟩
          cases r with
          | nil => simp at h2
          | cons d r => rw [List.take_succ_cons]; exact h2.2
        rw [if_pos this, e, h]
      · rw [if_neg h2] at h
        split at h
        · split at h <;> cases h
        · exact absurd h plain_skip
theorem numb_at {kind cls top : Nat} {pre r : List UInt8} {a k : Nat} {t : Tok} (h : numb kind cls top pre r a = .tok t k) : t.at_ = a := by
  unfold numb at h
  split at h
  · injection h with h _; rw [← h]
  · cases h
theorem nx_at {l : List UInt8} {a k : Nat} {t : Tok} (h : nx l a = .tok t k) : t.at_ = a := by
  unfold nx at h
  split at h
  · cases h
  · split at h
    · cases h
    · split at h
      · cases h
      · split at h
        · split at h
          · injection h with h _; rw [← h]
          · cases h
        · unfold plain at h
          repeat' split at h
          all_goals first | exact numb_at h | (cases h; done) | (injection h with h _; rw [← h])
theorem go_cut : ∀ (n : Nat) (l : List UInt8) (f p : Nat) (out m : List Tok) (q : Nat), l.length ≤ n → l.length < f → go f l p out = (m, 0, q) →
    ∃ ts, m = out ++ ts ∧ ∀ u t v, ts = u ++ t :: v → p ≤ t.at_ ∧ t.at_ - p ≤ l.length ∧ ∀ f', (l.take (t.at_ - p)).length < f' → go f' (l.take (t.at_ - p)) p out = (out ++ u ++ [⟨0, [], 0, 0, t.at_⟩], 0, 0) := by
  intro n
  induction n with
  | zero =>
    intro l f p out m q hl hf h
    have : l = [] := List.eq_nil_of_length_eq_zero (by omega)
    subst this
    obtain ⟨f, rfl⟩ : ∃ k, f = k + 1 := ⟨f - 1, by simp at hf; omega⟩
    rw [go_end] at h
    injection h with h _
    refine ⟨[⟨0, [], 0, 0, p⟩], h.symm, fun u t v e => ?_⟩
    cases u with
    | nil =>
      injection e with e _
      subst e
      refine ⟨Nat.le_refl _, by simp, fun f' hf' => ?_⟩
      obtain ⟨f', rfl⟩ : ∃ k, f' = k + 1 := ⟨f' - 1, by omega⟩
      simp [go_end]
    | cons x u => simp at e
  | succ n ih =>
    intro l f p out m q hl hf h
    obtain ⟨f, rfl⟩ : ∃ k, f = k + 1 := ⟨f - 1, by omega⟩
    cases l with
    | nil =>
      rw [go_end] at h
      injection h with h _
      refine ⟨[⟨0, [], 0, 0, p⟩], h.symm, fun u t v e => ?_⟩
      cases u with
      | nil =>
        injection e with e _
        subst e
        refine ⟨Nat.le_refl _, by simp, fun f' hf' => ?_⟩
        obtain ⟨f', rfl⟩ : ∃ k, f' = k + 1 := ⟨f' - 1, by omega⟩
        simp [go_end]
      | cons x u => simp at e
    | cons c r =>
      cases hn : nx (c :: r) p with
      | bad e y =>
        rw [go_bad out hn] at h
        injection h with _ h
        injection h with h _
        exact absurd h (nx_bad_code hn)
      | skip k =>
        have hs := nx_skip_size hn
        rw [go_skip out hn] at h
        obtain ⟨ts, h1, h2⟩ := ih ((c :: r).drop k) f (p + k) out m q (by rw [List.length_drop]; omega) (by rw [List.length_drop]; omega) h
        refine ⟨ts, h1, fun u t v e => ?_⟩
        obtain ⟨g1, g2, g3⟩ := h2 u t v e
        rw [List.length_drop] at g2
        refine ⟨by omega, by omega, fun f' hf' => ?_⟩
        obtain ⟨f', rfl⟩ : ∃ k, f' = k + 1 := ⟨f' - 1, by omega⟩
        have e1 := nx_take_skip (m := t.at_ - p) hn (by omega)
        rw [go_skip out e1]
        have e2 : ((c :: r).take (t.at_ - p)).drop k = ((c :: r).drop k).take (t.at_ - (p + k)) := by
          rw [List.drop_take]; congr 1; omega
        rw [e2]
        refine g3 f' ?_
        rw [List.length_take, List.length_drop]
        rw [List.length_take] at hf'
        omega
      | tok t0 k =>
        have hs := nx_tok_size hn
        have ha := nx_at hn
        rw [go_tok out hn] at h
        obtain ⟨ts, h1, h2⟩ := ih ((c :: r).drop k) f (p + k) (out ++ [t0]) m q (by rw [List.length_drop]; omega) (by rw [List.length_drop]; omega) h
        refine ⟨t0 :: ts, by rw [h1]; simp, fun u t v e => ?_⟩
        cases u with
        | nil =>
          injection e with e _
          subst e
          refine ⟨by omega, by omega, fun f' hf' => ?_⟩
          obtain ⟨f', rfl⟩ : ∃ k, f' = k + 1 := ⟨f' - 1, by omega⟩
          rw [ha, Nat.sub_self, List.take_zero, go_end]; simp
        | cons x u =>
          injection e with e1 e2
          subst e1
          obtain ⟨g1, g2, g3⟩ := h2 u t v e2
          rw [List.length_drop] at g2
          refine ⟨by omega, by omega, fun f' hf' => ?_⟩
          obtain ⟨f', rfl⟩ : ∃ k, f' = k + 1 := ⟨f' - 1, by omega⟩
          have e3 := nx_take_tok (m := t.at_ - p) hn (by omega)
          rw [go_tok out e3]
          have e4 : ((c :: r).take (t.at_ - p)).drop k = ((c :: r).drop k).take (t.at_ - (p + k)) := by
            rw [List.drop_take]; congr 1; omega
          rw [e4]
          have := g3 f' (by
            rw [List.length_take, List.length_drop]
            rw [List.length_take] at hf'
            omega)
          rw [this]; simp
/-- A text that is cut off where a token begins has the tokens ahead of that, and an end. -/
theorem all_cut {s : List UInt8} {u v : List Tok} {t : Tok} {q : Nat} (h : all s = (u ++ t :: v, 0, q)) : t.at_ ≤ s.length ∧ all (s.take t.at_) = (u ++ [⟨0, [], 0, 0, t.at_⟩], 0, 0) := by
  have hl : s.length ≤ 65536 := by
    rcases Nat.lt_or_ge 65536 s.length with h1 | h1
    · rw [all_long h1] at h
      injection h with _ h
      injection h with h _
      exact absurd h (by decide)
    · exact h1
  have h0 := h
  unfold all at h
  rw [if_neg (by omega)] at h
  obtain ⟨ts, h1, h2⟩ := go_cut s.length s (s.length + 1) 0 [] _ _ (Nat.le_refl _) (by omega) h
  rw [List.nil_append] at h1
  obtain ⟨_, g2, g3⟩ := h2 u t v h1.symm
  simp only [Nat.sub_zero] at g2 g3
  refine ⟨g2, ?_⟩
  unfold all
  rw [if_neg (by rw [List.length_take]; omega)]
  have := g3 ((s.take t.at_).length + 1) (by omega)
  rw [this]; simp
/-! Where a text is wrong as tokens. -/
theorem scan_inner : ∀ (f : Nat) (l : List UInt8) (p : Nat) (t x : List UInt8) (y : Nat) (c : Int), Quo.scan f l p t = (x, y, c) → p ≤ y ∧ y ≤ p + l.length := by
  intro f
  induction f with
  | zero => intro l p t x y c h; simp [Quo.scan] at h; omega
  | succ f ih =>
    intro l p t x y c h
    cases l with
    | nil => simp [Quo.scan] at h; simp; omega
    | cons d r =>
      unfold Quo.scan at h
      split at h
      · simp at h; simp; omega
      · split at h
        · simp at h; simp; omega
        · split at h
          · simp at h; simp; omega
          · split at h
            · simp at h; simp; omega
            · rename_i hp
              have := ih _ _ _ _ _ _ h
              have h2 := Quo.piece_size (d :: r)
              rw [List.length_drop] at this
              omega
theorem numb_bad_at {kind cls top : Nat} {pre r : List UInt8} {a y : Nat} {e : Int} (h : numb kind cls top pre r a = .bad e y) : y = a := by
  unfold numb at h
  split at h
  · cases h
  · injection h with _ h; exact h.symm
theorem nx_bad_in {c : UInt8} {r : List UInt8} {a y : Nat} {e : Int} (h : nx (c :: r) a = .bad e y) : a ≤ y ∧ y ≤ a + (c :: r).length := by
  unfold nx at h
  simp only at h
  split at h
  · cases h
  · split at h
    · cases h
    · split at h
      · obtain ⟨x, z, k, g⟩ : ∃ x z k, Quo.scan (r.length + 1) r (a + 1) [] = (x, z, k) := ⟨_, _, _, rfl⟩
        rw [g] at h
        simp only at h
        split at h
        · cases h
        · injection h with _ h
          subst h
          have := scan_inner _ _ _ _ _ _ _ g
          simp
          omega
      · have : y = a := by
          unfold plain at h
          repeat' split at h
          all_goals first | exact numb_bad_at h | (cases h; done) | (injection h with _ h; exact h.symm)
        subst this
        simp
theorem go_bad_in : ∀ (n : Nat) (l : List UInt8) (f p : Nat) (out m : List Tok) (e : Int) (q : Nat), l.length ≤ n → l.length < f → go f l p out = (m, e, q) → e ≠ 0 → p ≤ q ∧ q ≤ p + l.length := by
  intro n
  induction n with
  | zero =>
    intro l f p out m e q hl hf h he
    have : l = [] := List.eq_nil_of_length_eq_zero (by omega)
    subst this
    obtain ⟨f, rfl⟩ : ∃ k, f = k + 1 := ⟨f - 1, by simp at hf; omega⟩
    rw [go_end] at h
    injection h with _ h
    injection h with h _
    exact absurd h.symm he
  | succ n ih =>
    intro l f p out m e q hl hf h he
    obtain ⟨f, rfl⟩ : ∃ k, f = k + 1 := ⟨f - 1, by omega⟩
    cases l with
    | nil =>
      rw [go_end] at h
      injection h with _ h
      injection h with h _
      exact absurd h.symm he
    | cons c r =>
      cases hn : nx (c :: r) p with
      | bad e' y =>
        rw [go_bad out hn] at h
        injection h with _ h
        injection h with _ h
        subst h
        exact nx_bad_in hn
      | skip k =>
        have hs := nx_skip_size hn
        rw [go_skip out hn] at h
        have := ih ((c :: r).drop k) f (p + k) out m e q (by rw [List.length_drop]; omega) (by rw [List.length_drop]; omega) h he
        rw [List.length_drop] at this
        omega
      | tok t0 k =>
        have hs := nx_tok_size hn
        rw [go_tok out hn] at h
        have := ih ((c :: r).drop k) f (p + k) (out ++ [t0]) m e q (by rw [List.length_drop]; omega) (by rw [List.length_drop]; omega) h he
        rw [List.length_drop] at this
        omega
theorem all_bad_in {s : List UInt8} {m : List Tok} {e : Int} {q : Nat} (h : all s = (m, e, q)) (he : e ≠ 0) : q ≤ s.length := by
  unfold all at h
  split at h
  · injection h with _ h
    injection h with _ h
    omega
  · have := go_bad_in s.length s (s.length + 1) 0 [] m e q (Nat.le_refl _) (by omega) h he
    omega
end Go.Proofs.YtbpichjmkllfaaaGreatDoor.Lex

/- Values of expressions as plain lists: what stands open, and what reading goes on to. -/
namespace Go.Proofs.YtbpichjmkllfaaaGreatDoor.Fol
open Go.RowKit Lex
set_option linter.unusedVariables false

/-- What is open. -/
structure Opn where
  minus : Bool
  sum : Int
  joins : Int
  product : Int
/-- A value and the place behind it; or a code and where. -/
inductive Res where
  | val (n : Int) (at_ : Nat)
  | bad (c : Int) (p : Nat)
inductive Mode where
  | fac
  | beh (n : Int)
def reck (op a b : Int) : Int := (doV op a b).1
def Opn.times (o : Opn) (n : Int) : Opn := { o with product := reck 3 o.product n }
def Opn.join (o : Opn) (op : Int) : Opn := ⟨o.minus, reck o.joins o.sum o.product, op, 1⟩
def Opn.all (o : Opn) : Int := reck o.joins o.sum o.product
def Opn.closed (o : Opn) : Int := if o.minus then reck 2 0 o.all else o.all
def opened (minus : Bool) : Opn := ⟨minus, 0, 1, 1⟩
/-- Is a token that sign? -/
def isT (t : Tok) (s : List UInt8) : Bool := (decide (t.kind = 1) || decide (t.kind = 7)) && decide (t.text = s)
/-- What is made of a token where a number must stand: a number and 0, or a code. -/
def numT (t : Tok) (minus : Bool) : Int × Int := if t.kind ≠ 2 then (0, 20) else if minus then (reck 2 0 t.n, 0) else if t.n = -9223372036854775808 then (0, 2) else (t.n, 0)
def mayT (many : Nat) (minus : Bool) : Int := if many = 0 ∧ minus = true then 20 else if many = 32 then 21 else 0
/-- From a factor's place on, or behind a number: what comes of it. -/
def mach (l : List Tok) : Nat → Mode → Nat → List Opn → Option Res
  | 0, _, _, _ => none
  | k + 1, .fac, a, stk =>
    match l[a]? with
    | none => none
    | some t0 =>
      match l[if isT t0 [45] then a + 1 else a]? with
      | none => none
      | some t =>
        if isT t [40] then
          (if mayT stk.length (isT t0 [45]) = 0 then mach l k .fac ((if isT t0 [45] then a + 1 else a) + 1) (opened (isT t0 [45]) :: stk)
           else some (.bad (mayT stk.length (isT t0 [45])) t.at_))
        else if (numT t (isT t0 [45])).2 = 0 then mach l k (.beh (numT t (isT t0 [45])).1) ((if isT t0 [45] then a + 1 else a) + 1) stk
        else some (.bad (numT t (isT t0 [45])).2 t.at_)
  | k + 1, .beh n, a, [] => some (.val n a)
  | k + 1, .beh n, a, o :: r =>
    match l[a]? with
    | none => none
    | some t =>
      if isT t [41] then mach l k (.beh (o.times n).closed) (a + 1) r
      else if isT t [42] then mach l k .fac (a + 1) (o.times n :: r)
      else if isT t [43] then mach l k .fac (a + 1) ((o.times n).join 1 :: r)
      else if isT t [45] then mach l k .fac (a + 1) ((o.times n).join 2 :: r)
      else some (.bad 20 t.at_)
end Go.Proofs.YtbpichjmkllfaaaGreatDoor.Fol

/- The table of operations, plain: what each is called, what its places may have, how many labels it has. -/
namespace Go.Proofs.YtbpichjmkllfaaaGreatDoor.Opr
set_option linter.unusedVariables false
set_option maxRecDepth 20000

/-- A row: name, where it gives to, what it takes, how many labels, of machine code alone. -/
structure Rw where
  nm : ByteArray
  ds : ByteArray
  ar : List ByteArray
  lb : Int
  al : Bool
def rw0 : Rw := ⟨⟨#[]⟩, ⟨#[]⟩, [], 0, false⟩
def two (nm : ByteArray) : Rw := ⟨nm, ⟨#[103]⟩, [⟨#[103]⟩, ⟨#[103, 105]⟩], 0, false⟩
def names : List ByteArray := [⟨#[97, 100, 100]⟩, ⟨#[115, 117, 98]⟩, ⟨#[109, 117, 108]⟩, ⟨#[97, 110, 100]⟩, ⟨#[111, 114]⟩, ⟨#[120, 111, 114]⟩, ⟨#[115, 104, 108]⟩, ⟨#[115, 104, 114]⟩, ⟨#[115, 97, 114]⟩, ⟨#[100, 105, 118]⟩, ⟨#[114, 101, 109]⟩, ⟨#[101, 113]⟩, ⟨#[110, 101]⟩, ⟨#[108, 116]⟩, ⟨#[108, 101]⟩]
def r15 : Rw := ⟨⟨#[99, 111, 112, 121]⟩, ⟨#[103, 120]⟩, [⟨#[103, 120, 105]⟩], 0, false⟩
def r16 : Rw := ⟨⟨#[108, 111, 97, 100]⟩, ⟨#[103]⟩, [⟨#[120]⟩], 0, false⟩
def r17 : Rw := ⟨⟨#[115, 116, 111, 114, 101]⟩, ⟨#[]⟩, [⟨#[103]⟩, ⟨#[120]⟩], 0, false⟩
def r18 : Rw := ⟨⟨#[99, 97, 108, 108]⟩, ⟨#[103, 110]⟩, [⟨#[103, 105, 115]⟩, ⟨#[103, 105, 115]⟩, ⟨#[103, 105, 115]⟩, ⟨#[103, 105, 115]⟩, ⟨#[103, 105, 115]⟩, ⟨#[103, 105, 115]⟩, ⟨#[103, 105, 115]⟩, ⟨#[103, 105, 115]⟩], 0, false⟩
def r19 : Rw := ⟨⟨#[98, 114]⟩, ⟨#[]⟩, [], 1, false⟩
def r20 : Rw := ⟨⟨#[98, 114, 105, 102]⟩, ⟨#[]⟩, [⟨#[103]⟩], 2, false⟩
def r21 : Rw := ⟨⟨#[115, 119, 105, 116, 99, 104]⟩, ⟨#[]⟩, [⟨#[103]⟩], -1, false⟩
def r22 : Rw := ⟨⟨#[114, 101, 116]⟩, ⟨#[]⟩, [⟨#[103, 105]⟩], 0, false⟩
def r23 : Rw := ⟨⟨#[109, 111, 118, 101]⟩, ⟨#[103, 120]⟩, [⟨#[103, 120]⟩], 0, true⟩
def r24 : Rw := ⟨⟨#[115, 112, 105, 108, 108]⟩, ⟨#[115]⟩, [⟨#[103, 120]⟩], 0, true⟩
def r25 : Rw := ⟨⟨#[114, 101, 108, 111, 97, 100]⟩, ⟨#[103, 120]⟩, [⟨#[115]⟩], 0, true⟩
def r26 : Rw := ⟨⟨#[115, 119, 97, 112]⟩, ⟨#[]⟩, [⟨#[103, 120, 115]⟩, ⟨#[103, 120, 115]⟩], 0, true⟩
def tab : List Rw := names.map two ++ [r15, r16, r17, r18, r19, r20, r21, r22, r23, r24, r25, r26]
/-- The row of any number; of what is no operation the empty one. -/
def rowOf (n : Int) : Rw := if 1 ≤ n ∧ n ≤ 27 then tab.getD (n.toNat - 1) rw0 else rw0
def isOp (n : Int) : Bool := decide (1 ≤ n) && decide (n ≤ 27)
def isR (n : Int) : Bool := decide (1 ≤ n) && decide (n ≤ 15)
/-- What a place may have, as bits: g 1, x 2, i 4, s 8, n 16. -/
def toR (n : Int) : Int := if 1 ≤ n ∧ n ≤ 15 then 1 else if n = 17 then 1 else if n = 19 then 17 else if n = 16 ∨ n = 24 ∨ n = 26 then 3 else if n = 25 then 8 else 0
def firstR (n : Int) : Int := if 1 ≤ n ∧ n ≤ 15 then 1 else if n = 18 ∨ n = 21 ∨ n = 22 then 1 else if n = 17 then 2 else if n = 23 then 5 else if n = 24 ∨ n = 25 then 3 else if n = 16 then 7 else if n = 26 then 8 else if n = 27 then 11 else 0
def secondR (n : Int) : Int := if 1 ≤ n ∧ n ≤ 15 then 5 else if n = 18 then 2 else if n = 27 then 11 else 0
def fromR (n i : Int) : Int := if n = 19 ∧ 0 ≤ i ∧ i < 8 then 13 else if i = 0 then firstR n else if i = 1 then secondR n else 0
def atR (n i : Int) : Int := if i = -1 then toR n else fromR n i
theorem ops (n : Int) : (1 ≤ n ∧ n ≤ 15) ∨ n = 16 ∨ n = 17 ∨ n = 18 ∨ n = 19 ∨ n = 20 ∨ n = 21 ∨ n = 22 ∨ n = 23 ∨ n = 24 ∨ n = 25 ∨ n = 26 ∨ n = 27 ∨ (n < 1 ∨ 27 < n) := by omega
theorem ops27 (n : Int) (h : 1 ≤ n ∧ n ≤ 27) : ∃ k : Fin 27, n = (k.val : Int) + 1 := ⟨⟨n.toNat - 1, by omega⟩, by simp; omega⟩
theorem rowOf_none (n : Int) (h : n < 1 ∨ 27 < n) : rowOf n = rw0 := by unfold rowOf; rw [if_neg (by omega)]
theorem rowOf_op (k : Nat) (hk : k < 27) : rowOf ((k : Int) + 1) = tab.getD k rw0 := by
  unfold rowOf
  rw [if_pos (by omega), show ((k : Int) + 1).toNat - 1 = k by omega]
theorem rowOf_two (n : Int) (h : 1 ≤ n ∧ n ≤ 15) : ∃ s, rowOf n = two s := by
  obtain ⟨k, rfl⟩ : ∃ k : Nat, n = (k : Int) + 1 := ⟨n.toNat - 1, by omega⟩
  have hk : k < 15 := by omega
  rw [rowOf_op k (by omega)]
  refine ⟨names.getD k ⟨#[]⟩, ?_⟩
  match k, hk with
  | 0, _ => rfl
  | 1, _ => rfl
  | 2, _ => rfl
  | 3, _ => rfl
  | 4, _ => rfl
  | 5, _ => rfl
  | 6, _ => rfl
  | 7, _ => rfl
  | 8, _ => rfl
  | 9, _ => rfl
  | 10, _ => rfl
  | 11, _ => rfl
  | 12, _ => rfl
  | 13, _ => rfl
  | 14, _ => rfl
theorem tab_len : tab.length = 27 := rfl
/-- How many places an operation takes from. -/
def many (n : Int) : Nat := (rowOf n).ar.length
theorem many_at (n : Int) : (∀ k : Nat, k < many n → atR n (k : Int) ≠ 0) ∧ atR n (many n : Int) = 0 ∧ many n ≤ 8 := by
  unfold many
  rcases ops n with h | rfl | rfl | rfl | rfl | rfl | rfl | rfl | rfl | rfl | rfl | rfl | rfl | h
  · obtain ⟨s, hs⟩ := rowOf_two n h
    have h19 : n ≠ 19 := by omega
    rw [hs]
    refine ⟨fun k hk => ?_, ?_, by simp [two]⟩
    · have : k = 0 ∨ k = 1 := by simp [two] at hk; omega
      rcases this with rfl | rfl <;> simp [atR, fromR, firstR, secondR, h, h19]
    · simp [two, atR, fromR, h19]
  all_goals try decide +kernel
  · rw [rowOf_none n h]
    have h19 : n ≠ 19 := by omega
    refine ⟨fun k hk => by simp [rw0] at hk, ?_, by simp [rw0]⟩
    have h1 : ¬ (1 ≤ n ∧ n ≤ 15) := by omega
    simp [rw0, atR, fromR, firstR, h19, h1]
    omega
def mayOf (n : Int) : Bool := (rowOf n).ds.toList != []
def mustOf (n : Int) : Bool := mayOf n && (n != 19)
theorem gives_at (n : Int) : toR n = 0 ∧ mayOf n = false ∧ mustOf n = false ∨ (toR n = 1 ∨ toR n = 3 ∨ toR n = 8) ∧ mayOf n = true ∧ mustOf n = true ∨ toR n = 17 ∧ mayOf n = true ∧ mustOf n = false := by
  unfold mustOf mayOf
  rcases ops n with h | rfl | rfl | rfl | rfl | rfl | rfl | rfl | rfl | rfl | rfl | rfl | rfl | h
  · obtain ⟨s, hs⟩ := rowOf_two n h
    have h19 : (n != 19) = true := by rw [bne_iff_ne]; omega
    rw [hs, h19]
    have e : (two s).ds.toList = [103] := (by decide +kernel : (ByteArray.mk #[103]).toList = [103])
    rw [e]
    refine .inr (.inl ⟨.inl (by simp [toR, h]), by decide, by decide⟩)
  all_goals try decide +kernel
  · rw [rowOf_none n h]
    have e : rw0.ds.toList = [] := by decide +kernel
    rw [e]
    have h1 : ¬ (1 ≤ n ∧ n ≤ 15) := by omega
    refine .inl ⟨?_, by decide, by simp⟩
    simp [toR, h1]
    omega
end Go.Proofs.YtbpichjmkllfaaaGreatDoor.Opr

/- Functions of tokens as plain lists: what is read, or what is wrong, and where. -/
namespace Go.Proofs.YtbpichjmkllfaaaGreatDoor.Par
open Lex (Tok)
set_option linter.unusedVariables false
set_option maxRecDepth 20000

/-- What is read, and the tokens behind it; or a code and where. -/
inductive Res (α : Type) where
  | ok (a : α) (r : List Tok)
  | bad (c : Int) (p : Nat)
def Res.bind {α β : Type} (x : Res α) (f : α → List Tok → Res β) : Res β :=
  match x with
  | .ok a r => f a r
  | .bad c p => .bad c p
def headAt : List Tok → Nat
  | [] => 0
  | t :: _ => t.at_
def kindOf : List Tok → Nat
  | [] => 0
  | t :: _ => t.kind
def textOf : List Tok → List UInt8
  | [] => []
  | t :: _ => t.text
def err {α : Type} (l : List Tok) : Res α := .bad 20 (headAt l)
/-- Is the next one that word, or that sign? -/
def isB (l : List Tok) (s : List UInt8) : Bool :=
  match l with
  | [] => false
  | t :: _ => Fol.isT t s
def must (s : List UInt8) (l : List Tok) : Res Unit := if isB l s = true then .ok () l.tail else err l
def ofk (k : Nat) (l : List Tok) : Res Tok :=
  match l with
  | [] => err l
  | t :: r => if t.kind = k then .ok t r else err l
def value (l : List Tok) : Res Int :=
  match Fol.mach l (2 * l.length + 2) .fac 0 [] with
  | some (.val n a) => .ok n (l.drop a)
  | some (.bad c p) => .bad c p
  | none => err l
/-- A colon, and a virtual register. -/
def tag (l : List Tok) : Res Int := (must [58] l).bind fun _ l => (ofk 4 l).bind fun v l => .ok v.n l
def operand (l : List Tok) : Res Opn :=
  if kindOf l = 4 then (ofk 4 l).bind fun t l => .ok ⟨1, 0, t.n, 0⟩ l
  else if kindOf l = 5 then (ofk 5 l).bind fun t l => (tag l).bind fun v l => .ok ⟨2, t.cls, t.n, v⟩ l
  else if kindOf l = 6 then (ofk 6 l).bind fun t l => (tag l).bind fun v l => .ok ⟨3, 0, t.n, v⟩ l
  else if isB l [95] = true then .ok ⟨0, 0, 0, 0⟩ l.tail
  else (value l).bind fun n l => .ok ⟨4, 0, n, 0⟩ l
/-- Operands, one at least, and what ends them. -/
def opsF : Nat → List UInt8 → List Opn → List Tok → Res (List Opn)
  | 0, _, _, _ => .bad 0 0
  | k + 1, e, acc, l => (operand l).bind fun a r => if isB r [44] = true then opsF k e (acc ++ [a]) r.tail else (must e r).bind fun _ r => .ok (acc ++ [a]) r
def ops (e : List UInt8) (acc : List Opn) (l : List Tok) : Res (List Opn) := opsF (l.length + 1) e acc l
/-- Operands, or none. -/
def ops0 (e : List UInt8) (l : List Tok) : Res (List Opn) := if isB l e = true then .ok [] l.tail else ops e [] l
def label (l : List Tok) : Res (List UInt8) :=
  (ofk 1 l).bind fun t l => if isB l [46] = true then (ofk 1 l.tail).bind fun u l => .ok (t.text ++ 46 :: u.text) l else .ok t.text l
/-- The operation of a name; 0: there is none. -/
def findOp (s : List UInt8) : Nat :=
  match Opr.tab.findIdx? (fun r => decide (r.nm.data.toList = s)) with
  | some k => k + 1
  | none => 0
/-- So many operands, with commas between. -/
def argsN : Nat → List Opn → List Tok → Res (List Opn)
  | 0, acc, l => .ok acc l
  | k + 1, acc, l => (if acc = [] then .ok () l else must [44] l).bind fun _ l => (operand l).bind fun a l => argsN k (acc ++ [a]) l
def case1 (l : List Tok) : Res (Int × List UInt8) :=
  (value l).bind fun n l => (must [58] l).bind fun _ l => (label l).bind fun s l => (must [44] l).bind fun _ l => .ok (n, s) l
def elseL : List UInt8 := [101, 108, 115, 101]
def casesF : Nat → List Int → List ByteArray → List Tok → Res (List Int × List ByteArray)
  | 0, _, _, _ => .bad 0 0
  | k + 1, cs, ls, l =>
    if isB l elseL = true then (must [58] l.tail).bind fun _ l => (label l).bind fun s l => (must [93] l).bind fun _ l => .ok (cs, ls ++ [⟨s.toArray⟩]) l
    else (case1 l).bind fun x r => casesF k (cs ++ [x.1]) (ls ++ [⟨x.2.toArray⟩]) r
def cases (cs : List Int) (ls : List ByteArray) (l : List Tok) : Res (List Int × List ByteArray) := casesF (l.length + 1) cs ls l
/-- What an operation has. -/
structure Has where
  args : List Opn
  name : ByteArray
  off : Int
  labels : List ByteArray
  cases : List Int
def rest (op : Nat) (l : List Tok) : Res Has :=
  if op = 19 then (ofk 3 l).bind fun t l => (must [40] l).bind fun _ l => (ops0 [41] l).bind fun a l => .ok ⟨a, ⟨t.text.toArray⟩, 0, [], []⟩ l
  else (argsN (Opr.many (op : Int)) [] l).bind fun a l =>
    if op = 17 ∨ op = 18 then (if isB l [43] = true then (value l.tail).bind fun n l => .ok ⟨a, ⟨#[]⟩, n, [], []⟩ l else .ok ⟨a, ⟨#[]⟩, 0, [], []⟩ l)
    else if op = 20 then (label l).bind fun s l => .ok ⟨a, ⟨#[]⟩, 0, [⟨s.toArray⟩], []⟩ l
    else if op = 21 then (must [44] l).bind fun _ l => (label l).bind fun s l => (must [44] l).bind fun _ l => (label l).bind fun u l => .ok ⟨a, ⟨#[]⟩, 0, [⟨s.toArray⟩, ⟨u.toArray⟩], []⟩ l
    else if op = 22 then (must [91] l).bind fun _ l => (cases [] [] l).bind fun x l => .ok ⟨a, ⟨#[]⟩, 0, x.2, x.1⟩ l
    else .ok ⟨a, ⟨#[]⟩, 0, [], []⟩ l
/-- An instruction behind what it gives to. -/
def instr2 (d : Opn) (l : List Tok) : Res Ins :=
  if kindOf l = 1 ∧ findOp (textOf l) ≠ 0 then
    (rest (findOp (textOf l)) l.tail).bind fun x r => (must [59] r).bind fun _ r => .ok ⟨(findOp (textOf l) : Int), d, x.args, x.name, x.off, x.labels, x.cases⟩ r
  else err l
def instr (l : List Tok) : Res Ins :=
  if kindOf l = 4 ∨ kindOf l = 5 ∨ kindOf l = 6 then (operand l).bind fun d l => (must [61] l).bind fun _ l => instr2 d l
  else if kindOf l = 1 ∧ findOp (textOf l) = 0 then err l.tail
  else instr2 ⟨0, 0, 0, 0⟩ l
def edgeL : List UInt8 := [101, 100, 103, 101]
def edgeB (l : List Tok) : Bool := decide (kindOf l = 1) && (isB l edgeL && decide (kindOf l.tail = 1))
/-- Does a block begin? -/
def begins (l : List Tok) : Bool := decide (kindOf l = 1) && (isB l.tail [58] || (isB l.tail [91] || edgeB l))
def codeF : Nat → List Ins → List Tok → Res (List Ins)
  | 0, _, _ => .bad 0 0
  | k + 1, acc, l => if (isB l [125] || begins l) = true then .ok acc l else (instr l).bind fun x r => codeF k (acc ++ [x]) r
def code (acc : List Ins) (l : List Tok) : Res (List Ins) := codeF (l.length + 1) acc l
def block (l : List Tok) : Res Blk :=
  (ofk 1 (if edgeB l = true then l.tail else l)).bind fun t r =>
  (if edgeB l = true then (must [46] r).bind fun _ r => (ofk 1 r).bind fun u r => .ok (t.text ++ 46 :: u.text) r else .ok t.text r).bind fun s r =>
  (if isB r [91] = true then ops [93] [] r.tail else .ok [] r).bind fun ins r =>
  (must [58] r).bind fun _ r => (code [] r).bind fun c r => .ok ⟨⟨s.toArray⟩, edgeB l, ins, c⟩ r
def reg1 (l : List Tok) : Res Rg :=
  (ofk 4 l).bind fun v l => (must [58] l).bind fun _ l => if isB l [120] = true then .ok ⟨v.n, 1⟩ l.tail else (must [103] l).bind fun _ l => .ok ⟨v.n, 0⟩ l
def regsF : Nat → List Rg → List Tok → Res (List Rg)
  | 0, _, _ => .bad 0 0
  | k + 1, acc, l => if isB l [59] = true then .ok acc l.tail else (reg1 l).bind fun x r => regsF k (acc ++ [x]) r
def regs (acc : List Rg) (l : List Tok) : Res (List Rg) := regsF (l.length + 1) acc l
def blocksF : Nat → List Blk → List Tok → Res (List Blk)
  | 0, _, _ => .bad 0 0
  | k + 1, acc, l => if isB l [125] = true then .ok acc l.tail else (block l).bind fun x r => blocksF k (acc ++ [x]) r
def blocks (acc : List Blk) (l : List Tok) : Res (List Blk) := blocksF (l.length + 1) acc l
def machineL : List UInt8 := [109, 97, 99, 104, 105, 110, 101]
def funcL : List UInt8 := [102, 117, 110, 99]
def regsL : List UInt8 := [114, 101, 103, 115]
def func (l : List Tok) : Res Fun :=
  (if isB l machineL = true then .ok () l.tail else must funcL l).bind fun _ r => (ofk 1 r).bind fun t r => (must [40] r).bind fun _ r => (ops0 [41] r).bind fun ps r => (must [123] r).bind fun _ r =>
  (if (isB r regsL && decide (kindOf r.tail = 4)) = true then regs [] r.tail else .ok [] r).bind fun rs r =>
  (blocks [] r).bind fun bs r => .ok ⟨isB l machineL, ⟨t.text.toArray⟩, rs, ps, bs⟩ r
/-- A function, and nothing behind it. -/
def whole (l : List Tok) : Res Fun := (func l).bind fun f r => (ofk 0 r).bind fun _ r => .ok f r
end Go.Proofs.YtbpichjmkllfaaaGreatDoor.Par

/- What each pass of reading on tells. -/
namespace Go.Proofs.YtbpichjmkllfaaaGreatDoor.Fol
open Go.RowKit Lex
set_option linter.unusedVariables false

/-- Where a factor begins. -/
def FacP (l : List Tok) (k a : Nat) (stk : List Opn) (R : Res) (m : Bool) (p : Nat) (t : Tok) : Prop :=
  (isT t [40] = true ∧ mayT stk.length m = 0 ∧ mach l k .fac (p + 1) (opened m :: stk) = some R) ∨
  (isT t [40] = true ∧ ¬ mayT stk.length m = 0 ∧ R = .bad (mayT stk.length m) t.at_) ∨
  (isT t [40] = false ∧ ∃ n, numT t m = (n, 0) ∧ mach l k (.beh n) (p + 1) stk = some R) ∨
  (isT t [40] = false ∧ ∃ n c, numT t m = (n, c) ∧ ¬ c = 0 ∧ R = .bad c t.at_)
theorem mach_fac {l : List Tok} {k a : Nat} {stk : List Opn} {R : Res} (h : mach l (k + 1) .fac a stk = some R) :
    ∃ t0 t, l[a]? = some t0 ∧ ((isT t0 [45] = true ∧ l[a + 1]? = some t ∧ FacP l k a stk R true (a + 1) t) ∨ (isT t0 [45] = false ∧ l[a]? = some t ∧ FacP l k a stk R false a t)) := by
  rw [mach] at h
  cases h0 : l[a]? with
  | none => rw [h0] at h; cases h
  | some t0 =>
    rw [h0] at h
    simp only at h
    have key : ∀ (m : Bool) (p : Nat), (match l[p]? with
      | none => none
      | some t =>
        if isT t [40] then
          (if mayT stk.length m = 0 then mach l k .fac (p + 1) (opened m :: stk)
           else some (.bad (mayT stk.length m) t.at_))
        else if (numT t m).2 = 0 then mach l k (.beh (numT t m).1) (p + 1) stk
        else some (.bad (numT t m).2 t.at_)) = some R → ∃ t, l[p]? = some t ∧ FacP l k a stk R m p t := by
      intro m p h
      cases hp : l[p]? with
      | none => rw [hp] at h; cases h
      | some t =>
        rw [hp] at h
        simp only at h
        refine ⟨t, rfl, ?_⟩
        cases ho : isT t [40] with
        | true =>
          rw [ho, if_pos rfl] at h
          by_cases hm : mayT stk.length m = 0
          · rw [if_pos hm] at h; exact .inl ⟨ho, hm, h⟩
          · rw [if_neg hm] at h; injection h with h; exact .inr (.inl ⟨ho, hm, h.symm⟩)
        | false =>
          rw [ho, if_neg (by decide)] at h
          by_cases hm : (numT t m).2 = 0
          · rw [if_pos hm] at h; exact .inr (.inr (.inl ⟨ho, _, by rw [← hm], h⟩))
          · rw [if_neg hm] at h; injection h with h; exact .inr (.inr (.inr ⟨ho, _, _, rfl, hm, h.symm⟩))
    cases hm : isT t0 [45] with
    | true =>
      rw [hm] at h
      simp only [if_true] at h
      obtain ⟨t, h1, h2⟩ := key true (a + 1) h
      exact ⟨t0, t, rfl, .inl ⟨hm, h1, h2⟩⟩
    | false =>
      rw [hm] at h
      simp only [Bool.false_eq_true, if_false] at h
      obtain ⟨t, h1, h2⟩ := key false a h
      exact ⟨t0, t, rfl, .inr ⟨hm, h0 ▸ h1, h2⟩⟩
theorem mach_top {l : List Tok} {k a : Nat} {n : Int} {R : Res} (h : mach l (k + 1) (.beh n) a [] = some R) : R = .val n a := by
  rw [mach] at h; injection h with h; exact h.symm
theorem mach_beh {l : List Tok} {k a : Nat} {n : Int} {o : Opn} {r : List Opn} {R : Res} (h : mach l (k + 1) (.beh n) a (o :: r) = some R) :
    ∃ t, l[a]? = some t ∧ (
      (isT t [41] = true ∧ mach l k (.beh (o.times n).closed) (a + 1) r = some R) ∨
      (isT t [41] = false ∧ isT t [42] = true ∧ mach l k .fac (a + 1) (o.times n :: r) = some R) ∨
      (isT t [41] = false ∧ isT t [42] = false ∧ isT t [43] = true ∧ mach l k .fac (a + 1) ((o.times n).join 1 :: r) = some R) ∨
      (isT t [41] = false ∧ isT t [42] = false ∧ isT t [43] = false ∧ isT t [45] = true ∧ mach l k .fac (a + 1) ((o.times n).join 2 :: r) = some R) ∨
      (isT t [41] = false ∧ isT t [42] = false ∧ isT t [43] = false ∧ isT t [45] = false ∧ R = .bad 20 t.at_)) := by
  rw [mach] at h
  cases h0 : l[a]? with
  | none => rw [h0] at h; cases h
  | some t =>
    rw [h0] at h
    simp only at h
    refine ⟨t, rfl, ?_⟩
    cases h1 : isT t [41] with
    | true => rw [h1, if_pos rfl] at h; exact .inl ⟨rfl, h⟩
    | false =>
      rw [h1, if_neg (by decide)] at h
      cases h2 : isT t [42] with
      | true => rw [h2, if_pos rfl] at h; exact .inr (.inl ⟨rfl, rfl, h⟩)
      | false =>
        rw [h2, if_neg (by decide)] at h
        cases h3 : isT t [43] with
        | true => rw [h3, if_pos rfl] at h; exact .inr (.inr (.inl ⟨rfl, rfl, rfl, h⟩))
        | false =>
          rw [h3, if_neg (by decide)] at h
          cases h4 : isT t [45] with
          | true => rw [h4, if_pos rfl] at h; exact .inr (.inr (.inr (.inl ⟨rfl, rfl, rfl, rfl, h⟩)))
          | false =>
            rw [h4, if_neg (by decide)] at h
            injection h with h
            exact .inr (.inr (.inr (.inr ⟨rfl, rfl, rfl, rfl, h.symm⟩)))
end Go.Proofs.YtbpichjmkllfaaaGreatDoor.Fol
