
/- Decimal digits as plain mathematics: a number's digits, the number of digits, and that each is the other's. -/
namespace Go.Proofs.Ytakfoncdiejhaaa.Deci
set_option linter.unusedVariables false
set_option maxRecDepth 20000

/-- The byte of a number's last digit. -/
def dch (u : Nat) : UInt8 := UInt8.ofNat (48 + u % 10)
theorem dch_nat (u : Nat) : (dch u).toNat = 48 + u % 10 := by
  unfold dch; rw [UInt8.toNat_ofNat']; have := Nat.mod_lt u (show 0 < 10 by omega); omega
/-- A number's digits, the first one first. -/
def digs (u : Nat) : List UInt8 := if h : u < 10 then [dch u] else digs (u / 10) ++ [dch u]
termination_by u
decreasing_by omega
theorem digs_lt {u : Nat} (h : u < 10) : digs u = [dch u] := by rw [digs, dif_pos h]
theorem digs_ge {u : Nat} (h : ¬ u < 10) : digs u = digs (u / 10) ++ [dch u] := by rw [digs, dif_neg h]
theorem digs_pos (u : Nat) : 0 < (digs u).length := by
  by_cases h : u < 10
  · rw [digs_lt h]; simp
  · rw [digs_ge h]; simp
theorem digs_le (k : Nat) : ∀ u, u < 10 ^ (k + 1) → (digs u).length ≤ k + 1 := by
  induction k with
  | zero => intro u h; rw [digs_lt (by simpa using h)]; simp
  | succ k ih =>
    intro u h
    by_cases h1 : u < 10
    · rw [digs_lt h1]; simp
    · rw [digs_ge h1]
      have := ih (u / 10) (by rw [Nat.pow_succ] at h; omega)
      simp; omega
/-- One round of laying digits from behind. -/
theorem digs_go {u left : Nat} {acc : List UInt8} (h : digs u = digs left ++ acc) (h0 : left / 10 ≠ 0) : digs u = digs (left / 10) ++ (dch left :: acc) := by
  rw [h, digs_ge (by omega : ¬ left < 10)]; simp
theorem digs_end {u left : Nat} {acc : List UInt8} (h : digs u = digs left ++ acc) (h0 : left / 10 = 0) : digs u = dch left :: acc := by
  rw [h, digs_lt (by omega : left < 10)]; simp
theorem digs_all (u : Nat) : ∀ c ∈ digs u, 48 ≤ c.toNat ∧ c.toNat ≤ 57 := by
  induction u using Nat.strongRecOn with
  | _ u ih =>
    intro c hc
    by_cases h : u < 10
    · rw [digs_lt h] at hc; simp at hc; subst hc; rw [dch_nat]; omega
    · rw [digs_ge h] at hc; simp at hc
      rcases hc with hc | hc
      · exact ih (u / 10) (by omega) c hc
      · subst hc; rw [dch_nat]; omega
theorem digs_head (u : Nat) : ∀ c, (digs u).head? = some c → c.toNat = 48 → u = 0 := by
  induction u using Nat.strongRecOn with
  | _ u ih =>
    intro c hc h48
    by_cases h : u < 10
    · rw [digs_lt h] at hc; simp at hc; subst hc; rw [dch_nat] at h48; omega
    · rw [digs_ge h, List.head?_append] at hc
      obtain ⟨x, hx⟩ : ∃ x, (digs (u / 10)).head? = some x := by
        cases hd : digs (u / 10) with
        | nil => have := digs_pos (u / 10); rw [hd] at this; simp at this
        | cons a l => exact ⟨a, rfl⟩
      rw [hx] at hc; simp at hc; subst hc
      have := ih (u / 10) (by omega) x hx h48
      omega
theorem digs_zero : digs 0 = [48] := by rw [digs_lt (by omega)]; rfl

/-- The number of digits. -/
def val (l : List UInt8) : Nat := l.foldl (fun a c => 10 * a + (c.toNat - 48)) 0
theorem val_snoc (l : List UInt8) (c : UInt8) : val (l ++ [c]) = 10 * val l + (c.toNat - 48) := by
  unfold val; rw [List.foldl_append]; rfl
theorem val_nil : val [] = 0 := rfl
theorem val_digs (u : Nat) : val (digs u) = u := by
  induction u using Nat.strongRecOn with
  | _ u ih =>
    by_cases h : u < 10
    · rw [digs_lt h, show [dch u] = [] ++ [dch u] from rfl, val_snoc, val_nil, dch_nat]; omega
    · rw [digs_ge h, val_snoc, ih (u / 10) (by omega), dch_nat]; omega
theorem foldl_mono (l : List UInt8) : ∀ a, a ≤ l.foldl (fun a c => 10 * a + (c.toNat - 48)) a := by
  induction l with
  | nil => intro a; exact Nat.le_refl _
  | cons c l ih => intro a; have := ih (10 * a + (c.toNat - 48)); rw [List.foldl_cons]; omega
theorem val_take (l : List UInt8) (k : Nat) : val (l.take k) ≤ val l := by
  have h : val l = (l.drop k).foldl (fun a c => 10 * a + (c.toNat - 48)) (val (l.take k)) := by
    unfold val; rw [← List.foldl_append, List.take_append_drop]
  rw [h]; exact foldl_mono _ _
theorem val_step (l : List UInt8) (k : Nat) (h : k < l.length) : val (l.take (k + 1)) = 10 * val (l.take k) + ((l[k]).toNat - 48) := by
  rw [List.take_succ_eq_append_getElem h, val_snoc]
theorem val_pos_aux (l : List UInt8) : ∀ a, 0 < a → 0 < l.foldl (fun a c => 10 * a + (c.toNat - 48)) a := by
  intro a h; have := foldl_mono l a; omega
theorem val_pos (l : List UInt8) (hd : ∀ c ∈ l, 48 ≤ c.toNat ∧ c.toNat ≤ 57) (c : UInt8) (hc : l.head? = some c) (h0 : c.toNat ≠ 48) : 0 < val l := by
  cases l with
  | nil => simp at hc
  | cons a l =>
    simp at hc; subst hc
    unfold val; rw [List.foldl_cons]
    apply val_pos_aux
    have := hd a (by simp); omega
theorem dch_of (a : Nat) (c : UInt8) (h : 48 ≤ c.toNat ∧ c.toNat ≤ 57) : dch (10 * a + (c.toNat - 48)) = c := by
  apply UInt8.toNat_inj.1; rw [dch_nat]; omega
/-- Digits that stand as in a number's text are the number's digits. -/
theorem digs_val (n : Nat) : ∀ l : List UInt8, l.length = n → 0 < n → (∀ c ∈ l, 48 ≤ c.toNat ∧ c.toNat ≤ 57) → (∀ c, l.head? = some c → c.toNat = 48 → n = 1) → digs (val l) = l := by
  induction n with
  | zero => intro l _ h; omega
  | succ n ih =>
    intro l hl _ hd hh
    obtain ⟨l', c, rfl⟩ : ∃ l' c, l = l' ++ [c] := by
      refine ⟨l.dropLast, l.getLast (by intro h; rw [h] at hl; simp at hl), ?_⟩
      rw [List.dropLast_concat_getLast]
    have hc := hd c (by simp)
    rw [val_snoc]
    by_cases hn : n = 0
    · have : l' = [] := by apply List.eq_nil_of_length_eq_zero; simp at hl; omega
      subst this
      rw [val_nil, digs_lt (by omega), dch_of 0 c hc]; rfl
    · simp at hl
      have hl' : l'.length = n := by omega
      obtain ⟨a, ha⟩ : ∃ a, l'.head? = some a := by
        cases l' with
        | nil => simp at hl'; omega
        | cons a t => exact ⟨a, rfl⟩
      have hne : a.toNat ≠ 48 := by
        intro h
        have := hh a (by rw [List.head?_append, ha]; rfl) h
        omega
      have hp := val_pos l' (fun x hx => hd x (by simp [hx])) a ha hne
      rw [digs_ge (by omega), dch_of _ c hc, show (10 * val l' + (c.toNat - 48)) / 10 = val l' by omega]
      rw [ih l' hl' (by omega) (fun x hx => hd x (by simp [hx])) (fun x hx h48 => by rw [ha] at hx; simp at hx; subst hx; exact absurd h48 hne)]

/-- A number's text. -/
def txt (n : Int) : List UInt8 := if n < 0 then 45 :: digs n.natAbs else digs n.natAbs
theorem txt_len (n : Int) (h1 : -9223372036854775808 ≤ n) (h2 : n ≤ 9223372036854775807) : (txt n).length ≤ 20 := by
  have := digs_le 18 n.natAbs (by omega)
  unfold txt; split
  · simp; omega
  · omega
theorem txt_pos (n : Int) : 0 < (txt n).length := by
  unfold txt; split
  · simp
  · exact digs_pos _
end Go.Proofs.Ytakfoncdiejhaaa.Deci
