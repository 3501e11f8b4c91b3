
/- Texts between quotes, as plain lists: how a byte is told, and what is read. -/
namespace Go.Proofs.YtlfohbajeecdeaaDoor.Quo
set_option linter.unusedVariables false

/-- A digit to the base 16. -/
def hexd (n : Nat) : UInt8 := if n < 10 then UInt8.ofNat (48 + n) else UInt8.ofNat (87 + n)
/-- A byte between quotes. -/
def one (c : UInt8) : List UInt8 :=
  if c = 34 ∨ c = 92 then [92, c] else if c = 10 then [92, 110] else if c = 9 then [92, 116]
  else if 32 ≤ c.toNat ∧ c.toNat ≤ 126 then [c] else [92, 120, hexd (c.toNat / 16), hexd (c.toNat % 16)]
def body (l : List UInt8) : List UInt8 := l.flatMap one
/-- A text between quotes. -/
def put (l : List UInt8) : List UInt8 := 34 :: (body l ++ [34])
/-- The number of a digit to the base 16; 99: it is none. -/
def dig (c : UInt8) : Nat :=
  if 48 ≤ c.toNat ∧ c.toNat ≤ 57 then c.toNat - 48 else if 97 ≤ c.toNat ∧ c.toNat ≤ 102 then c.toNat - 87
  else if 65 ≤ c.toNat ∧ c.toNat ≤ 70 then c.toNat - 55 else 99
/-- The byte that two digits stand for, and 4; or 0. -/
def two : List UInt8 → UInt8 × Nat
  | h :: l :: _ => if dig h < 16 ∧ dig l < 16 then (UInt8.ofNat (16 * dig h + dig l), 4) else (0, 0)
  | _ => (0, 0)
/-- What stands behind a backslash. -/
def esc : List UInt8 → UInt8 × Nat
  | [] => (0, 0)
  | d :: r => if d = 34 ∨ d = 92 then (d, 2) else if d = 110 then (10, 2) else if d = 116 then (9, 2) else if d = 120 then two r else (0, 0)
/-- The byte that a text's beginning stands for, and how long that is; 0: none. -/
def piece : List UInt8 → UInt8 × Nat
  | [] => (0, 0)
  | c :: r => if c = 92 then esc r else (c, 1)
/-- What stands behind a quote: the text, where it ends, OK; or where it is wrong. -/
def scan : Nat → List UInt8 → Nat → List UInt8 → List UInt8 × Nat × Int
  | 0, _, p, _ => ([], p, 11)
  | _ + 1, [], p, _ => ([], p, 11)
  | f + 1, c :: r, p, t =>
    if c = 34 then (t, p + 1, 0) else if c = 10 then ([], p, 11) else if t.length = 64 then ([], p, 3)
    else if (piece (c :: r)).2 = 0 then ([], p, 11) else scan f ((c :: r).drop (piece (c :: r)).2) (p + (piece (c :: r)).2) (t ++ [(piece (c :: r)).1])

theorem all_bytes (P : UInt8 → Prop) (h : ∀ n, n < 256 → P (UInt8.ofNat n)) (c : UInt8) : P c := by
  have := h c.toNat c.toNat_lt
  rwa [UInt8.ofNat_toNat] at this
theorem hex_back (c : UInt8) : dig (hexd (c.toNat / 16)) = c.toNat / 16 ∧ dig (hexd (c.toNat % 16)) = c.toNat % 16 := by
  refine all_bytes (fun c => dig (hexd (c.toNat / 16)) = c.toNat / 16 ∧ dig (hexd (c.toNat % 16)) = c.toNat % 16) ?_ c
  decide +kernel
theorem piece_one (c : UInt8) (r : List UInt8) : piece (one c ++ r) = (c, (one c).length) := by
  unfold one
  split
  · rename_i h
    show (if c = 34 ∨ c = 92 then (c, 2) else _) = _
    rw [if_pos h]; rfl
  · split
    · subst_vars; rfl
    · split
      · subst_vars; rfl
      · split
        · rename_i h1 _ _ _
          have : c ≠ 92 := fun h => h1 (.inr h)
          show (if c = 92 then esc r else (c, 1)) = _
          rw [if_neg this]; rfl
        · show (if dig (hexd (c.toNat / 16)) < 16 ∧ dig (hexd (c.toNat % 16)) < 16 then (UInt8.ofNat (16 * dig (hexd (c.toNat / 16)) + dig (hexd (c.toNat % 16))), 4) else (0, 0)) = _
          have hl := c.toNat_lt
          rw [(hex_back c).1, (hex_back c).2, if_pos (by omega)]
          have : 16 * (c.toNat / 16) + c.toNat % 16 = c.toNat := by omega
          rw [this, UInt8.ofNat_toNat]; rfl
theorem one_len (c : UInt8) : 0 < (one c).length ∧ (one c).length ≤ 4 := by
  unfold one; repeat' split
  all_goals simp
theorem one_head (c : UInt8) : ∃ d r, one c = d :: r ∧ d ≠ 34 ∧ d ≠ 10 := by
  unfold one
  split
  · exact ⟨92, _, rfl, by decide, by decide⟩
  · split
    · exact ⟨92, _, rfl, by decide, by decide⟩
    · split
      · exact ⟨92, _, rfl, by decide, by decide⟩
      · split
        · rename_i h1 h2 _ _
          exact ⟨c, _, rfl, fun h => h1 (.inl h), h2⟩
        · exact ⟨92, _, rfl, by decide, by decide⟩
theorem one_range (c : UInt8) : ∀ d ∈ one c, 32 ≤ d.toNat ∧ d.toNat ≤ 126 := by
  refine all_bytes (fun c => ∀ d ∈ one c, 32 ≤ d.toNat ∧ d.toNat ≤ 126) ?_ c
  decide +kernel
theorem put_range (l : List UInt8) : ∀ d ∈ put l, 32 ≤ d.toNat ∧ d.toNat ≤ 126 := by
  intro d hd
  unfold put at hd
  simp only [List.mem_cons, List.mem_append, List.not_mem_nil, or_false] at hd
  rcases hd with rfl | hd | rfl
  · decide
  · obtain ⟨c, _, hc⟩ := List.mem_flatMap.1 hd
    exact one_range c d hc
  · decide
theorem body_len (l : List UInt8) : (body l).length ≤ 4 * l.length := by
  induction l with
  | nil => simp [body]
  | cons c l ih =>
    have := one_len c
    unfold body at ih ⊢
    rw [List.flatMap_cons, List.length_append, List.length_cons]; omega
theorem put_len (l : List UInt8) : (put l).length ≤ 4 * l.length + 2 := by
  have := body_len l
  unfold put; rw [List.length_cons, List.length_append]; simp; omega
theorem body_snoc (l : List UInt8) (c : UInt8) : body (l ++ [c]) = body l ++ one c := by unfold body; simp
/-- No two texts are told alike. -/
theorem body_inj : ∀ (s t : List UInt8) (r r' : List UInt8), body s ++ 34 :: r = body t ++ 34 :: r' → s = t := by
  intro s
  induction s with
  | nil =>
    intro t r r' h
    cases t with
    | nil => rfl
    | cons d t =>
      obtain ⟨x, y, hx, h34, _⟩ := one_head d
      unfold body at h
      rw [List.flatMap_cons, hx] at h
      simp at h
      exact absurd h.1.symm h34
  | cons c s ih =>
    intro t r r' h
    cases t with
    | nil =>
      obtain ⟨x, y, hx, h34, _⟩ := one_head c
      unfold body at h
      rw [List.flatMap_cons, hx] at h
      simp at h
      exact absurd h.1 h34
    | cons d t =>
      unfold body at h
      rw [List.flatMap_cons, List.flatMap_cons, List.append_assoc, List.append_assoc] at h
      have h1 := congrArg piece h
      rw [piece_one, piece_one] at h1
      injection h1 with h1 _
      subst h1
      have h2 := List.append_cancel_left h
      rw [ih t r r' h2]
theorem put_inj (s t : List UInt8) : put s = put t ↔ s = t := by
  constructor
  · intro h
    unfold put at h
    injection h with _ h
    exact body_inj s t [] [] h
  · rintro rfl; rfl

theorem two_size (l : List UInt8) : (two l).2 ≤ l.length + 2 := by
  unfold two
  split
  · split <;> simp
  · simp
theorem esc_size (l : List UInt8) : (esc l).2 ≤ l.length + 1 := by
  unfold esc
  split
  · simp
  · rename_i d r
    repeat' split
    · simp
    · simp
    · simp
    · have := two_size r; simp; omega
    · simp
theorem piece_size (l : List UInt8) : (piece l).2 ≤ l.length := by
  unfold piece
  split
  · simp
  · split
    · have := esc_size (by assumption); simp; omega
    · simp
/-- A step of the reading. -/
theorem scan_quote (f : Nat) (r : List UInt8) (p : Nat) (t : List UInt8) : scan (f + 1) (34 :: r) p t = (t, p + 1, 0) := by simp [scan]
theorem scan_step (f : Nat) (c : UInt8) (r : List UInt8) (p : Nat) (t : List UInt8) (h1 : c ≠ 34) (h2 : c ≠ 10) (h3 : t.length ≠ 64) (b : UInt8) (n : Nat) (hp : piece (c :: r) = (b, n)) (hn : n ≠ 0) :
    scan (f + 1) (c :: r) p t = scan f ((c :: r).drop n) (p + n) (t ++ [b]) := by
  rw [scan, if_neg h1, if_neg h2, if_neg h3, hp, if_neg hn]
/-- What is put is read as it was, or is too long. -/
theorem scan_body : ∀ (l : List UInt8) (f : Nat) (r : List UInt8) (p : Nat) (t : List UInt8), l.length < f → t.length + l.length ≤ 64 →
    scan f (body l ++ 34 :: r) p t = (t ++ l, p + (body l).length + 1, 0) := by
  intro l
  induction l with
  | nil =>
    intro f r p t hf ht
    obtain ⟨f, rfl⟩ : ∃ g, f = g + 1 := ⟨f - 1, by omega⟩
    rw [show body [] ++ 34 :: r = 34 :: r from rfl, scan_quote]; simp [body]
  | cons c l ih =>
    intro f r p t hf ht
    obtain ⟨f, rfl⟩ : ∃ g, f = g + 1 := ⟨f - 1, by omega⟩
    obtain ⟨x, y, hx, h34, h10⟩ := one_head c
    have hb : body (c :: l) ++ 34 :: r = one c ++ (body l ++ 34 :: r) := by unfold body; rw [List.flatMap_cons, List.append_assoc]
    have hp := piece_one c (body l ++ 34 :: r)
    have hl := one_len c
    rw [hx] at hl
    rw [hx, List.cons_append] at hp
    rw [hb, hx, List.cons_append]
    simp only [List.length_cons] at hf ht
    rw [scan_step f x _ p t h34 h10 (by omega) c _ hp (by omega)]
    rw [← List.cons_append, List.drop_left, ih f r _ _ (by omega) (by simp; omega)]
    have : (body (c :: l)).length = (x :: y).length + (body l).length := by unfold body; rw [List.flatMap_cons, List.length_append, hx]
    rw [this]
    simp; omega
theorem scan_body_long : ∀ (l : List UInt8) (f : Nat) (r : List UInt8) (p : Nat) (t : List UInt8), l.length < f → t.length ≤ 64 → 64 < t.length + l.length →
    ∃ q, scan f (body l ++ 34 :: r) p t = ([], q, 3) := by
  intro l
  induction l with
  | nil => intro f r p t _ h1 h2; simp at h2; omega
  | cons c l ih =>
    intro f r p t hf ht hm
    obtain ⟨f, rfl⟩ : ∃ g, f = g + 1 := ⟨f - 1, by omega⟩
    obtain ⟨x, y, hx, h34, h10⟩ := one_head c
    have hb : body (c :: l) ++ 34 :: r = one c ++ (body l ++ 34 :: r) := by unfold body; rw [List.flatMap_cons, List.append_assoc]
    have hp := piece_one c (body l ++ 34 :: r)
    have hl := one_len c
    rw [hx] at hl
    rw [hx, List.cons_append] at hp
    rw [hb, hx, List.cons_append]
    simp only [List.length_cons] at hf hm
    by_cases h64 : t.length = 64
    · exact ⟨p, by rw [scan, if_neg h34, if_neg h10, if_pos h64]⟩
    · rw [scan_step f x _ p t h34 h10 h64 c _ hp (by omega)]
      rw [← List.cons_append, List.drop_left]
      exact ih f r _ _ (by omega) (by simp; omega) (by simp; omega)
/-- What is read is no longer than 64 bytes; nothing is read beside a code. -/
theorem scan_out : ∀ (f : Nat) (l : List UInt8) (p : Nat) (t x : List UInt8) (y : Nat) (c : Int), t.length ≤ 64 → scan f l p t = (x, y, c) → x.length ≤ 64 ∧ (c ≠ 0 → x = []) := by
  intro f
  induction f with
  | zero => intro l p t x y c ht h; simp [scan] at h; obtain ⟨rfl, _, _⟩ := h; simp
  | succ f ih =>
    intro l p t x y c ht h
    cases l with
    | nil => simp [scan] at h; obtain ⟨rfl, _, _⟩ := h; simp
    | cons a r =>
      rw [scan] at h
      split at h
      · injection h with h1 h; injection h with h2 h3; subst h1 h3; exact ⟨ht, fun h => absurd rfl h⟩
      · split at h
        · injection h with h1 h; subst h1; simp
        · split at h
          · injection h with h1 h; subst h1; simp
          · split at h
            · injection h with h1 h; subst h1; simp
            · exact ih _ _ _ _ _ _ (by simp; omega) h
end Go.Proofs.YtlfohbajeecdeaaDoor.Quo
