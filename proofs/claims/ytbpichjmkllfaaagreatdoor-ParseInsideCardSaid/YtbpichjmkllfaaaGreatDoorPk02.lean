/- Texts between quotes, as plain lists: how a byte is told, and what is read. -/
import Derived.Test.YtbpichjmkllfaaaGreatDoorPk01
namespace Go.Proofs.YtbpichjmkllfaaaGreatDoor.Quo
set_option linter.unusedVariables false
set_option maxRecDepth 20000

/-- A digit to the base 16. -/
def hexd (n : Nat) : UInt8 := if n < 10 then UInt8.ofNat (48 + n) else UInt8.ofNat (87 + n)
/-- A byte between quotes. -/
def one (c : UInt8) : List UInt8 :=
  if c = 34 ∨ c = 92 then [92, c] else if c = 10 then [92, 110] else if c = 9 then [92, 116]
  else if 32 ≤ c.toNat ∧ c.toNat ≤ 126 then [c] else [92, 120, hexd (c.toNat / 16), hexd (c.toNat % 16)]
def body (l : List UInt8) : List UInt8 := l.flatMap one
/-- A text between quotes. -/
def put (l : List UInt8) : List UInt8 := 34 :: (body l ++ [34])
/-- The number of a digit to the base 16; 99: it is none. -/
def dig (c : UInt8) : Nat :=
  if 48 ≤ c.toNat ∧ c.toNat ≤ 57 then c.toNat - 48 else if 97 ≤ c.toNat ∧ c.toNat ≤ 102 then c.toNat - 87
  else if 65 ≤ c.toNat ∧ c.toNat ≤ 70 then c.toNat - 55 else 99
/-- The byte that two digits stand for, and 4; or 0. -/
def two : List UInt8 → UInt8 × Nat
  | h :: l :: _ => if dig h < 16 ∧ dig l < 16 then (UInt8.ofNat (16 * dig h + dig l), 4) else (0, 0)
  | _ => (0, 0)
/-- What stands behind a backslash. -/
def esc : List UInt8 → UInt8 × Nat
  | [] => (0, 0)
  | d :: r => if d = 34 ∨ d = 92 then (d, 2) else if d = 110 then (10, 2) else if d = 116 then (9, 2) else if d = 120 then two r else (0, 0)
/-- The byte that a text's beginning stands for, and how long that is; 0: none. -/
def piece : List UInt8 → UInt8 × Nat
  | [] => (0, 0)
  | c :: r => if c = 92 then esc r else (c, 1)
/-- What stands behind a quote: the text, where it ends, OK; or where it is wrong. -/
def scan : Nat → List UInt8 → Nat → List UInt8 → List UInt8 × Nat × Int
  | 0, _, p, _ => ([], p, 11)
  | _ + 1, [], p, _ => ([], p, 11)
  | f + 1, c :: r, p, t =>
    if c = 34 then (t, p + 1, 0) else if c = 10 then ([], p, 11) else if t.length = 64 then ([], p, 3)
    else if (piece (c :: r)).2 = 0 then ([], p, 11) else scan f ((c :: r).drop (piece (c :: r)).2) (p + (piece (c :: r)).2) (t ++ [(piece (c :: r)).1])

theorem all_bytes (P : UInt8 → Prop) (h : ∀ n, n < 256 → P (UInt8.ofNat n)) (c : UInt8) : P c := by
  have := h c.toNat c.toNat_lt
  rwa [UInt8.ofNat_toNat] at this
theorem hex_back (c : UInt8) : dig (hexd (c.toNat / 16)) = c.toNat / 16 ∧ dig (hexd (c.toNat % 16)) = c.toNat % 16 := by
  refine all_bytes (fun c => dig (hexd (c.toNat / 16)) = c.toNat / 16 ∧ dig (hexd (c.toNat % 16)) = c.toNat % 16) ?_ c
  decide +kernel
theorem piece_one (c : UInt8) (r : List UInt8) : piece (one c ++ r) = (c, (one c).length) := by
  unfold one
  split
  · rename_i h
    show (if c = 34 ∨ c = 92 then (c, 2) else _) = _
    rw [if_pos h]; rfl
  · split
    · subst_vars; rfl
    · split
      · subst_vars; rfl
      · split
        · rename_i h1 _ _ _
          have : c ≠ 92 := fun h => h1 (.inr h)
          show (if c = 92 then esc r else (c, 1)) = _
          rw [if_neg this]; rfl
        · show (if dig (hexd (c.toNat / 16)) < 16 ∧ dig (hexd (c.toNat % 16)) < 16 then (UInt8.ofNat (16 * dig (hexd (c.toNat / 16)) + dig (hexd (c.toNat % 16))), 4) else (0, 0)) = _
          have hl := c.toNat_lt
          rw [(hex_back c).1, (hex_back c).2, if_pos (by omega)]
          have : 16 * (c.toNat / 16) + c.toNat % 16 = c.toNat := by omega
          rw [this, UInt8.ofNat_toNat]; rfl
theorem one_len (c : UInt8) : 0 < (one c).length ∧ (one c).length ≤ 4 := by
  unfold one; repeat' split
  all_goals simp
theorem one_head (c : UInt8) : ∃ d r, one c = d :: r ∧ d ≠ 34 ∧ d ≠ 10 := by
  unfold one
  split
  · exact ⟨92, _, rfl, by decide, by decide⟩
  · split
    · exact ⟨92, _, rfl, by decide, by decide⟩
    · split
      · exact ⟨92, _, rfl, by decide, by decide⟩
      · split
        · rename_i h1 h2 _ _
          exact ⟨c, _, rfl, fun h => h1 (.inl h), h2⟩
        · exact ⟨92, _, rfl, by decide, by decide⟩
theorem one_range (c : UInt8) : ∀ d ∈ one c, 32 ≤ d.toNat ∧ d.toNat ≤ 126 := by
  refine all_bytes (fun c => ∀ d ∈ one c, 32 ≤ d.toNat ∧ d.toNat ≤ 126) ?_ c
  decide +kernel
theorem put_range (l : List UInt8) : ∀ d ∈ put l, 32 ≤ d.toNat ∧ d.toNat ≤ 126 := by
  intro d hd
  unfold put at hd
  simp only [List.mem_cons, List.mem_append, List.not_mem_nil, or_false] at hd
  rcases hd with rfl | hd | rfl
  · decide
  · obtain ⟨c, _, hc⟩ := List.mem_flatMap.1 hd
    exact one_range c d hc
  · decide
theorem body_len (l : List UInt8) : (body l).length ≤ 4 * l.length := by
  induction l with
  | nil => simp [body]
  | cons c l ih =>
    have := one_len c
    unfold body at ih ⊢
    rw [List.flatMap_cons, List.length_append, List.length_cons]; omega
theorem put_len (l : List UInt8) : (put l).length ≤ 4 * l.length + 2 := by
  have := body_len l
  unfold put; rw [List.length_cons, List.length_append]; simp; omega
theorem body_snoc (l : List UInt8) (c : UInt8) : body (l ++ [c]) = body l ++ one c := by unfold body; simp
/-- No two texts are told alike. -/
theorem body_inj : ∀ (s t : List UInt8) (r r' : List UInt8), body s ++ 34 :: r = body t ++ 34 :: r' → s = t := by
  intro s
  induction s with
  | nil =>
    intro t r r' h
    cases t with
    | nil => rfl
    | cons d t =>
      obtain ⟨x, y, hx, h34, _⟩ := one_head d
      unfold body at h
      rw [List.flatMap_cons, hx] at h
      simp at h
      exact absurd h.1.symm h34
  | cons c s ih =>
    intro t r r' h
    cases t with
    | nil =>
      obtain ⟨x, y, hx, h34, _⟩ := one_head c
      unfold body at h
      rw [List.flatMap_cons, hx] at h
      simp at h
      exact absurd h.1 h34
    | cons d t =>
      unfold body at h
      rw [List.flatMap_cons, List.flatMap_cons, List.append_assoc, List.append_assoc] at h
      have h1 := congrArg piece h
      rw [piece_one, piece_one] at h1
      injection h1 with h1 _
      subst h1
      have h2 := List.append_cancel_left h
      rw [ih t r r' h2]
theorem put_inj (s t : List UInt8) : put s = put t ↔ s = t := by
  constructor
  · intro h
    unfold put at h
    injection h with _ h
    exact body_inj s t [] [] h
  · rintro rfl; rfl

theorem two_size (l : List UInt8) : (two l).2 ≤ l.length + 2 := by
  unfold two
  split
  · split <;> simp
  · simp
theorem esc_size (l : List UInt8) : (esc l).2 ≤ l.length + 1 := by
  unfold esc
  split
  · simp
  · rename_i d r
    repeat' split
    · simp
    · simp
    · simp
    · have := two_size r; simp; omega
    · simp
theorem piece_size (l : List UInt8) : (piece l).2 ≤ l.length := by
  unfold piece
  split
  · simp
  · split
    · have := esc_size (by assumption); simp; omega
    · simp
/-- A step of the reading. -/
theorem scan_quote (f : Nat) (r : List UInt8) (p : Nat) (t : List UInt8) : scan (f + 1) (34 :: r) p t = (t, p + 1, 0) := by simp [scan]
theorem scan_step (f : Nat) (c : UInt8) (r : List UInt8) (p : Nat) (t : List UInt8) (h1 : c ≠ 34) (h2 : c ≠ 10) (h3 : t.length ≠ 64) (b : UInt8) (n : Nat) (hp : piece (c :: r) = (b, n)) (hn : n ≠ 0) :
    scan (f + 1) (c :: r) p t = scan f ((c :: r).drop n) (p + n) (t ++ [b]) := by
  rw [scan, if_neg h1, if_neg h2, if_neg h3, hp, if_neg hn]
/-- What is put is read as it was, or is too long. -/
theorem scan_body : ∀ (l : List UInt8) (f : Nat) (r : List UInt8) (p : Nat) (t : List UInt8), l.length < f → t.length + l.length ≤ 64 →
    scan f (body l ++ 34 :: r) p t = (t ++ l, p + (body l).length + 1, 0) := by
  intro l
  induction l with
  | nil =>
    intro f r p t hf ht
    obtain ⟨f, rfl⟩ : ∃ g, f = g + 1 := ⟨f - 1, by omega⟩
    rw [show body [] ++ 34 :: r = 34 :: r from rfl, scan_quote]; simp [body]
  | cons c l ih =>
    intro f r p t hf ht
    obtain ⟨f, rfl⟩ : ∃ g, f = g + 1 := ⟨f - 1, by omega⟩
    obtain ⟨x, y, hx, h34, h10⟩ := one_head c
    have hb : body (c :: l) ++ 34 :: r = one c ++ (body l ++ 34 :: r) := by unfold body; rw [List.flatMap_cons, List.append_assoc]
    have hp := piece_one c (body l ++ 34 :: r)
    have hl := one_len c
    rw [hx] at hl
    rw [hx, List.cons_append] at hp
    rw [hb, hx, List.cons_append]
    simp only [List.length_cons] at hf ht
    rw [scan_step f x _ p t h34 h10 (by omega) c _ hp (by omega)]
    rw [← List.cons_append, List.drop_left, ih f r _ _ (by omega) (by simp; omega)]
    have : (body (c :: l)).length = (x :: y).length + (body l).length := by unfold body; rw [List.flatMap_cons, List.length_append, hx]
    rw [this]
    simp; omega
theorem scan_body_long : ∀ (l : List UInt8) (f : Nat) (r : List UInt8) (p : Nat) (t : List UInt8), l.length < f → t.length ≤ 64 → 64 < t.length + l.length →
    ∃ q, scan f (body l ++ 34 :: r) p t = ([], q, 3) := by
  intro l
  induction l with
  | nil => intro f r p t _ h1 h2; simp at h2; omega
  | cons c l ih =>
    intro f r p t hf ht hm
    obtain ⟨f, rfl⟩ : ∃ g, f = g + 1 := ⟨f - 1, by omega⟩
    obtain ⟨x, y, hx, h34, h10⟩ := one_head c
    have hb : body (c :: l) ++ 34 :: r = one c ++ (body l ++ 34 :: r) := by unfold body; rw [List.flatMap_cons, List.append_assoc]
    have hp := piece_one c (body l ++ 34 :: r)
    have hl := one_len c
    rw [hx] at hl
    rw [hx, List.cons_append] at hp
    rw [hb, hx, List.cons_append]
    simp only [List.length_cons] at hf hm
    by_cases h64 : t.length = 64
    · exact ⟨p, by rw [scan, if_neg h34, if_neg h10, if_pos h64]⟩
    · rw [scan_step f x _ p t h34 h10 h64 c _ hp (by omega)]
      rw [← List.cons_append, List.drop_left]
      exact ih f r _ _ (by omega) (by simp; omega) (by simp; omega)
/-- What is read is no longer than 64 bytes; nothing is read beside a code. -/
theorem scan_out : ∀ (f : Nat) (l : List UInt8) (p : Nat) (t x : List UInt8) (y : Nat) (c : Int), t.length ≤ 64 → scan f l p t = (x, y, c) → x.length ≤ 64 ∧ (c ≠ 0 → x = []) := by
  intro f
  induction f with
  | zero => intro l p t x y c ht h; simp [scan] at h; obtain ⟨rfl, _, _⟩ := h; simp
  | succ f ih =>
    intro l p t x y c ht h
    cases l with
    | nil => simp [scan] at h; obtain ⟨rfl, _, _⟩ := h; simp
    | cons a r =>
      rw [scan] at h
      split at h
      · injection h with h1 h; injection h with h2 h3; subst h1 h3; exact ⟨ht, fun h => absurd rfl h⟩
      · split at h
        · injection h with h1 h; subst h1; simp
        · split at h
          · injection h with h1 h; subst h1; simp
          · split at h
            · injection h with h1 h; subst h1; simp
            · exact ih _ _ _ _ _ _ (by simp; omega) h
end Go.Proofs.YtbpichjmkllfaaaGreatDoor.Quo

/- Names as plain lists: which bytes may stand in one, where one ends, an edge's two ends, and the first name that is not used. -/
namespace Go.Proofs.YtbpichjmkllfaaaGreatDoor.Nam
set_option linter.unusedVariables false

/-- May a byte begin a name? -/
def letter (c : UInt8) : Bool := decide (97 ≤ c.toNat ∧ c.toNat ≤ 122) || decide (c.toNat = 95)
/-- May it stand in one? -/
def sign (c : UInt8) : Bool := letter c || decide (48 ≤ c.toNat ∧ c.toNat ≤ 57)
/-- How many bytes, from the first on, may stand in a name. -/
def run (l : List UInt8) : Nat := (l.takeWhile sign).length
/-- Is a text a name? -/
def right : List UInt8 → Bool
  | [] => false
  | c :: r => letter c && r.all sign && decide (r.length < 24)
/-- Where the name ends that begins at a place. -/
def scan (l : List UInt8) (a : Nat) : Nat :=
  match l.drop a with
  | [] => a
  | c :: r => if letter c then a + run (c :: r) else a
/-- What stands ahead of the first point. -/
def ahead (l : List UInt8) : List UInt8 := l.takeWhile (· != 46)
/-- What stands behind it. -/
def behind (l : List UInt8) : List UInt8 := (l.dropWhile (· != 46)).drop 1
/-- The two ends of an edge. -/
def ends (l : List UInt8) : List UInt8 × List UInt8 × Bool :=
  if right (ahead l) && right (behind l) then (ahead l, behind l, true) else ([], [], false)

theorem letter_sign {c : UInt8} (h : letter c = true) : sign c = true := by unfold sign; rw [h]; rfl
theorem run_le (l : List UInt8) : run l ≤ l.length := List.Sublist.length_le (List.takeWhile_sublist _)
theorem run_nil : run [] = 0 := rfl
theorem run_pos {c : UInt8} {r : List UInt8} (h : sign c = true) : run (c :: r) = run r + 1 := by unfold run; rw [List.takeWhile_cons_of_pos h]; simp
theorem run_neg {c : UInt8} {r : List UInt8} (h : sign c = false) : run (c :: r) = 0 := by unfold run; rw [List.takeWhile_cons_of_neg (by simp [h])]; rfl
theorem run_all : ∀ l : List UInt8, (run l = l.length) ↔ l.all sign = true
  | [] => by simp [run]
  | c :: r => by
    cases hs : sign c
    · rw [run_neg hs]; simp [hs]
    · rw [run_pos hs, List.length_cons, List.all_cons, hs, Bool.true_and, ← run_all r]; omega
theorem right_len {l : List UInt8} (h : right l = true) : 0 < l.length ∧ l.length ≤ 24 := by
  cases l with
  | nil => simp [right] at h
  | cons c r => simp [right] at h; simp; omega
theorem right_all {l : List UInt8} (h : right l = true) : l.all sign = true := by
  cases l with
  | nil => rfl
  | cons c r =>
    simp only [right, Bool.and_eq_true] at h
    rw [List.all_cons, letter_sign h.1.1, Bool.true_and]; exact h.1.2
theorem right_scan (l : List UInt8) : right l = (decide (0 < l.length) && decide (l.length ≤ 24) && decide (scan l 0 = l.length)) := by
  cases l with
  | nil => rfl
  | cons c r =>
    unfold scan right
    rw [List.drop_zero]
    cases hc : letter c
    · simp [hc]
    · have h1 := run_all (c :: r)
      rw [List.all_cons, letter_sign hc, Bool.true_and] at h1
      simp only [hc, if_true, Nat.zero_add]
      by_cases h2 : r.all sign = true
      · rw [h2, h1.2 h2]; simp [Nat.lt_iff_add_one_le]
      · have h3 : r.all sign = false := by simpa using h2
        have h4 : ¬ run (c :: r) = (c :: r).length := fun h => h2 (h1.1 h)
        rw [h3, decide_eq_false h4]; simp
theorem right_long {l : List UInt8} (h : 24 < l.length) : right l = false := by
  cases hr : right l
  · rfl
  · have := right_len hr; omega
theorem right_no_point {l : List UInt8} (h : right l = true) : (46 : UInt8) ∉ l := by
  intro hm
  have := List.all_eq_true.1 (right_all h) 46 hm
  revert this; decide
theorem right_mk {c : UInt8} {r : List UInt8} (h1 : letter c = true) (h2 : r.all sign = true) (h3 : r.length < 24) : right (c :: r) = true := by
  simp [right, h1, h3]; simpa using h2

theorem ahead_eq : ∀ l : List UInt8, (46 : UInt8) ∉ l → ahead l = l ∧ behind l = []
  | [], _ => ⟨rfl, rfl⟩
  | c :: r, h => by
    have hc : (c != 46) = true := by rw [bne_iff_ne]; intro e; subst e; simp at h
    have := ahead_eq r (fun h' => h (by simp [h']))
    unfold ahead behind at *
    rw [List.takeWhile_cons_of_pos (p := (· != 46)) hc, List.dropWhile_cons_of_pos (p := (· != 46)) hc, this.1]; exact ⟨rfl, this.2⟩
theorem ahead_cat : ∀ (a b : List UInt8), (46 : UInt8) ∉ a → ahead (a ++ 46 :: b) = a ∧ behind (a ++ 46 :: b) = b
  | [], b, _ => ⟨rfl, rfl⟩
  | c :: r, b, h => by
    have hc : (c != 46) = true := by rw [bne_iff_ne]; intro e; subst e; simp at h
    have := ahead_cat r b (fun h' => h (by simp [h']))
    unfold ahead behind at *
    rw [List.cons_append, List.takeWhile_cons_of_pos (p := (· != 46)) hc, List.dropWhile_cons_of_pos (p := (· != 46)) hc, this.1]; exact ⟨rfl, this.2⟩
theorem ends_cat {a b : List UInt8} (ha : right a = true) (hb : right b = true) : ends (a ++ 46 :: b) = (a, b, true) := by
  have := ahead_cat a b (right_no_point ha)
  unfold ends; rw [this.1, this.2, ha, hb]; rfl
theorem ends_none {l : List UInt8} (h : (46 : UInt8) ∉ l) : ends l = ([], [], false) := by
  have := ahead_eq l h
  unfold ends; rw [this.1, this.2]; simp [right]
/-- Wherever a point parts a text into two names, these are its ends. -/
theorem ends_at {l : List UInt8} (i : Nat) (hi : i < l.length) (hp : l[i] = 46) (h1 : right (l.take i) = true) (h2 : right (l.drop (i + 1)) = true) : ends l = (l.take i, l.drop (i + 1), true) := by
  have e : l = l.take i ++ 46 :: l.drop (i + 1) := by
    conv => lhs; rw [← List.take_append_drop i l, List.drop_eq_getElem_cons hi, hp]
  have := ends_cat h1 h2
  rw [← e] at this; exact this
/-- If no point does, there are none. -/
theorem ends_not {l : List UInt8} (h : ∀ i (hi : i < l.length), l[i] = 46 → ¬ (right (l.take i) = true ∧ right (l.drop (i + 1)) = true)) : ends l = ([], [], false) := by
  by_cases hm : (46 : UInt8) ∈ l
  · obtain ⟨i, hi, hp, hn⟩ : ∃ i, ∃ hi : i < l.length, l[i] = 46 ∧ (46 : UInt8) ∉ l.take i := by
      clear h
      induction l with
      | nil => simp at hm
      | cons c r ih =>
        by_cases hc : c = 46
        · exact ⟨0, by simp, hc, by simp⟩
        · obtain ⟨i, hi, hp, hn⟩ := ih (by simpa [Ne.symm hc] using hm)
          exact ⟨i + 1, by simp; omega, by simpa using hp, by simp [hn, Ne.symm hc]⟩
    have e : l = l.take i ++ 46 :: l.drop (i + 1) := by
      conv => lhs; rw [← List.take_append_drop i l, List.drop_eq_getElem_cons hi, hp]
    have hh := ahead_cat (l.take i) (l.drop (i + 1)) hn
    rw [← e] at hh
    have := h i hi hp
    unfold ends
    rw [hh.1, hh.2, if_neg (by rw [Bool.and_eq_true]; exact this)]
  · exact ends_none hm
theorem ends_label (l : List UInt8) : (ends l).2.2 = (right (ahead l) && right (behind l)) := by
  unfold ends; split
  · rename_i h; exact h.symm
  · rename_i h; rw [Bool.not_eq_true] at h; exact h.symm
/-- No two edges have one name. -/
theorem edge_inj {a b c d : List UInt8} (ha : right a = true) (hb : right b = true) (hc : right c = true) (hd : right d = true) : (a ++ 46 :: b = c ++ 46 :: d) ↔ (a = c ∧ b = d) := by
  refine ⟨fun h => ?_, fun ⟨h1, h2⟩ => by rw [h1, h2]⟩
  have h1 := ends_cat ha hb
  rw [h, ends_cat hc hd] at h1
  simp at h1
  exact ⟨h1.1.symm, h1.2.symm⟩
theorem edge_not_right (a b : List UInt8) : right (a ++ 46 :: b) = false := by
  cases h : right (a ++ 46 :: b)
  · rfl
  · exact absurd (List.mem_append_right a (List.mem_cons_self)) (right_no_point h)

/-- One place: what may begin a name, what may stand in one. -/
theorem scan_out (l : List UInt8) (a : Nat) (h : l.length ≤ a) : scan l a = a := by
  unfold scan; rw [List.drop_eq_nil_of_le h]
theorem scan_name (l : List UInt8) (a : Nat) (h : a < l.length) (hc : letter l[a] = true) : scan l a = a + run (l.drop a) := by
  unfold scan; rw [List.drop_eq_getElem_cons h]; exact if_pos hc
theorem scan_not (l : List UInt8) (a : Nat) (h : a < l.length) (hc : letter l[a] = false) : scan l a = a := by
  unfold scan; rw [List.drop_eq_getElem_cons h]; simp [hc]
theorem run_at (l : List UInt8) (a : Nat) (h : a < l.length) (hc : sign l[a] = true) : a + run (l.drop a) = (a + 1) + run (l.drop (a + 1)) := by
  rw [List.drop_eq_getElem_cons h, run_pos hc]; omega
theorem run_stop (l : List UInt8) (a : Nat) (h : a < l.length) (hc : sign l[a] = false) : a + run (l.drop a) = a := by
  rw [List.drop_eq_getElem_cons h, run_neg hc]; rfl
theorem run_end (l : List UInt8) (a : Nat) (h : l.length ≤ a) : a + run (l.drop a) = a := by
  rw [List.drop_eq_nil_of_le h]; rfl
theorem scan_le (l : List UInt8) (a : Nat) (h : a ≤ l.length) : scan l a ≤ l.length := by
  unfold scan
  have hr := run_le (l.drop a)
  rw [List.length_drop] at hr
  split
  · exact h
  · rename_i c r e
    rw [← e]; split <;> omega

/-- A number's text, for small numbers. -/
def num (n : Nat) : List UInt8 := if n < 10 then [UInt8.ofNat (48 + n)] else [UInt8.ofNat (48 + n / 10), UInt8.ofNat (48 + n % 10)]
theorem num_inj : ∀ i, i < 64 → ∀ j, j < 64 → num i = num j → i = j := by decide +kernel
theorem num_pos (n : Nat) : 0 < (num n).length := by unfold num; split <;> simp
theorem num_le (n : Nat) : (num n).length ≤ 2 := by unfold num; split <;> simp
/-- The first name of a stem and a number from n on, among so many, that is none of some. -/
def fresh (stem : List UInt8) (used : List (List UInt8)) : Nat → Nat → List UInt8
  | 0, _ => []
  | k + 1, n => if right (stem ++ num n) then (if stem ++ num n ∈ used then fresh stem used k (n + 1) else stem ++ num n) else []
theorem fresh_not (stem : List UInt8) (used : List (List UInt8)) : ∀ k n, fresh stem used k n ≠ [] → fresh stem used k n ∉ used
  | 0, _, h => absurd rfl h
  | k + 1, n, h => by
    unfold fresh at *
    split at h
    · rename_i hr
      rw [if_pos hr]
      split at h
      · rename_i hu
        rw [if_pos hu]; exact fresh_not stem used k (n + 1) h
      · rename_i hu
        rw [if_neg hu]; exact hu
    · exact absurd rfl h
/-- So many different ones can't all be among fewer. -/
theorem pigeon {α : Type} [DecidableEq α] (f : Nat → α) : ∀ (m n : Nat) (l : List α), (∀ i j, n ≤ i → i < n + m → n ≤ j → j < n + m → f i = f j → i = j) → (∀ i, n ≤ i → i < n + m → f i ∈ l) → m ≤ l.length
  | 0, _, _, _, _ => Nat.zero_le _
  | m + 1, n, l, hinj, hm => by
    have h0 := hm n (Nat.le_refl _) (by omega)
    have := pigeon f m (n + 1) (l.erase (f n)) (fun i j a b c d => hinj i j (by omega) (by omega) (by omega) (by omega)) (fun i a b => by
      have hi := hm i (by omega) (by omega)
      refine (List.mem_erase_of_ne ?_).2 hi
      intro e
      have := hinj i n (by omega) (by omega) (by omega) (by omega) e
      omega)
    have hl := List.length_erase_of_mem h0
    have := List.length_pos_of_mem h0
    omega
/-- Among the first, more than are used, one is not used. -/
theorem some_free (stem : List UInt8) (used : List (List UInt8)) (h : used.length ≤ 60) : ¬ ∀ i, i ≤ used.length → stem ++ num i ∈ used := by
  intro hall
  have := pigeon (fun i => stem ++ num i) (used.length + 1) 0 used (fun i j _ a _ b e => num_inj i (by omega) j (by omega) (List.append_cancel_left e)) (fun i _ a => hall i (by omega))
  omega
end Go.Proofs.YtbpichjmkllfaaaGreatDoor.Nam

/- Decimal digits as plain mathematics: a number's digits, the number of digits, and that each is the other's. -/
namespace Go.Proofs.YtbpichjmkllfaaaGreatDoor.Deci
set_option linter.unusedVariables false
set_option maxRecDepth 20000

/-- The byte of a number's last digit. -/
def dch (u : Nat) : UInt8 := UInt8.ofNat (48 + u % 10)
theorem dch_nat (u : Nat) : (dch u).toNat = 48 + u % 10 := by
  unfold dch; rw [UInt8.toNat_ofNat']; have := Nat.mod_lt u (show 0 < 10 by omega); omega
/-- A number's digits, the first one first. -/
def digs (u : Nat) : List UInt8 := if h : u < 10 then [dch u] else digs (u / 10) ++ [dch u]
termination_by u
decreasing_by omega
theorem digs_lt {u : Nat} (h : u < 10) : digs u = [dch u] := by rw [digs, dif_pos h]
theorem digs_ge {u : Nat} (h : ¬ u < 10) : digs u = digs (u / 10) ++ [dch u] := by rw [digs, dif_neg h]
theorem digs_pos (u : Nat) : 0 < (digs u).length := by
  by_cases h : u < 10
  · rw [digs_lt h]; simp
  · rw [digs_ge h]; simp
theorem digs_le (k : Nat) : ∀ u, u < 10 ^ (k + 1) → (digs u).length ≤ k + 1 := by
  induction k with
  | zero => intro u h; rw [digs_lt (by simpa using h)]; simp
  | succ k ih =>
    intro u h
    by_cases h1 : u < 10
    · rw [digs_lt h1]; simp
    · rw [digs_ge h1]
      have := ih (u / 10) (by rw [Nat.pow_succ] at h; omega)
      simp; omega
/-- One round of laying digits from behind. -/
theorem digs_go {u left : Nat} {acc : List UInt8} (h : digs u = digs left ++ acc) (h0 : left / 10 ≠ 0) : digs u = digs (left / 10) ++ (dch left :: acc) := by
  rw [h, digs_ge (by omega : ¬ left < 10)]; simp
theorem digs_end {u left : Nat} {acc : List UInt8} (h : digs u = digs left ++ acc) (h0 : left / 10 = 0) : digs u = dch left :: acc := by
  rw [h, digs_lt (by omega : left < 10)]; simp
theorem digs_all (u : Nat) : ∀ c ∈ digs u, 48 ≤ c.toNat ∧ c.toNat ≤ 57 := by
  induction u using Nat.strongRecOn with
  | _ u ih =>
    intro c hc
    by_cases h : u < 10
    · rw [digs_lt h] at hc; simp at hc; subst hc; rw [dch_nat]; omega
    · rw [digs_ge h] at hc; simp at hc
      rcases hc with hc | hc
      · exact ih (u / 10) (by omega) c hc
      · subst hc; rw [dch_nat]; omega
theorem digs_head (u : Nat) : ∀ c, (digs u).head? = some c → c.toNat = 48 → u = 0 := by
  induction u using Nat.strongRecOn with
  | _ u ih =>
    intro c hc h48
    by_cases h : u < 10
    · rw [digs_lt h] at hc; simp at hc; subst hc; rw [dch_nat] at h48; omega
    · rw [digs_ge h, List.head?_append] at hc
      obtain ⟨x, hx⟩ : ∃ x, (digs (u / 10)).head? = some x := by
        cases hd : digs (u / 10) with
        | nil => have := digs_pos (u / 10); rw [hd] at this; simp at this
        | cons a l => exact ⟨a, rfl⟩
      rw [hx] at hc; simp at hc; subst hc
      have := ih (u / 10) (by omega) x hx h48
      omega
theorem digs_zero : digs 0 = [48] := by rw [digs_lt (by omega)]; rfl

/-- The number of digits. -/
def val (l : List UInt8) : Nat := l.foldl (fun a c => 10 * a + (c.toNat - 48)) 0
theorem val_snoc (l : List UInt8) (c : UInt8) : val (l ++ [c]) = 10 * val l + (c.toNat - 48) := by
  unfold val; rw [List.foldl_append]; rfl
theorem val_nil : val [] = 0 := rfl
theorem val_digs (u : Nat) : val (digs u) = u := by
  induction u using Nat.strongRecOn with
  | _ u ih =>
    by_cases h : u < 10
    · rw [digs_lt h, show [dch u] = [] ++ [dch u] from rfl, val_snoc, val_nil, dch_nat]; omega
    · rw [digs_ge h, val_snoc, ih (u / 10) (by omega), dch_nat]; omega
theorem foldl_mono (l : List UInt8) : ∀ a, a ≤ l.foldl (fun a c => 10 * a + (c.toNat - 48)) a := by
  induction l with
  | nil => intro a; exact Nat.le_refl _
  | cons c l ih => intro a; have := ih (10 * a + (c.toNat - 48)); rw [List.foldl_cons]; omega
theorem val_take (l : List UInt8) (k : Nat) : val (l.take k) ≤ val l := by
  have h : val l = (l.drop k).foldl (fun a c => 10 * a + (c.toNat - 48)) (val (l.take k)) := by
    unfold val; rw [← List.foldl_append, List.take_append_drop]
  rw [h]; exact foldl_mono _ _
theorem val_step (l : List UInt8) (k : Nat) (h : k < l.length) : val (l.take (k + 1)) = 10 * val (l.take k) + ((l[k]).toNat - 48) := by
  rw [List.take_succ_eq_append_getElem h, val_snoc]
theorem val_pos_aux (l : List UInt8) : ∀ a, 0 < a → 0 < l.foldl (fun a c => 10 * a + (c.toNat - 48)) a := by
  intro a h; have := foldl_mono l a; omega
theorem val_pos (l : List UInt8) (hd : ∀ c ∈ l, 48 ≤ c.toNat ∧ c.toNat ≤ 57) (c : UInt8) (hc : l.head? = some c) (h0 : c.toNat ≠ 48) : 0 < val l := by
  cases l with
  | nil => simp at hc
  | cons a l =>
    simp at hc; subst hc
    unfold val; rw [List.foldl_cons]
    apply val_pos_aux
    have := hd a (by simp); omega
theorem dch_of (a : Nat) (c : UInt8) (h : 48 ≤ c.toNat ∧ c.toNat ≤ 57) : dch (10 * a + (c.toNat - 48)) = c := by
  apply UInt8.toNat_inj.1; rw [dch_nat]; omega
/-- Digits that stand as in a number's text are the number's digits. -/
theorem digs_val (n : Nat) : ∀ l : List UInt8, l.length = n → 0 < n → (∀ c ∈ l, 48 ≤ c.toNat ∧ c.toNat ≤ 57) → (∀ c, l.head? = some c → c.toNat = 48 → n = 1) → digs (val l) = l := by
  induction n with
  | zero => intro l _ h; omega
  | succ n ih =>
    intro l hl _ hd hh
    obtain ⟨l', c, rfl⟩ : ∃ l' c, l = l' ++ [c] := by
      refine ⟨l.dropLast, l.getLast (by intro h; rw [h] at hl; simp at hl), ?_⟩
      rw [List.dropLast_concat_getLast]
    have hc := hd c (by simp)
    rw [val_snoc]
    by_cases hn : n = 0
    · have : l' = [] := by apply List.eq_nil_of_length_eq_zero; simp at hl; omega
      subst this
      rw [val_nil, digs_lt (by omega), dch_of 0 c hc]; rfl
    · simp at hl
      have hl' : l'.length = n := by omega
      obtain ⟨a, ha⟩ : ∃ a, l'.head? = some a := by
        cases l' with
        | nil => simp at hl'; omega
        | cons a t => exact ⟨a, rfl⟩
      have hne : a.toNat ≠ 48 := by
        intro h
        have := hh a (by rw [List.head?_append, ha]; rfl) h
        omega
      have hp := val_pos l' (fun x hx => hd x (by simp [hx])) a ha hne
      rw [digs_ge (by omega), dch_of _ c hc, show (10 * val l' + (c.toNat - 48)) / 10 = val l' by omega]
      rw [ih l' hl' (by omega) (fun x hx => hd x (by simp [hx])) (fun x hx h48 => by rw [ha] at hx; simp at hx; subst hx; exact absurd h48 hne)]

/-- A number's text. -/
def txt (n : Int) : List UInt8 := if n < 0 then 45 :: digs n.natAbs else digs n.natAbs
theorem txt_len (n : Int) (h1 : -9223372036854775808 ≤ n) (h2 : n ≤ 9223372036854775807) : (txt n).length ≤ 20 := by
  have := digs_le 18 n.natAbs (by omega)
  unfold txt; split
  · simp; omega
  · omega
theorem txt_pos (n : Int) : 0 < (txt n).length := by
  unfold txt; split
  · simp
  · exact digs_pos _
end Go.Proofs.YtbpichjmkllfaaaGreatDoor.Deci

/- Tokens as plain lists: what stands at a text's beginning, all tokens of a text, and tokens that are told again. -/
namespace Go.Proofs.YtbpichjmkllfaaaGreatDoor.Lex
set_option linter.unusedVariables false

structure Tok where
  kind : Nat
  text : List UInt8
  n : Int
  cls : Nat
  at_ : Nat
  deriving DecidableEq
/-- A blank. -/
def blank (c : UInt8) : Bool := decide (c = 32) || decide (c = 9) || decide (c = 13) || decide (c = 10)
def dgt (c : UInt8) : Bool := decide (48 ≤ c.toNat) && decide (c.toNat ≤ 57)
/-- The digits at a text's beginning. -/
def dg (l : List UInt8) : List UInt8 := l.takeWhile dgt
/-- Of digits: what is wrong with them; 0: nothing. top: the greatest number. -/
def vcode (top : Nat) (l : List UInt8) : Int := if l = [] ∨ (l.head? = some 48 ∧ 1 < l.length) then 12 else if top < Deci.val l then 2 else 0
/-- A number as 64 bits with a sign hold it. -/
def wrapN (u : Nat) : Int := if u < 9223372036854775808 then u else (u : Int) - 18446744073709551616
/-- What stands at a place: so many bytes that are no token, a token of so many bytes, or what is wrong, and where. -/
inductive Nx where
  | skip (k : Nat)
  | tok (t : Tok) (k : Nat)
  | bad (c : Int) (at_ : Nat)
  deriving DecidableEq
def signs : List UInt8 := [123, 125, 40, 41, 91, 93, 44, 58, 59, 61, 43, 45, 42, 46]
/-- A token with digits: pre stands ahead of them. -/
def numb (kind cls top : Nat) (pre r : List UInt8) (at_ : Nat) : Nx :=
  if vcode top (dg r) = 0 then .tok ⟨kind, pre ++ dg r, wrapN (Deci.val (dg r)), cls, at_⟩ (pre.length + (dg r).length) else .bad (vcode top (dg r)) at_
/-- A token that is no text. -/
def plain (c : UInt8) (r : List UInt8) (at_ : Nat) : Nx :=
  if Nam.letter c then (if 24 < Nam.run (c :: r) then .bad 3 at_ else .tok ⟨1, (c :: r).takeWhile Nam.sign, 0, 0, at_⟩ (Nam.run (c :: r)))
  else if c = 37 then numb 4 0 2147483647 [c] r at_
  else if c = 35 then numb 6 0 2147483647 [c] r at_
  else if c = 36 then
    match r with
    | [] => .bad 12 at_
    | d :: r' => if d = 103 then numb 5 0 2147483647 [c, d] r' at_ else if d = 120 then numb 5 1 2147483647 [c, d] r' at_ else .bad 12 at_
  else if dgt c then numb 2 0 9223372036854775808 [] (c :: r) at_
  else if c ∈ signs then (if c = 46 ∧ r.head? = some 46 then .tok ⟨7, [46, 46], 0, 0, at_⟩ 2 else .tok ⟨7, [c], 0, 0, at_⟩ 1)
  else .bad 10 at_
/-- What stands at a place; l is not empty. -/
def nx (l : List UInt8) (at_ : Nat) : Nx :=
  match l with
  | [] => .bad 10 at_
  | c :: r =>
    if blank c then .skip 1
    else if c = 47 ∧ r.head? = some 47 then .skip ((c :: r).takeWhile (· != 10)).length
    else if c = 34 then
      (if (Quo.scan (r.length + 1) r (at_ + 1) []).2.2 = 0 then .tok ⟨3, (Quo.scan (r.length + 1) r (at_ + 1) []).1, 0, 0, at_⟩ ((Quo.scan (r.length + 1) r (at_ + 1) []).2.1 - at_)
       else .bad (Quo.scan (r.length + 1) r (at_ + 1) []).2.2 (Quo.scan (r.length + 1) r (at_ + 1) []).2.1)
    else plain c r at_
/-- All tokens from a place on, behind those of out: the tokens, a code, where. -/
def go : Nat → List UInt8 → Nat → List Tok → List Tok × Int × Nat
  | 0, _, _, _ => ([], 10, 0)
  | _ + 1, [], at_, out => (out ++ [⟨0, [], 0, 0, at_⟩], 0, 0)
  | f + 1, c :: r, at_, out =>
    match nx (c :: r) at_ with
    | .skip k => go f ((c :: r).drop k) (at_ + k) out
    | .tok t k => go f ((c :: r).drop k) (at_ + k) (out ++ [t])
    | .bad e p => ([], e, p)
def all (s : List UInt8) : List Tok × Int × Nat := if 65536 < s.length then ([], 3, 0) else go (s.length + 1) s 0 []

theorem dg_len (l : List UInt8) : (dg l).length ≤ l.length := List.Sublist.length_le (List.takeWhile_sublist _)
theorem dg_all (l : List UInt8) : ∀ c ∈ dg l, dgt c = true := by
  intro c hc
  unfold dg at hc
  induction l with
  | nil => cases hc
  | cons a l ih =>
    rw [List.takeWhile_cons] at hc
    split at hc
    · rcases List.mem_cons.1 hc with e | e
      · rw [e]; assumption
      · exact ih e
    · cases hc
/-- Digits, and then none, are just these digits. -/
theorem dg_cat (l r : List UInt8) (h : ∀ c ∈ l, dgt c = true) (hr : ∀ c, r.head? = some c → dgt c = false) : dg (l ++ r) = l := by
  induction l with
  | nil =>
    cases r with
    | nil => rfl
    | cons c r => unfold dg; rw [List.nil_append, List.takeWhile_cons, hr c rfl]; rfl
  | cons a l ih =>
    unfold dg at *
    rw [List.cons_append, List.takeWhile_cons, h a (List.mem_cons_self ..), if_pos rfl, ih (fun c hc => h c (List.mem_cons_of_mem _ hc))]
theorem run_cat (l r : List UInt8) (h : ∀ c ∈ l, Nam.sign c = true) (hr : ∀ c, r.head? = some c → Nam.sign c = false) : (l ++ r).takeWhile Nam.sign = l := by
  induction l with
  | nil =>
    cases r with
    | nil => rfl
    | cons c r => rw [List.nil_append, List.takeWhile_cons, hr c rfl]; rfl
  | cons a l ih =>
    rw [List.cons_append, List.takeWhile_cons, h a (List.mem_cons_self ..), if_pos rfl, ih (fun c hc => h c (List.mem_cons_of_mem _ hc))]
theorem tw_all {p : UInt8 → Bool} (l : List UInt8) : ∀ c ∈ l.takeWhile p, p c = true := by
  intro c hc
  induction l with
  | nil => cases hc
  | cons a l ih =>
    rw [List.takeWhile_cons] at hc
    split at hc
    · rcases List.mem_cons.1 hc with e | e
      · rw [e]; assumption
      · exact ih e
    · cases hc
/-- Each step goes on, and not beyond the end. -/
theorem numb_size {kind cls top : Nat} {pre r : List UInt8} {at_ : Nat} {t : Tok} {k : Nat} (h : numb kind cls top pre r at_ = .tok t k) : 0 < k ∧ k ≤ pre.length + r.length := by
  unfold numb at h
  split at h
  · rename_i hv
    injection h with _ h
    have h1 := dg_len r
    refine ⟨?_, by omega⟩
    have : dg r ≠ [] := by
      intro e
      rw [e] at hv
      simp [vcode] at hv
    have : 0 < (dg r).length := List.length_pos_iff.2 this
    omega
  · cases h
theorem numb_skip {kind cls top : Nat} {pre r : List UInt8} {at_ k : Nat} : numb kind cls top pre r at_ ≠ .skip k := by
  unfold numb; split <;> simp
theorem plain_skip {c : UInt8} {r : List UInt8} {at_ k : Nat} : plain c r at_ ≠ .skip k := by
  unfold plain
  repeat' split
  all_goals first | exact numb_skip | simp
theorem plain_size {c : UInt8} {r : List UInt8} {at_ : Nat} {t : Tok} {k : Nat} (h : plain c r at_ = .tok t k) : 0 < k ∧ k ≤ (c :: r).length := by
  unfold plain at h
  split at h
  · rename_i hl
    split at h
    · cases h
    · injection h with _ h
      have h1 := Nam.run_le (c :: r)
      have h2 := Nam.run_pos (r := r) (Nam.letter_sign hl)
      omega
  · split at h
    · have := numb_size h; simp at this ⊢; omega
    · split at h
      · have := numb_size h; simp at this ⊢; omega
      · split at h
        · split at h
          · cases h
          · split at h
            · have := numb_size h; simp at this ⊢; omega
            · split at h
              · have := numb_size h; simp at this ⊢; omega
              · cases h
        · split at h
          · have := numb_size h; simp at this ⊢; omega
          · split at h
            · split at h
              · rename_i hh
                injection h with _ h
                cases r with
                | nil => simp at hh
                | cons a r => simp; omega
              · injection h with _ h; simp; omega
            · cases h
end Go.Proofs.YtbpichjmkllfaaaGreatDoor.Lex
