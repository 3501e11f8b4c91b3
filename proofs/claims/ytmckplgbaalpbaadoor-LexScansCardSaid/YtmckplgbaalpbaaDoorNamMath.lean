/- Names as plain lists: which bytes may stand in one, where one ends, an edge's two ends, and the first name that is not used. -/
namespace Go.Proofs.YtmckplgbaalpbaaDoor.Nam
set_option linter.unusedVariables false

/-- May a byte begin a name? -/
def letter (c : UInt8) : Bool := decide (97 ≤ c.toNat ∧ c.toNat ≤ 122) || decide (c.toNat = 95)
/-- May it stand in one? -/
def sign (c : UInt8) : Bool := letter c || decide (48 ≤ c.toNat ∧ c.toNat ≤ 57)
/-- How many bytes, from the first on, may stand in a name. -/
def run (l : List UInt8) : Nat := (l.takeWhile sign).length
/-- Is a text a name? -/
def right : List UInt8 → Bool
  | [] => false
  | c :: r => letter c && r.all sign && decide (r.length < 24)
/-- Where the name ends that begins at a place. -/
def scan (l : List UInt8) (a : Nat) : Nat :=
  match l.drop a with
  | [] => a
  | c :: r => if letter c then a + run (c :: r) else a
/-- What stands ahead of the first point. -/
def ahead (l : List UInt8) : List UInt8 := l.takeWhile (· != 46)
/-- What stands behind it. -/
def behind (l : List UInt8) : List UInt8 := (l.dropWhile (· != 46)).drop 1
/-- The two ends of an edge. -/
def ends (l : List UInt8) : List UInt8 × List UInt8 × Bool :=
  if right (ahead l) && right (behind l) then (ahead l, behind l, true) else ([], [], false)

theorem letter_sign {c : UInt8} (h : letter c = true) : sign c = true := by unfold sign; rw [h]; rfl
theorem run_le (l : List UInt8) : run l ≤ l.length := List.Sublist.length_le (List.takeWhile_sublist _)
theorem run_nil : run [] = 0 := rfl
theorem run_pos {c : UInt8} {r : List UInt8} (h : sign c = true) : run (c :: r) = run r + 1 := by unfold run; rw [List.takeWhile_cons_of_pos h]; simp
theorem run_neg {c : UInt8} {r : List UInt8} (h : sign c = false) : run (c :: r) = 0 := by unfold run; rw [List.takeWhile_cons_of_neg (by simp [h])]; rfl
theorem run_all : ∀ l : List UInt8, (run l = l.length) ↔ l.all sign = true
  | [] => by simp [run]
  | c :: r => by
    cases hs : sign c
    · rw [run_neg hs]; simp [hs]
    · rw [run_pos hs, List.length_cons, List.all_cons, hs, Bool.true_and, ← run_all r]; omega
theorem right_len {l : List UInt8} (h : right l = true) : 0 < l.length ∧ l.length ≤ 24 := by
  cases l with
  | nil => simp [right] at h
  | cons c r => simp [right] at h; simp; omega
theorem right_all {l : List UInt8} (h : right l = true) : l.all sign = true := by
  cases l with
  | nil => rfl
  | cons c r =>
    simp only [right, Bool.and_eq_true] at h
    rw [List.all_cons, letter_sign h.1.1, Bool.true_and]; exact h.1.2
theorem right_scan (l : List UInt8) : right l = (decide (0 < l.length) && decide (l.length ≤ 24) && decide (scan l 0 = l.length)) := by
  cases l with
  | nil => rfl
  | cons c r =>
    unfold scan right
    rw [List.drop_zero]
    cases hc : letter c
    · simp [hc]
    · have h1 := run_all (c :: r)
      rw [List.all_cons, letter_sign hc, Bool.true_and] at h1
      simp only [hc, if_true, Nat.zero_add]
      by_cases h2 : r.all sign = true
      · rw [h2, h1.2 h2]; simp [Nat.lt_iff_add_one_le]
      · have h3 : r.all sign = false := by simpa using h2
        have h4 : ¬ run (c :: r) = (c :: r).length := fun h => h2 (h1.1 h)
        rw [h3, decide_eq_false h4]; simp
theorem right_long {l : List UInt8} (h : 24 < l.length) : right l = false := by
  cases hr : right l
  · rfl
  · have := right_len hr; omega
theorem right_no_point {l : List UInt8} (h : right l = true) : (46 : UInt8) ∉ l := by
  intro hm
  have := List.all_eq_true.1 (right_all h) 46 hm
  revert this; decide
theorem right_mk {c : UInt8} {r : List UInt8} (h1 : letter c = true) (h2 : r.all sign = true) (h3 : r.length < 24) : right (c :: r) = true := by
  simp [right, h1, h3]; simpa using h2

theorem ahead_eq : ∀ l : List UInt8, (46 : UInt8) ∉ l → ahead l = l ∧ behind l = []
  | [], _ => ⟨rfl, rfl⟩
  | c :: r, h => by
    have hc : (c != 46) = true := by rw [bne_iff_ne]; intro e; subst e; simp at h
    have := ahead_eq r (fun h' => h (by simp [h']))
    unfold ahead behind at *
    rw [List.takeWhile_cons_of_pos (p := (· != 46)) hc, List.dropWhile_cons_of_pos (p := (· != 46)) hc, this.1]; exact ⟨rfl, this.2⟩
theorem ahead_cat : ∀ (a b : List UInt8), (46 : UInt8) ∉ a → ahead (a ++ 46 :: b) = a ∧ behind (a ++ 46 :: b) = b
  | [], b, _ => ⟨rfl, rfl⟩
  | c :: r, b, h => by
    have hc : (c != 46) = true := by rw [bne_iff_ne]; intro e; subst e; simp at h
    have := ahead_cat r b (fun h' => h (by simp [h']))
    unfold ahead behind at *
    rw [List.cons_append, List.takeWhile_cons_of_pos (p := (· != 46)) hc, List.dropWhile_cons_of_pos (p := (· != 46)) hc, this.1]; exact ⟨rfl, this.2⟩
theorem ends_cat {a b : List UInt8} (ha : right a = true) (hb : right b = true) : ends (a ++ 46 :: b) = (a, b, true) := by
  have := ahead_cat a b (right_no_point ha)
  unfold ends; rw [this.1, this.2, ha, hb]; rfl
theorem ends_none {l : List UInt8} (h : (46 : UInt8) ∉ l) : ends l = ([], [], false) := by
  have := ahead_eq l h
  unfold ends; rw [this.1, this.2]; simp [right]
/-- Wherever a point parts a text into two names, these are its ends. -/
theorem ends_at {l : List UInt8} (i : Nat) (hi : i < l.length) (hp : l[i] = 46) (h1 : right (l.take i) = true) (h2 : right (l.drop (i + 1)) = true) : ends l = (l.take i, l.drop (i + 1), true) := by
  have e : l = l.take i ++ 46 :: l.drop (i + 1) := by
    conv => lhs; rw [← List.take_append_drop i l, List.drop_eq_getElem_cons hi, hp]
  have := ends_cat h1 h2
  rw [← e] at this; exact this
/-- If no point does, there are none. -/
theorem ends_not {l : List UInt8} (h : ∀ i (hi : i < l.length), l[i] = 46 → ¬ (right (l.take i) = true ∧ right (l.drop (i + 1)) = true)) : ends l = ([], [], false) := by
  by_cases hm : (46 : UInt8) ∈ l
  · obtain ⟨i, hi, hp, hn⟩ : ∃ i, ∃ hi : i < l.length, l[i] = 46 ∧ (46 : UInt8) ∉ l.take i := by
      clear h
      induction l with
      | nil => simp at hm
      | cons c r ih =>
        by_cases hc : c = 46
        · exact ⟨0, by simp, hc, by simp⟩
        · obtain ⟨i, hi, hp, hn⟩ := ih (by simpa [Ne.symm hc] using hm)
          exact ⟨i + 1, by simp; omega, by simpa using hp, by simp [hn, Ne.symm hc]⟩
    have e : l = l.take i ++ 46 :: l.drop (i + 1) := by
      conv => lhs; rw [← List.take_append_drop i l, List.drop_eq_getElem_cons hi, hp]
    have hh := ahead_cat (l.take i) (l.drop (i + 1)) hn
    rw [← e] at hh
    have := h i hi hp
    unfold ends
    rw [hh.1, hh.2, if_neg (by rw [Bool.and_eq_true]; exact this)]
  · exact ends_none hm
theorem ends_label (l : List UInt8) : (ends l).2.2 = (right (ahead l) && right (behind l)) := by
  unfold ends; split
  · rename_i h; exact h.symm
  · rename_i h; rw [Bool.not_eq_true] at h; exact h.symm
/-- No two edges have one name. -/
theorem edge_inj {a b c d : List UInt8} (ha : right a = true) (hb : right b = true) (hc : right c = true) (hd : right d = true) : (a ++ 46 :: b = c ++ 46 :: d) ↔ (a = c ∧ b = d) := by
  refine ⟨fun h => ?_, fun ⟨h1, h2⟩ => by rw [h1, h2]⟩
  have h1 := ends_cat ha hb
  rw [h, ends_cat hc hd] at h1
  simp at h1
  exact ⟨h1.1.symm, h1.2.symm⟩
theorem edge_not_right (a b : List UInt8) : right (a ++ 46 :: b) = false := by
  cases h : right (a ++ 46 :: b)
  · rfl
  · exact absurd (List.mem_append_right a (List.mem_cons_self)) (right_no_point h)

/-- One place: what may begin a name, what may stand in one. -/
theorem scan_out (l : List UInt8) (a : Nat) (h : l.length ≤ a) : scan l a = a := by
  unfold scan; rw [List.drop_eq_nil_of_le h]
theorem scan_name (l : List UInt8) (a : Nat) (h : a < l.length) (hc : letter l[a] = true) : scan l a = a + run (l.drop a) := by
  unfold scan; rw [List.drop_eq_getElem_cons h]; exact if_pos hc
theorem scan_not (l : List UInt8) (a : Nat) (h : a < l.length) (hc : letter l[a] = false) : scan l a = a := by
  unfold scan; rw [List.drop_eq_getElem_cons h]; simp [hc]
theorem run_at (l : List UInt8) (a : Nat) (h : a < l.length) (hc : sign l[a] = true) : a + run (l.drop a) = (a + 1) + run (l.drop (a + 1)) := by
  rw [List.drop_eq_getElem_cons h, run_pos hc]; omega
theorem run_stop (l : List UInt8) (a : Nat) (h : a < l.length) (hc : sign l[a] = false) : a + run (l.drop a) = a := by
  rw [List.drop_eq_getElem_cons h, run_neg hc]; rfl
theorem run_end (l : List UInt8) (a : Nat) (h : l.length ≤ a) : a + run (l.drop a) = a := by
  rw [List.drop_eq_nil_of_le h]; rfl
theorem scan_le (l : List UInt8) (a : Nat) (h : a ≤ l.length) : scan l a ≤ l.length := by
  unfold scan
  have hr := run_le (l.drop a)
  rw [List.length_drop] at hr
  split
  · exact h
  · rename_i c r e
    rw [← e]; split <;> omega

/-- A number's text, for small numbers. -/
def num (n : Nat) : List UInt8 := if n < 10 then [UInt8.ofNat (48 + n)] else [UInt8.ofNat (48 + n / 10), UInt8.ofNat (48 + n % 10)]
theorem num_inj : ∀ i, i < 64 → ∀ j, j < 64 → num i = num j → i = j := by decide +kernel
theorem num_pos (n : Nat) : 0 < (num n).length := by unfold num; split <;> simp
theorem num_le (n : Nat) : (num n).length ≤ 2 := by unfold num; split <;> simp
/-- The first name of a stem and a number from n on, among so many, that is none of some. -/
def fresh (stem : List UInt8) (used : List (List UInt8)) : Nat → Nat → List UInt8
  | 0, _ => []
  | k + 1, n => if right (stem ++ num n) then (if stem ++ num n ∈ used then fresh stem used k (n + 1) else stem ++ num n) else []
theorem fresh_not (stem : List UInt8) (used : List (List UInt8)) : ∀ k n, fresh stem used k n ≠ [] → fresh stem used k n ∉ used
  | 0, _, h => absurd rfl h
  | k + 1, n, h => by
    unfold fresh at *
    split at h
    · rename_i hr
      rw [if_pos hr]
      split at h
      · rename_i hu
        rw [if_pos hu]; exact fresh_not stem used k (n + 1) h
      · rename_i hu
        rw [if_neg hu]; exact hu
    · exact absurd rfl h
/-- So many different ones can't all be among fewer. -/
theorem pigeon {α : Type} [DecidableEq α] (f : Nat → α) : ∀ (m n : Nat) (l : List α), (∀ i j, n ≤ i → i < n + m → n ≤ j → j < n + m → f i = f j → i = j) → (∀ i, n ≤ i → i < n + m → f i ∈ l) → m ≤ l.length
  | 0, _, _, _, _ => Nat.zero_le _
  | m + 1, n, l, hinj, hm => by
    have h0 := hm n (Nat.le_refl _) (by omega)
    have := pigeon f m (n + 1) (l.erase (f n)) (fun i j a b c d => hinj i j (by omega) (by omega) (by omega) (by omega)) (fun i a b => by
      have hi := hm i (by omega) (by omega)
      refine (List.mem_erase_of_ne ?_).2 hi
      intro e
      have := hinj i n (by omega) (by omega) (by omega) (by omega) e
      omega)
    have hl := List.length_erase_of_mem h0
    have := List.length_pos_of_mem h0
    omega
/-- Among the first, more than are used, one is not used. -/
theorem some_free (stem : List UInt8) (used : List (List UInt8)) (h : used.length ≤ 60) : ¬ ∀ i, i ≤ used.length → stem ++ num i ∈ used := by
  intro hall
  have := pigeon (fun i => stem ++ num i) (used.length + 1) 0 used (fun i j _ a _ b e => num_inj i (by omega) j (by omega) (List.append_cancel_left e)) (fun i _ a => hall i (by omega))
  omega
end Go.Proofs.YtmckplgbaalpbaaDoor.Nam
