/- Names as plain lists: which bytes may stand in one, where one ends, an edge's two ends, and the first name that is not used. -/
import Derived.Test.YtgjaajofhfhadaaDoorRows
import Derived.Outline
import Derived.WalkKit
import Derived.WalkLawsBesides
import Derived.LoopTactic
import Derived.Below
import Derived.IntWalk
import Derived.Deep.Light
import Derived.Deep.LoopGhost
import Derived.Deep.WholeRow
import Derived.Lib.Hide
import Derived.Laws.IdiomStrings
import Derived.OwnWalk
namespace Go.Proofs.YtgjaajofhfhadaaDoor.Nam
set_option linter.unusedVariables false

/-- May a byte begin a name? -/
def letter (c : UInt8) : Bool := decide (97 ≤ c.toNat ∧ c.toNat ≤ 122) || decide (c.toNat = 95)
/-- May it stand in one? -/
def sign (c : UInt8) : Bool := letter c || decide (48 ≤ c.toNat ∧ c.toNat ≤ 57)
/-- How many bytes, from the first on, may stand in a name. -/
def run (l : List UInt8) : Nat := (l.takeWhile sign).length
/-- Is a text a name? -/
def right : List UInt8 → Bool
  | [] => false
  | c :: r => letter c && r.all sign && decide (r.length < 24)
/-- Where the name ends that begins at a place. -/
def scan (l : List UInt8) (a : Nat) : Nat :=
  match l.drop a with
  | [] => a
  | c :: r => if letter c then a + run (c :: r) else a
/-- What stands ahead of the first point. -/
def ahead (l : List UInt8) : List UInt8 := l.takeWhile (· != 46)
/-- What stands behind it. -/
def behind (l : List UInt8) : List UInt8 := (l.dropWhile (· != 46)).drop 1
/-- The two ends of an edge. -/
def ends (l : List UInt8) : List UInt8 × List UInt8 × Bool :=
  if right (ahead l) && right (behind l) then (ahead l, behind l, true) else ([], [], false)

theorem letter_sign {c : UInt8} (h : letter c = true) : sign c = true := by unfold sign; rw [h]; rfl
theorem run_le (l : List UInt8) : run l ≤ l.length := List.Sublist.length_le (List.takeWhile_sublist _)
theorem run_nil : run [] = 0 := rfl
theorem run_pos {c : UInt8} {r : List UInt8} (h : sign c = true) : run (c :: r) = run r + 1 := by unfold run; rw [List.takeWhile_cons_of_pos h]; simp
theorem run_neg {c : UInt8} {r : List UInt8} (h : sign c = false) : run (c :: r) = 0 := by unfold run; rw [List.takeWhile_cons_of_neg (by simp [h])]; rfl
theorem run_all : ∀ l : List UInt8, (run l = l.length) ↔ l.all sign = true
  | [] => by simp [run]
  | c :: r => by
    cases hs : sign c
    · rw [run_neg hs]; simp [hs]
    · rw [run_pos hs, List.length_cons, List.all_cons, hs, Bool.true_and, ← run_all r]; omega
theorem right_len {l : List UInt8} (h : right l = true) : 0 < l.length ∧ l.length ≤ 24 := by
  cases l with
  | nil => simp [right] at h
  | cons c r => simp [right] at h; simp; omega
theorem right_all {l : List UInt8} (h : right l = true) : l.all sign = true := by
  cases l with
  | nil => rfl
  | cons c r =>
    simp only [right, Bool.and_eq_true] at h
    rw [List.all_cons, letter_sign h.1.1, Bool.true_and]; exact h.1.2
theorem right_scan (l : List UInt8) : right l = (decide (0 < l.length) && decide (l.length ≤ 24) && decide (scan l 0 = l.length)) := by
  cases l with
  | nil => rfl
  | cons c r =>
    unfold scan right
    rw [List.drop_zero]
    cases hc : letter c
    · simp [hc]
    · have h1 := run_all (c :: r)
      rw [List.all_cons, letter_sign hc, Bool.true_and] at h1
      simp only [hc, if_true, Nat.zero_add]
      by_cases h2 : r.all sign = true
      · rw [h2, h1.2 h2]; simp [Nat.lt_iff_add_one_le]
      · have h3 : r.all sign = false := by simpa using h2
        have h4 : ¬ run (c :: r) = (c :: r).length := fun h => h2 (h1.1 h)
        rw [h3, decide_eq_false h4]; simp
theorem right_long {l : List UInt8} (h : 24 < l.length) : right l = false := by
  cases hr : right l
  · rfl
  · have := right_len hr; omega
theorem right_no_point {l : List UInt8} (h : right l = true) : (46 : UInt8) ∉ l := by
  intro hm
  have := List.all_eq_true.1 (right_all h) 46 hm
  revert this; decide
theorem right_mk {c : UInt8} {r : List UInt8} (h1 : letter c = true) (h2 : r.all sign = true) (h3 : r.length < 24) : right (c :: r) = true := by
  simp [right, h1, h3]; simpa using h2

theorem ahead_eq : ∀ l : List UInt8, (46 : UInt8) ∉ l → ahead l = l ∧ behind l = []
  | [], _ => ⟨rfl, rfl⟩
  | c :: r, h => by
    have hc : (c != 46) = true := by rw [bne_iff_ne]; intro e; subst e; simp at h
    have := ahead_eq r (fun h' => h (by simp [h']))
    unfold ahead behind at *
    rw [List.takeWhile_cons_of_pos (p := (· != 46)) hc, List.dropWhile_cons_of_pos (p := (· != 46)) hc, this.1]; exact ⟨rfl, this.2⟩
theorem ahead_cat : ∀ (a b : List UInt8), (46 : UInt8) ∉ a → ahead (a ++ 46 :: b) = a ∧ behind (a ++ 46 :: b) = b
  | [], b, _ => ⟨rfl, rfl⟩
  | c :: r, b, h => by
    have hc : (c != 46) = true := by rw [bne_iff_ne]; intro e; subst e; simp at h
    have := ahead_cat r b (fun h' => h (by simp [h']))
    unfold ahead behind at *
    rw [List.cons_append, List.takeWhile_cons_of_pos (p := (· != 46)) hc, List.dropWhile_cons_of_pos (p := (· != 46)) hc, this.1]; exact ⟨rfl, this.2⟩
theorem ends_cat {a b : List UInt8} (ha : right a = true) (hb : right b = true) : ends (a ++ 46 :: b) = (a, b, true) := by
  have := ahead_cat a b (right_no_point ha)
  unfold ends; rw [this.1, this.2, ha, hb]; rfl
theorem ends_none {l : List UInt8} (h : (46 : UInt8) ∉ l) : ends l = ([], [], false) := by
  have := ahead_eq l h
  unfold ends; rw [this.1, this.2]; simp [right]
/-- Wherever a point parts a text into two names, these are its ends. -/
theorem ends_at {l : List UInt8} (i : Nat) (hi : i < l.length) (hp : l[i] = 46) (h1 : right (l.take i) = true) (h2 : right (l.drop (i + 1)) = true) : ends l = (l.take i, l.drop (i + 1), true) := by
  have e : l = l.take i ++ 46 :: l.drop (i + 1) := by
    conv => lhs; rw [← List.take_append_drop i l, List.drop_eq_getElem_cons hi, hp]
  have := ends_cat h1 h2
  rw [← e] at this; exact this
/-- If no point does, there are none. -/
theorem ends_not {l : List UInt8} (h : ∀ i (hi : i < l.length), l[i] = 46 → ¬ (right (l.take i) = true ∧ right (l.drop (i + 1)) = true)) : ends l = ([], [], false) := by
  by_cases hm : (46 : UInt8) ∈ l
  · obtain ⟨i, hi, hp, hn⟩ : ∃ i, ∃ hi : i < l.length, l[i] = 46 ∧ (46 : UInt8) ∉ l.take i := by
      clear h
      induction l with
      | nil => simp at hm
      | cons c r ih =>
        by_cases hc : c = 46
        · exact ⟨0, by simp, hc, by simp⟩
        · obtain ⟨i, hi, hp, hn⟩ := ih (by simpa [Ne.symm hc] using hm)
          exact ⟨i + 1, by simp; omega, by simpa using hp, by simp [hn, Ne.symm hc]⟩
    have e : l = l.take i ++ 46 :: l.drop (i + 1) := by
      conv => lhs; rw [← List.take_append_drop i l, List.drop_eq_getElem_cons hi, hp]
    have hh := ahead_cat (l.take i) (l.drop (i + 1)) hn
    rw [← e] at hh
    have := h i hi hp
    unfold ends
    rw [hh.1, hh.2, if_neg (by rw [Bool.and_eq_true]; exact this)]
  · exact ends_none hm
theorem ends_label (l : List UInt8) : (ends l).2.2 = (right (ahead l) && right (behind l)) := by
  unfold ends; split
  · rename_i h; exact h.symm
  · rename_i h; rw [Bool.not_eq_true] at h; exact h.symm
/-- No two edges have one name. -/
theorem edge_inj {a b c d : List UInt8} (ha : right a = true) (hb : right b = true) (hc : right c = true) (hd : right d = true) : (a ++ 46 :: b = c ++ 46 :: d) ↔ (a = c ∧ b = d) := by
  refine ⟨fun h => ?_, fun ⟨h1, h2⟩ => by rw [h1, h2]⟩
  have h1 := ends_cat ha hb
  rw [h, ends_cat hc hd] at h1
  simp at h1
  exact ⟨h1.1.symm, h1.2.symm⟩
theorem edge_not_right (a b : List UInt8) : right (a ++ 46 :: b) = false := by
  cases h : right (a ++ 46 :: b)
  · rfl
  · exact absurd (List.mem_append_right a (List.mem_cons_self)) (right_no_point h)

/-- One place: what may begin a name, what may stand in one. -/
theorem scan_out (l : List UInt8) (a : Nat) (h : l.length ≤ a) : scan l a = a := by
  unfold scan; rw [List.drop_eq_nil_of_le h]
theorem scan_name (l : List UInt8) (a : Nat) (h : a < l.length) (hc : letter l[a] = true) : scan l a = a + run (l.drop a) := by
  unfold scan; rw [List.drop_eq_getElem_cons h]; exact if_pos hc
theorem scan_not (l : List UInt8) (a : Nat) (h : a < l.length) (hc : letter l[a] = false) : scan l a = a := by
  unfold scan; rw [List.drop_eq_getElem_cons h]; simp [hc]
theorem run_at (l : List UInt8) (a : Nat) (h : a < l.length) (hc : sign l[a] = true) : a + run (l.drop a) = (a + 1) + run (l.drop (a + 1)) := by
  rw [List.drop_eq_getElem_cons h, run_pos hc]; omega
theorem run_stop (l : List UInt8) (a : Nat) (h : a < l.length) (hc : sign l[a] = false) : a + run (l.drop a) = a := by
  rw [List.drop_eq_getElem_cons h, run_neg hc]; rfl
theorem run_end (l : List UInt8) (a : Nat) (h : l.length ≤ a) : a + run (l.drop a) = a := by
  rw [List.drop_eq_nil_of_le h]; rfl
theorem scan_le (l : List UInt8) (a : Nat) (h : a ≤ l.length) : scan l a ≤ l.length := by
  unfold scan
  have hr := run_le (l.drop a)
  rw [List.length_drop] at hr
  split
  · exact h
  · rename_i c r e
    rw [← e]; split <;> omega

/-- A number's text, for small numbers. -/
def num (n : Nat) : List UInt8 := if n < 10 then [UInt8.ofNat (48 + n)] else [UInt8.ofNat (48 + n / 10), UInt8.ofNat (48 + n % 10)]
theorem num_inj : ∀ i, i < 64 → ∀ j, j < 64 → num i = num j → i = j := by decide +kernel
theorem num_pos (n : Nat) : 0 < (num n).length := by unfold num; split <;> simp
theorem num_le (n : Nat) : (num n).length ≤ 2 := by unfold num; split <;> simp
/-- The first name of a stem and a number from n on, among so many, that is none of some. -/
def fresh (stem : List UInt8) (used : List (List UInt8)) : Nat → Nat → List UInt8
  | 0, _ => []
  | k + 1, n => if right (stem ++ num n) then (if stem ++ num n ∈ used then fresh stem used k (n + 1) else stem ++ num n) else []
theorem fresh_not (stem : List UInt8) (used : List (List UInt8)) : ∀ k n, fresh stem used k n ≠ [] → fresh stem used k n ∉ used
  | 0, _, h => absurd rfl h
  | k + 1, n, h => by
    unfold fresh at *
    split at h
    · rename_i hr
      rw [if_pos hr]
      split at h
      · rename_i hu
        rw [if_pos hu]; exact fresh_not stem used k (n + 1) h
      · rename_i hu
        rw [if_neg hu]; exact hu
    · exact absurd rfl h
/-- So many different ones can't all be among fewer. -/
theorem pigeon {α : Type} [DecidableEq α] (f : Nat → α) : ∀ (m n : Nat) (l : List α), (∀ i j, n ≤ i → i < n + m → n ≤ j → j < n + m → f i = f j → i = j) → (∀ i, n ≤ i → i < n + m → f i ∈ l) → m ≤ l.length
  | 0, _, _, _, _ => Nat.zero_le _
  | m + 1, n, l, hinj, hm => by
    have h0 := hm n (Nat.le_refl _) (by omega)
    have := pigeon f m (n + 1) (l.erase (f n)) (fun i j a b c d => hinj i j (by omega) (by omega) (by omega) (by omega)) (fun i a b => by
      have hi := hm i (by omega) (by omega)
      refine (List.mem_erase_of_ne ?_).2 hi
      intro e
      have := hinj i n (by omega) (by omega) (by omega) (by omega) e
      omega)
    have hl := List.length_erase_of_mem h0
    have := List.length_pos_of_mem h0
    omega
/-- Among the first, more than are used, one is not used. -/
theorem some_free (stem : List UInt8) (used : List (List UInt8)) (h : used.length ≤ 60) : ¬ ∀ i, i ≤ used.length → stem ++ num i ∈ used := by
  intro hall
  have := pigeon (fun i => stem ++ num i) (used.length + 1) 0 used (fun i j _ a _ b e => num_inj i (by omega) j (by omega) (List.append_cancel_left e)) (fun i _ a => hall i (by omega))
  omega
end Go.Proofs.YtgjaajofhfhadaaDoor.Nam
/- What the program's Letter and Sign answer, and the document's Letter. -/
namespace Go.Proofs.YtgjaajofhfhadaaDoor.Nam
open Go.ChangeShapes Go.WideShapes Go.RowKit
set_option linter.unusedVariables false

theorem len_list (s : ByteArray) : s.data.toList.length = s.size := rfl
theorem nat_beq {c : UInt8} {n : Nat} (h : c.toNat = n) : ((c.toNat : Int) == (n : Int)) = true := by rw [beq_iff_eq]; omega
theorem nat_bne {c : UInt8} {n : Nat} (h : c.toNat ≠ n) : ((c.toNat : Int) == (n : Int)) = false := by rw [beq_eq_false_iff_ne]; omega
theorem ret_b {x y : Bool} (h : x = y) : Ending.returned (.bool x) = .returned (.bool y) := by rw [h]
theorem letter_yes {c : UInt8} (h : (97 ≤ c.toNat ∧ c.toNat ≤ 122) ∨ c.toNat = 95) : letter c = true := by unfold letter; simp; exact h
theorem letter_no {c : UInt8} (h : ¬ ((97 ≤ c.toNat ∧ c.toNat ≤ 122) ∨ c.toNat = 95)) : letter c = false := by
  unfold letter; rw [Bool.or_eq_false_iff, decide_eq_false_iff_not, decide_eq_false_iff_not]; exact ⟨fun k => h (.inl k), fun k => h (.inr k)⟩
theorem refletter_v (c : UInt8) (b : Bool) (hb : letter c = b) (w : World) : Calls Tryd.prog 35 #[.int .u8 (c.toNat : Int)] w fun e w' => e = .returned (.bool b) ∧ w = w' := by
  have ways : (97 ≤ c.toNat ∧ c.toNat ≤ 122) ∨ c.toNat = 95 ∨ (c.toNat < 97 ∧ c.toNat ≠ 95) ∨ 122 < c.toNat := by omega
  rcases ways with ⟨h1, h2⟩ | h | ⟨h1, h2⟩ | h
  · rw [letter_yes (.inl ⟨h1, h2⟩)] at hb; subst hb
    go_enter Tryd.func35, Tryd.ntmps35
    go_wp2
    go_ret
    exact ⟨ret_b (by first | rfl | assumption | (rw [decide_eq_true_iff]; omega) | (rw [decide_eq_false_iff_not]; omega) | (rw [Bool.or_eq_false_iff, decide_eq_false_iff_not, beq_eq_false_iff_ne]; omega)), rfl⟩
  · rw [letter_yes (.inr h)] at hb; subst hb
    have c1 := nat_beq h
    have h1 : c.toNat < 97 := by omega
    have h2 : c.toNat ≤ 122 := by omega
    clear h
    go_enter Tryd.func35, Tryd.ntmps35
    go_wp2
    go_ret
    exact ⟨ret_b (by first | rfl | assumption | (rw [decide_eq_true_iff]; omega) | (rw [decide_eq_false_iff_not]; omega) | (rw [Bool.or_eq_false_iff, decide_eq_false_iff_not, beq_eq_false_iff_ne]; omega)), rfl⟩
  · rw [letter_no (by omega)] at hb; subst hb
    have c1 := nat_bne h2
    clear h2
    go_enter Tryd.func35, Tryd.ntmps35
    go_wp2
    go_ret
    exact ⟨ret_b (by first | rfl | assumption | (rw [decide_eq_true_iff]; omega) | (rw [decide_eq_false_iff_not]; omega) | (rw [Bool.or_eq_false_iff, decide_eq_false_iff_not, beq_eq_false_iff_ne]; omega)), rfl⟩
  · rw [letter_no (by omega)] at hb; subst hb
    have c1 : ((c.toNat : Int) == ((95 : Nat) : Int)) = false := nat_bne (by omega)
    have h1 : 97 ≤ c.toNat := by omega
    go_enter Tryd.func35, Tryd.ntmps35
    go_wp2
    go_ret
    exact ⟨ret_b (by first | rfl | assumption | (rw [decide_eq_true_iff]; omega) | (rw [decide_eq_false_iff_not]; omega) | (rw [Bool.or_eq_false_iff, decide_eq_false_iff_not, beq_eq_false_iff_ne]; omega)), rfl⟩
end Go.Proofs.YtgjaajofhfhadaaDoor.Nam
/- What the program's Scan and Right answer. -/
namespace Go.Proofs.YtgjaajofhfhadaaDoor.Nam
open Go.ChangeShapes Go.WideShapes Go.RowKit
set_option linter.unusedVariables false

theorem at_list (s : ByteArray) (a : Nat) (h : a < s.size) : s.data.toList[a]'(by rw [len_list]; exact h) = s[a] := by
  rw [ByteArray.getElem_eq_getElem_data]; simp
theorem ret_i {x y : Int} {k : IntKind} (h : x = y) : Ending.returned (.int k x) = .returned (.int k y) := by rw [h]
/-- Where the name ends that begins at a place, whatever the place. -/
def scanZ (l : List UInt8) (z : Int) : Int := if z < 0 then z else (scan l z.toNat : Int)
end Go.Proofs.YtgjaajofhfhadaaDoor.Nam
/- What the program's Right answers, and the document's Right and Scan. -/
namespace Go.Proofs.YtgjaajofhfhadaaDoor.Nam
open Go.ChangeShapes Go.WideShapes Go.RowKit
set_option linter.unusedVariables false

/-! the document's own -/
theorem refscan_far (s : ByteArray) (z : Int) (h : z < 0 ∨ (s.size : Int) ≤ z) (w : World) : Calls Tryd.prog 27 #[.string s, .int .i64 z] w fun e w' => e = .returned (.int .i64 z) ∧ w = w' := by
  by_cases h0 : z < 0
  · have h1 : decide (z < 0) = true := by rw [decide_eq_true_iff]; exact h0
    clear h
    go_enter Tryd.func27, Tryd.ntmps27
    go_wp2_with fail
    go_ret
    exact ⟨rfl, rfl⟩
  · have h1 : (s.size : Int) ≤ z := by omega
    have h2 : 0 ≤ z := by omega
    clear h h0
    go_enter Tryd.func27, Tryd.ntmps27
    go_wp2_with fail
    go_ret
    exact ⟨rfl, rfl⟩
theorem refscan_no (s : ByteArray) (a : Nat) (h : a < s.size) (hc : letter s[a] = false) (w : World) : Calls Tryd.prog 27 #[.string s, .int .i64 (a : Int)] w fun e w' => e = .returned (.int .i64 (a : Int)) ∧ w = w' := by
  have HC := Lib.hid hc
  have h1 : decide ((a : Int) < 0) = false := by rw [decide_eq_false_iff_not]; omega
  have h2 : decide (s.size ≤ a) = false := by rw [decide_eq_false_iff_not]; omega
  have h3 : (a : Int) < (s.size : Int) := by omega
  clear hc
  go_enter Tryd.func27, Tryd.ntmps27
  go_wp2_with fail
  refine (refletter_v s[a] _ HC.out _).mono ?_
  rintro e w1 ⟨rfl, rfl⟩
  go_wp2_with fail
  go_ret
  exact ⟨rfl, rfl⟩
theorem sign_letter {c : UInt8} (h : letter c = true) : sign c = true := letter_sign h
theorem sign_digit {c : UInt8} (h : letter c = false) (h1 : 48 ≤ c.toNat) (h2 : c.toNat ≤ 57) : sign c = true := by unfold sign; rw [h, decide_eq_true ⟨h1, h2⟩]; rfl
theorem sign_low {c : UInt8} (h : letter c = false) (h1 : c.toNat < 48) : sign c = false := by unfold sign; rw [h, decide_eq_false (by omega)]; rfl
theorem sign_high {c : UInt8} (h : letter c = false) (h1 : 57 < c.toNat) : sign c = false := by unfold sign; rw [h, decide_eq_false (by omega)]; rfl
theorem run_stop' {l : List UInt8} {n y : Nat} (h : n < l.length) (hc : sign l[n] = false) (hy : n + run (l.drop n) = y) : n = y := by rw [run_stop l n h hc] at hy; exact hy
theorem run_at' {l : List UInt8} {n y : Nat} (h : n < l.length) (hc : sign l[n] = true) (hy : n + run (l.drop n) = y) : (n + 1) + run (l.drop (n + 1)) = y := by rw [run_at l n h hc] at hy; exact hy
set_option maxHeartbeats 400000 in
theorem refscan_yes (s : ByteArray) (a y : Nat) (hs : s.size ≤ 9223372036854775806) (h : a < s.size) (hc : letter s[a] = true) (hy : a + run (s.data.toList.drop a) = y) (w : World) : Calls Tryd.prog 27 #[.string s, .int .i64 (a : Int)] w fun e w' => e = .returned (.int .i64 (y : Int)) ∧ w = w' := by
  have HC := Lib.hid hc
  have HY := Lib.hid (run_at' (l := s.data.toList) (by rw [len_list]; exact h) (by rw [at_list s a h]; exact letter_sign hc) hy)
  have h1 : decide ((a : Int) < 0) = false := by rw [decide_eq_false_iff_not]; omega
  have h2 : decide (s.size ≤ a) = false := by rw [decide_eq_false_iff_not]; omega
  have h3 : (a : Int) < (s.size : Int) := by omega
  clear hc hy
  go_enter Tryd.func27, Tryd.ntmps27
  go_wp2_with fail
  refine (refletter_v s[a] _ HC.out _).mono ?_
  rintro e w1 ⟨rfl, rfl⟩
  go_wp2_with fail
  clear h1 h2
  go_loopg [5] (s.size - (a + 1)) (fun gk x wr => ∃ n : Nat, n ≤ s.size ∧ x = .int .i64 (n : Int) ∧ Hid (gk = s.size - n ∧ n + run (s.data.toList.drop n) = y ∧ w = wr))
  case atStart => exact ⟨a + 1, by omega, by go_num, rfl, HY.out, rfl⟩
  case round =>
    obtain ⟨n, hn, rfl, HH⟩ := hrel
    by_cases hl : n < s.size
    · have hl' : (n : Int) < (s.size : Int) := by omega
      have HL : Hid (n < s.data.toList.length) := Lib.hid (by rw [len_list]; exact hl)
      obtain ⟨b, hb⟩ : ∃ b, letter s[n] = b := ⟨_, rfl⟩
      have HB := Lib.hid hb
      cases b
      · by_cases d1 : 48 ≤ s[n].toNat
        · by_cases d2 : s[n].toNat ≤ 57
          · have HS := Lib.hid (run_at' HL.out (by rw [at_list s n hl]; exact sign_digit hb d1 d2) HH.out.2.1)
            clear hb
            go_wp2_with fail
            refine (refletter_v s[n] _ HB.out _).mono ?_
            rintro e w1 ⟨rfl, rfl⟩
            go_wp2_with fail
            go_roundg (s.size - (n + 1))
            case measure => have := HH.out.1; omega
            case rel => exact ⟨n + 1, by omega, by go_num, rfl, HS.out, HH.out.2.2⟩
          · have HS := Lib.hid (run_stop' HL.out (by rw [at_list s n hl]; exact sign_high hb (by omega)) HH.out.2.1)
            have d3 : 57 < s[n].toNat := by omega
            clear hb d2
            go_wp2_with fail
            refine (refletter_v s[n] _ HB.out _).mono ?_
            rintro e w1 ⟨rfl, rfl⟩
            go_wp2_with fail
            go_ret
            exact ⟨ret_i (by have := HS.out; omega), HH.out.2.2⟩
        · have HS := Lib.hid (run_stop' HL.out (by rw [at_list s n hl]; exact sign_low hb (by omega)) HH.out.2.1)
          have d3 : s[n].toNat < 48 := by omega
          clear hb d1
          go_wp2_with fail
          refine (refletter_v s[n] _ HB.out _).mono ?_
          rintro e w1 ⟨rfl, rfl⟩
          go_wp2_with fail
          go_ret
          exact ⟨ret_i (by have := HS.out; omega), HH.out.2.2⟩
      · have HS := Lib.hid (run_at' HL.out (by rw [at_list s n hl]; exact letter_sign hb) HH.out.2.1)
        clear hb
        go_wp2_with fail
        refine (refletter_v s[n] _ HB.out _).mono ?_
        rintro e w1 ⟨rfl, rfl⟩
        go_wp2_with fail
        go_roundg (s.size - (n + 1))
        case measure => have := HH.out.1; omega
        case rel => exact ⟨n + 1, by omega, by go_num, rfl, HS.out, HH.out.2.2⟩
    · obtain rfl : n = s.size := by omega
      clear hn
      go_wp2_with fail
      go_ret
      refine ⟨ret_i ?_, HH.out.2.2⟩
      have := HH.out.2.1
      rw [run_end _ _ (by rw [len_list]; exact Nat.le_refl _)] at this
      omega
theorem refscan_v (s : ByteArray) (z y : Int) (hs : s.size ≤ 9223372036854775806) (hy : scanZ s.data.toList z = y) (w : World) : Calls Tryd.prog 27 #[.string s, .int .i64 z] w fun e w' => e = .returned (.int .i64 y) ∧ w = w' := by
  subst hy
  unfold scanZ
  by_cases h0 : z < 0
  · rw [if_pos h0]; exact refscan_far s z (.inl h0) w
  · rw [if_neg h0]
    obtain ⟨a, rfl⟩ : ∃ a : Nat, z = a := ⟨z.toNat, by omega⟩
    rw [show ((a : Int)).toNat = a by omega]
    by_cases h1 : a < s.size
    · have hl : a < s.data.toList.length := by rw [len_list]; exact h1
      cases hc : letter s[a]
      · rw [scan_not _ a hl (by rw [at_list s a h1]; exact hc)]; exact refscan_no s a h1 hc w
      · rw [scan_name _ a hl (by rw [at_list s a h1]; exact hc)]; exact refscan_yes s a _ hs h1 hc rfl w
    · rw [scan_out _ a (by rw [len_list]; omega)]; exact refscan_far s a (.inr (by omega)) w
end Go.Proofs.YtgjaajofhfhadaaDoor.Nam
