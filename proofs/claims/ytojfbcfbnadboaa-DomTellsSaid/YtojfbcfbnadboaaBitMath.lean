
/- Sets of numbers as plain lists of bools, and as words of 64 bits: the mathematics, over plain numbers and lists. -/
import Derived.Lib.TrailingZeros
import Derived.Laws.BitsAllLaws
namespace Go.Proofs.Ytojfbcfbnadboaa.Bit
set_option linter.unusedVariables false

/-- The number whose bit j is g j, for j below n. -/
def wd (g : Nat → Bool) : Nat → Nat
  | 0 => 0
  | n + 1 => 2 ^ n * (g n).toNat + wd g n
theorem wd_lt (g : Nat → Bool) : ∀ n, wd g n < 2 ^ n
  | 0 => by simp [wd]
  | n + 1 => by
    have h := wd_lt g n
    have h2 : 2 ^ (n + 1) = 2 * 2 ^ n := by rw [Nat.pow_succ]; omega
    unfold wd
    cases g n <;> simp [Bool.toNat] <;> omega
theorem wd_bit (g : Nat → Bool) : ∀ n j, (wd g n).testBit j = (decide (j < n) && g j)
  | 0, j => by simp [wd]
  | n + 1, j => by
    unfold wd
    rw [Nat.testBit_two_pow_mul_add _ (wd_lt g n)]
    by_cases h : j < n
    · have h1 : j < n + 1 := by omega
      rw [if_pos h, wd_bit g n j]; simp [h, h1]
    · rw [if_neg h]
      by_cases e : j = n
      · subst e
        cases g j <;> simp
      · have h1 : ¬ j < n + 1 := by omega
        have h2 : j - n = (j - n - 1) + 1 := by omega
        rw [h2, Nat.testBit_succ]
        cases g n <;> simp [h1]

/-- Has the set the number? -/
def has (bs : List Bool) (i : Nat) : Bool := bs.getD i false
theorem has_lt {bs : List Bool} {i : Nat} (h : has bs i = true) : i < bs.length := by
  unfold has at h
  by_cases hl : i < bs.length
  · exact hl
  · rw [List.getD_eq_getElem?_getD, List.getElem?_eq_none (by omega)] at h; cases h
theorem has_past {bs : List Bool} {i : Nat} (h : bs.length ≤ i) : has bs i = false := by unfold has; rw [List.getD_eq_getElem?_getD, List.getElem?_eq_none h]; rfl
theorem has_get {bs : List Bool} {i : Nat} (h : i < bs.length) : has bs i = bs[i] := by unfold has; rw [List.getD_eq_getElem?_getD, List.getElem?_eq_getElem h]; rfl
theorem has_ext {bs cs : List Bool} (hl : bs.length = cs.length) (h : ∀ i, i < bs.length → has bs i = has cs i) : bs = cs := by
  apply List.ext_getElem hl
  intro i h1 h2
  rw [← has_get h1, ← has_get h2]; exact h i h1
theorem has_none (n i : Nat) : has (List.replicate n false) i = false := by
  by_cases h : i < n
  · rw [has_get (by simpa using h)]; simp
  · exact has_past (by simpa using h)
theorem has_full (n i : Nat) : has (List.replicate n true) i = decide (i < n) := by
  by_cases h : i < n
  · rw [has_get (by simpa using h)]; simp [h]
  · rw [has_past (by simpa using h)]; simp [h]
theorem has_set (bs : List Bool) (i : Nat) (b : Bool) (h : i < bs.length) (j : Nat) : has (bs.set i b) j = if j = i then b else has bs j := by
  by_cases hj : j < bs.length
  · rw [has_get (by simpa using hj), List.getElem_set, has_get hj]
    by_cases e : i = j
    · subst e; simp
    · rw [if_neg e, if_neg (fun x => e x.symm)]
  · rw [has_past (by simpa using hj), has_past (by omega), if_neg (by omega)]
/-- The k-th word of a set. -/
def word (bs : List Bool) (k : Nat) : Nat := wd (fun j => has bs (64 * k + j)) 64
/-- How many words there are. -/
def words (n : Nat) : Nat := (n + 63) / 64
theorem word_lt (bs : List Bool) (k : Nat) : word bs k < 18446744073709551616 := wd_lt _ 64
theorem word_bit (bs : List Bool) (k j : Nat) : (word bs k).testBit j = (decide (j < 64) && has bs (64 * k + j)) := wd_bit _ 64 j
theorem big_bit {x j : Nat} (h : x < 18446744073709551616) (hj : 64 ≤ j) : x.testBit j = false :=
  Nat.testBit_lt_two_pow (Nat.lt_of_lt_of_le (show x < 2 ^ 64 from h) (Nat.pow_le_pow_right (by omega) hj))
theorem word_is {bs : List Bool} {k x : Nat} (hx : x < 18446744073709551616) (h : ∀ j, j < 64 → x.testBit j = has bs (64 * k + j)) : x = word bs k := by
  apply Nat.eq_of_testBit_eq
  intro j
  rw [word_bit]
  by_cases hj : j < 64
  · rw [h j hj]; simp [hj]
  · rw [big_bit hx (by omega)]; simp [hj]
theorem word_past {bs : List Bool} {k : Nat} (h : words bs.length ≤ k) : word bs k = 0 := by
  refine (word_is (by omega) fun j hj => ?_).symm
  rw [has_past (by unfold words at h; omega)]; simp
theorem word_none (n k : Nat) : word (List.replicate n false) k = 0 :=
  (word_is (by omega) fun j hj => by rw [has_none]; simp).symm
/-- Which bits of the k-th word may be. -/
def room (n k : Nat) : Nat := 2 ^ (min (n - 64 * k) 64) - 1
theorem room_bit (n k j : Nat) : (room n k).testBit j = decide (j < 64 ∧ 64 * k + j < n) := by
  unfold room
  rw [Nat.testBit_two_pow_sub_one]
  congr 1
  apply propext
  omega
theorem room_lt (n k : Nat) : room n k < 18446744073709551616 := by
  unfold room
  have : 2 ^ (min (n - 64 * k) 64) ≤ 2 ^ 64 := Nat.pow_le_pow_right (by omega) (by omega)
  have : 0 < 2 ^ (min (n - 64 * k) 64) := Nat.pow_pos (by omega)
  omega
theorem room_full (n k : Nat) : room n k = word (List.replicate n true) k := by
  refine word_is (room_lt n k) fun j hj => ?_
  rw [room_bit, has_full]
  congr 1; apply propext; omega
/-- The bit of a number in its word. -/
theorem bit_lt (i : Nat) : 2 ^ (i % 64) < 18446744073709551616 := by
  have : 2 ^ (i % 64) ≤ 2 ^ 63 := Nat.pow_le_pow_right (by omega) (by omega)
  omega
theorem and_bit (x j : Nat) : x &&& 2 ^ j = if x.testBit j then 2 ^ j else 0 := by
  apply Nat.eq_of_testBit_eq
  intro q
  rw [Nat.testBit_and, Nat.testBit_two_pow]
  by_cases e : j = q
  · subst e
    cases h : x.testBit j <;> simp
  · cases h : x.testBit j <;> simp [e]
theorem has_word (bs : List Bool) (i : Nat) : (word bs (i / 64) &&& 2 ^ (i % 64)) = if has bs i then 2 ^ (i % 64) else 0 := by
  rw [and_bit, word_bit]
  have h1 : i % 64 < 64 := by omega
  have h2 : 64 * (i / 64) + i % 64 = i := by omega
  rw [h2]; simp [h1]
theorem not_bit {x j : Nat} (h : x < 18446744073709551616) : (18446744073709551615 - x).testBit j = (decide (j < 64) && !x.testBit j) := by
  have := Nat.testBit_two_pow_sub_succ (x := x) (n := 64) h j
  rw [← this]; congr 1; omega
theorem add_word (bs : List Bool) (i : Nat) (h : i < bs.length) : (word bs (i / 64) ||| 2 ^ (i % 64)) = word (bs.set i true) (i / 64) := by
  refine word_is (show _ < 2 ^ 64 from Nat.or_lt_two_pow (word_lt _ _) (bit_lt i)) fun j hj => ?_
  rw [Nat.testBit_or, word_bit, Nat.testBit_two_pow, has_set _ _ _ h]
  by_cases e : i % 64 = j
  · rw [if_pos (by omega)]; simp [e]
  · rw [if_neg (by omega)]; simp [e, hj]
theorem drop_word (bs : List Bool) (i : Nat) (h : i < bs.length) : (word bs (i / 64) &&& (18446744073709551615 - 2 ^ (i % 64))) = word (bs.set i false) (i / 64) := by
  refine word_is (show _ < 2 ^ 64 from Nat.and_lt_two_pow _ (Nat.lt_of_le_of_lt (Nat.sub_le _ _) (by omega))) fun j hj => ?_
  rw [Nat.testBit_and, word_bit, not_bit (bit_lt i), Nat.testBit_two_pow, has_set _ _ _ h]
  by_cases e : i % 64 = j
  · rw [if_pos (by omega)]; simp [e]
  · rw [if_neg (by omega)]; simp [e, hj]
theorem set_word (bs : List Bool) (i : Nat) (b : Bool) (h : i < bs.length) (k : Nat) (hk : k ≠ i / 64) : word (bs.set i b) k = word bs k := by
  refine (word_is (word_lt _ _) fun j hj => ?_).symm
  rw [word_bit, has_set _ _ _ h, if_neg (by omega)]; simp [hj]

/-- Two sets together: each number by an operation on whether both have it. -/
def two (op : Bool → Bool → Bool) (bs cs : List Bool) : List Bool := (List.range bs.length).map fun i => op (has bs i) (has cs i)
theorem two_len (op : Bool → Bool → Bool) (bs cs : List Bool) : (two op bs cs).length = bs.length := by simp [two]
theorem has_two (op : Bool → Bool → Bool) (bs cs : List Bool) (i : Nat) : has (two op bs cs) i = (decide (i < bs.length) && op (has bs i) (has cs i)) := by
  by_cases h : i < bs.length
  · rw [has_get (by rw [two_len]; exact h)]; simp [two, h]
  · rw [has_past (by rw [two_len]; omega)]; simp [h]
def orB (a b : Bool) : Bool := a || b
def andB (a b : Bool) : Bool := a && b
def lessB (a b : Bool) : Bool := a && !b
theorem or_word (bs cs : List Bool) (k : Nat) : ((word bs k ||| word cs k) &&& room bs.length k) = word (two orB bs cs) k := by
  refine word_is (show _ < 2 ^ 64 from Nat.and_lt_two_pow _ (room_lt _ _)) fun j hj => ?_
  rw [Nat.testBit_and, Nat.testBit_or, word_bit, word_bit, room_bit, has_two]
  simp [hj, orB]
  rw [Bool.and_comm]
theorem and_word (bs cs : List Bool) (k : Nat) : ((word bs k &&& word cs k) &&& room bs.length k) = word (two andB bs cs) k := by
  refine word_is (show _ < 2 ^ 64 from Nat.and_lt_two_pow _ (room_lt _ _)) fun j hj => ?_
  rw [Nat.testBit_and, Nat.testBit_and, word_bit, word_bit, room_bit, has_two]
  simp [hj, andB]
  rw [Bool.and_comm]
theorem less_word (bs cs : List Bool) (k : Nat) : ((word bs k &&& (18446744073709551615 - word cs k)) &&& room bs.length k) = word (two lessB bs cs) k := by
  refine word_is (show _ < 2 ^ 64 from Nat.and_lt_two_pow _ (room_lt _ _)) fun j hj => ?_
  rw [Nat.testBit_and, Nat.testBit_and, not_bit (word_lt _ _), word_bit, word_bit, room_bit, has_two]
  simp [hj, lessB]
  rw [Bool.and_comm]
/-- Do two sets part in one of the first k words? -/
def parts (T bs : List Bool) (k : Nat) : Bool := (List.range k).any fun q => word T q != word bs q
theorem parts_zero (T bs : List Bool) : parts T bs 0 = false := rfl
theorem parts_succ (T bs : List Bool) (k : Nat) : parts T bs (k + 1) = (parts T bs k || (word T k != word bs k)) := by
  unfold parts; rw [List.range_succ, List.any_append]; simp
/-- Do two lists part at one of the first i numbers? -/
def differ (T bs : List Bool) (i : Nat) : Bool := (List.range i).any fun q => has T q != has bs q
theorem differ_zero (T bs : List Bool) : differ T bs 0 = false := rfl
theorem differ_succ (T bs : List Bool) (k : Nat) : differ T bs (k + 1) = (differ T bs k || (has T k != has bs k)) := by
  unfold differ; rw [List.range_succ, List.any_append]; simp
theorem differ_all {T bs : List Bool} (hl : T.length = bs.length) : differ T bs bs.length = (T != bs) := by
  by_cases h : T = bs
  · subst h; simp [differ]
  · have h1 : (T != bs) = true := by simp [h]
    rw [h1]
    unfold differ
    rw [List.any_eq_true]
    refine Classical.byContradiction fun hn => h (has_ext hl fun i hi => ?_)
    refine Classical.byContradiction fun hne => hn ⟨i, by simp; omega, by simp [hne]⟩
theorem words_all {T bs : List Bool} (hl : T.length = bs.length) (h : ∀ k, k < words bs.length → word T k = word bs k) : T = bs := by
  refine has_ext hl fun i hi => ?_
  have h1 := h (i / 64) (by unfold words; omega)
  have h2 := word_bit T (i / 64) (i % 64)
  have h3 := word_bit bs (i / 64) (i % 64)
  rw [h1, h3] at h2
  have e : 64 * (i / 64) + i % 64 = i := by omega
  have e2 : i % 64 < 64 := by omega
  rw [e] at h2
  simpa [e2] using h2.symm
theorem parts_all {T bs : List Bool} (hl : T.length = bs.length) : parts T bs (words bs.length) = (T != bs) := by
  by_cases h : T = bs
  · subst h; simp [parts]
  · have h1 : (T != bs) = true := by simp [h]
    rw [h1]
    unfold parts
    rw [List.any_eq_true]
    refine Classical.byContradiction fun hn => h (words_all hl fun k hk => ?_)
    refine Classical.byContradiction fun hne => hn ⟨k, by simp; omega, by simp [hne]⟩
/-- The numbers of a set below i, rising. -/
def low (bs : List Bool) (i : Nat) : List Nat := (List.range i).filter (has bs)
/-- All numbers of a set, rising. -/
def all (bs : List Bool) : List Nat := low bs bs.length
theorem low_zero (bs : List Bool) : low bs 0 = [] := rfl
theorem low_hit {bs : List Bool} {i : Nat} (h : has bs i = true) : low bs (i + 1) = low bs i ++ [i] := by
  unfold low; rw [List.range_succ, List.filter_append]; simp [h]
theorem low_miss {bs : List Bool} {i : Nat} (h : has bs i = false) : low bs (i + 1) = low bs i := by
  unfold low; rw [List.range_succ, List.filter_append]; simp [h]
theorem low_gap {bs : List Bool} {a : Nat} : ∀ {d : Nat}, (∀ j, a ≤ j → j < a + d → has bs j = false) → low bs (a + d) = low bs a
  | 0, _ => rfl
  | d + 1, h => by
    show low bs (a + d + 1) = _
    rw [low_miss (h (a + d) (by omega) (by omega))]
    exact low_gap fun j h1 h2 => h j h1 (by omega)
theorem low_to {bs : List Bool} {a b : Nat} (hab : a ≤ b) (h : ∀ j, a ≤ j → j < b → has bs j = false) : low bs b = low bs a := by
  obtain ⟨d, rfl⟩ : ∃ d, b = a + d := ⟨b - a, by omega⟩
  exact low_gap h
theorem low_past {bs : List Bool} {i : Nat} (h : bs.length ≤ i) : low bs i = all bs := low_to h fun j h1 _ => has_past h1
theorem low_none {bs : List Bool} {a : Nat} (h : ∀ j, a ≤ j → has bs j = false) : low bs a = all bs := by
  by_cases hl : a ≤ bs.length
  · exact (low_to hl fun j h1 _ => h j h1).symm
  · exact low_past (by omega)
theorem low_len (bs : List Bool) : ∀ i, (low bs i).length ≤ i
  | i => by unfold low; exact Nat.le_trans (List.length_filter_le _ _) (by simp)
theorem all_len (bs : List Bool) : (all bs).length ≤ bs.length := low_len _ _
theorem low_in {bs : List Bool} {i x : Nat} (h : x ∈ low bs i) : x < i ∧ has bs x = true := by
  unfold low at h; rw [List.mem_filter] at h; simpa using h
/-- How many bits of the first n are there. -/
def ones (x n : Nat) : Nat := ((List.range n).filter x.testBit).length
theorem low_words (bs : List Bool) (k : Nat) : ∀ n, n ≤ 64 → (low bs (64 * k + n)).length = (low bs (64 * k)).length + ones (word bs k) n
  | 0, _ => by simp [ones]
  | n + 1, h => by
    have ih := low_words bs k n (by omega)
    have hb := word_bit bs k n
    have e : decide (n < 64) = true := by simpa using (show n < 64 by omega)
    rw [e, Bool.true_and] at hb
    have e2 : ones (word bs k) (n + 1) = ones (word bs k) n + (if (word bs k).testBit n then 1 else 0) := by
      unfold ones; rw [List.range_succ, List.filter_append]
      cases hq : (word bs k).testBit n <;> simp [hq]
    rw [e2, hb]
    show (low bs (64 * k + n + 1)).length = _
    cases hh : has bs (64 * k + n)
    · rw [low_miss hh, ih]; simp
    · rw [low_hit hh, List.length_append, ih]; simp; omega
theorem low_next (bs : List Bool) (k : Nat) : (low bs (64 * (k + 1))).length = (low bs (64 * k)).length + ones (word bs k) 64 := low_words bs k 64 (Nat.le_refl _)
end Go.Proofs.Ytojfbcfbnadboaa.Bit
