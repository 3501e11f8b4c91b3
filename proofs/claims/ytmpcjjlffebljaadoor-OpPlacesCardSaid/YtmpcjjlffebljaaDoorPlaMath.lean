/- What a place may have: the bits are the table's letters. -/
import Derived.Test.YtmpcjjlffebljaaDoorMath
namespace Go.Proofs.YtmpcjjlffebljaaDoor
set_option linter.unusedVariables false

/-- The letters of a place. -/
def placeOf (n i : Int) : ByteArray := if i = -1 then (rowOf n).ds else if 0 ≤ i ∧ i < (many n : Int) then (rowOf n).ar.getD i.toNat ⟨#[]⟩ else ⟨#[]⟩
def has (s : ByteArray) (c : UInt8) : Bool := s.data.toList.contains c
/-- The bits of a place and its letters. -/
def Same (v : Int) (s : ByteArray) : Prop := decide (v % 2 = 1) = has s 103 ∧ decide (v / 2 % 2 = 1) = has s 120 ∧ decide (v / 4 % 2 = 1) = has s 105 ∧ decide (v / 8 % 2 = 1) = has s 115 ∧ decide (v / 16 % 2 = 1) = has s 110 ∧ (decide (v = 0) = decide (s = ⟨#[]⟩))
instance (v : Int) (s : ByteArray) : Decidable (Same v s) := by unfold Same; exact inferInstance
theorem same_none : Same 0 ⟨#[]⟩ := by decide +kernel
/-- The place to which an operation gives. -/
theorem same_to (n : Int) : Same (toR n) (rowOf n).ds := by
  rcases ops n with h | rfl | rfl | rfl | rfl | rfl | rfl | rfl | rfl | rfl | rfl | rfl | rfl | h
  · obtain ⟨s, hs⟩ := rowOf_two n h
    rw [hs, show toR n = 1 by unfold toR; rw [if_pos h]]
    exact (by decide +kernel : Same 1 ⟨#[103]⟩)
  all_goals try decide +kernel
  · rw [rowOf_none n h]
    have h1 : ¬ (1 ≤ n ∧ n ≤ 15) := by omega
    rw [show toR n = 0 by unfold toR; simp [h1]; omega]
    exact same_none
theorem from_high0 (n i : Int) (h : i < 0 ∨ (many n : Int) ≤ i) : fromR n i = 0 := by
  unfold many at h
  unfold fromR
  rcases ops n with h1 | rfl | rfl | rfl | rfl | rfl | rfl | rfl | rfl | rfl | rfl | rfl | rfl | h1
  · obtain ⟨s, hs⟩ := rowOf_two n h1
    rw [hs] at h
    have : ((two s).ar.length : Int) = 2 := rfl
    rw [this] at h
    rw [if_neg (by omega), if_neg (by omega), if_neg (by omega)]
  · have : ((rowOf 16).ar.length : Int) = 1 := rfl
    rw [this] at h
    rw [if_neg (by omega)]
    by_cases h0 : i = 0
    · subst h0
      rw [if_pos rfl]
      first
        | rfl
        | exact absurd h (by omega)
    · rw [if_neg h0]
      by_cases h1 : i = 1
      · subst h1
        rw [if_pos rfl]
        first
          | rfl
          | exact absurd h (by omega)
      · rw [if_neg h1]
  · have : ((rowOf 17).ar.length : Int) = 1 := rfl
    rw [this] at h
    rw [if_neg (by omega)]
    by_cases h0 : i = 0
    · subst h0
      rw [if_pos rfl]
      first
        | rfl
        | exact absurd h (by omega)
    · rw [if_neg h0]
      by_cases h1 : i = 1
      · subst h1
        rw [if_pos rfl]
        first
          | rfl
          | exact absurd h (by omega)
      · rw [if_neg h1]
  · have : ((rowOf 18).ar.length : Int) = 2 := rfl
    rw [this] at h
    rw [if_neg (by omega)]
    by_cases h0 : i = 0
    · subst h0
      rw [if_pos rfl]
      first
        | rfl
        | exact absurd h (by omega)
    · rw [if_neg h0]
      by_cases h1 : i = 1
      · subst h1
        rw [if_pos rfl]
        first
          | rfl
          | exact absurd h (by omega)
      · rw [if_neg h1]
  · have : ((rowOf 19).ar.length : Int) = 8 := rfl
    rw [this] at h
    rw [if_neg (by omega)]
    by_cases h0 : i = 0
    · subst h0
      rw [if_pos rfl]
      first
        | rfl
        | exact absurd h (by omega)
    · rw [if_neg h0]
      by_cases h1 : i = 1
      · subst h1
        rw [if_pos rfl]
        first
          | rfl
          | exact absurd h (by omega)
      · rw [if_neg h1]
  · have : ((rowOf 20).ar.length : Int) = 0 := rfl
    rw [this] at h
    rw [if_neg (by omega)]
    by_cases h0 : i = 0
    · subst h0
      rw [if_pos rfl]
      first
        | rfl
        | exact absurd h (by omega)
    · rw [if_neg h0]
      by_cases h1 : i = 1
      · subst h1
        rw [if_pos rfl]
        first
          | rfl
          | exact absurd h (by omega)
      · rw [if_neg h1]
  · have : ((rowOf 21).ar.length : Int) = 1 := rfl
    rw [this] at h
    rw [if_neg (by omega)]
    by_cases h0 : i = 0
    · subst h0
      rw [if_pos rfl]
      first
        | rfl
        | exact absurd h (by omega)
    · rw [if_neg h0]
      by_cases h1 : i = 1
      · subst h1
        rw [if_pos rfl]
        first
          | rfl
          | exact absurd h (by omega)
      · rw [if_neg h1]
  · have : ((rowOf 22).ar.length : Int) = 1 := rfl
    rw [this] at h
    rw [if_neg (by omega)]
    by_cases h0 : i = 0
    · subst h0
      rw [if_pos rfl]
      first
        | rfl
        | exact absurd h (by omega)
    · rw [if_neg h0]
      by_cases h1 : i = 1
      · subst h1
        rw [if_pos rfl]
        first
          | rfl
          | exact absurd h (by omega)
      · rw [if_neg h1]
  · have : ((rowOf 23).ar.length : Int) = 1 := rfl
    rw [this] at h
    rw [if_neg (by omega)]
    by_cases h0 : i = 0
    · subst h0
      rw [if_pos rfl]
      first
        | rfl
        | exact absurd h (by omega)
    · rw [if_neg h0]
      by_cases h1 : i = 1
      · subst h1
        rw [if_pos rfl]
        first
          | rfl
          | exact absurd h (by omega)
      · rw [if_neg h1]
  · have : ((rowOf 24).ar.length : Int) = 1 := rfl
    rw [this] at h
    rw [if_neg (by omega)]
    by_cases h0 : i = 0
    · subst h0
      rw [if_pos rfl]
      first
        | rfl
        | exact absurd h (by omega)
    · rw [if_neg h0]
      by_cases h1 : i = 1
      · subst h1
        rw [if_pos rfl]
        first
          | rfl
          | exact absurd h (by omega)
      · rw [if_neg h1]
  · have : ((rowOf 25).ar.length : Int) = 1 := rfl
    rw [this] at h
    rw [if_neg (by omega)]
    by_cases h0 : i = 0
    · subst h0
      rw [if_pos rfl]
      first
        | rfl
        | exact absurd h (by omega)
    · rw [if_neg h0]
      by_cases h1 : i = 1
      · subst h1
        rw [if_pos rfl]
        first
          | rfl
          | exact absurd h (by omega)
      · rw [if_neg h1]
  · have : ((rowOf 26).ar.length : Int) = 1 := rfl
    rw [this] at h
    rw [if_neg (by omega)]
    by_cases h0 : i = 0
    · subst h0
      rw [if_pos rfl]
      first
        | rfl
        | exact absurd h (by omega)
    · rw [if_neg h0]
      by_cases h1 : i = 1
      · subst h1
        rw [if_pos rfl]
        first
          | rfl
          | exact absurd h (by omega)
      · rw [if_neg h1]
  · have : ((rowOf 27).ar.length : Int) = 2 := rfl
    rw [this] at h
    rw [if_neg (by omega)]
    by_cases h0 : i = 0
    · subst h0
      rw [if_pos rfl]
      first
        | rfl
        | exact absurd h (by omega)
    · rw [if_neg h0]
      by_cases h1 : i = 1
      · subst h1
        rw [if_pos rfl]
        first
          | rfl
          | exact absurd h (by omega)
      · rw [if_neg h1]
  · rw [rowOf_none n h1] at h
    rw [if_neg (by omega)]
    have h2 : ¬ (1 ≤ n ∧ n ≤ 15) := by omega
    have e1 : firstR n = 0 := by unfold firstR; simp [h2]; omega
    have e2 : secondR n = 0 := by unfold secondR; simp [h2]; omega
    rw [e1, e2]
    simp
theorem same_from (n : Int) (k : Nat) (hk : k < many n) : Same (fromR n (k : Int)) ((rowOf n).ar.getD k ⟨#[]⟩) := by
  unfold many at hk
  rcases ops n with h1 | rfl | rfl | rfl | rfl | rfl | rfl | rfl | rfl | rfl | rfl | rfl | rfl | h1
  · obtain ⟨s, hs⟩ := rowOf_two n h1
    rw [hs] at hk ⊢
    have h19 : n ≠ 19 := by omega
    have : k = 0 ∨ k = 1 := by have : k < 2 := hk; omega
    rcases this with rfl | rfl
    · rw [show fromR n ((0 : Nat) : Int) = 1 by unfold fromR firstR; simp [h19, h1]]
      exact (by decide +kernel : Same 1 ⟨#[103]⟩)
    · rw [show fromR n ((1 : Nat) : Int) = 5 by unfold fromR secondR; simp [h19, h1]]
      exact (by decide +kernel : Same 5 ⟨#[103, 105]⟩)
  all_goals try (revert k; decide +kernel)
  · rw [rowOf_none n h1] at hk
    exact absurd hk (by show ¬ k < 0; omega)
theorem same_at (n i : Int) : Same (atR n i) (placeOf n i) := by
  unfold atR placeOf
  by_cases hi : i = -1
  · rw [if_pos hi, if_pos hi]
    exact same_to n
  · rw [if_neg hi, if_neg hi]
    by_cases h : 0 ≤ i ∧ i < (many n : Int)
    · rw [if_pos h]
      have := same_from n i.toNat (by omega)
      rwa [show ((i.toNat : Nat) : Int) = i by omega] at this
    · rw [if_neg h, from_high0 n i (by omega)]
      exact same_none
/-- What must be given is just what has letters, and none of them is n. -/
theorem must_same (n : Int) : (!mustOf n) = (decide ((rowOf n).ds = ⟨#[]⟩) || has (rowOf n).ds 110) := by
  rcases ops n with h | rfl | rfl | rfl | rfl | rfl | rfl | rfl | rfl | rfl | rfl | rfl | rfl | h
  · obtain ⟨s, hs⟩ := rowOf_two n h
    have h19 : (n != 19) = true := by rw [bne_iff_ne]; omega
    unfold mustOf mayOf
    rw [hs, h19]
    exact (by decide +kernel : (!((ByteArray.mk #[103]).toList != [] && true)) = (decide ((ByteArray.mk #[103]) = ⟨#[]⟩) || has ⟨#[103]⟩ 110))
  all_goals try decide +kernel
  · unfold mustOf mayOf
    rw [rowOf_none n h]
    have e : rw0.ds.toList = [] := by decide +kernel
    rw [e]
    simp [rw0]
end Go.Proofs.YtmpcjjlffebljaaDoor
