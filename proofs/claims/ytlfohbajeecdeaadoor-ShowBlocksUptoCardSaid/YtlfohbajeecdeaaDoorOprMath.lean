
/- The table of operations, plain: what each is called, what its places may have, how many labels it has. -/
import Derived.WalkKit
namespace Go.Proofs.YtlfohbajeecdeaaDoor.Opr
set_option linter.unusedVariables false

/-- A row: name, where it gives to, what it takes, how many labels, of machine code alone. -/
structure Rw where
  nm : ByteArray
  ds : ByteArray
  ar : List ByteArray
  lb : Int
  al : Bool
def rw0 : Rw := ⟨⟨#[]⟩, ⟨#[]⟩, [], 0, false⟩
def two (nm : ByteArray) : Rw := ⟨nm, ⟨#[103]⟩, [⟨#[103]⟩, ⟨#[103, 105]⟩], 0, false⟩
def names : List ByteArray := [⟨#[97, 100, 100]⟩, ⟨#[115, 117, 98]⟩, ⟨#[109, 117, 108]⟩, ⟨#[97, 110, 100]⟩, ⟨#[111, 114]⟩, ⟨#[120, 111, 114]⟩, ⟨#[115, 104, 108]⟩, ⟨#[115, 104, 114]⟩, ⟨#[115, 97, 114]⟩, ⟨#[100, 105, 118]⟩, ⟨#[114, 101, 109]⟩, ⟨#[101, 113]⟩, ⟨#[110, 101]⟩, ⟨#[108, 116]⟩, ⟨#[108, 101]⟩]
def r15 : Rw := ⟨⟨#[99, 111, 112, 121]⟩, ⟨#[103, 120]⟩, [⟨#[103, 120, 105]⟩], 0, false⟩
def r16 : Rw := ⟨⟨#[108, 111, 97, 100]⟩, ⟨#[103]⟩, [⟨#[120]⟩], 0, false⟩
def r17 : Rw := ⟨⟨#[115, 116, 111, 114, 101]⟩, ⟨#[]⟩, [⟨#[103]⟩, ⟨#[120]⟩], 0, false⟩
def r18 : Rw := ⟨⟨#[99, 97, 108, 108]⟩, ⟨#[103, 110]⟩, [⟨#[103, 105, 115]⟩, ⟨#[103, 105, 115]⟩, ⟨#[103, 105, 115]⟩, ⟨#[103, 105, 115]⟩, ⟨#[103, 105, 115]⟩, ⟨#[103, 105, 115]⟩, ⟨#[103, 105, 115]⟩, ⟨#[103, 105, 115]⟩], 0, false⟩
def r19 : Rw := ⟨⟨#[98, 114]⟩, ⟨#[]⟩, [], 1, false⟩
def r20 : Rw := ⟨⟨#[98, 114, 105, 102]⟩, ⟨#[]⟩, [⟨#[103]⟩], 2, false⟩
def r21 : Rw := ⟨⟨#[115, 119, 105, 116, 99, 104]⟩, ⟨#[]⟩, [⟨#[103]⟩], -1, false⟩
def r22 : Rw := ⟨⟨#[114, 101, 116]⟩, ⟨#[]⟩, [⟨#[103, 105]⟩], 0, false⟩
def r23 : Rw := ⟨⟨#[109, 111, 118, 101]⟩, ⟨#[103, 120]⟩, [⟨#[103, 120]⟩], 0, true⟩
def r24 : Rw := ⟨⟨#[115, 112, 105, 108, 108]⟩, ⟨#[115]⟩, [⟨#[103, 120]⟩], 0, true⟩
def r25 : Rw := ⟨⟨#[114, 101, 108, 111, 97, 100]⟩, ⟨#[103, 120]⟩, [⟨#[115]⟩], 0, true⟩
def r26 : Rw := ⟨⟨#[115, 119, 97, 112]⟩, ⟨#[]⟩, [⟨#[103, 120, 115]⟩, ⟨#[103, 120, 115]⟩], 0, true⟩
def tab : List Rw := names.map two ++ [r15, r16, r17, r18, r19, r20, r21, r22, r23, r24, r25, r26]
/-- The row of any number; of what is no operation the empty one. -/
def rowOf (n : Int) : Rw := if 1 ≤ n ∧ n ≤ 27 then tab.getD (n.toNat - 1) rw0 else rw0
def isOp (n : Int) : Bool := decide (1 ≤ n) && decide (n ≤ 27)
def isR (n : Int) : Bool := decide (1 ≤ n) && decide (n ≤ 15)
/-- What a place may have, as bits: g 1, x 2, i 4, s 8, n 16. -/
def toR (n : Int) : Int := if 1 ≤ n ∧ n ≤ 15 then 1 else if n = 17 then 1 else if n = 19 then 17 else if n = 16 ∨ n = 24 ∨ n = 26 then 3 else if n = 25 then 8 else 0
def firstR (n : Int) : Int := if 1 ≤ n ∧ n ≤ 15 then 1 else if n = 18 ∨ n = 21 ∨ n = 22 then 1 else if n = 17 then 2 else if n = 23 then 5 else if n = 24 ∨ n = 25 then 3 else if n = 16 then 7 else if n = 26 then 8 else if n = 27 then 11 else 0
def secondR (n : Int) : Int := if 1 ≤ n ∧ n ≤ 15 then 5 else if n = 18 then 2 else if n = 27 then 11 else 0
def fromR (n i : Int) : Int := if n = 19 ∧ 0 ≤ i ∧ i < 8 then 13 else if i = 0 then firstR n else if i = 1 then secondR n else 0
def atR (n i : Int) : Int := if i = -1 then toR n else fromR n i
theorem ops (n : Int) : (1 ≤ n ∧ n ≤ 15) ∨ n = 16 ∨ n = 17 ∨ n = 18 ∨ n = 19 ∨ n = 20 ∨ n = 21 ∨ n = 22 ∨ n = 23 ∨ n = 24 ∨ n = 25 ∨ n = 26 ∨ n = 27 ∨ (n < 1 ∨ 27 < n) := by omega
theorem ops27 (n : Int) (h : 1 ≤ n ∧ n ≤ 27) : ∃ k : Fin 27, n = (k.val : Int) + 1 := ⟨⟨n.toNat - 1, by omega⟩, by simp; omega⟩
theorem rowOf_none (n : Int) (h : n < 1 ∨ 27 < n) : rowOf n = rw0 := by unfold rowOf; rw [if_neg (by omega)]
theorem rowOf_op (k : Nat) (hk : k < 27) : rowOf ((k : Int) + 1) = tab.getD k rw0 := by
  unfold rowOf
  rw [if_pos (by omega), show ((k : Int) + 1).toNat - 1 = k by omega]
theorem rowOf_two (n : Int) (h : 1 ≤ n ∧ n ≤ 15) : ∃ s, rowOf n = two s := by
  obtain ⟨k, rfl⟩ : ∃ k : Nat, n = (k : Int) + 1 := ⟨n.toNat - 1, by omega⟩
  have hk : k < 15 := by omega
  rw [rowOf_op k (by omega)]
  refine ⟨names.getD k ⟨#[]⟩, ?_⟩
  match k, hk with
  | 0, _ => rfl
  | 1, _ => rfl
  | 2, _ => rfl
  | 3, _ => rfl
  | 4, _ => rfl
  | 5, _ => rfl
  | 6, _ => rfl
  | 7, _ => rfl
  | 8, _ => rfl
  | 9, _ => rfl
  | 10, _ => rfl
  | 11, _ => rfl
  | 12, _ => rfl
  | 13, _ => rfl
  | 14, _ => rfl
theorem tab_len : tab.length = 27 := rfl
/-- How many places an operation takes from. -/
def many (n : Int) : Nat := (rowOf n).ar.length
theorem many_at (n : Int) : (∀ k : Nat, k < many n → atR n (k : Int) ≠ 0) ∧ atR n (many n : Int) = 0 ∧ many n ≤ 8 := by
  unfold many
  rcases ops n with h | rfl | rfl | rfl | rfl | rfl | rfl | rfl | rfl | rfl | rfl | rfl | rfl | h
  · obtain ⟨s, hs⟩ := rowOf_two n h
    have h19 : n ≠ 19 := by omega
    rw [hs]
    refine ⟨fun k hk => ?_, ?_, by simp [two]⟩
    · have : k = 0 ∨ k = 1 := by simp [two] at hk; omega
      rcases this with rfl | rfl <;> simp [atR, fromR, firstR, secondR, h, h19]
    · simp [two, atR, fromR, h19]
  all_goals try decide +kernel
  · rw [rowOf_none n h]
    have h19 : n ≠ 19 := by omega
    refine ⟨fun k hk => by simp [rw0] at hk, ?_, by simp [rw0]⟩
    have h1 : ¬ (1 ≤ n ∧ n ≤ 15) := by omega
    simp [rw0, atR, fromR, firstR, h19, h1]
    omega
def mayOf (n : Int) : Bool := (rowOf n).ds.toList != []
def mustOf (n : Int) : Bool := mayOf n && (n != 19)
theorem gives_at (n : Int) : toR n = 0 ∧ mayOf n = false ∧ mustOf n = false ∨ (toR n = 1 ∨ toR n = 3 ∨ toR n = 8) ∧ mayOf n = true ∧ mustOf n = true ∨ toR n = 17 ∧ mayOf n = true ∧ mustOf n = false := by
  unfold mustOf mayOf
  rcases ops n with h | rfl | rfl | rfl | rfl | rfl | rfl | rfl | rfl | rfl | rfl | rfl | rfl | h
  · obtain ⟨s, hs⟩ := rowOf_two n h
    have h19 : (n != 19) = true := by rw [bne_iff_ne]; omega
    rw [hs, h19]
    have e : (two s).ds.toList = [103] := (by decide +kernel : (ByteArray.mk #[103]).toList = [103])
    rw [e]
    refine .inr (.inl ⟨.inl (by simp [toR, h]), by decide, by decide⟩)
  all_goals try decide +kernel
  · rw [rowOf_none n h]
    have e : rw0.ds.toList = [] := by decide +kernel
    rw [e]
    have h1 : ¬ (1 ≤ n ∧ n ≤ 15) := by omega
    refine .inl ⟨?_, by decide, by simp⟩
    simp [toR, h1]
    omega
end Go.Proofs.YtlfohbajeecdeaaDoor.Opr
