
/- Texts in a row, plain (out of show's). -/
import Derived.Test.YtakfoncdiejhaaaTg
import Derived.Test.YtakfoncdiejhaaaIrData
namespace Go.Proofs.Ytakfoncdiejhaaa
set_option linter.unusedVariables false
set_option maxRecDepth 20000

def vregT (n : Int) : List UInt8 := 37 :: Deci.txt n
/-- Texts in a row, with a comma and a blank between two. -/
def rowT : List (List UInt8) → List UInt8
  | [] => []
  | a :: r => a ++ r.flatMap (fun b => 44 :: 32 :: b)
def sepT (k : Nat) : List UInt8 := if k = 0 then [] else [44, 32]
theorem rowT_snoc (l : List (List UInt8)) (a : List UInt8) : rowT (l ++ [a]) = rowT l ++ sepT l.length ++ a := by
  cases l with
  | nil => simp [rowT, sepT]
  | cons b r => simp [rowT, sepT]
theorem rowT_end (l : List (List UInt8)) (a t : List UInt8) : rowT (l ++ [a ++ t]) = rowT (l ++ [a]) ++ t := by
  rw [rowT_snoc, rowT_snoc]; simp
theorem rowT_take (l : List (List UInt8)) (k : Nat) (a : List UInt8) (h : l[k]? = some a) : rowT (l.take (k + 1)) = rowT (l.take k) ++ sepT k ++ a := by
  obtain ⟨hk, he⟩ := List.getElem?_eq_some_iff.1 h
  rw [List.take_add_one, h, Option.toList_some, rowT_snoc, List.length_take, Nat.min_eq_left (Nat.le_of_lt hk)]
theorem rowT_le (l : List (List UInt8)) (k : Nat) : (rowT (l.take k)).length ≤ (rowT l).length := by
  cases l with
  | nil => simp
  | cons a r =>
    cases k with
    | zero => simp [rowT]
    | succ k =>
      rw [List.take_succ_cons]
      unfold rowT
      rw [List.length_append, List.length_append]
      have h := congrArg List.length (show r.flatMap (fun b => 44 :: 32 :: b) = (r.take k).flatMap (fun b => 44 :: 32 :: b) ++ (r.drop k).flatMap (fun b => (44 : UInt8) :: 32 :: b) by rw [← List.flatMap_append, List.take_append_drop])
      rw [List.length_append] at h
      omega
theorem flat_take {α : Type} (g : α → List UInt8) (l : List α) (k : Nat) (a : α) (h : l[k]? = some a) : (l.take (k + 1)).flatMap g = (l.take k).flatMap g ++ g a := by
  rw [List.take_add_one, h, Option.toList_some, List.flatMap_append]; simp
theorem flat_le {α : Type} (g : α → List UInt8) (l : List α) (k : Nat) : ((l.take k).flatMap g).length ≤ (l.flatMap g).length := by
  have h := congrArg List.length (show l.flatMap g = (l.take k).flatMap g ++ (l.drop k).flatMap g by rw [← List.flatMap_append, List.take_append_drop])
  rw [List.length_append] at h
  omega
end Go.Proofs.Ytakfoncdiejhaaa
