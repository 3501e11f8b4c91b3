/- What the law answers, in the form that the row asks. -/
import Derived.Test.YtgckoiepclgofaaDoorOpen
import Derived.Test.YtgckoiepclgofaaDoorWalks
namespace Go.Proofs.YtgckoiepclgofaaDoor
open Go.ChangeShapes Go.WideShapes Go.RowKit

theorem walks_end (n most : Int) (A : Option Addr) (c : Nat) (l : List Int) (w : World) (hl : Ints w A l) (hG : Glob w) :
    Calls Tryd.prog 4 #[.int .i64 n, .slice A l.length c, .int .i64 most] w fun e w' => e = .returned (.bool true) ∧ Below w.heap.size w w' := by
  refine Calls.mono (R := fun e w' => e = .returned (.bool true) ∧ w.grownBy w' none) ?_ (fun e w' ⟨he, hg⟩ => ⟨he, gbelow hg (Nat.le_refl _) (by simp)⟩)
  by_cases h1 : 300 < n
  · exact walks_big n most A l.length c (.inl (by simpa using h1)) w hG
  · by_cases h2 : l.length ≤ 40
    · exact walks_small n most _ rfl (by omega) A l.length c l rfl h2 w hl hG
    · exact walks_big n most A l.length c (.inr ⟨by simpa using h1, by simp only [decide_eq_true_eq]; omega⟩) w hG
end Go.Proofs.YtgckoiepclgofaaDoor
