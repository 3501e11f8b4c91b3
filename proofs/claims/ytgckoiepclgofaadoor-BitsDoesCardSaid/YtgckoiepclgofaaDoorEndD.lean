/- What the law answers, in the form that the row asks. -/
import Derived.Test.YtgckoiepclgofaaDoorOpen
import Derived.Test.YtgckoiepclgofaaDoorDoes
namespace Go.Proofs.YtgckoiepclgofaaDoor
open Go.ChangeShapes Go.WideShapes Go.RowKit

theorem does_end (n : Int) (A : Option Addr) (c : Nat) (ds : List Dd) (w : World) (h : Deeds w A ds ∧ ds.length ≤ 9223372036854775807) (hG : Glob w) :
    Calls Tryd.prog 3 #[.int .i64 n, .slice A ds.length c] w fun e w' => e = .returned (.bool true) ∧ Below w.heap.size w w' :=
  (does_v n A ds.length c ds rfl h.2 w h.1 hG).mono fun e w' ⟨he, hg⟩ => ⟨he, gbelow hg (Nat.le_refl _) (by simp)⟩
end Go.Proofs.YtgckoiepclgofaaDoor
