/- What the bound of a second form gives: so many bytes of the texts that came in. -/
import Derived.Test.YtnpdmcgfhieepaaDoorTells
import Derived.SliceStrings
namespace Go.Proofs.YtnpdmcgfhieepaaDoor
open Go.ChangeShapes
set_option linter.unusedVariables false

theorem heads_bulk {H : Type} (ss : List ByteArray) : (heads ss).length ≤ 2 * Rows.uptoBulkAll (strs (H := H) ss) := by
  induction ss with
  | nil => simp [heads]
  | cons s r ih =>
    have e : strs (H := H) (s :: r) = .lit (.string s.data.toList) :: strs r := rfl
    rw [e]
    simp only [heads, Rows.uptoBulkAll, Rows.uptoBulk, List.length_append, List.length_cons, List.length_nil]
    omega
theorem heads_small {H : Type} {ss : List ByteArray} (h : Rows.uptoBulkAll (strs (H := H) ss) ≤ 1048576) : (heads ss).length ≤ 100000000 := by
  have := heads_bulk (H := H) ss
  omega
theorem wf_fit {n : Int} (h : (Lit.int .i64 n).wf = true) : Deci.fit n := by
  simp [Lit.wf, IntKind.min, IntKind.max, IntKind.signed, IntKind.bits] at h
  exact ⟨by omega, by omega⟩
end Go.Proofs.YtnpdmcgfhieepaaDoor
