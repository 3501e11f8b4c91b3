/- What the program's Put answers: a text between quotes. -/
import Derived.Test.YtmckplgbaalpbaaDoorQuoToldB
import Derived.Lib.BufferRead
namespace Go.Proofs.YtmckplgbaalpbaaDoor.Quo
open Go.ChangeShapes Go.WideShapes Go.RowKit
set_option linter.unusedVariables false

set_option maxRecDepth 20000 in
theorem own_convert {base : Nat} {w : World} {A : Option Addr} {c : Nat} {t : List UInt8} (h : Own base w A c t) :
    (convert 60 9 (.slice A t.length c)).run Tryd.prog w = .ok (.string ⟨t.toArray⟩) w := by
  rcases h.2 with ⟨hv, h0⟩ | ⟨g, cap, cur, hv, _, hh, _⟩
  · have : t = [] := List.eq_nil_of_length_eq_zero h0
    subst this
    injection hv with h1 h2 h3
    subst h1 h3
    exact Lib.run_convert_nil_bytes w 60 9 5 0 Tryd.underlying60 Tryd.underlying5 Tryd.underlying9
  · injection hv with h1 h2 h3
    subst h1 h3
    refine run_convert_bytes_back w 60 9 5 _ c t Tryd.underlying60 Tryd.underlying5 Tryd.underlying9 (fun j hj => ?_)
    have k : w.ownsRow base 5 1 (.slice (some ⟨g, 0, none⟩) t.length c) t.length (cellsOf t) := h
    have e : (⟨g, 0, none⟩ : Addr).add j = ⟨g, j, none⟩ := by unfold Addr.add; split <;> simp_all
    rw [e, k.cellAt j (by omega)]
    simp [cellsOf, hj]
theorem take_snoc (s : ByteArray) (k : Nat) (h : k < s.size) : s.data.toList.take (k + 1) = s.data.toList.take k ++ [s[k]] := by
  rw [List.take_succ_eq_append_getElem (by rw [len_list]; exact h)]; rfl
end Go.Proofs.YtmckplgbaalpbaaDoor.Quo
