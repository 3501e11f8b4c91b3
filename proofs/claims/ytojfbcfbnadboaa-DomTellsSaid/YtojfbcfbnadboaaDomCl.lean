
/- DomChain: the walk. -/
import Derived.Test.YtojfbcfbnadboaaDomWk
import Derived.Test.YtojfbcfbnadboaaGraLrg
import Derived.Test.YtojfbcfbnadboaaGraRefT
import Derived.Deep.QuietTactic
import Derived.BigQuiet
import Derived.Deep.CutRange
namespace Go.Proofs.Ytojfbcfbnadboaa.Gra
open Go.ChangeShapes Go.WideShapes Go.RowKit Par
set_option linter.unusedVariables false
set_option maxRecDepth 20000
set_option maxHeartbeats 8000000

theorem own_at {N g c k : Nat} {W : World} {l : List Int} {x : Int} (h : OwnL 3 1 intC N W (some ⟨g, 0, none⟩) c l) (hk : l[k]? = some x) : W.cell? ⟨g, k, none⟩ = some (.int .i64 x) := by
  obtain ⟨b, o, e, _, y, hy, hc⟩ := h.ints.at (List.getElem?_eq_some_iff.1 hk).1
  injection e with e
  injection e with e1 e2
  subst e1 e2
  rw [Nat.zero_add] at hc
  rw [hc]
  rw [hk] at hy
  injection hy with hy
  rw [hy]
theorem ups_at {s : Gr} {b : Int} {m k : Nat} (hk : k < m) : ((List.range m).map (upN s b))[k]? = some (upN s b k) := by
  rw [List.getElem?_map, List.getElem?_range hk]
  rfl
/-- What is told of the world while the chain is looked at. -/
structure Cz (w w1 W : World) (p gI gD gK n : Nat) (s : Gr) (A : Option Addr) (c : Nat) (l : List Int) : Prop where
  b0 : Below w.heap.size w W
  b1 : Below w1.heap.size w1 W
  tr : IsT W p gI gD gK n s
  row : OwnL 3 1 intC w.heap.size W A c l
theorem Cz.below {w w1 W W' : World} {p gI gD gK n : Nat} {s : Gr} {A : Option Addr} {c : Nat} {l : List Int} (h : Cz w w1 W p gI gD gK n s A c l) (hb : Below W.heap.size W W') : Cz w w1 W' p gI gD gK n s A c l :=
  ⟨h.b0.trans (hb.mono h.b0.size), h.b1.trans (hb.mono h.b1.size), h.tr.below hb, h.row.below hb⟩
theorem drewB (W : World) (nd : Nat) : Below W.heap.size W (W.drewN nd) := drewSB (Below.refl _ W) nd
def EndD (w0 : World) (e : Ending) (w' : World) : Prop := e = .returned (.bool true) ∧ Below w0.heap.size w0 w'
end Go.Proofs.Ytojfbcfbnadboaa.Gra
