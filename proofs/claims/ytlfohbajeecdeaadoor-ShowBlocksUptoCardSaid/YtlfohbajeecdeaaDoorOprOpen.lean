
/- The program's table of names, as the row lists it, is what the walks read. -/
import Derived.Test.YtlfohbajeecdeaaDoorOprNames
import Derived.Test.YtlfohbajeecdeaaDoorRows
import Derived.Lib.LaidTab
import Derived.LaidLaws
import Derived.OpenShut
namespace Go.Proofs.YtlfohbajeecdeaaDoor.Opr
open Go.ChangeShapes Go.WideShapes Go.RowKit
set_option linter.unusedVariables false

def strData {H : Type} (ss : List ByteArray) : DataW H := .agg (ss.map fun s => .lit (.string s.data.toList))
theorem cells_of_strs {H : Type} {enc : TypeId × Value → H} {P : Program} {w : World} {base : Nat} {sp : Nat → Bool} {held : Bool} {fuel : Nat} {t e : TypeId} {n : Nat} {cs : List Value} {ss : List ByteArray} {p : List MemPlace}
    (ht : P.underlying t = some (.array n e)) (he : P.underlying e = some .string) (hce : P.cellsOf e = 1) (hct : P.cellsOf t = n)
    (h : DataW.trod enc P w base sp held fuel t cs = some (strData ss, p)) : cs = ss.map Value.string := by
  cases fuel with
  | zero => simp [DataW.trod] at h
  | succ fuel =>
    simp only [DataW.trod, ht, hce, hct, Nat.mul_one] at h
    split at h
    · rename_i hl
      obtain ⟨xs, hm, hx⟩ := Option.map_eq_some_iff.1 h
      have hxs : xs.map (·.1) = ss.map fun s => (DataW.lit (.string s.data.toList) : DataW H) := by
        have := congrArg Prod.fst hx
        simpa [strData] using this
      have hxl : xs.length = n := by simpa using Lib.mapM_length hm
      have hzl : ss.length = n := by
        have := congrArg List.length hxs
        simp at this
        omega
      apply List.ext_getElem?
      intro i
      by_cases hi : i < n
      · obtain ⟨b, hb, hf⟩ := Lib.mapM_at hm i i (by simp [hi])
        obtain ⟨s, hc, hb2, _⟩ := DataW.trod_string he hf
        subst hb2
        have h1 : cs[i]? = some (.string s) := by
          have := congrArg (·[0]?) hc
          simpa [List.getElem?_take, List.getElem?_drop] using this
        have h2 : (xs.map (·.1))[i]? = some (DataW.lit (.string s.data.toList) : DataW H) := by simp [hb]
        rw [hxs] at h2
        simp only [List.getElem?_map, Option.map_eq_some_iff, DataW.lit.injEq, Lit.string.injEq] at h2
        obtain ⟨s', hs', e⟩ := h2
        have : s' = s := ByteArray.ext (Array.ext' e)
        subst this
        simp [h1, hs']
      · rw [List.getElem?_eq_none (by omega), List.getElem?_eq_none (by simp; omega)]
    · cases h
def nameList : List ByteArray := ⟨#[]⟩ :: tab.map Rw.nm
theorem glob_of_laid {W : World} (hL : laidMet Tryd.prog [("dyehouse/op.names", Rows.laid_dyehouse_op_names)] W) : Glob W := by
  have e : (Rows.laid_dyehouse_op_names : DataW Unit) = strData nameList := by rfl
  rw [e] at hL
  have hg : Tryd.prog.globalNamed "dyehouse/op.names" = some 0 := by kernel_rfl
  obtain ⟨ps, ⟨g', t', cs, fuel, p, q, hg', ht', hvar, hd, _, _⟩, _⟩ := hL
  obtain rfl := Option.some.inj (hg.symm.trans hg')
  have hty : (Tryd.prog.globals[0]?).map (·.type) = some 91 := by kernel_rfl
  obtain rfl := Option.some.inj (hty.symm.trans ht')
  have hcs := cells_of_strs Tryd.underlying91 Tryd.underlying9 (by kernel_rfl) (by kernel_rfl) hd
  have hn : nameList.map Value.string = nameRow.toList := by rfl
  rw [hn] at hcs
  have hc : ∀ j v, nameRow.toList[j]? = some v → W.cell? ⟨0, j, none⟩ = some v := fun j v hj => by
    have h1 := World.var?_cell hg hvar j
    rw [← Array.getElem?_toList, hcs] at h1
    exact h1.trans hj
  have h0 := hc 0 (.string ⟨#[]⟩) rfl
  refine ⟨?_, fun j v hj => by rw [Nat.zero_add]; exact hc j v hj⟩
  unfold World.cell? at h0
  cases hb : W.heap[0]? with
  | none => simp [hb] at h0
  | some c => exact (Array.getElem?_eq_some_iff.1 hb).1
end Go.Proofs.YtlfohbajeecdeaaDoor.Opr
