/- What the program's oneOf answers: a function that tells whether a text is one of some. -/
import Derived.Test.YtpdodiloddkabaaDoorRight
import Derived.Maps.OwnOps
import Derived.Maps.Views
import Derived.OneCell
import Derived.Lib.Strings
namespace Go.Proofs.YtpdodiloddkabaaDoor
open Go.ChangeShapes Go.WideShapes Go.RowKit Go.WideMaps Go.Maps
set_option linter.unusedVariables false

theorem law : Keyed Tryd.prog 9 := string_keyed Tryd.underlying9
theorem zero3 (w : World) : (zeroValue 3).run Tryd.prog w = .ok (.int .i64 0) w := by kernel_rfl
theorem make_run (n : Int) (W : World) : (Instr.makeMap 39 (some (.int .i64 n))).run Tryd.prog W = .ok (.map (some W.heap.size)) (W.alloc (.map #[] 0)) := by
  simp [Instr.makeMap, run_underlying Tryd.underlying39, asInt, asIntOf, Result.andThen]
theorem make_func (fn : Fn) (first cap : Array Value) (w : World) : (Instr.makeFunc fn first cap).run Tryd.prog w = .ok (.func fn first cap) w := rfl
/-- A list of texts, as bytes. -/
def bs (ss : List ByteArray) : List (List UInt8) := ss.map fun s => s.data.toList
/-- What is told of a slice of texts. -/
def Strs (w : World) (A : Option Addr) (ss : List ByteArray) : Prop :=
  (∀ s ∈ ss, s.size ≤ maxLen) ∧ (ss = [] ∨ ∃ b off, A = some ⟨b, off, none⟩ ∧ b < w.heap.size ∧ ∀ j (h : j < ss.length), w.cell? ⟨b, off + j, none⟩ = some (.string ss[j]))
theorem Strs.below {w w' : World} {A : Option Addr} {ss : List ByteArray} (h : Strs w A ss) (hb : Below w.heap.size w w') : Strs w' A ss := by
  refine ⟨h.1, h.2.imp id ?_⟩
  rintro ⟨b, off, h1, h2, h3⟩
  exact ⟨b, off, h1, Nat.lt_of_lt_of_le h2 hb.size, fun j hj => (hb.cell (by exact h2)).trans (h3 j hj)⟩
/-- A map that counts the texts of a list. -/
def Cnt (D : DataW Unit) (l : List (List UInt8)) : Prop := IsMap D ∧ ∀ s : List UInt8, D.atKey (.string s) (.lit (.int .i64 0)) = .lit (.int .i64 (l.count s : Int))
theorem Cnt.nil : Cnt (.map []) [] := ⟨isMap_empty, fun s => rfl⟩
theorem key_lit (s : List UInt8) : WideAt.IsKeyLit (.string s) := by first | trivial | exact ⟨_, rfl⟩ | (unfold WideAt.IsKeyLit; simp)
theorem Cnt.step {D : DataW Unit} {l : List (List UInt8)} {s : List UInt8} {z : Int} (h : Cnt D l) (hz : z = (l.count s : Int) + 1) : Cnt (D.put (.string s) (.lit (.int .i64 z))) (l ++ [s]) := by
  refine ⟨h.1.put _ _, fun t => ?_⟩
  by_cases e : t = s
  · subst e
    rw [atKey_put_same h.1 (key_lit t), hz, List.count_append]; simp
  · rw [atKey_put_other (by simpa using e), h.2 t, List.count_append]
    have : List.count t [s] = 0 := by rw [List.count_eq_zero]; simpa using e
    rw [this]; simp
/-- The variable at a place holds a map that counts the texts of a list. -/
def Known (w : World) (p : Nat) (l : List (List UInt8)) : Prop :=
  ∃ m n D, w.heap[p]? = some (.cells #[.map (some m)] 39 (0, 0)) ∧ w.ownsMap Tryd.prog 9 (plainElem Tryd.prog 3) m n D ∧ Cnt D l ∧ p ≠ m
theorem is_v (w : World) (p : Nat) (l : List (List UInt8)) (s : ByteArray) (x : Bool) (h : Known w p l) (hs : s.size ≤ maxLen) (hx : decide (s.data.toList ∈ l) = x) :
    Calls Tryd.prog 25 #[.string s, .pointer (some ⟨p, 0, none⟩)] w fun e w' => e = .returned (.bool x) ∧ w = w' := by
  obtain ⟨m, n, D, h1, h2, h3, _⟩ := h
  have c1 := cell_of_one h1
  obtain ⟨c, hrun, hat, hwc⟩ := h2.lookup_int law Tryd.underlying39 Tryd.underlying3 (zero3 _) (keyOf_string_mk Tryd.underlying9 hs)
  have hc : c = (l.count s.data.toList : Int) := by
    rw [h3.2] at hat; injection hat with h; injection h with _ h; exact h.symm
  have HX : Hid (decide (0 < c) = x) := by
    refine Lib.hid ?_
    rw [← hx]
    have : (0 < c) ↔ s.data.toList ∈ l := by rw [hc, ← List.count_pos_iff]; omega
    simp [this]
  clear hat hc h3 h2 h1 hx
  go_enter Tryd.func25, Tryd.ntmps25
  go_wp2_with fail
  go_ret
  exact ⟨ret_b HX.out, rfl⟩
end Go.Proofs.YtpdodiloddkabaaDoor
