/- What Value answers: of tokens that are read on. -/
import Derived.Test.YtgjaajofhfhadaaDoorFoldStack
import Derived.Test.YtgjaajofhfhadaaDoorFoldJump
import Derived.WalkMore
namespace Go.Proofs.YtgjaajofhfhadaaDoor.Fol
open Go.ChangeShapes Go.WideShapes Go.RowKit Lex
set_option linter.unusedVariables false
set_option maxRecDepth 20000

/-- The frame at a label: the tokens, the place, what is open, the number. -/
structure FrB (L a s v : Value) (act : Act) : Prop where
  size : act.tmps.size = 147
  s0 : act.tmps.getD 0 undef = L
  s1 : act.tmps.getD 1 undef = a
  s4 : act.tmps.getD 4 undef = .int .i64 0
  s5 : act.tmps.getD 5 undef = .int .i64 0
  s6 : act.tmps.getD 6 undef = .nilIface
  s7 : act.tmps.getD 7 undef = s
  s10 : act.tmps.getD 10 undef = v
  defers : act.defers = []
theorem arr_fn (xs : Array Value) (n : Nat) (h : xs.size = n) : xs = ((List.range n).map (fun k => xs.getD k undef)).toArray := by
  apply Array.ext
  · simp [h]
  · intro i h1 h2
    simp [h1]
theorem arr147 (f : Nat → Value) : ((List.range 147).map f).toArray = #[f 0, f 1, f 2, f 3, f 4, f 5, f 6, f 7, f 8, f 9, f 10, f 11, f 12, f 13, f 14, f 15, f 16, f 17, f 18, f 19, f 20, f 21, f 22, f 23, f 24, f 25, f 26, f 27, f 28, f 29, f 30, f 31, f 32, f 33, f 34, f 35, f 36, f 37, f 38, f 39, f 40, f 41, f 42, f 43, f 44, f 45, f 46, f 47, f 48, f 49, f 50, f 51, f 52, f 53, f 54, f 55, f 56, f 57, f 58, f 59, f 60, f 61, f 62, f 63, f 64, f 65, f 66, f 67, f 68, f 69, f 70, f 71, f 72, f 73, f 74, f 75, f 76, f 77, f 78, f 79, f 80, f 81, f 82, f 83, f 84, f 85, f 86, f 87, f 88, f 89, f 90, f 91, f 92, f 93, f 94, f 95, f 96, f 97, f 98, f 99, f 100, f 101, f 102, f 103, f 104, f 105, f 106, f 107, f 108, f 109, f 110, f 111, f 112, f 113, f 114, f 115, f 116, f 117, f 118, f 119, f 120, f 121, f 122, f 123, f 124, f 125, f 126, f 127, f 128, f 129, f 130, f 131, f 132, f 133, f 134, f 135, f 136, f 137, f 138, f 139, f 140, f 141, f 142, f 143, f 144, f 145, f 146] := rfl
theorem FrB.out {L a s v : Value} {act : Act} (h : FrB L a s v act) : ∃ f : Nat → Value, act = { tmps := #[L, a, f 2, f 3, .int .i64 0, .int .i64 0, .nilIface, s, f 8, f 9, v, f 11, f 12, f 13, f 14, f 15, f 16, f 17, f 18, f 19, f 20, f 21, f 22, f 23, f 24, f 25, f 26, f 27, f 28, f 29, f 30, f 31, f 32, f 33, f 34, f 35, f 36, f 37, f 38, f 39, f 40, f 41, f 42, f 43, f 44, f 45, f 46, f 47, f 48, f 49, f 50, f 51, f 52, f 53, f 54, f 55, f 56, f 57, f 58, f 59, f 60, f 61, f 62, f 63, f 64, f 65, f 66, f 67, f 68, f 69, f 70, f 71, f 72, f 73, f 74, f 75, f 76, f 77, f 78, f 79, f 80, f 81, f 82, f 83, f 84, f 85, f 86, f 87, f 88, f 89, f 90, f 91, f 92, f 93, f 94, f 95, f 96, f 97, f 98, f 99, f 100, f 101, f 102, f 103, f 104, f 105, f 106, f 107, f 108, f 109, f 110, f 111, f 112, f 113, f 114, f 115, f 116, f 117, f 118, f 119, f 120, f 121, f 122, f 123, f 124, f 125, f 126, f 127, f 128, f 129, f 130, f 131, f 132, f 133, f 134, f 135, f 136, f 137, f 138, f 139, f 140, f 141, f 142, f 143, f 144, f 145, f 146], defers := [] } := by
  obtain ⟨hs, h0, h1, h4, h5, h6, h7, h10, hd⟩ := h
  obtain ⟨xs, ds⟩ := act
  subst hd
  have e := arr_fn xs 147 hs
  rw [arr147] at e
  refine ⟨fun k => xs.getD k undef, ?_⟩
  simp only at h0 h1 h4 h5 h6 h7 h10
  rw [h0, h1, h4, h5, h6, h7, h10] at e
  exact congrArg (fun t => ({ tmps := t, defers := [] } : Act)) e
/-- What holds at each pass. -/
structure Inv (w : World) (R : Res) (l : List Tok) (wr : World) (k : Nat) (md : Mode) (a : Nat) (A : Option Addr) (c M : Nat) (stk : List Opn) : Prop where
  run : mach l k md a stk = some R
  few : M ≤ 32
  stk : StkAt w.heap.size wr A c M stk
  below : Below w.heap.size w wr
def JF (w : World) (R : Res) (l : List Tok) (LV : Value) (k : Nat) (act : Act) (wr : World) : Prop := ∃ a A c M stk v, FrB LV (.int .i64 (a : Nat)) (.slice A M c) v act ∧ Inv w R l wr k .fac a A c M stk
def JB (w : World) (R : Res) (l : List Tok) (LV : Value) (k : Nat) (act : Act) (wr : World) : Prop := ∃ a A c M stk n, FrB LV (.int .i64 (a : Nat)) (.slice A M c) (.int .i64 n) act ∧ Inv w R l wr k (.beh n) a A c M stk
def resE : Res → Ending
  | .val n a => .returned (.tuple #[.int .i64 n, .int .i64 (a : Nat), .nilIface])
  | .bad c p => .returned (.tuple #[.int .i64 0, .int .i64 0, Fau.bare c (p : Nat)])
end Go.Proofs.YtgjaajofhfhadaaDoor.Fol
