
/- What the program's Put, Long and Pad answer: a number's text, how long it is, and with blanks ahead. -/
import Derived.Test.YtakfoncdiejhaaaDeciLaid
namespace Go.Proofs.Ytakfoncdiejhaaa.Deci
open Go.ChangeShapes Go.WideShapes Go.RowKit
set_option linter.unusedVariables false
set_option maxRecDepth 20000

theorem laid_v (n : Int) (l : List UInt8) (hl : txt n = l) (h : fit n) (w : World) :
    Calls Try.prog 34 #[.int .i64 n] w fun e w' => e = .returned (.slice (some ⟨w.heap.size, 20 - l.length, none⟩) l.length l.length) ∧ Row w' w.heap.size l ∧ Below w.heap.size w w' := by
  subst hl; exact laid_is n h w
theorem row_convert {w : World} {g : Nat} {l : List UInt8} (h : Row w g l) :
    (convert 43 9 (.slice (some ⟨g, 20 - l.length, none⟩) l.length l.length)).run Try.prog w = .ok (.string ⟨l.toArray⟩) w := by
  refine run_convert_bytes_back w 43 9 5 _ l.length l Try.underlying43 Try.underlying5 Try.underlying9 (fun j hj => ?_)
  rw [← h.at j hj]
  unfold Addr.add
  split
  · subst_vars; simp
  · rfl
theorem put_v (n : Int) (l : List UInt8) (hl : txt n = l) (h : fit n) (w : World) :
    Calls Try.prog 29 #[.int .i64 n] w fun e w' => e = .returned (.string ⟨l.toArray⟩) ∧ Below w.heap.size w w' := by
  have HL := Lib.hid hl
  have HF := Lib.hid h
  clear hl h
  go_enter Try.func29, Try.ntmps29
  go_wp2_with fail
  refine (laid_v n l HL.out HF.out _).mono ?_
  rintro e w1 ⟨rfl, hr, hb⟩
  have hconv := row_convert hr
  have HR := Lib.hid hr
  have HB := Lib.hid hb
  clear hr hb
  go_wp2_with fail
  go_ret
  exact ⟨rfl, HB.out⟩
end Go.Proofs.Ytakfoncdiejhaaa.Deci
