/- The document's own: the text between quotes at a place. -/
import Derived.Test.YtgjaajofhfhadaaDoorDocHex
import Derived.Test.YtgjaajofhfhadaaDoorLexRest
import Derived.Test.YtgjaajofhfhadaaDoorQuo
namespace Go.Proofs.YtgjaajofhfhadaaDoor.Lex
open Go.ChangeShapes Go.WideShapes Go.RowKit
set_option linter.unusedVariables false
set_option maxRecDepth 20000

/-- What has been found of the first k signs behind a backslash: the byte, and how long. -/
def st (d : Nat) : Nat → Nat × Nat
  | 0 => (92, 0)
  | 1 => if d = 110 then (10, 2) else (92, 0)
  | 2 => if d = 110 then (10, 2) else if d = 116 then (9, 2) else (92, 0)
  | 3 => if d = 110 then (10, 2) else if d = 116 then (9, 2) else if d = 34 then (34, 2) else (92, 0)
  | _ => if d = 110 then (10, 2) else if d = 116 then (9, 2) else if d = 34 then (34, 2) else if d = 92 then (92, 2) else (92, 0)
def ka (k : Nat) : Nat := [110, 116, 34, 92].getD k 0
def kb (k : Nat) : Nat := [10, 9, 34, 92].getD k 0
theorem kaI : ∀ k : Nat, (hk : k < 4) → ((⟨#[110, 116, 34, 92]⟩ : ByteArray)[k]).toNat = ka k := by decide +kernel
theorem kbI : ∀ k : Nat, (hk : k < 4) → ((⟨#[10, 9, 34, 92]⟩ : ByteArray)[k]).toNat = kb k := by decide +kernel
theorem ka_run (k : Nat) (hk : k < 4) (W : World) : (Instr.index 9 (.string ⟨#[110, 116, 34, 92]⟩) (.int .i64 (k : Int))).run Tryd.prog W = .ok (.int .u8 (ka k : Int)) W := by
  rw [← kaI k hk]; exact str_run ⟨#[110, 116, 34, 92]⟩ k hk W
theorem kb_run (k : Nat) (hk : k < 4) (W : World) : (Instr.index 9 (.string ⟨#[10, 9, 34, 92]⟩) (.int .i64 (k : Int))).run Tryd.prog W = .ok (.int .u8 (kb k : Int)) W := by
  rw [← kbI k hk]; exact str_run ⟨#[10, 9, 34, 92]⟩ k hk W
theorem st_next (d k : Nat) (hk : k < 4) : st d (k + 1) = if d = ka k then (kb k, 2) else st d k := by
  have ways : k = 0 ∨ k = 1 ∨ k = 2 ∨ k = 3 := by omega
  rcases ways with rfl | rfl | rfl | rfl
  · rfl
  · show (if d = 110 then (10, 2) else if d = 116 then (9, 2) else (92, 0)) = if d = 116 then (9, 2) else (if d = 110 then (10, 2) else (92, 0))
    by_cases h1 : d = 110 <;> by_cases h2 : d = 116 <;> simp [h1, h2] <;> omega
  · show (if d = 110 then (10, 2) else if d = 116 then (9, 2) else if d = 34 then (34, 2) else (92, 0)) = if d = 34 then (34, 2) else (if d = 110 then (10, 2) else if d = 116 then (9, 2) else (92, 0))
    by_cases h1 : d = 110 <;> by_cases h2 : d = 116 <;> by_cases h3 : d = 34 <;> simp [h1, h2, h3] <;> omega
  · show (if d = 110 then (10, 2) else if d = 116 then (9, 2) else if d = 34 then (34, 2) else if d = 92 then (92, 2) else (92, 0)) = if d = 92 then (92, 2) else (if d = 110 then (10, 2) else if d = 116 then (9, 2) else if d = 34 then (34, 2) else (92, 0))
    by_cases h1 : d = 110 <;> by_cases h2 : d = 116 <;> by_cases h3 : d = 34 <;> by_cases h4 : d = 92 <;> simp [h1, h2, h3, h4] <;> omega
/-- The last one, as an escape. -/
theorem st_esc (d : UInt8) (r : List UInt8) (hx : d.toNat ≠ 120) : Quo.esc (d :: r) = (if (st d.toNat 4).2 = 0 then (0, 0) else (UInt8.ofNat (st d.toNat 4).1, (st d.toNat 4).2)) := by
  show (if d = 34 ∨ d = 92 then (d, 2) else if d = 110 then (10, 2) else if d = 116 then (9, 2) else if d = 120 then Quo.two r else (0, 0)) = _
  have n120 : d ≠ 120 := u8n (n := 120) hx (by omega)
  rw [if_neg n120]
  clear hx n120
  revert d
  refine Quo.all_bytes _ ?_
  decide +kernel
theorem st_120 : st 120 4 = (92, 0) := rfl
end Go.Proofs.YtgjaajofhfhadaaDoor.Lex
