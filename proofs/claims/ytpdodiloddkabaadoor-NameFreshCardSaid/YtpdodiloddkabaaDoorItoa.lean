/- What strconv.Itoa answers at small numbers. -/
import Derived.Test.YtpdodiloddkabaaDoorByte
import Derived.Shelf.Strconv.Itoa1
namespace Go.Proofs
open Go.Shelf
def Tryd.lays283_ren : Go.Shelf.Ren := ⟨fun | 283 => 34 | n => n, fun | 3 => 3 | 9 => 9 | 4 => 4 | n => n, fun | n => n⟩
theorem Tryd.lays283 : Go.Proofs.Lays.n283 Tryd.prog Tryd.lays283_ren := {
  mixed := by kernel_rfl
  f283 := Tryd.func34.trans (congrArg some (by kernel_rfl))
  t3 := Tryd.underlying3
  a3 := Tryd.isAgg3
  z3 := Tryd.sizeOf3
  v3 := Tryd.zeroValue3
  t4 := Tryd.underlying4
  a4 := Tryd.isAgg4
  z4 := Tryd.sizeOf4
  v4 := Tryd.zeroValue4
  t9 := Tryd.underlying9
  a9 := Tryd.isAgg9
  z9 := Tryd.sizeOf9
  v9 := Tryd.zeroValue9 }
end Go.Proofs
namespace Go.Proofs.YtpdodiloddkabaaDoor
open Go.ChangeShapes Go.WideShapes Go.RowKit
set_option linter.unusedVariables false

theorem dec_num : ∀ n, n < 100 → Lib.decDigits n = num n := by decide +kernel
theorem small_v (n : Nat) (l : List UInt8) (hl : num n = l) (h : n < 100) (w : World) : Calls Tryd.prog 34 #[.int .i64 (n : Int)] w fun e w' => e = .returned (.string ⟨l.toArray⟩) ∧ w = w' := by
  have := Any.internal_strconv_small Tryd.lays283 n h w
  rw [dec_num n h, hl] at this
  exact this.mono fun e w' k => ⟨k.1, k.2.symm⟩
theorem format_v (n : Nat) (l : List UInt8) (hl : num n = l) (h : n < 100) (w : World) : Calls Tryd.prog 29 #[.int .i64 (n : Int), .int .i64 10] w fun e w' => e = .returned (.string ⟨l.toArray⟩) ∧ w = w' := by
  have HL := Lib.hid hl
  have h1 : decide ((n : Int) < 100) = true := by rw [decide_eq_true_iff]; omega
  have h2 : (n : Int) < 100 := by omega
  clear hl
  go_enter Tryd.func29, Tryd.ntmps29
  go_wp2_with fail
  refine (small_v n l HL.out h _).mono ?_
  rintro e w1 ⟨rfl, rfl⟩
  go_wp2_with fail
  go_ret
  exact ⟨rfl, rfl⟩
theorem initoa_v (n : Nat) (l : List UInt8) (hl : num n = l) (h : n < 100) (w : World) : Calls Tryd.prog 26 #[.int .i64 (n : Int)] w fun e w' => e = .returned (.string ⟨l.toArray⟩) ∧ w = w' := by
  have HL := Lib.hid hl
  clear hl
  go_enter Tryd.func26, Tryd.ntmps26
  go_wp2_with fail
  refine (format_v n l HL.out h _).mono ?_
  rintro e w1 ⟨rfl, rfl⟩
  go_wp2_with fail
  go_ret
  exact ⟨rfl, rfl⟩
theorem itoa_v (n : Nat) (l : List UInt8) (hl : num n = l) (h : n < 100) (w : World) : Calls Tryd.prog 22 #[.int .i64 (n : Int)] w fun e w' => e = .returned (.string ⟨l.toArray⟩) ∧ w = w' := by
  have HL := Lib.hid hl
  clear hl
  go_enter Tryd.func22, Tryd.ntmps22
  go_wp2_with fail
  refine (initoa_v n l HL.out h _).mono ?_
  rintro e w1 ⟨rfl, rfl⟩
  go_wp2_with fail
  go_ret
  exact ⟨rfl, rfl⟩
end Go.Proofs.YtpdodiloddkabaaDoor
