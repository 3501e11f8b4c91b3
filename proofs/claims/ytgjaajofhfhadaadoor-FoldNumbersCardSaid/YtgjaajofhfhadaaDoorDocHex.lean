/- The document's own: the value of a digit to the base 16; how many digits stand at a place, and what they come to. -/
import Derived.Test.YtgjaajofhfhadaaDoorLexRest
import Derived.Test.YtgjaajofhfhadaaDoorNam
import Derived.Deep.QuietTactic
import Derived.BigQuiet
namespace Go.Proofs.YtgjaajofhfhadaaDoor.Lex
open Go.ChangeShapes Go.WideShapes Go.RowKit
set_option linter.unusedVariables false
set_option maxRecDepth 20000

/-- A digit that is no small letter, as a small one. -/
def low (c : UInt8) : Nat := if 65 ≤ c.toNat ∧ c.toNat ≤ 70 then c.toNat + 32 else c.toNat
theorem dig_found (c : UInt8) : ∀ i, i < 16 → (Quo.hexd i).toNat = low c → Quo.dig c = i := by
  refine Quo.all_bytes (fun c => ∀ i, i < 16 → (Quo.hexd i).toNat = low c → Quo.dig c = i) ?_ c
  decide +kernel
theorem dig_none (c : UInt8) : (∀ i, i < 16 → (Quo.hexd i).toNat ≠ low c) → Quo.dig c = 99 := by
  refine Quo.all_bytes (fun c => (∀ i, i < 16 → (Quo.hexd i).toNat ≠ low c) → Quo.dig c = 99) ?_ c
  decide +kernel
theorem str_run (s : ByteArray) (k : Nat) (hk : k < s.size) (W : World) : (Instr.index 9 (.string s) (.int .i64 (k : Int))).run Tryd.prog W = .ok (.int .u8 (s[k].toNat : Int)) W := by
  rw [run_index_string W 9 _ .i64 _ Tryd.underlying9, dif_pos (by omega)]
  rfl
theorem tabI : ∀ k : Nat, (hk : k < 16) → (⟨#[48, 49, 50, 51, 52, 53, 54, 55, 56, 57, 97, 98, 99, 100, 101, 102]⟩ : ByteArray)[k] = Quo.hexd k := by decide +kernel
theorem tab_run (k : Nat) (hk : k < 16) (W : World) :
    (Instr.index 9 (.string ⟨#[48, 49, 50, 51, 52, 53, 54, 55, 56, 57, 97, 98, 99, 100, 101, 102]⟩) (.int .i64 (k : Int))).run Tryd.prog W = .ok (.int .u8 ((Quo.hexd k).toNat : Int)) W := by
  rw [← tabI k hk]; exact str_run ⟨#[48, 49, 50, 51, 52, 53, 54, 55, 56, 57, 97, 98, 99, 100, 101, 102]⟩ k hk W
set_option maxHeartbeats 1000000 in
theorem hex_up (c : UInt8) (z : Int) (hz : (Quo.dig c : Int) = z) (x : Nat) (hx : low c = x) (h1 : 65 ≤ c.toNat) (h2 : c.toNat ≤ 70) (w : World) : Calls Tryd.prog 26 #[.int .u8 (c.toNat : Int)] w fun e w' => e = .returned (.int .i64 z) ∧ w = w' := by
  have HZ := Lib.hid (And.intro hz hx)
  have e1 : (c.toNat : Int) + 32 = (x : Int) := by unfold low at hx; rw [if_pos ⟨h1, h2⟩] at hx; omega
  have d1 : decide ((65 : Int) ≤ (c.toNat : Int)) = true := by rw [decide_eq_true_iff]; omega
  have d2 : decide ((c.toNat : Int) ≤ (70 : Int)) = true := by rw [decide_eq_true_iff]; omega
  have hxb : x ≤ 102 := by omega
  clear hz hx
  go_enter Tryd.func26, Tryd.ntmps26
  go_wp2_with fail
  clear d1 d2 e1
  go_loopg [4] 16 (fun gk u wr => ∃ i : Nat, i ≤ 16 ∧ u = .int .i64 (i : Int) ∧ Hid (gk = 16 - i ∧ (∀ j, j < i → (Quo.hexd j).toNat ≠ x) ∧ w = wr))
  case atStart => exact ⟨0, by omega, rfl, rfl, (fun j h => absurd h (Nat.not_lt_zero _)), rfl⟩
  case round =>
    obtain ⟨i, hi, rfl, HH⟩ := hrel
    by_cases hl : i < 16
    · have hl' : (i : Int) < 16 := by omega
      have ht := tab_run i hl
      obtain ⟨y, hy⟩ : ∃ y, (Quo.hexd i).toNat = y := ⟨_, rfl⟩
      rw [hy] at ht
      have HY := Lib.hid hy
      clear hy
      by_cases he : y = x
      · have c1 : ((y : Int) == (x : Int)) = true := by rw [beq_iff_eq]; omega
        have HE := Lib.hid he
        clear he
        go_wp2_with fail
        go_ret
        refine ⟨Nam.ret_i ?_, HH.out.2.2⟩
        rw [← HZ.out.1, dig_found c i hl (by rw [HY.out, HE.out, HZ.out.2])]
      · have c1 : ((y : Int) == (x : Int)) = false := by rw [beq_eq_false_iff_ne]; omega
        have HE := Lib.hid he
        clear he
        go_wp2_with fail
        go_roundg (16 - (i + 1))
        case measure => have := HH.out.1; omega
        case rel =>
          refine ⟨i + 1, by omega, by go_num, rfl, fun j hj => ?_, HH.out.2.2⟩
          by_cases e : j = i
          · subst e; rw [HY.out]; exact HE.out
          · exact HH.out.2.1 j (by omega)
    · obtain rfl : i = 16 := by omega
      go_wp2_with fail
      go_ret
      refine ⟨Nam.ret_i ?_, HH.out.2.2⟩
      rw [← HZ.out.1, dig_none c (by rw [HZ.out.2]; exact HH.out.2.1)]; rfl
set_option maxHeartbeats 1000000 in
theorem hex_low (c : UInt8) (z : Int) (hz : (Quo.dig c : Int) = z) (x : Nat) (hx : low c = x) (h : ¬ (65 ≤ c.toNat ∧ c.toNat ≤ 70)) (w : World) : Calls Tryd.prog 26 #[.int .u8 (c.toNat : Int)] w fun e w' => e = .returned (.int .i64 z) ∧ w = w' := by
  have HZ := Lib.hid (And.intro hz hx)
  obtain rfl : c.toNat = x := by unfold low at hx; rw [if_neg h] at hx; exact hx
  clear hz hx
  by_cases hge : 65 ≤ c.toNat
  · have d1 : decide ((65 : Int) ≤ (c.toNat : Int)) = true := by rw [decide_eq_true_iff]; omega
    have d2 : decide ((c.toNat : Int) ≤ (70 : Int)) = false := by rw [decide_eq_false_iff_not]; omega
    go_enter Tryd.func26, Tryd.ntmps26
    go_wp2_with fail
    clear d1 d2
    go_loopg [4] 16 (fun gk u wr => ∃ i : Nat, i ≤ 16 ∧ u = .int .i64 (i : Int) ∧ Hid (gk = 16 - i ∧ (∀ j, j < i → (Quo.hexd j).toNat ≠ c.toNat) ∧ w = wr))
    case atStart => exact ⟨0, by omega, rfl, rfl, (fun j h => absurd h (Nat.not_lt_zero _)), rfl⟩
    case round =>
      obtain ⟨i, hi, rfl, HH⟩ := hrel
      by_cases hl : i < 16
      · have hl' : (i : Int) < 16 := by omega
        have ht := tab_run i hl
        obtain ⟨y, hy⟩ : ∃ y, (Quo.hexd i).toNat = y := ⟨_, rfl⟩
        rw [hy] at ht
        have HY := Lib.hid hy
        clear hy
        by_cases he : y = c.toNat
        · have c1 : ((y : Int) == (c.toNat : Int)) = true := by rw [beq_iff_eq]; omega
          have HE := Lib.hid he
          clear he
          go_wp2_with fail
          go_ret
          refine ⟨Nam.ret_i ?_, HH.out.2.2⟩
          rw [← HZ.out.1, dig_found c i hl (by rw [HY.out, HE.out, HZ.out.2])]
        · have c1 : ((y : Int) == (c.toNat : Int)) = false := by rw [beq_eq_false_iff_ne]; omega
          have HE := Lib.hid he
          clear he
          go_wp2_with fail
          go_roundg (16 - (i + 1))
          case measure => have := HH.out.1; omega
          case rel =>
            refine ⟨i + 1, by omega, by go_num, rfl, fun j hj => ?_, HH.out.2.2⟩
            by_cases e : j = i
            · subst e; rw [HY.out]; exact HE.out
            · exact HH.out.2.1 j (by omega)
      · obtain rfl : i = 16 := by omega
        go_wp2_with fail
        go_ret
        refine ⟨Nam.ret_i ?_, HH.out.2.2⟩
        rw [← HZ.out.1, dig_none c (by rw [HZ.out.2]; exact HH.out.2.1)]; rfl
  · have d1 : decide ((65 : Int) ≤ (c.toNat : Int)) = false := by rw [decide_eq_false_iff_not]; omega
    go_enter Tryd.func26, Tryd.ntmps26
    go_wp2_with fail
    clear d1
    go_loopg [4] 16 (fun gk u wr => ∃ i : Nat, i ≤ 16 ∧ u = .int .i64 (i : Int) ∧ Hid (gk = 16 - i ∧ (∀ j, j < i → (Quo.hexd j).toNat ≠ c.toNat) ∧ w = wr))
    case atStart => exact ⟨0, by omega, rfl, rfl, (fun j h => absurd h (Nat.not_lt_zero _)), rfl⟩
    case round =>
      obtain ⟨i, hi, rfl, HH⟩ := hrel
      by_cases hl : i < 16
      · have hl' : (i : Int) < 16 := by omega
        have ht := tab_run i hl
        obtain ⟨y, hy⟩ : ∃ y, (Quo.hexd i).toNat = y := ⟨_, rfl⟩
        rw [hy] at ht
        have HY := Lib.hid hy
        clear hy
        by_cases he : y = c.toNat
        · have c1 : ((y : Int) == (c.toNat : Int)) = true := by rw [beq_iff_eq]; omega
          have HE := Lib.hid he
          clear he
          go_wp2_with fail
          go_ret
          refine ⟨Nam.ret_i ?_, HH.out.2.2⟩
          rw [← HZ.out.1, dig_found c i hl (by rw [HY.out, HE.out, HZ.out.2])]
        · have c1 : ((y : Int) == (c.toNat : Int)) = false := by rw [beq_eq_false_iff_ne]; omega
          have HE := Lib.hid he
          clear he
          go_wp2_with fail
          go_roundg (16 - (i + 1))
          case measure => have := HH.out.1; omega
          case rel =>
            refine ⟨i + 1, by omega, by go_num, rfl, fun j hj => ?_, HH.out.2.2⟩
            by_cases e : j = i
            · subst e; rw [HY.out]; exact HE.out
            · exact HH.out.2.1 j (by omega)
      · obtain rfl : i = 16 := by omega
        go_wp2_with fail
        go_ret
        refine ⟨Nam.ret_i ?_, HH.out.2.2⟩
        rw [← HZ.out.1, dig_none c (by rw [HZ.out.2]; exact HH.out.2.1)]; rfl
theorem hex_v (c : UInt8) (z : Int) (hz : (Quo.dig c : Int) = z) (w : World) : Calls Tryd.prog 26 #[.int .u8 (c.toNat : Int)] w fun e w' => e = .returned (.int .i64 z) ∧ w = w' := by
  by_cases h : 65 ≤ c.toNat ∧ c.toNat ≤ 70
  · exact hex_up c z hz _ rfl h.1 h.2 w
  · exact hex_low c z hz _ rfl h w
end Go.Proofs.YtgjaajofhfhadaaDoor.Lex
