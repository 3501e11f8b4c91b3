/- What the program's behind, wellPut and number answer. -/
import Derived.Test.YtmckplgbaalpbaaDoorDeciLaid
import Derived.Test.YtmckplgbaalpbaaDoorDeciScanMath
namespace Go.Proofs.YtmckplgbaalpbaaDoor.Deci
open Go.ChangeShapes Go.WideShapes Go.RowKit
set_option linter.unusedVariables false

theorem behind_v (s : ByteArray) (fr fin : Nat) (hs : s.size ≤ 9223372036854775807) (hle : fr ≤ fin) (hfin : fin ≤ s.size) (hd : ∀ i (h : i < s.size), fr ≤ i → i < fin → isDig s[i]) (hst : ∀ h : fin < s.size, ¬ isDig s[fin]) (w : World) :
    Calls Tryd.prog 67 #[.string s, .int .i64 (fr : Int)] w fun e w' => e = .returned (.int .i64 (fin : Int)) ∧ w = w' := by
  have HD := Lib.hid hd
  have HS := Lib.hid hst
  clear hd hst
  go_enter Tryd.func67, Tryd.ntmps67
  go_wp2_with fail
  go_loopg [1] (fin - fr) (fun gk i wr => ∃ k : Nat, k + gk = fin ∧ fr ≤ k ∧ i = .int .i64 (k : Int) ∧ Hid (w = wr))
  case atStart => exact ⟨fr, by omega, Nat.le_refl _, rfl, rfl⟩
  case round =>
    obtain ⟨k, hk, hfk, rfl, HW⟩ := hrel
    obtain rfl := HW.out
    clear HW
    by_cases hlt : k < fin
    · have hks : k < s.size := by omega
      have h1 := (HD.out k hks hfk hlt).1
      have h2 := (HD.out k hks hfk hlt).2
      have h1' : (48 : Int) ≤ (s[k].toNat : Int) := by omega
      have h2' : (s[k].toNat : Int) ≤ 57 := by omega
      clear h1 h2
      go_wp2_with fail
      go_roundg (gk - 1)
      case measure => omega
      case rel => exact ⟨k + 1, by omega, by omega, by go_num, rfl⟩
    · obtain rfl : k = fin := by omega
      by_cases hks : k < s.size
      · have hnd := HS.out hks
        by_cases h48 : 48 ≤ s[k].toNat
        · have h2 : ¬ s[k].toNat ≤ 57 := fun h => hnd ⟨h48, h⟩
          have h1' : (48 : Int) ≤ (s[k].toNat : Int) := by omega
          have h2' : (57 : Int) < (s[k].toNat : Int) := by omega
          clear h48 h2 hnd
          go_wp2_with fail
          go_ret
          exact ⟨rfl, rfl⟩
        · have h1' : (s[k].toNat : Int) < 48 := by omega
          clear h48 hnd
          go_wp2_with fail
          go_ret
          exact ⟨rfl, rfl⟩
      · go_wp2_with fail
        go_ret
        exact ⟨rfl, rfl⟩

theorem well_empty (d : ByteArray) (m : Bool) (h : d.toList = []) (w : World) :
    Calls Tryd.prog 68 #[.string d, .bool m] w fun e w' => e = .returned (.bool false) ∧ w = w' := by
  have h2 : d.toList.isEmpty = true := by rw [h]; rfl
  go_enter Tryd.func68, Tryd.ntmps68
  go_wp2_with fail
  go_ret
  exact ⟨rfl, rfl⟩
theorem size_list (d : ByteArray) : d.size = d.data.toList.length := by rw [Array.length_toList]; rfl
theorem not_empty (d : ByteArray) (h : 0 < d.size) : d.toList ≠ [] := by
  rw [ByteArray.toList_eq]; intro h0; rw [size_list, h0] at h; simp at h
theorem head_of (d : ByteArray) (h : 0 < d.size) : d.data.toList.head? = some d[0] := by
  rw [List.head?_eq_getElem?, List.getElem?_eq_getElem (by rw [← size_list]; exact h)]; rfl
theorem well_other (d : ByteArray) (m : Bool) (h : 0 < d.size) (h0 : d[0].toNat ≠ 48) (w : World) :
    Calls Tryd.prog 68 #[.string d, .bool m] w fun e w' => e = .returned (.bool true) ∧ w = w' := by
  have h1 := not_empty d h
  have h2 : d.toList.isEmpty = false := by rw [List.isEmpty_eq_false_iff]; exact h1
  have h3 : ((d[0].toNat : Int) == 48) = false := by rw [beq_eq_false_iff_ne]; omega
  clear h0
  go_enter Tryd.func68, Tryd.ntmps68
  go_wp2_with fail
  go_ret
  exact ⟨rfl, rfl⟩
theorem well_nought (d : ByteArray) (m : Bool) (h : 0 < d.size) (h0 : d[0].toNat = 48) (b : Bool) (hb : (decide (d.size = 1) && !m) = b) (w : World) :
    Calls Tryd.prog 68 #[.string d, .bool m] w fun e w' => e = .returned (.bool b) ∧ w = w' := by
  have h1 := not_empty d h
  have h2 : d.toList.isEmpty = false := by rw [List.isEmpty_eq_false_iff]; exact h1
  have h3 : ((d[0].toNat : Int) == 48) = true := by rw [beq_iff_eq]; omega
  clear h0
  by_cases hs : d.size = 1
  · have h4 : ((d.size : Int) == 1) = true := by rw [beq_iff_eq]; omega
    have hb2 : (!m) = b := by rw [← hb]; simp [hs]
    have HB := Lib.hid hb2
    clear hb2
    clear hb
    have HS := Lib.hid hs
    clear hs
    go_enter Tryd.func68, Tryd.ntmps68
    go_wp2_with fail
    go_ret
    exact ⟨by rw [← HB.out]; rfl, rfl⟩
  · have h4 : ((d.size : Int) == 1) = false := by rw [beq_eq_false_iff_ne]; omega
    have hb2 : false = b := by rw [← hb]; simp [hs]
    have HB := Lib.hid hb2
    clear hb2
    clear hb
    go_enter Tryd.func68, Tryd.ntmps68
    go_wp2_with fail
    go_ret
    exact ⟨by rw [← HB.out]; rfl, rfl⟩
theorem well_yes (d : ByteArray) (m : Bool) (h : well d.data.toList m) (w : World) :
    Calls Tryd.prog 68 #[.string d, .bool m] w fun e w' => e = .returned (.bool true) ∧ w = w' := by
  have hp : 0 < d.size := by rw [size_list]; exact List.length_pos_iff.2 h.1
  by_cases h0 : d[0].toNat = 48
  · obtain ⟨h1, h2⟩ := h.2 _ (head_of d hp) h0
    exact well_nought d m hp h0 true (by rw [size_list, h1, h2]; rfl) w
  · exact well_other d m hp h0 w
theorem well_not (d : ByteArray) (m : Bool) (h : ¬ well d.data.toList m) (w : World) :
    Calls Tryd.prog 68 #[.string d, .bool m] w fun e w' => e = .returned (.bool false) ∧ w = w' := by
  by_cases hp : 0 < d.size
  · have hne : d.data.toList ≠ [] := by intro h0; rw [size_list, h0] at hp; simp at hp
    by_cases h0 : d[0].toNat = 48
    · refine well_nought d m hp h0 false ?_ w
      by_cases hs : d.size = 1
      · cases m
        · exfalso; apply h; refine ⟨hne, fun c hc h48 => ⟨by rw [← size_list]; exact hs, rfl⟩⟩
        · simp
      · simp [hs]
    · exfalso; apply h; refine ⟨hne, fun c hc h48 => ?_⟩
      rw [head_of d hp] at hc; simp at hc; subst hc; exact absurd h48 h0
  · exact well_empty d m (by rw [ByteArray.toList_eq]; apply List.eq_nil_of_length_eq_zero; rw [← size_list]; omega) w

theorem back_neg (u : Nat) (h : u ≤ 9223372036854775808) : IntKind.i64.wrap (IntKind.u64.wrap (-(u : Int))) = -(u : Int) := by
  have hb : (2 : Int) ^ IntKind.u64.bits = 18446744073709551616 := by decide
  have hs : IntKind.u64.signed = false := rfl
  have hb2 : (2 : Int) ^ IntKind.i64.bits = 18446744073709551616 := by decide
  have hb3 : (2 : Int) ^ (IntKind.i64.bits - 1) = 9223372036854775808 := by decide
  have hs2 : IntKind.i64.signed = true := rfl
  simp only [IntKind.wrap, hb, hs, hb2, hb3, hs2, Bool.false_and, Bool.true_and, Bool.false_eq_true, if_false, decide_eq_true_eq]
  split <;> omega
/-- What number hands back. -/
def numT (l : List UInt8) (m : Bool) : Int × Bool := if val l ≤ top m then (sgn m (val l), true) else (0, false)
theorem ret_num {a b : Int} {x y : Bool} (h : (a, x) = (b, y)) : Ending.returned (.tuple #[.int .i64 a, .bool x]) = .returned (.tuple #[.int .i64 b, .bool y]) := by
  injection h with h1 h2; rw [h1, h2]
set_option maxHeartbeats 400000 in
theorem number_false (d : ByteArray) (x : Int) (b : Bool) (hs : d.size ≤ 9223372036854775807) (hd : ∀ c ∈ d.data.toList, isDig c) (hr : numT d.data.toList false = (x, b)) (w : World) :
    Calls Tryd.prog 69 #[.string d, .bool false] w fun e w' => e = .returned (.tuple #[.int .i64 x, .bool b]) ∧ w = w' := by
  have HD := Lib.hid hd
  have HR := Lib.hid hr
  clear hd hr
  go_enter Tryd.func69, Tryd.ntmps69
  go_wp2_with fail
  go_loopg [7, 15] d.size (fun gk f i wr => ∃ (k far : Nat), k + gk = d.size ∧ i = .int .i64 (k : Int) ∧ f = .int .u64 (far : Int) ∧ Hid (far = val (d.data.toList.take k) ∧ far ≤ 9223372036854775807 ∧ w = wr))
  case atStart => exact ⟨0, 0, by omega, rfl, rfl, by simp [val], by omega, rfl⟩
  case round =>
    obtain ⟨k, far, hk, rfl, rfl, HH⟩ := hrel
    have HF := Lib.hid HH.out.1
    have HM := Lib.hid HH.out.2.1
    obtain rfl := HH.out.2.2
    clear HH
    by_cases hlt : k < d.size
    · have hmem : d[k] ∈ d.data.toList := List.getElem_mem (by rw [← size_list]; exact hlt : k < d.data.toList.length)
      have hdk := HD.out _ hmem
      have h1 := hdk.1
      have h2 := hdk.2
      have h1' : (48 : Int) ≤ (d[k].toNat : Int) := by omega
      have h2' : (d[k].toNat : Int) ≤ 57 := by omega
      have hst : val (d.data.toList.take (k + 1)) = 10 * far + (d[k].toNat - 48) := by
        rw [val_step _ _ (by rw [← size_list]; exact hlt), HF.out]; rfl
      by_cases hto : 10 * far + (d[k].toNat - 48) ≤ 9223372036854775807
      · have hf : (far : Int) ≤ 922337203685477580 := by omega
        have hq : decide ((9223372036854775807 - ((d[k].toNat : Int) - 48)) / 10 < (far : Int)) = false := by rw [decide_eq_false_iff_not]; omega
        have HS := Lib.hid hst
        have HT := Lib.hid hto
        clear hst hto hmem hdk h1 h2
        go_wp2_with fail
        go_roundg (gk - 1)
        case measure => omega
        case rel => exact ⟨k + 1, 10 * far + (d[k].toNat - 48), by omega, by go_num, by congr 1; omega, HS.out.symm, HT.out, rfl⟩
      · have hq : decide ((9223372036854775807 - ((d[k].toNat : Int) - 48)) / 10 < (far : Int)) = true := by rw [decide_eq_true_iff]; omega
        have hfm := HM.out
        have hf : (far : Int) ≤ 9223372036854775807 := by omega
        have hr : ((0 : Int), false) = (x, b) := by
          rw [← HR.out, numT, if_neg]
          have := val_take d.data.toList (k + 1)
          rw [hst] at this
          simp only [top, Bool.false_eq_true, if_false]; omega
        have HE := Lib.hid hr
        clear hst hto hmem hdk h1 h2 hfm hr
        go_wp2_with fail
        go_ret2
        exact ⟨ret_num HE.out, rfl⟩
    · obtain rfl : k = d.size := by omega
      have hval : far = val d.data.toList := by rw [HF.out, List.take_of_length_le (by rw [← size_list]; omega)]
      have hf : (far : Int) ≤ 9223372036854775807 := by have := HM.out; omega
      have hr : ((far : Int), true) = (x, b) := by
        rw [← HR.out, numT, ← hval, if_pos (show far ≤ top false from HM.out)]; rfl
      have HE := Lib.hid hr
      clear hval hr
      go_wp2_with fail
      go_ret2
      exact ⟨ret_num HE.out, rfl⟩
set_option maxHeartbeats 400000 in
theorem number_true (d : ByteArray) (x : Int) (b : Bool) (hs : d.size ≤ 9223372036854775807) (hd : ∀ c ∈ d.data.toList, isDig c) (hr : numT d.data.toList true = (x, b)) (w : World) :
    Calls Tryd.prog 69 #[.string d, .bool true] w fun e w' => e = .returned (.tuple #[.int .i64 x, .bool b]) ∧ w = w' := by
  have HD := Lib.hid hd
  have HR := Lib.hid hr
  clear hd hr
  go_enter Tryd.func69, Tryd.ntmps69
  go_wp2_with fail
  go_loopg [7, 15] d.size (fun gk f i wr => ∃ (k far : Nat), k + gk = d.size ∧ i = .int .i64 (k : Int) ∧ f = .int .u64 (far : Int) ∧ Hid (far = val (d.data.toList.take k) ∧ far ≤ 9223372036854775808 ∧ w = wr))
  case atStart => exact ⟨0, 0, by omega, rfl, rfl, by simp [val], by omega, rfl⟩
  case round =>
    obtain ⟨k, far, hk, rfl, rfl, HH⟩ := hrel
    have HF := Lib.hid HH.out.1
    have HM := Lib.hid HH.out.2.1
    obtain rfl := HH.out.2.2
    clear HH
    by_cases hlt : k < d.size
    · have hmem : d[k] ∈ d.data.toList := List.getElem_mem (by rw [← size_list]; exact hlt : k < d.data.toList.length)
      have hdk := HD.out _ hmem
      have h1 := hdk.1
      have h2 := hdk.2
      have h1' : (48 : Int) ≤ (d[k].toNat : Int) := by omega
      have h2' : (d[k].toNat : Int) ≤ 57 := by omega
      have hst : val (d.data.toList.take (k + 1)) = 10 * far + (d[k].toNat - 48) := by
        rw [val_step _ _ (by rw [← size_list]; exact hlt), HF.out]; rfl
      by_cases hto : 10 * far + (d[k].toNat - 48) ≤ 9223372036854775808
      · have hf : (far : Int) ≤ 922337203685477580 := by omega
        have hq : decide ((9223372036854775808 - ((d[k].toNat : Int) - 48)) / 10 < (far : Int)) = false := by rw [decide_eq_false_iff_not]; omega
        have HS := Lib.hid hst
        have HT := Lib.hid hto
        clear hst hto hmem hdk h1 h2
        go_wp2_with fail
        go_roundg (gk - 1)
        case measure => omega
        case rel => exact ⟨k + 1, 10 * far + (d[k].toNat - 48), by omega, by go_num, by congr 1; omega, HS.out.symm, HT.out, rfl⟩
      · have hq : decide ((9223372036854775808 - ((d[k].toNat : Int) - 48)) / 10 < (far : Int)) = true := by rw [decide_eq_true_iff]; omega
        have hfm := HM.out
        have hf : (far : Int) ≤ 9223372036854775808 := by omega
        have hr : ((0 : Int), false) = (x, b) := by
          rw [← HR.out, numT, if_neg]
          have := val_take d.data.toList (k + 1)
          rw [hst] at this
          simp only [top, if_true]; omega
        have HE := Lib.hid hr
        clear hst hto hmem hdk h1 h2 hfm hr
        go_wp2_with fail
        go_ret2
        exact ⟨ret_num HE.out, rfl⟩
    · obtain rfl : k = d.size := by omega
      have hval : far = val d.data.toList := by rw [HF.out, List.take_of_length_le (by rw [← size_list]; omega)]
      have hx : IntKind.i64.wrap (IntKind.u64.wrap (-(far : Int))) = -(far : Int) := back_neg far HM.out
      have hr : (-(far : Int), true) = (x, b) := by
        rw [← HR.out, numT, ← hval, if_pos (show far ≤ top true from HM.out)]; rfl
      have HE := Lib.hid hr
      clear hval hr
      go_wp2_with fail
      go_ret2
      exact ⟨ret_num HE.out, rfl⟩
theorem number_v (d : ByteArray) (m : Bool) (x : Int) (b : Bool) (hs : d.size ≤ 9223372036854775807) (hd : ∀ c ∈ d.data.toList, isDig c) (hr : numT d.data.toList m = (x, b)) (w : World) :
    Calls Tryd.prog 69 #[.string d, .bool m] w fun e w' => e = .returned (.tuple #[.int .i64 x, .bool b]) ∧ w = w' := by
  cases m
  · exact number_false d x b hs hd hr w
  · exact number_true d x b hs hd hr w
end Go.Proofs.YtmckplgbaalpbaaDoor.Deci
