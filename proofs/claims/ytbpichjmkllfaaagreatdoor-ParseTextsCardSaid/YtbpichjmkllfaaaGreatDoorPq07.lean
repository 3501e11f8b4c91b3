/- Packed texts of one proof. Conditions: none. -/
import Derived.Test.YtbpichjmkllfaaaGreatDoorPq06
import Derived.Test.YtbpichjmkllfaaaGreatDoorPq05
namespace Go.Proofs.YtbpichjmkllfaaaGreatDoor.Deci
open Go.ChangeShapes Go.WideShapes Go.RowKit
set_option linter.unusedVariables false
set_option maxRecDepth 20000
theorem behind_v (s : ByteArray) (fr fin : Nat) (hs : s.size ≤ 9223372036854775807) (hle : fr ≤ fin) (hfin : fin ≤ s.size) (hd : ∀ i (h : i < s.size), fr ≤ i → i < fin → isDig s[i]) (hst : ∀ h : fin < s.size, ¬ isDig s[fin]) (w : World) :
  Calls Tryz.prog 163 #[.string s, .int .i64 (fr : Int)] w fun e w' => e = .returned (.int .i64 (fin : Int)) ∧ w = w' := by
 have HD := Hh hd
 have HS := Hh hst
 clear hd hst
 go_enter Tryz.func163, Tryz.ntmps163
 go_wp2_with fail
 go_loopg [1] (fin - fr) (fun gk i wr => ∃ k : Nat, k + gk = fin ∧ fr ≤ k ∧ i = .int .i64 (k : Int) ∧ Hid (w = wr))
 case atStart => exact ⟨fr, by omega, Nat.le_refl _, rfl, rfl⟩
 case round =>
  obtain ⟨k, hk, hfk, rfl, HW⟩ := hrel
  obtain rfl := HW.out
  clear HW
  by_cases hlt : k < fin
  ·have hks : k < s.size := by omega
   have h1 := (HD.out k hks hfk hlt).1
   have h2 := (HD.out k hks hfk hlt).2
   have h1' : (48 : Int) ≤ (s[k].toNat : Int) := by omega
   have h2' : (s[k].toNat : Int) ≤ 57 := by omega
   clear h1 h2
   go_wp2_with fail
   go_roundg (gk - 1)
   case measure => omega
   case rel => exact ⟨k + 1, by omega, by omega, by go_num, rfl⟩
  ·obtain rfl : k = fin := by omega
   by_cases hks : k < s.size
   ·have hnd := HS.out hks
    by_cases h48 : 48 ≤ s[k].toNat
    ·have h2 : ¬ s[k].toNat ≤ 57 := fun h => hnd ⟨h48, h⟩
     have h1' : (48 : Int) ≤ (s[k].toNat : Int) := by omega
     have h2' : (57 : Int) < (s[k].toNat : Int) := by omega
     clear h48 h2 hnd
     go_wp2_with fail
     go_ret
     exact ⟨rfl, rfl⟩
    ·have h1' : (s[k].toNat : Int) < 48 := by omega
     clear h48 hnd
     go_wp2_with fail
     go_ret
     exact ⟨rfl, rfl⟩
   ·go_wp2_with fail
    go_ret
    exact ⟨rfl, rfl⟩
theorem well_empty (d : ByteArray) (m : Bool) (h : d.toList = []) (w : World) :
  Calls Tryz.prog 164 #[.string d, .bool m] w fun e w' => e = .returned (.bool false) ∧ w = w' := by
 have h2 : d.toList.isEmpty = true := by rw [h]; rfl
 go_enter Tryz.func164, Tryz.ntmps164
 go_wp2_with fail
 go_ret
 exact ⟨rfl, rfl⟩
theorem size_list (d : ByteArray) : d.size = d.data.toList.length := by rw [Array.length_toList]; rfl
theorem not_empty (d : ByteArray) (h : 0 < d.size) : d.toList ≠ [] := by
 rw [ByteArray.toList_eq]; intro h0; rw [size_list, h0] at h; simp at h
theorem head_of (d : ByteArray) (h : 0 < d.size) : d.data.toList.head? = some d[0] := by
 rw [List.head?_eq_getElem?, List.getElem?_eq_getElem (by rw [← size_list]; exact h)]; rfl
theorem well_other (d : ByteArray) (m : Bool) (h : 0 < d.size) (h0 : d[0].toNat ≠ 48) (w : World) :
  Calls Tryz.prog 164 #[.string d, .bool m] w fun e w' => e = .returned (.bool true) ∧ w = w' := by
 have h1 := not_empty d h
 have h2 : d.toList.isEmpty = false := by rw [List.isEmpty_eq_false_iff]; exact h1
 have h3 : ((d[0].toNat : Int) == 48) = false := by rw [Bqf]; omega
 clear h0
 go_enter Tryz.func164, Tryz.ntmps164
 go_wp2_with fail
 go_ret
 exact ⟨rfl, rfl⟩
theorem well_nought (d : ByteArray) (m : Bool) (h : 0 < d.size) (h0 : d[0].toNat = 48) (b : Bool) (hb : (decide (d.size = 1) && !m) = b) (w : World) :
  Calls Tryz.prog 164 #[.string d, .bool m] w fun e w' => e = .returned (.bool b) ∧ w = w' := by
 have h1 := not_empty d h
 have h2 : d.toList.isEmpty = false := by rw [List.isEmpty_eq_false_iff]; exact h1
 have h3 : ((d[0].toNat : Int) == 48) = true := by rw [beq_iff_eq]; omega
 clear h0
 by_cases hs : d.size = 1
 ·have h4 : ((d.size : Int) == 1) = true := by rw [beq_iff_eq]; omega
  have hb2 : (!m) = b := by rw [← hb]; simp [hs]
  have HB := Hh hb2
  clear hb2
  clear hb
  have HS := Hh hs
  clear hs
  go_enter Tryz.func164, Tryz.ntmps164
  go_wp2_with fail
  go_ret
  exact ⟨by rw [← HB.out]; rfl, rfl⟩
 ·have h4 : ((d.size : Int) == 1) = false := by rw [Bqf]; omega
  have hb2 : false = b := by rw [← hb]; simp [hs]
  have HB := Hh hb2
  clear hb2
  clear hb
  go_enter Tryz.func164, Tryz.ntmps164
  go_wp2_with fail
  go_ret
  exact ⟨by rw [← HB.out]; rfl, rfl⟩
theorem well_yes (d : ByteArray) (m : Bool) (h : well d.data.toList m) (w : World) :
  Calls Tryz.prog 164 #[.string d, .bool m] w fun e w' => e = .returned (.bool true) ∧ w = w' := by
 have hp : 0 < d.size := by rw [size_list]; exact List.length_pos_iff.2 h.1
 by_cases h0 : d[0].toNat = 48
 ·obtain ⟨h1, h2⟩ := h.2 _ (head_of d hp) h0
  exact well_nought d m hp h0 true (by rw [size_list, h1, h2]; rfl) w
 ·exact well_other d m hp h0 w
theorem well_not (d : ByteArray) (m : Bool) (h : ¬ well d.data.toList m) (w : World) :
  Calls Tryz.prog 164 #[.string d, .bool m] w fun e w' => e = .returned (.bool false) ∧ w = w' := by
 by_cases hp : 0 < d.size
 ·have hne : d.data.toList ≠ [] := by intro h0; rw [size_list, h0] at hp; simp at hp
  by_cases h0 : d[0].toNat = 48
  ·refine well_nought d m hp h0 false ?_ w
   by_cases hs : d.size = 1
   ·cases m
    ·exfalso; apply h; refine ⟨hne, fun c hc h48 => ⟨by rw [← size_list]; exact hs, rfl⟩⟩
    ·simp
   ·simp [hs]
  ·exfalso; apply h; refine ⟨hne, fun c hc h48 => ?_⟩
   rw [head_of d hp] at hc; simp at hc; subst hc; exact absurd h48 h0
 ·exact well_empty d m (by rw [ByteArray.toList_eq]; apply List.eq_nil_of_length_eq_zero; rw [← size_list]; omega) w
theorem back_neg (u : Nat) (h : u ≤ 9223372036854775808) : IntKind.i64.wrap (IntKind.u64.wrap (-(u : Int))) = -(u : Int) := by
 have hb : (2 : Int) ^ IntKind.u64.bits = 18446744073709551616 := by decide
 have hs : IntKind.u64.signed = false := rfl
 have hb2 : (2 : Int) ^ IntKind.i64.bits = 18446744073709551616 := by decide
 have hb3 : (2 : Int) ^ (IntKind.i64.bits - 1) = 9223372036854775808 := by decide
 have hs2 : IntKind.i64.signed = true := rfl
 simp only [IntKind.wrap, hb, hs, hb2, hb3, hs2, Bool.false_and, Bool.true_and, Bool.false_eq_true, if_false, decide_eq_true_eq]
 split <;> omega
def numT (l : List UInt8) (m : Bool) : Int × Bool := if val l ≤ top m then (sgn m (val l), true) else (0, false)
theorem ret_num {a b : Int} {x y : Bool} (h : (a, x) = (b, y)) : Ending.returned (.tuple #[.int .i64 a, .bool x]) = .returned (.tuple #[.int .i64 b, .bool y]) := by
 injection h with h1 h2; rw [h1, h2]
set_option maxHeartbeats 400000 in
theorem number_false (d : ByteArray) (x : Int) (b : Bool) (hs : d.size ≤ 9223372036854775807) (hd : ∀ c ∈ d.data.toList, isDig c) (hr : numT d.data.toList false = (x, b)) (w : World) :
  Calls Tryz.prog 165 #[.string d, .bool false] w fun e w' => e = .returned (.tuple #[.int .i64 x, .bool b]) ∧ w = w' := by
 have HD := Hh hd
 have HR := Hh hr
 clear hd hr
 go_enter Tryz.func165, Tryz.ntmps165
 go_wp2_with fail
 go_loopg [7, 15] d.size (fun gk f i wr => ∃ (k far : Nat), k + gk = d.size ∧ i = .int .i64 (k : Int) ∧ f = .int .u64 (far : Int) ∧ Hid (far = val (d.data.toList.take k) ∧ far ≤ 9223372036854775807 ∧ w = wr))
 case atStart => exact ⟨0, 0, by omega, rfl, rfl, by simp [val], by omega, rfl⟩
 case round =>
  obtain ⟨k, far, hk, rfl, rfl, HH⟩ := hrel
  have HF := Hh HH.out.1
  have HM := Hh HH.out.2.1
  obtain rfl := HH.out.2.2
  clear HH
  by_cases hlt : k < d.size
  ·have hmem : d[k] ∈ d.data.toList := List.getElem_mem (by rw [← size_list]; exact hlt : k < d.data.toList.length)
   have hdk := HD.out _ hmem
   have h1 := hdk.1
   have h2 := hdk.2
   have h1' : (48 : Int) ≤ (d[k].toNat : Int) := by omega
   have h2' : (d[k].toNat : Int) ≤ 57 := by omega
   have hst : val (d.data.toList.take (k + 1)) = 10 * far + (d[k].toNat - 48) := by
    rw [val_step _ _ (by rw [← size_list]; exact hlt), HF.out]; rfl
   by_cases hto : 10 * far + (d[k].toNat - 48) ≤ 9223372036854775807
   ·have hf : (far : Int) ≤ 922337203685477580 := by omega
    have hq : decide ((9223372036854775807 - ((d[k].toNat : Int) - 48)) / 10 < (far : Int)) = false := by rw [decide_eq_false_iff_not]; omega
    have HS := Hh hst
    have HT := Hh hto
    clear hst hto hmem hdk h1 h2
    go_wp2_with fail
    go_roundg (gk - 1)
    case measure => omega
    case rel => exact ⟨k + 1, 10 * far + (d[k].toNat - 48), by omega, by go_num, by congr 1; omega, HS.out.symm, HT.out, rfl⟩
   ·have hq : decide ((9223372036854775807 - ((d[k].toNat : Int) - 48)) / 10 < (far : Int)) = true := by rw [decide_eq_true_iff]; omega
    have hfm := HM.out
    have hf : (far : Int) ≤ 9223372036854775807 := by omega
    have hr : ((0 : Int), false) = (x, b) := by
     rw [← HR.out, numT, if_neg]
     have := val_take d.data.toList (k + 1)
     rw [hst] at this
     simp only [top, Bool.false_eq_true, if_false]; omega
    have HE := Hh hr
    clear hst hto hmem hdk h1 h2 hfm hr
    go_wp2_with fail
    go_ret2
    exact ⟨ret_num HE.out, rfl⟩
  ·obtain rfl : k = d.size := by omega
   have hval : far = val d.data.toList := by rw [HF.out, List.take_of_length_le (by rw [← size_list]; omega)]
   have hf : (far : Int) ≤ 9223372036854775807 := by have := HM.out; omega
   have hr : ((far : Int), true) = (x, b) := by
    rw [← HR.out, numT, ← hval, if_pos (show far ≤ top false from HM.out)]; rfl
   have HE := Hh hr
   clear hval hr
   go_wp2_with fail
   go_ret2
   exact ⟨ret_num HE.out, rfl⟩
set_option maxHeartbeats 400000 in
theorem number_true (d : ByteArray) (x : Int) (b : Bool) (hs : d.size ≤ 9223372036854775807) (hd : ∀ c ∈ d.data.toList, isDig c) (hr : numT d.data.toList true = (x, b)) (w : World) :
  Calls Tryz.prog 165 #[.string d, .bool true] w fun e w' => e = .returned (.tuple #[.int .i64 x, .bool b]) ∧ w = w' := by
 have HD := Hh hd
 have HR := Hh hr
 clear hd hr
 go_enter Tryz.func165, Tryz.ntmps165
 go_wp2_with fail
 go_loopg [7, 15] d.size (fun gk f i wr => ∃ (k far : Nat), k + gk = d.size ∧ i = .int .i64 (k : Int) ∧ f = .int .u64 (far : Int) ∧ Hid (far = val (d.data.toList.take k) ∧ far ≤ 9223372036854775808 ∧ w = wr))
 case atStart => exact ⟨0, 0, by omega, rfl, rfl, by simp [val], by omega, rfl⟩
 case round =>
  obtain ⟨k, far, hk, rfl, rfl, HH⟩ := hrel
  have HF := Hh HH.out.1
  have HM := Hh HH.out.2.1
  obtain rfl := HH.out.2.2
  clear HH
  by_cases hlt : k < d.size
  ·have hmem : d[k] ∈ d.data.toList := List.getElem_mem (by rw [← size_list]; exact hlt : k < d.data.toList.length)
   have hdk := HD.out _ hmem
   have h1 := hdk.1
   have h2 := hdk.2
   have h1' : (48 : Int) ≤ (d[k].toNat : Int) := by omega
   have h2' : (d[k].toNat : Int) ≤ 57 := by omega
   have hst : val (d.data.toList.take (k + 1)) = 10 * far + (d[k].toNat - 48) := by
    rw [val_step _ _ (by rw [← size_list]; exact hlt), HF.out]; rfl
   by_cases hto : 10 * far + (d[k].toNat - 48) ≤ 9223372036854775808
   ·have hf : (far : Int) ≤ 922337203685477580 := by omega
    have hq : decide ((9223372036854775808 - ((d[k].toNat : Int) - 48)) / 10 < (far : Int)) = false := by rw [decide_eq_false_iff_not]; omega
    have HS := Hh hst
    have HT := Hh hto
    clear hst hto hmem hdk h1 h2
    go_wp2_with fail
    go_roundg (gk - 1)
    case measure => omega
    case rel => exact ⟨k + 1, 10 * far + (d[k].toNat - 48), by omega, by go_num, by congr 1; omega, HS.out.symm, HT.out, rfl⟩
   ·have hq : decide ((9223372036854775808 - ((d[k].toNat : Int) - 48)) / 10 < (far : Int)) = true := by rw [decide_eq_true_iff]; omega
    have hfm := HM.out
    have hf : (far : Int) ≤ 9223372036854775808 := by omega
    have hr : ((0 : Int), false) = (x, b) := by
     rw [← HR.out, numT, if_neg]
     have := val_take d.data.toList (k + 1)
     rw [hst] at this
     simp only [top, if_true]; omega
    have HE := Hh hr
    clear hst hto hmem hdk h1 h2 hfm hr
    go_wp2_with fail
    go_ret2
    exact ⟨ret_num HE.out, rfl⟩
  ·obtain rfl : k = d.size := by omega
   have hval : far = val d.data.toList := by rw [HF.out, List.take_of_length_le (by rw [← size_list]; omega)]
   have hx : IntKind.i64.wrap (IntKind.u64.wrap (-(far : Int))) = -(far : Int) := back_neg far HM.out
   have hr : (-(far : Int), true) = (x, b) := by
    rw [← HR.out, numT, ← hval, if_pos (show far ≤ top true from HM.out)]; rfl
   have HE := Hh hr
   clear hval hr
   go_wp2_with fail
   go_ret2
   exact ⟨ret_num HE.out, rfl⟩
theorem number_v (d : ByteArray) (m : Bool) (x : Int) (b : Bool) (hs : d.size ≤ 9223372036854775807) (hd : ∀ c ∈ d.data.toList, isDig c) (hr : numT d.data.toList m = (x, b)) (w : World) :
  Calls Tryz.prog 165 #[.string d, .bool m] w fun e w' => e = .returned (.tuple #[.int .i64 x, .bool b]) ∧ w = w' := by
 cases m
 ·exact number_false d x b hs hd hr w
 ·exact number_true d x b hs hd hr w
theorem behind_z (s : ByteArray) (z : Int) (fr fin : Nat) (hz : (fr : Int) = z) (hs : s.size ≤ 9223372036854775807) (hle : fr ≤ fin) (hfin : fin ≤ s.size) (hd : ∀ i (h : i < s.size), fr ≤ i → i < fin → isDig s[i]) (hst : ∀ h : fin < s.size, ¬ isDig s[fin]) (w : World) :
  Calls Tryz.prog 163 #[.string s, .int .i64 z] w fun e w' => e = .returned (.int .i64 (fin : Int)) ∧ w = w' := by
 subst hz; exact behind_v s fr fin hs hle hfin hd hst w
def E3 (t : Int × Int × Int) : Ending := .returned (.tuple #[.int .i64 t.1, .int .i64 t.2.1, .int .i64 t.2.2])
theorem ext_size (s : ByteArray) (fr fin : Nat) (hs : s.size ≤ 9223372036854775807) : (s.extract fr fin).size ≤ 9223372036854775807 := by
 rw [ByteArray.size_extract]; omega
theorem slice_run (s : ByteArray) (a fin : Nat) (h1 : a + 1 ≤ fin) (h2 : fin ≤ s.size) (W : World) :
  (Instr.slice 9 (.string s) (some (.int .i64 ((a : Int) + 1))) (some (.int .i64 (fin : Int))) none).run Tryz.prog W = .ok (.string (s.extract (a + 1) fin)) W := by
 rw [run_slice_string W 9 s .i64 .i64 _ _ Tryz.underlying9 (by omega) (by omega) (by omega)]
 rw [show ((a : Int) + 1).toNat = a + 1 by omega, show ((fin : Int)).toNat = fin by omega]
set_option maxHeartbeats 400000 in
theorem scan_true_bad (s : ByteArray) (a fin : Nat) (hs : s.size ≤ 9223372036854775807) (h : Scn s a true (a + 1) fin) (hw : ¬ well (dgs s (a + 1) fin) true) (w : World) :
  Calls Tryz.prog 150 #[.string s, .int .i64 (a : Int)] w fun e w' => e = E3 (0, 0, 12) ∧ w = w' := by
 have hle := h.hle
 have hfin := h.hfin
 have HW := Hh hw
 have HH := Hh h
 obtain ⟨hlt, h45⟩ := h.hy rfl
 have h45' : ((s[a].toNat : Int) == 45) = true := by rw [beq_iff_eq]; omega
 have hsl := slice_run s a fin hle hfin
 have has : (a : Int) ≤ (s.size : Int) := by have := h.ha; omega
 have hle' : ((a : Int) + 1) ≤ (fin : Int) := by omega
 have hfin' : (fin : Int) ≤ (s.size : Int) := by omega
 clear h hw h45
 go_enter Tryz.func150, Tryz.ntmps150
 go_wp2_with fail
 refine (behind_z s ((a : Int) + 1) (a + 1) fin (by omega) hs hle hfin HH.out.dig HH.out.stop _).mono ?_
 rintro e w' ⟨rfl, rfl⟩
 go_wp2_with fail
 refine (well_not (s.extract (a + 1) fin) true HW.out _).mono ?_
 rintro e w' ⟨rfl, rfl⟩
 go_wp2_with fail
 go_ret3
 exact ⟨rfl, rfl⟩
set_option maxHeartbeats 400000 in
theorem scan_true_range (s : ByteArray) (a fin : Nat) (hs : s.size ≤ 9223372036854775807) (h : Scn s a true (a + 1) fin) (hw : well (dgs s (a + 1) fin) true) (hv : ¬ val (dgs s (a + 1) fin) ≤ top true) (w : World) :
  Calls Tryz.prog 150 #[.string s, .int .i64 (a : Int)] w fun e w' => e = E3 (0, 0, 2) ∧ w = w' := by
 have hnum : numT (s.extract (a + 1) fin).data.toList true = (0, false) := if_neg hv
 have HV := Hh hnum
 clear hnum hv
 have hle := h.hle
 have hfin := h.hfin
 have HW := Hh hw
 have HH := Hh h
 obtain ⟨hlt, h45⟩ := h.hy rfl
 have h45' : ((s[a].toNat : Int) == 45) = true := by rw [beq_iff_eq]; omega
 have hsl := slice_run s a fin hle hfin
 have has : (a : Int) ≤ (s.size : Int) := by have := h.ha; omega
 have hle' : ((a : Int) + 1) ≤ (fin : Int) := by omega
 have hfin' : (fin : Int) ≤ (s.size : Int) := by omega
 clear h hw h45
 go_enter Tryz.func150, Tryz.ntmps150
 go_wp2_with fail
 refine (behind_z s ((a : Int) + 1) (a + 1) fin (by omega) hs hle hfin HH.out.dig HH.out.stop _).mono ?_
 rintro e w' ⟨rfl, rfl⟩
 go_wp2_with fail
 refine (well_yes (s.extract (a + 1) fin) true HW.out _).mono ?_
 rintro e w' ⟨rfl, rfl⟩
 go_wp2_with fail
 refine (number_v (s.extract (a + 1) fin) true 0 false (ext_size s _ _ hs) HH.out.digs HV.out _).mono ?_
 rintro e w' ⟨rfl, rfl⟩
 go_wp2_with fail
 go_ret3
 exact ⟨rfl, rfl⟩
set_option maxHeartbeats 400000 in
theorem scan_true_ok (s : ByteArray) (a fin : Nat) (hs : s.size ≤ 9223372036854775807) (h : Scn s a true (a + 1) fin) (hw : well (dgs s (a + 1) fin) true) (hv : val (dgs s (a + 1) fin) ≤ top true) (w : World) :
  Calls Tryz.prog 150 #[.string s, .int .i64 (a : Int)] w fun e w' => e = E3 (sgn true (val (dgs s (a + 1) fin)), (fin : Int), 0) ∧ w = w' := by
 obtain ⟨v, hvv⟩ : ∃ v, sgn true (val (dgs s (a + 1) fin)) = v := ⟨_, rfl⟩
 rw [hvv]
 have hnum : numT (s.extract (a + 1) fin).data.toList true = (v, true) := by rw [← hvv]; exact if_pos hv
 have HV := Hh hnum
 clear hvv hnum hv
 have hle := h.hle
 have hfin := h.hfin
 have HW := Hh hw
 have HH := Hh h
 obtain ⟨hlt, h45⟩ := h.hy rfl
 have h45' : ((s[a].toNat : Int) == 45) = true := by rw [beq_iff_eq]; omega
 have hsl := slice_run s a fin hle hfin
 have has : (a : Int) ≤ (s.size : Int) := by have := h.ha; omega
 have hle' : ((a : Int) + 1) ≤ (fin : Int) := by omega
 have hfin' : (fin : Int) ≤ (s.size : Int) := by omega
 clear h hw h45
 go_enter Tryz.func150, Tryz.ntmps150
 go_wp2_with fail
 refine (behind_z s ((a : Int) + 1) (a + 1) fin (by omega) hs hle hfin HH.out.dig HH.out.stop _).mono ?_
 rintro e w' ⟨rfl, rfl⟩
 go_wp2_with fail
 refine (well_yes (s.extract (a + 1) fin) true HW.out _).mono ?_
 rintro e w' ⟨rfl, rfl⟩
 go_wp2_with fail
 refine (number_v (s.extract (a + 1) fin) true v true (ext_size s _ _ hs) HH.out.digs HV.out _).mono ?_
 rintro e w' ⟨rfl, rfl⟩
 go_wp2_with fail
 go_ret3
 exact ⟨rfl, rfl⟩
set_option maxHeartbeats 400000 in
theorem scan_false_bad (s : ByteArray) (a fin : Nat) (hs : s.size ≤ 9223372036854775807) (h : Scn s a false (a) fin) (hlt : a < s.size) (hw : ¬ well (dgs s (a) fin) false) (w : World) :
  Calls Tryz.prog 150 #[.string s, .int .i64 (a : Int)] w fun e w' => e = E3 (0, 0, 12) ∧ w = w' := by
 have hle := h.hle
 have hfin := h.hfin
 have HW := Hh hw
 have HH := Hh h
 have h45 := h.hn rfl hlt
 have h45' : ((s[a].toNat : Int) == 45) = false := by rw [Bqf]; omega
 have has : (a : Int) ≤ (s.size : Int) := by have := h.ha; omega
 have hle' : (a : Int) ≤ (fin : Int) := by omega
 have hfin' : (fin : Int) ≤ (s.size : Int) := by omega
 clear h hw h45
 go_enter Tryz.func150, Tryz.ntmps150
 go_wp2_with fail
 refine (behind_z s (a : Int) (a) fin (by omega) hs hle hfin HH.out.dig HH.out.stop _).mono ?_
 rintro e w' ⟨rfl, rfl⟩
 go_wp2_with fail
 refine (well_not (s.extract (a) fin) false HW.out _).mono ?_
 rintro e w' ⟨rfl, rfl⟩
 go_wp2_with fail
 go_ret3
 exact ⟨rfl, rfl⟩
set_option maxHeartbeats 400000 in
theorem scan_false_range (s : ByteArray) (a fin : Nat) (hs : s.size ≤ 9223372036854775807) (h : Scn s a false (a) fin) (hlt : a < s.size) (hw : well (dgs s (a) fin) false) (hv : ¬ val (dgs s (a) fin) ≤ top false) (w : World) :
  Calls Tryz.prog 150 #[.string s, .int .i64 (a : Int)] w fun e w' => e = E3 (0, 0, 2) ∧ w = w' := by
 have hnum : numT (s.extract (a) fin).data.toList false = (0, false) := if_neg hv
 have HV := Hh hnum
 clear hnum hv
 have hle := h.hle
 have hfin := h.hfin
 have HW := Hh hw
 have HH := Hh h
 have h45 := h.hn rfl hlt
 have h45' : ((s[a].toNat : Int) == 45) = false := by rw [Bqf]; omega
 have has : (a : Int) ≤ (s.size : Int) := by have := h.ha; omega
 have hle' : (a : Int) ≤ (fin : Int) := by omega
 have hfin' : (fin : Int) ≤ (s.size : Int) := by omega
 clear h hw h45
 go_enter Tryz.func150, Tryz.ntmps150
 go_wp2_with fail
 refine (behind_z s (a : Int) (a) fin (by omega) hs hle hfin HH.out.dig HH.out.stop _).mono ?_
 rintro e w' ⟨rfl, rfl⟩
 go_wp2_with fail
 refine (well_yes (s.extract (a) fin) false HW.out _).mono ?_
 rintro e w' ⟨rfl, rfl⟩
 go_wp2_with fail
 refine (number_v (s.extract (a) fin) false 0 false (ext_size s _ _ hs) HH.out.digs HV.out _).mono ?_
 rintro e w' ⟨rfl, rfl⟩
 go_wp2_with fail
 go_ret3
 exact ⟨rfl, rfl⟩
set_option maxHeartbeats 400000 in
theorem scan_false_ok (s : ByteArray) (a fin : Nat) (hs : s.size ≤ 9223372036854775807) (h : Scn s a false (a) fin) (hlt : a < s.size) (hw : well (dgs s (a) fin) false) (hv : val (dgs s (a) fin) ≤ top false) (w : World) :
  Calls Tryz.prog 150 #[.string s, .int .i64 (a : Int)] w fun e w' => e = E3 (sgn false (val (dgs s (a) fin)), (fin : Int), 0) ∧ w = w' := by
 obtain ⟨v, hvv⟩ : ∃ v, sgn false (val (dgs s (a) fin)) = v := ⟨_, rfl⟩
 rw [hvv]
 have hnum : numT (s.extract (a) fin).data.toList false = (v, true) := by rw [← hvv]; exact if_pos hv
 have HV := Hh hnum
 clear hvv hnum hv
 have hle := h.hle
 have hfin := h.hfin
 have HW := Hh hw
 have HH := Hh h
 have h45 := h.hn rfl hlt
 have h45' : ((s[a].toNat : Int) == 45) = false := by rw [Bqf]; omega
 have has : (a : Int) ≤ (s.size : Int) := by have := h.ha; omega
 have hle' : (a : Int) ≤ (fin : Int) := by omega
 have hfin' : (fin : Int) ≤ (s.size : Int) := by omega
 clear h hw h45
 go_enter Tryz.func150, Tryz.ntmps150
 go_wp2_with fail
 refine (behind_z s (a : Int) (a) fin (by omega) hs hle hfin HH.out.dig HH.out.stop _).mono ?_
 rintro e w' ⟨rfl, rfl⟩
 go_wp2_with fail
 refine (well_yes (s.extract (a) fin) false HW.out _).mono ?_
 rintro e w' ⟨rfl, rfl⟩
 go_wp2_with fail
 refine (number_v (s.extract (a) fin) false v true (ext_size s _ _ hs) HH.out.digs HV.out _).mono ?_
 rintro e w' ⟨rfl, rfl⟩
 go_wp2_with fail
 go_ret3
 exact ⟨rfl, rfl⟩
set_option maxHeartbeats 400000 in
theorem scan_end_bad (s : ByteArray) (a fin : Nat) (hs : s.size ≤ 9223372036854775807) (h : Scn s a false (a) fin) (hlt : ¬ a < s.size) (hw : ¬ well (dgs s (a) fin) false) (w : World) :
  Calls Tryz.prog 150 #[.string s, .int .i64 (a : Int)] w fun e w' => e = E3 (0, 0, 12) ∧ w = w' := by
 have hle := h.hle
 have hfin := h.hfin
 have HW := Hh hw
 have HH := Hh h
 have h45 := h.ha
 have has : (a : Int) ≤ (s.size : Int) := by have := h.ha; omega
 have hle' : (a : Int) ≤ (fin : Int) := by omega
 have hfin' : (fin : Int) ≤ (s.size : Int) := by omega
 clear h hw h45
 go_enter Tryz.func150, Tryz.ntmps150
 go_wp2_with fail
 refine (behind_z s (a : Int) (a) fin (by omega) hs hle hfin HH.out.dig HH.out.stop _).mono ?_
 rintro e w' ⟨rfl, rfl⟩
 go_wp2_with fail
 refine (well_not (s.extract (a) fin) false HW.out _).mono ?_
 rintro e w' ⟨rfl, rfl⟩
 go_wp2_with fail
 go_ret3
 exact ⟨rfl, rfl⟩
theorem scan_is (s : ByteArray) (a : Nat) (m : Bool) (fr fin : Nat) (hs : s.size ≤ 9223372036854775807) (h : Scn s a m fr fin) (w : World) :
  Calls Tryz.prog 150 #[.string s, .int .i64 (a : Int)] w fun e w' => e = E3 (scanT (dgs s fr fin) m fin) ∧ w = w' := by
 cases m
 ·obtain rfl : fr = a := h.hfr
  by_cases hlt : fr < s.size
  ·by_cases hw : well (dgs s fr fin) false
   ·by_cases hv : val (dgs s fr fin) ≤ top false
    ·rw [scanT_ok hw hv]; exact scan_false_ok s fr fin hs h hlt hw hv w
    ·rw [scanT_range hw hv]; exact scan_false_range s fr fin hs h hlt hw hv w
   ·rw [scanT_bad hw]; exact scan_false_bad s fr fin hs h hlt hw w
  ·have hw : ¬ well (dgs s fr fin) false := by
    intro hw
    apply hw.1
    apply List.eq_nil_of_length_eq_zero
    rw [dgs_len s fr fin h.hfin]
    have := h.hfin
    omega
   rw [scanT_bad hw]; exact scan_end_bad s fr fin hs h hlt hw w
 ·obtain rfl : fr = a + 1 := h.hfr
  by_cases hw : well (dgs s (a + 1) fin) true
  ·by_cases hv : val (dgs s (a + 1) fin) ≤ top true
   ·rw [scanT_ok hw hv]; exact scan_true_ok s a fin hs h hw hv w
   ·rw [scanT_range hw hv]; exact scan_true_range s a fin hs h hw hv w
  ·rw [scanT_bad hw]; exact scan_true_bad s a fin hs h hw w
theorem scan_v (s : ByteArray) (a : Nat) (m : Bool) (fr fin : Nat) (x y z : Int) (hs : s.size ≤ 9223372036854775807) (h : Scn s a m fr fin) (ht : scanT (dgs s fr fin) m fin = (x, y, z)) (w : World) :
  Calls Tryz.prog 150 #[.string s, .int .i64 (a : Int)] w fun e w' => e = .returned (.tuple #[.int .i64 x, .int .i64 y, .int .i64 z]) ∧ w = w' := by
 have k := scan_is s a m fr fin hs h w
 rw [ht] at k; exact k
def getT (n : Nat) (t : Int × Int × Int) : Int × Int := if t.2.2 = 0 then (if t.2.1 < (n : Int) then (0, 12) else (t.1, 0)) else (0, t.2.2)
def E2 (t : Int × Int) : Ending := .returned (.tuple #[.int .i64 t.1, .int .i64 t.2])
theorem get_is (s : ByteArray) (m : Bool) (fr fin : Nat) (x y z : Int) (hs : s.size ≤ 9223372036854775807) (h : Scn s 0 m fr fin) (ht : scanT (dgs s fr fin) m fin = (x, y, z)) (w : World) :
  Calls Tryz.prog 132 #[.string s] w fun e w' => e = E2 (getT s.size (x, y, z)) ∧ w = w' := by
 have HH := Hh h
 have HT := Hh ht
 clear h ht
 by_cases hz : z = 0
 ·subst hz
  by_cases hy : y < (s.size : Int)
  ·have he : E2 (getT s.size (x, y, 0)) = .returned (.tuple #[.int .i64 0, .int .i64 12]) := by unfold getT; rw [if_pos rfl, if_pos hy]; rfl
   rw [he]; clear he
   go_enter Tryz.func132, Tryz.ntmps132
   go_wp2_with fail
   refine (scan_v s 0 m fr fin x y 0 hs HH.out HT.out _).mono ?_
   rintro e w' ⟨rfl, rfl⟩
   go_wp2_with fail
   go_ret2
   exact ⟨rfl, rfl⟩
  ·have he : E2 (getT s.size (x, y, 0)) = .returned (.tuple #[.int .i64 x, .int .i64 0]) := by unfold getT; rw [if_pos rfl, if_neg hy]; rfl
   rw [he]; clear he
   have hy' : (s.size : Int) ≤ y := by omega
   go_enter Tryz.func132, Tryz.ntmps132
   go_wp2_with fail
   refine (scan_v s 0 m fr fin x y 0 hs HH.out HT.out _).mono ?_
   rintro e w' ⟨rfl, rfl⟩
   go_wp2_with fail
   go_ret2
   exact ⟨rfl, rfl⟩
 ·have he : E2 (getT s.size (x, y, z)) = .returned (.tuple #[.int .i64 0, .int .i64 z]) := by unfold getT; rw [if_neg hz]; rfl
  rw [he]; clear he
  have hz' : (z != 0) = true := by rw [bne_iff_ne]; exact hz
  have hz2 : (z == 0) = false := by rw [Bqf]; exact hz
  go_enter Tryz.func132, Tryz.ntmps132
  go_wp2_with fail
  refine (scan_v s 0 m fr fin x y z hs HH.out HT.out _).mono ?_
  rintro e w' ⟨rfl, rfl⟩
  go_wp2_with fail
  go_ret2
  exact ⟨rfl, rfl⟩
theorem get_v (s : ByteArray) (m : Bool) (fr fin : Nat) (x y z c g : Int) (hs : s.size ≤ 9223372036854775807) (h : Scn s 0 m fr fin) (ht : scanT (dgs s fr fin) m fin = (x, y, z)) (hg : getT s.size (x, y, z) = (c, g)) (w : World) :
  Calls Tryz.prog 132 #[.string s] w fun e w' => e = .returned (.tuple #[.int .i64 c, .int .i64 g]) ∧ w = w' := by
 have k := get_is s m fr fin x y z hs h ht w
 rw [hg] at k; exact k
end Go.Proofs.YtbpichjmkllfaaaGreatDoor.Deci
namespace Go.Proofs.YtbpichjmkllfaaaGreatDoor.Lex
open Go.ChangeShapes Go.WideShapes Go.RowKit
set_option linter.unusedVariables false
set_option maxRecDepth 20000
def tc (k : Int) (s : ByteArray) (n c a : Int) : Array Value := #[.int .i64 k, .string s, .int .i64 n, .int .i64 c, .int .i64 a]
def tk (k : Int) (s : ByteArray) (n c a : Int) : Value := .agg (tc k s n c a)
def t0 : Array Value := tc 0 ⟨#[]⟩ 0 0 0
def sp (s : ByteArray) (a : Int) : Value := .agg #[.string s, .int .i64 a]
theorem results_cell3 {P : Program} {fn : Func} {p u v : Tmp} {ty : TypeId} (h : fn.results = #[.cell p ty, .tmp u, .tmp v]) (tmps : Array Value) (w : World) (g : Nat) (t : TypeId) (cs : Array Value) (fr : Nat × Nat) (d : TypeDesc)
  (hp : tmps.getD p undef = .pointer (some ⟨g, 0, none⟩)) (hg : w.heap[g]? = some (.cells cs t fr))
  (hu : P.underlying ty = some d) (hd : (match d with | .struct _ | .array _ _ => true | _ => false) = true) (hi : (P.info? ty).map (·.size) = some cs.size) :
  (results fn tmps).run P w = .ok (.tuple #[.agg cs, tmps.getD u undef, tmps.getD v undef]) w := by
 have hp' : tmps[p]?.getD undef = .pointer (some ⟨g, 0, none⟩) := by simpa using hp
 simp [results, h, hp', asAddr, run_loadVar_row w g t ty cs fr d hg hu hd hi]
def five (w : World) (b : Nat) (x0 x1 x2 x3 x4 : Value) : World := ((((w.setCell ⟨b, 0, none⟩ x0).setCell ⟨b, 1, none⟩ x1).setCell ⟨b, 2, none⟩ x2).setCell ⟨b, 3, none⟩ x3).setCell ⟨b, 4, none⟩ x4
theorem five_heap {w : World} {b : Nat} {x0 x1 x2 x3 x4 y0 y1 y2 y3 y4 : Value} {T : TypeId} (h : w.heap[b]? = some (.cells #[y0, y1, y2, y3, y4] T (0, 0))) : (five w b x0 x1 x2 x3 x4).heap[b]? = some (.cells #[x0, x1, x2, x3, x4] T (0, 0)) := by
 unfold five
 simp [World.setCell, Array.getElem?_modify, h]
theorem five_below {B : Nat} {w w1 : World} {b : Nat} {x0 x1 x2 x3 x4 : Value} (h : Below B w w1) (hb : B ≤ b) : Below B w (five w1 b x0 x1 x2 x3 x4) :=
 ((((h.setCell (p := ⟨b, 0, none⟩) hb _).setCell (p := ⟨b, 1, none⟩) hb _).setCell (p := ⟨b, 2, none⟩) hb _).setCell (p := ⟨b, 3, none⟩) hb _).setCell (p := ⟨b, 4, none⟩) hb _
theorem slice_run (s : ByteArray) (a e : Nat) (h1 : a ≤ e) (h2 : e ≤ s.size) (W : World) :
  (Instr.slice 9 (.string s) (some (.int .i64 (a : Int))) (some (.int .i64 (e : Int))) none).run Tryz.prog W = .ok (.string (s.extract a e)) W := by
 rw [run_slice_string W 9 _ .i64 .i64 _ _ Tryz.underlying9 (by omega) (by omega) (by omega)]
 rfl
theorem info37 : (Tryz.prog.info? 72).map (·.size) = some 5 := by kernel_rfl
theorem fin3 {fn : Func} {p u v : Tmp} (h : fn.results = #[.cell p 72, .tmp u, .tmp v]) {act : Act} {w : World} {g : Nat} {k n c a : Int} {s : ByteArray} {R : Ending → World → Prop}
  (hp : act.tmps.getD p undef = .pointer (some ⟨g, 0, none⟩)) (hg : w.heap[g]? = some (.cells (tc k s n c a) 72 (0, 0))) (hd : act.defers = [])
  (hR : R (.returned (.tuple #[tk k s n c a, act.tmps.getD u undef, act.tmps.getD v undef])) w) : bodyPost Tryz.prog fn R .ret act w :=
 bodyPost_ret (results_cell3 h _ _ g 72 _ (0, 0) _ hp hg Tryz.underlying72 rfl info37) hd hR
theorem wrong_v (s : ByteArray) (a code : Int) (hc : ¬ code = 0) (w : World) :
  Calls Tryz.prog 130 #[sp s a, .int .i64 code] w fun e w' => e = .returned (.tuple #[.agg t0, .int .i64 0, Fau.bare code a]) ∧ Below w.heap.size w w' := by
 unfold sp
 have HC := Hh hc
 clear hc
 go_enter Tryz.func130, Tryz.ntmps130
 go_wp2_with fail
 refine (Fau.new_v code a HC.out _).mono ?_
 rintro e w1 ⟨rfl, rfl⟩
 go_wp2_with fail
 refine fin3 (fn := Tryz.f130) rfl rfl (heap_alloc2_new w _ _) rfl ?_
 exact ⟨rfl, ((Below.refl _ w).alloc (Nat.le_refl _) _).alloc (by simp) _⟩
theorem heap_alloc3_new (w : World) (A B C : Obj) : (((w.alloc A).alloc B).alloc C).heap[w.heap.size + 1 + 1]? = some C := by
 have h := heap_alloc2_new (w.alloc A) B C
 have e : (w.alloc A).heap.size = w.heap.size + 1 := by
  show (w.heap.push A).size = _
  simp
 rwa [e] at h
theorem right_v (s : ByteArray) (a e : Nat) (h1 : a ≤ e) (h2 : e ≤ s.size) (k n c a0 : Int) (s0 : ByteArray) (w : World) :
  Calls Tryz.prog 128 #[sp s a, tk k s0 n c a0, .int .i64 (e : Int)] w fun e1 w' => e1 = .returned (.tuple #[tk k (s.extract a e) n c a, .int .i64 (e : Int), .nilIface]) ∧ Below w.heap.size w w' := by
 have hs := slice_run s a e h1 h2
 unfold sp tk tc
 clear h1 h2
 go_enter Tryz.func128, Tryz.ntmps128
 go_wp2_with fail
 refine fin3 (fn := Tryz.f128) rfl rfl (heap_alloc3_new w _ _ _) rfl ?_
 exact ⟨rfl, (((Below.refl _ w).alloc (Nat.le_refl _) _).alloc (by simp) _).alloc (by simp; omega) _⟩
def spotW (w : World) (s : ByteArray) (a : Int) : World := (w.alloc (.cells #[.string s, .int .i64 a] 123)).alloc (.cells t0 72)
structure Mine (w w1 : World) (s : ByteArray) (a : Int) : Prop where
 below : Below w.heap.size w w1
 z : w1.heap[w.heap.size + 1]? = some (.cells t0 72 (0, 0))
 p : w1.heap[w.heap.size]? = some (.cells #[.string s, .int .i64 a] 123 (0, 0))
theorem mine_start (w : World) (s : ByteArray) (a : Int) : Mine w (spotW w s a) s a :=
 ⟨((Below.refl _ w).alloc (Nat.le_refl _) _).alloc (by simp) _, heap_alloc2_new w _ _, heap_alloc2_old w _ _⟩
theorem Mine.next {w w1 w2 : World} {s : ByteArray} {a : Int} (h : Mine w w1 s a) (hb : Below w1.heap.size w1 w2) : Mine w w2 s a := by
 have hlt := Fau.fresh0 h.z
 have hlp := Fau.fresh0 h.p
 exact ⟨h.below.trans (hb.mono h.below.size), (hb.block _ hlt).trans h.z, (hb.block _ hlp).trans h.p⟩
theorem Mine.cells {w w1 : World} {s : ByteArray} {a : Int} (h : Mine w w1 s a) :
  w1.cell? ⟨w.heap.size + 1, 0, none⟩ = some (.int .i64 0) ∧ w1.cell? ⟨w.heap.size + 1, 1, none⟩ = some (.string ⟨#[]⟩) ∧ w1.cell? ⟨w.heap.size + 1, 2, none⟩ = some (.int .i64 0) ∧
  w1.cell? ⟨w.heap.size + 1, 3, none⟩ = some (.int .i64 0) ∧ w1.cell? ⟨w.heap.size + 1, 4, none⟩ = some (.int .i64 0) := by
 refine ⟨?_, ?_, ?_, ?_, ?_⟩ <;> (rw [Lib.cell_of_heap h.z]; rfl)
theorem Mine.frozen {w w1 : World} {s : ByteArray} {a : Int} (h : Mine w w1 s a) : w1.frozen? ⟨w.heap.size + 1, 0, none⟩ = false ∧ w1.frozen? ⟨w.heap.size + 1, 1, none⟩ = false ∧
  w1.frozen? ⟨w.heap.size + 1, 2, none⟩ = false ∧ w1.frozen? ⟨w.heap.size + 1, 3, none⟩ = false ∧ w1.frozen? ⟨w.heap.size + 1, 4, none⟩ = false :=
 ⟨Lib.frozen_of_heap h.z 0, Lib.frozen_of_heap h.z 1, Lib.frozen_of_heap h.z 2, Lib.frozen_of_heap h.z 3, Lib.frozen_of_heap h.z 4⟩
theorem Mine.spot {w w1 : World} {s : ByteArray} {a : Int} (h : Mine w w1 s a) : w1.cell? ⟨w.heap.size, 0, none⟩ = some (.string s) ∧ w1.cell? ⟨w.heap.size, 1, none⟩ = some (.int .i64 a) := by
 refine ⟨?_, ?_⟩ <;> (rw [Lib.cell_of_heap h.p]; rfl)
theorem Mine.five {w w1 : World} {s : ByteArray} {a : Int} (h : Mine w w1 s a) (x0 x1 x2 x3 x4 : Value) : (Lex.five w1 (w.heap.size + 1) x0 x1 x2 x3 x4).heap[w.heap.size + 1]? = some (.cells #[x0, x1, x2, x3, x4] 72 (0, 0)) ∧ Below w.heap.size w (Lex.five w1 (w.heap.size + 1) x0 x1 x2 x3 x4) :=
 ⟨five_heap h.z, five_below h.below (Nat.le_succ _)⟩
theorem sign_v (s : ByteArray) (a e : Nat) (h : a < s.size) (hs : s.size ≤ 100000) (hae : a + 1 = e) (w : World) :
  Calls Tryz.prog 96 #[sp s a] w fun e1 w' => e1 = .returned (.tuple #[tk 7 (s.extract a e) 0 0 a, .int .i64 (e : Int), .nilIface]) ∧ Below w.heap.size w w' := by
 have hr := right_v s a e (by omega) (by omega) 7 0 0 0 ⟨#[]⟩
 have M0 := Hh (mine_start w s a)
 unfold sp at hr ⊢
 have he : (a : Int) + 1 = (e : Int) := by omega
 have HR := Hh hr
 clear hr hae
 go_enter Tryz.func96, Tryz.ntmps96
 go_wp2_with fail
 refine (HR.out _).mono ?_
 rintro e w1 ⟨rfl, hb⟩
 have M1 := Hh (M0.out.next hb)
 obtain ⟨z0, z1, z2, z3, z4⟩ := M1.out.cells
 obtain ⟨f0, f1, f2, f3, f4⟩ := M1.out.frozen
 clear hb
 unfold tk tc
 go_wp2_with fail
 refine fin3 (fn := Tryz.f96) rfl rfl (M1.out.five _ _ _ _ _).1 rfl ?_
 exact ⟨rfl, (M1.out.five _ _ _ _ _).2⟩
end Go.Proofs.YtbpichjmkllfaaaGreatDoor.Lex
