/- Packed texts of one proof. Conditions: none. -/
import Derived.Test.YtbpichjmkllfaaaGreatDoorPq11
import Derived.BigRegion
namespace Go.Proofs.YtbpichjmkllfaaaGreatDoor.Lex
open Go.ChangeShapes Go.WideShapes Go.RowKit
set_option linter.unusedVariables false
set_option maxRecDepth 20000
def low (c : UInt8) : Nat := if 65 ≤ c.toNat ∧ c.toNat ≤ 70 then c.toNat + 32 else c.toNat
theorem dig_found (c : UInt8) : ∀ i, i < 16 → (Quo.hexd i).toNat = low c → Quo.dig c = i := by
 refine Quo.all_bytes (fun c => ∀ i, i < 16 → (Quo.hexd i).toNat = low c → Quo.dig c = i) ?_ c
 decide +kernel
theorem dig_none (c : UInt8) : (∀ i, i < 16 → (Quo.hexd i).toNat ≠ low c) → Quo.dig c = 99 := by
 refine Quo.all_bytes (fun c => (∀ i, i < 16 → (Quo.hexd i).toNat ≠ low c) → Quo.dig c = 99) ?_ c
 decide +kernel
theorem str_run (s : ByteArray) (k : Nat) (hk : k < s.size) (W : World) : (Instr.index 9 (.string s) (.int .i64 (k : Int))).run Tryz.prog W = .ok (.int .u8 (s[k].toNat : Int)) W := by
 rw [run_index_string W 9 _ .i64 _ Tryz.underlying9, dif_pos (by omega)]
 rfl
theorem tabI : ∀ k : Nat, (hk : k < 16) → (⟨#[48, 49, 50, 51, 52, 53, 54, 55, 56, 57, 97, 98, 99, 100, 101, 102]⟩ : ByteArray)[k] = Quo.hexd k := by decide +kernel
theorem tab_run (k : Nat) (hk : k < 16) (W : World) :
  (Instr.index 9 (.string ⟨#[48, 49, 50, 51, 52, 53, 54, 55, 56, 57, 97, 98, 99, 100, 101, 102]⟩) (.int .i64 (k : Int))).run Tryz.prog W = .ok (.int .u8 ((Quo.hexd k).toNat : Int)) W := by
 rw [← tabI k hk]; exact str_run ⟨#[48, 49, 50, 51, 52, 53, 54, 55, 56, 57, 97, 98, 99, 100, 101, 102]⟩ k hk W
set_option maxHeartbeats 1000000 in
theorem hex_up (c : UInt8) (z : Int) (hz : (Quo.dig c : Int) = z) (x : Nat) (hx : low c = x) (h1 : 65 ≤ c.toNat) (h2 : c.toNat ≤ 70) (w : World) : Calls Tryz.prog 71 #[.int .u8 (c.toNat : Int)] w fun e w' => e = .returned (.int .i64 z) ∧ w = w' := by
 have HZ := Hh (Ai hz hx)
 have e1 : (c.toNat : Int) + 32 = (x : Int) := by unfold low at hx; rw [if_pos ⟨h1, h2⟩] at hx; omega
 have d1 : decide ((65 : Int) ≤ (c.toNat : Int)) = true := by rw [decide_eq_true_iff]; omega
 have d2 : decide ((c.toNat : Int) ≤ (70 : Int)) = true := by rw [decide_eq_true_iff]; omega
 have hxb : x ≤ 102 := by omega
 clear hz hx
 go_enter Tryz.func71, Tryz.ntmps71
 go_wp2_with fail
 clear d1 d2 e1
 go_loopg [4] 16 (fun gk u wr => ∃ i : Nat, i ≤ 16 ∧ u = .int .i64 (i : Int) ∧ Hid (gk = 16 - i ∧ (∀ j, j < i → (Quo.hexd j).toNat ≠ x) ∧ w = wr))
 case atStart => exact ⟨0, by omega, rfl, rfl, (fun j h => absurd h (Nat.not_lt_zero _)), rfl⟩
 case round =>
  obtain ⟨i, hi, rfl, HH⟩ := hrel
  by_cases hl : i < 16
  ·have hl' : (i : Int) < 16 := by omega
   have ht := tab_run i hl
   obtain ⟨y, hy⟩ : ∃ y, (Quo.hexd i).toNat = y := ⟨_, rfl⟩
   rw [hy] at ht
   have HY := Hh hy
   clear hy
   by_cases he : y = x
   ·have c1 : ((y : Int) == (x : Int)) = true := by rw [beq_iff_eq]; omega
    have HE := Hh he
    clear he
    go_wp2_with fail
    go_ret
    refine ⟨Nam.ret_i ?_, HH.out.2.2⟩
    rw [← HZ.out.1, dig_found c i hl (by rw [HY.out, HE.out, HZ.out.2])]
   ·have c1 : ((y : Int) == (x : Int)) = false := by rw [Bqf]; omega
    have HE := Hh he
    clear he
    go_wp2_with fail
    go_roundg (16 - (i + 1))
    case measure => have := HH.out.1; omega
    case rel =>
     refine ⟨i + 1, by omega, by go_num, rfl, fun j hj => ?_, HH.out.2.2⟩
     by_cases e : j = i
     ·subst e; rw [HY.out]; exact HE.out
     ·exact HH.out.2.1 j (by omega)
  ·obtain rfl : i = 16 := by omega
   go_wp2_with fail
   go_ret
   refine ⟨Nam.ret_i ?_, HH.out.2.2⟩
   rw [← HZ.out.1, dig_none c (by rw [HZ.out.2]; exact HH.out.2.1)]; rfl
set_option maxHeartbeats 1000000 in
theorem hex_low (c : UInt8) (z : Int) (hz : (Quo.dig c : Int) = z) (x : Nat) (hx : low c = x) (h : ¬ (65 ≤ c.toNat ∧ c.toNat ≤ 70)) (w : World) : Calls Tryz.prog 71 #[.int .u8 (c.toNat : Int)] w fun e w' => e = .returned (.int .i64 z) ∧ w = w' := by
 have HZ := Hh (Ai hz hx)
 obtain rfl : c.toNat = x := by unfold low at hx; rw [if_neg h] at hx; exact hx
 clear hz hx
 by_cases hge : 65 ≤ c.toNat
 ·have d1 : decide ((65 : Int) ≤ (c.toNat : Int)) = true := by rw [decide_eq_true_iff]; omega
  have d2 : decide ((c.toNat : Int) ≤ (70 : Int)) = false := by rw [decide_eq_false_iff_not]; omega
  go_enter Tryz.func71, Tryz.ntmps71
  go_wp2_with fail
  clear d1 d2
  go_loopg [4] 16 (fun gk u wr => ∃ i : Nat, i ≤ 16 ∧ u = .int .i64 (i : Int) ∧ Hid (gk = 16 - i ∧ (∀ j, j < i → (Quo.hexd j).toNat ≠ c.toNat) ∧ w = wr))
  case atStart => exact ⟨0, by omega, rfl, rfl, (fun j h => absurd h (Nat.not_lt_zero _)), rfl⟩
  case round =>
   obtain ⟨i, hi, rfl, HH⟩ := hrel
   by_cases hl : i < 16
   ·have hl' : (i : Int) < 16 := by omega
    have ht := tab_run i hl
    obtain ⟨y, hy⟩ : ∃ y, (Quo.hexd i).toNat = y := ⟨_, rfl⟩
    rw [hy] at ht
    have HY := Hh hy
    clear hy
    by_cases he : y = c.toNat
    ·have c1 : ((y : Int) == (c.toNat : Int)) = true := by rw [beq_iff_eq]; omega
     have HE := Hh he
     clear he
     go_wp2_with fail
     go_ret
     refine ⟨Nam.ret_i ?_, HH.out.2.2⟩
     rw [← HZ.out.1, dig_found c i hl (by rw [HY.out, HE.out, HZ.out.2])]
    ·have c1 : ((y : Int) == (c.toNat : Int)) = false := by rw [Bqf]; omega
     have HE := Hh he
     clear he
     go_wp2_with fail
     go_roundg (16 - (i + 1))
     case measure => have := HH.out.1; omega
     case rel =>
      refine ⟨i + 1, by omega, by go_num, rfl, fun j hj => ?_, HH.out.2.2⟩
      by_cases e : j = i
      ·subst e; rw [HY.out]; exact HE.out
      ·exact HH.out.2.1 j (by omega)
   ·obtain rfl : i = 16 := by omega
    go_wp2_with fail
    go_ret
    refine ⟨Nam.ret_i ?_, HH.out.2.2⟩
    rw [← HZ.out.1, dig_none c (by rw [HZ.out.2]; exact HH.out.2.1)]; rfl
 ·have d1 : decide ((65 : Int) ≤ (c.toNat : Int)) = false := by rw [decide_eq_false_iff_not]; omega
  go_enter Tryz.func71, Tryz.ntmps71
  go_wp2_with fail
  clear d1
  go_loopg [4] 16 (fun gk u wr => ∃ i : Nat, i ≤ 16 ∧ u = .int .i64 (i : Int) ∧ Hid (gk = 16 - i ∧ (∀ j, j < i → (Quo.hexd j).toNat ≠ c.toNat) ∧ w = wr))
  case atStart => exact ⟨0, by omega, rfl, rfl, (fun j h => absurd h (Nat.not_lt_zero _)), rfl⟩
  case round =>
   obtain ⟨i, hi, rfl, HH⟩ := hrel
   by_cases hl : i < 16
   ·have hl' : (i : Int) < 16 := by omega
    have ht := tab_run i hl
    obtain ⟨y, hy⟩ : ∃ y, (Quo.hexd i).toNat = y := ⟨_, rfl⟩
    rw [hy] at ht
    have HY := Hh hy
    clear hy
    by_cases he : y = c.toNat
    ·have c1 : ((y : Int) == (c.toNat : Int)) = true := by rw [beq_iff_eq]; omega
     have HE := Hh he
     clear he
     go_wp2_with fail
     go_ret
     refine ⟨Nam.ret_i ?_, HH.out.2.2⟩
     rw [← HZ.out.1, dig_found c i hl (by rw [HY.out, HE.out, HZ.out.2])]
    ·have c1 : ((y : Int) == (c.toNat : Int)) = false := by rw [Bqf]; omega
     have HE := Hh he
     clear he
     go_wp2_with fail
     go_roundg (16 - (i + 1))
     case measure => have := HH.out.1; omega
     case rel =>
      refine ⟨i + 1, by omega, by go_num, rfl, fun j hj => ?_, HH.out.2.2⟩
      by_cases e : j = i
      ·subst e; rw [HY.out]; exact HE.out
      ·exact HH.out.2.1 j (by omega)
   ·obtain rfl : i = 16 := by omega
    go_wp2_with fail
    go_ret
    refine ⟨Nam.ret_i ?_, HH.out.2.2⟩
    rw [← HZ.out.1, dig_none c (by rw [HZ.out.2]; exact HH.out.2.1)]; rfl
theorem hex_v (c : UInt8) (z : Int) (hz : (Quo.dig c : Int) = z) (w : World) : Calls Tryz.prog 71 #[.int .u8 (c.toNat : Int)] w fun e w' => e = .returned (.int .i64 z) ∧ w = w' := by
 by_cases h : 65 ≤ c.toNat ∧ c.toNat ≤ 70
 ·exact hex_up c z hz _ rfl h.1 h.2 w
 ·exact hex_low c z hz _ rfl h w
set_option maxHeartbeats 1000000 in
theorem ddigits_v (s : ByteArray) (a n : Nat) (ha : a ≤ s.size) (hs : s.size ≤ 100000) (he : (dg (s.data.toList.drop a)).length = n) (w : World) :
  Calls Tryz.prog 73 #[.string s, .int .i64 (a : Int)] w fun e1 w' => e1 = .returned (.int .i64 (n : Int)) ∧ w = w' := by
 have HE := Hh he
 clear he
 go_enter Tryz.func73, Tryz.ntmps73
 go_wp2_with fail
 go_loopg [5] (s.size - a) (fun gk x wr => ∃ (k p : Nat), a + k = p ∧ p ≤ s.size ∧ x = .int .i64 (k : Int) ∧ Hid (gk = s.size - p ∧ k + (dg (s.data.toList.drop p)).length = n ∧ w = wr))
 case atStart => exact ⟨0, a, by omega, ha, rfl, rfl, by have := HE.out; omega, rfl⟩
 case round =>
  obtain ⟨k, p, hp, hps, rfl, HH⟩ := hrel
  have e1 : (a : Int) + (k : Int) = (p : Int) := by omega
  by_cases hl : p < s.size
  ·have hl' : (p : Int) < (s.size : Int) := by omega
   cases hd : dgt s[p]
   ·have HD := Hh hd
    by_cases h48 : 48 ≤ s[p].toNat
    ·have d1 : decide ((48 : Int) ≤ (s[p].toNat : Int)) = true := by rw [decide_eq_true_iff]; omega
     have d2 : decide ((s[p].toNat : Int) ≤ (57 : Int)) = false := by
      rw [decide_eq_false_iff_not]; unfold dgt at hd; simp at hd; omega
     clear hd h48
     go_wp2_with fail
     go_ret
     refine ⟨Nam.ret_i ?_, HH.out.2.2⟩
     have := HH.out.2.1
     rw [dg_stop _ p (by rw [Nam.len_list]; exact hl) (by rw [Nam.at_list s p hl]; exact HD.out)] at this
     simp at this; omega
    ·have d1 : decide ((48 : Int) ≤ (s[p].toNat : Int)) = false := by rw [decide_eq_false_iff_not]; omega
     clear hd h48
     go_wp2_with fail
     go_ret
     refine ⟨Nam.ret_i ?_, HH.out.2.2⟩
     have := HH.out.2.1
     rw [dg_stop _ p (by rw [Nam.len_list]; exact hl) (by rw [Nam.at_list s p hl]; exact HD.out)] at this
     simp at this; omega
   ·have HD := Hh hd
    have hdd := isDig_of hd
    have d1 : decide ((48 : Int) ≤ (s[p].toNat : Int)) = true := by rw [decide_eq_true_iff]; have := hdd.1; omega
    have d2 : decide ((s[p].toNat : Int) ≤ (57 : Int)) = true := by rw [decide_eq_true_iff]; have := hdd.2; omega
    clear hd hdd
    go_wp2_with fail
    go_roundg (s.size - (p + 1))
    case measure => have := HH.out.1; omega
    case rel =>
     refine ⟨k + 1, p + 1, by omega, by omega, by go_num, rfl, ?_, HH.out.2.2⟩
     have := HH.out.2.1
     rw [dg_step _ p (by rw [Nam.len_list]; exact hl) (by rw [Nam.at_list s p hl]; exact HD.out)] at this
     omega
  ·obtain rfl : p = s.size := by omega
   clear hps
   go_wp2_with fail
   go_ret
   refine ⟨Nam.ret_i ?_, HH.out.2.2⟩
   have := HH.out.2.1
   rw [dg_end _ _ (by rw [Nam.len_list]; exact Nat.le_refl _)] at this
   simp at this; omega
def Vals (d : ByteArray) (u : Nat) (cd : Int) : Prop := ∀ w : World, Calls Tryz.prog 74 #[.string d] w fun e w' => e = .returned (.tuple #[.int .u64 (u : Int), .int .i64 cd]) ∧ w = w'
theorem val_empty (d : ByteArray) (h : d.size = 0) : Vals d 0 12 := by
 intro w
 obtain rfl : d = ⟨#[]⟩ := by
  cases d with
  | mk a => have : a = #[] := Array.eq_empty_of_size_eq_zero h; rw [this]
 clear h
 go_enter Tryz.func74, Tryz.ntmps74
 go_wp2_with fail
 go_ret2
 exact ⟨rfl, rfl⟩
theorem ne_empty {d : ByteArray} (h : 0 < d.size) : ¬ d.toList = [] := by
 rw [Lib.toList_data]
 intro e
 have := congrArg List.length e
 rw [Nam.len_list, List.length_nil] at this
 omega
theorem val_nought (d : ByteArray) (h : 1 < d.size) (hs : d.size ≤ 100000) (h0 : d[0].toNat = 48) : Vals d 0 12 := by
 intro w
 have c1 : ((d[0].toNat : Int) == 48) = true := by rw [beq_iff_eq]; omega
 have h1 : (1 : Int) < (d.size : Int) := by omega
 have h2 : 0 < d.size := by omega
 have h3 : (0 : Int) < (d.size : Int) := by omega
 have h4 := ne_empty h2
 have h5 : (d.toList == []) = false := by rw [Bqf]; exact h4
 clear h0
 go_enter Tryz.func74, Tryz.ntmps74
 go_wp2_with fail
 go_ret2
 exact ⟨rfl, rfl⟩
def VE (d : ByteArray) : Ending := .returned (if Deci.val d.data.toList ≤ 9223372036854775808 then .tuple #[.int .u64 (Deci.val d.data.toList : Int), .int .i64 0] else .tuple #[.int .u64 0, .int .i64 2])
theorem quo_is (u d : Nat) (hd : d ≤ 9) : ((9223372036854775808 - (d : Int)).tdiv 10 < (u : Int)) ↔ 9223372036854775808 < 10 * u + d := by
 rw [Int.tdiv_eq_ediv_of_nonneg (by omega)]; omega
set_option maxHeartbeats 2000000 in
theorem val_main (d : ByteArray) (h : 0 < d.size) (hs : d.size ≤ 100000) (hn : d[0].toNat = 48 → d.size = 1) (hd : ∀ c ∈ d.data.toList, dgt c = true) (w : World) :
  Calls Tryz.prog 74 #[.string d] w fun e w' => e = VE d ∧ w = w' := by
 have h3 : (0 : Int) < (d.size : Int) := by omega
 have h5 : (d.toList == []) = false := by rw [Bqf]; exact ne_empty h
 have h4 := ne_empty h
 have HD := Hh hd
 clear hd
 have main : ∀ (c1 : ((d[0].toNat : Int) == 48) = false ∨ (((d[0].toNat : Int) == 48) = true ∧ decide ((1 : Int) < (d.size : Int)) = false)),
   Calls Tryz.prog 74 #[.string d] w fun e w' => e = VE d ∧ w = w' := by
  rintro (c1 | ⟨c1, c2⟩)
  ·go_enter Tryz.func74, Tryz.ntmps74
   go_wp2_with fail
   clear c1 h5 h4
   go_loopg [4, 5] d.size (fun gk u x wr => ∃ (i v : Nat), i ≤ d.size ∧ v ≤ 9223372036854775808 ∧ u = .int .u64 (v : Int) ∧ x = .int .i64 (i : Int) ∧ Hid (gk = d.size - i ∧ Deci.val (d.data.toList.take i) = v ∧ w = wr))
   case atStart => exact ⟨0, 0, Nat.zero_le _, by omega, rfl, rfl, rfl, rfl, rfl⟩
   case round =>
    obtain ⟨i, v, hi, hv, rfl, rfl, HH⟩ := hrel
    by_cases hl : i < d.size
    ·have hl' : (i : Int) < (d.size : Int) := by omega
     obtain ⟨b, hb⟩ : ∃ b, d[i].toNat - 48 = b := ⟨_, rfl⟩
     have hdd : Deci.isDig d[i] := isDig_of (by
      have := HD.out (d.data.toList[i]'(by rw [Nam.len_list]; exact hl)) (List.getElem_mem _)
      rw [Nam.at_list d i hl] at this
      exact this)
     have h48 := hdd.1
     have h57 := hdd.2
     have hb9 : b ≤ 9 := by omega
     have e1 : (d[i].toNat : Int) - 48 = (b : Int) := by omega
     have hst : Deci.val (d.data.toList.take (i + 1)) = 10 * v + b := by
      rw [Deci.val_step _ i (by rw [Nam.len_list]; exact hl), HH.out.2.1, Nam.at_list d i hl, hb]
     have HS := Hh hst
     have hq := quo_is v b hb9
     clear hdd hb hst
     by_cases hgt : 9223372036854775808 < 10 * v + b
     ·have q1 : (9223372036854775808 - (b : Int)).tdiv 10 < (v : Int) := hq.2 hgt
      have q2 : decide ((9223372036854775808 - (b : Int)).tdiv 10 < (v : Int)) = true := by rw [decide_eq_true_iff]; exact q1
      have q3 : (9223372036854775808 - (b : Int)) / 10 < (v : Int) := by rw [← Int.tdiv_eq_ediv_of_nonneg (by omega)]; exact q1
      have HG := Hh hgt
      clear hq hgt
      go_wp2_with fail
      go_ret2
      refine ⟨?_, HH.out.2.2⟩
      have h1 := Deci.val_take d.data.toList (i + 1)
      have h2 := HS.out
      have h3 := HG.out
      unfold VE; rw [if_neg (by omega)]; rfl
     ·have q1 : ¬ (9223372036854775808 - (b : Int)).tdiv 10 < (v : Int) := fun k => hgt (hq.1 k)
      have q2 : decide ((9223372036854775808 - (b : Int)).tdiv 10 < (v : Int)) = false := by rw [decide_eq_false_iff_not]; exact q1
      have q3 : (v : Int) ≤ (9223372036854775808 - (b : Int)) / 10 := by rw [Int.tdiv_eq_ediv_of_nonneg (by omega)] at q1; omega
      have q4 : decide ((9223372036854775808 - (b : Int)) / 10 < (v : Int)) = false := by rw [decide_eq_false_iff_not]; omega
      have HG := Hh hgt
      clear hq hgt q1
      obtain ⟨v2, hv2⟩ : ∃ v2, 10 * v + b = v2 := ⟨_, rfl⟩
      have HV := Hh hv2
      clear hv2
      go_wp2_with fail
      go_roundg (d.size - (i + 1))
      case measure => have := HH.out.1; omega
      case rel =>
       refine ⟨i + 1, v2, by omega, by have := HV.out; have := HG.out; omega, ?_, by go_num, rfl, by rw [HS.out, HV.out], HH.out.2.2⟩
       have := HV.out
       have := HG.out
       first
        | (congr 1; omega)
        | (refine congrArg (Value.int .u64) ?_; rw [IntWalk.u64_in _ (by omega)]; omega)
    ·obtain rfl : i = d.size := by omega
     have hval : Deci.val d.data.toList = v := by rw [← HH.out.2.1, List.take_of_length_le (by rw [Nam.len_list]; exact Nat.le_refl _)]
     have HV := Hh hval
     clear hi hval
     go_wp2_with fail
     go_ret2
     refine ⟨?_, HH.out.2.2⟩
     unfold VE; rw [HV.out, if_pos hv]; rfl
  ·go_enter Tryz.func74, Tryz.ntmps74
   go_wp2_with fail
   clear c1 c2 h5 h4
   go_loopg [4, 5] d.size (fun gk u x wr => ∃ (i v : Nat), i ≤ d.size ∧ v ≤ 9223372036854775808 ∧ u = .int .u64 (v : Int) ∧ x = .int .i64 (i : Int) ∧ Hid (gk = d.size - i ∧ Deci.val (d.data.toList.take i) = v ∧ w = wr))
   case atStart => exact ⟨0, 0, Nat.zero_le _, by omega, rfl, rfl, rfl, rfl, rfl⟩
   case round =>
    obtain ⟨i, v, hi, hv, rfl, rfl, HH⟩ := hrel
    by_cases hl : i < d.size
    ·have hl' : (i : Int) < (d.size : Int) := by omega
     obtain ⟨b, hb⟩ : ∃ b, d[i].toNat - 48 = b := ⟨_, rfl⟩
     have hdd : Deci.isDig d[i] := isDig_of (by
      have := HD.out (d.data.toList[i]'(by rw [Nam.len_list]; exact hl)) (List.getElem_mem _)
      rw [Nam.at_list d i hl] at this
      exact this)
     have h48 := hdd.1
     have h57 := hdd.2
     have hb9 : b ≤ 9 := by omega
     have e1 : (d[i].toNat : Int) - 48 = (b : Int) := by omega
     have hst : Deci.val (d.data.toList.take (i + 1)) = 10 * v + b := by
      rw [Deci.val_step _ i (by rw [Nam.len_list]; exact hl), HH.out.2.1, Nam.at_list d i hl, hb]
     have HS := Hh hst
     have hq := quo_is v b hb9
     clear hdd hb hst
     by_cases hgt : 9223372036854775808 < 10 * v + b
     ·have q1 : (9223372036854775808 - (b : Int)).tdiv 10 < (v : Int) := hq.2 hgt
      have q2 : decide ((9223372036854775808 - (b : Int)).tdiv 10 < (v : Int)) = true := by rw [decide_eq_true_iff]; exact q1
      have q3 : (9223372036854775808 - (b : Int)) / 10 < (v : Int) := by rw [← Int.tdiv_eq_ediv_of_nonneg (by omega)]; exact q1
      have HG := Hh hgt
      clear hq hgt
      go_wp2_with fail
      go_ret2
      refine ⟨?_, HH.out.2.2⟩
      have h1 := Deci.val_take d.data.toList (i + 1)
      have h2 := HS.out
      have h3 := HG.out
      unfold VE; rw [if_neg (by omega)]; rfl
     ·have q1 : ¬ (9223372036854775808 - (b : Int)).tdiv 10 < (v : Int) := fun k => hgt (hq.1 k)
      have q2 : decide ((9223372036854775808 - (b : Int)).tdiv 10 < (v : Int)) = false := by rw [decide_eq_false_iff_not]; exact q1
      have q3 : (v : Int) ≤ (9223372036854775808 - (b : Int)) / 10 := by rw [Int.tdiv_eq_ediv_of_nonneg (by omega)] at q1; omega
      have q4 : decide ((9223372036854775808 - (b : Int)) / 10 < (v : Int)) = false := by rw [decide_eq_false_iff_not]; omega
      have HG := Hh hgt
      clear hq hgt q1
      obtain ⟨v2, hv2⟩ : ∃ v2, 10 * v + b = v2 := ⟨_, rfl⟩
      have HV := Hh hv2
      clear hv2
      go_wp2_with fail
      go_roundg (d.size - (i + 1))
      case measure => have := HH.out.1; omega
      case rel =>
       refine ⟨i + 1, v2, by omega, by have := HV.out; have := HG.out; omega, ?_, by go_num, rfl, by rw [HS.out, HV.out], HH.out.2.2⟩
       have := HV.out
       have := HG.out
       first
        | (congr 1; omega)
        | (refine congrArg (Value.int .u64) ?_; rw [IntWalk.u64_in _ (by omega)]; omega)
    ·obtain rfl : i = d.size := by omega
     have hval : Deci.val d.data.toList = v := by rw [← HH.out.2.1, List.take_of_length_le (by rw [Nam.len_list]; exact Nat.le_refl _)]
     have HV := Hh hval
     clear hi hval
     go_wp2_with fail
     go_ret2
     refine ⟨?_, HH.out.2.2⟩
     unfold VE; rw [HV.out, if_pos hv]; rfl
 by_cases h0 : d[0].toNat = 48
 ·exact main (.inr ⟨by rw [beq_iff_eq]; omega, by rw [decide_eq_false_iff_not]; have := hn h0; omega⟩)
 ·exact main (.inl (by rw [Bqf]; omega))
theorem value_v (d : ByteArray) (hs : d.size ≤ 100000) (hd : ∀ c ∈ d.data.toList, dgt c = true) :
  (vcode 9223372036854775808 d.data.toList = 0 → Vals d (Deci.val d.data.toList) 0) ∧ (∀ cd, vcode 9223372036854775808 d.data.toList = cd → cd ≠ 0 → Vals d 0 cd) := by
 by_cases h0 : 0 < d.size
 ·have hhead : d.data.toList.head? = some d[0] := by
   have := Quo.drop_cons d 0 h0
   rw [List.drop_zero] at this
   rw [this]; rfl
  by_cases h1 : d[0].toNat = 48 ∧ 1 < d.size
  ·have hv := val_nought d h1.2 hs h1.1
   have hc : vcode 9223372036854775808 d.data.toList = 12 := by
    unfold vcode
    rw [if_pos (.inr ⟨by rw [hhead, (u8_eq (n := 48) (by omega)).2 h1.1]; rfl, by rw [Nam.len_list]; exact h1.2⟩)]
   exact ⟨(fun h => by rw [hc] at h; cases h), fun cd h _ => by rw [hc] at h; subst h; exact hv⟩
  ·have hm := val_main d h0 hs (fun h => by omega) hd
   rcases vcode_ways 9223372036854775808 d.data.toList with ⟨k1, k2⟩ | ⟨k1, k2, k3⟩ | ⟨k1, k2, k3⟩
   ·exfalso
    apply k1
    rw [well_iff]
    rintro (e | ⟨e1, e2⟩)
    ·rw [e] at hhead; cases hhead
    ·rw [hhead] at e1
     injection e1 with e1
     exact h1 ⟨by rw [e1]; rfl, by rw [Nam.len_list] at e2; exact e2⟩
   ·refine ⟨(fun h => by rw [k3] at h; cases h), fun cd h _ w => ?_⟩
    rw [k3] at h; subst h
    have := hm w
    unfold VE at this
    rw [if_neg (by omega)] at this
    exact this
   ·refine ⟨fun _ w => ?_, fun cd h h' => absurd (k3 ▸ h).symm h'⟩
    have := hm w
    unfold VE at this
    rw [if_pos k2] at this
    exact this
 ·have hv := val_empty d (by omega)
  have hc : vcode 9223372036854775808 d.data.toList = 12 := by
   unfold vcode
   rw [if_pos (.inl (List.eq_nil_of_length_eq_zero (by rw [Nam.len_list]; omega)))]
  exact ⟨(fun h => by rw [hc] at h; cases h), fun cd h _ => by rw [hc] at h; subst h; exact hv⟩
def oneGood (t : Value) (k : Nat) : Ending := .returned (.tuple #[t, .int .i64 (k : Int), .int .i64 0])
def OneBad (c : Int) (e : Ending) : Prop := ∃ (k : Int) (s : ByteArray) (n cl a z : Int), e = .returned (.tuple #[tk k s n cl a, .int .i64 z, .int .i64 c])
theorem two_below (w : World) (A B : Obj) : Below w.heap.size w ((w.alloc A).alloc B) := ((Below.refl _ w).alloc (Nat.le_refl _) _).alloc (by simp) _
set_option maxHeartbeats 2000000 in
theorem one_word_long (s : ByteArray) (a : Nat) (hs : s.size ≤ 100000) (ha : a < s.size) (y : Nat) (hys : y ≤ s.size) (hy : Nam.scanZ s.data.toList (a : Int) = (y : Int)) (h : a + 24 < y) (w : World) :
  Calls Tryz.prog 44 #[.string s, .int .i64 (a : Int)] w fun e1 w' => OneBad 3 e1 ∧ Below w.heap.size w w' := by
 have ha' : (a : Int) < (s.size : Int) := by omega
 have hay : a < y := by omega
 have hsl := slice_run s a y (by omega) hys
 have g1 : (a : Int) < (y : Int) := by omega
 have HY := Hh hy
 have h1 : 24 < (y : Int) - (a : Int) := by omega
 have h2 : (y : Int) - (a : Int) ≤ 100000 := by omega
 clear hy h
 go_enter Tryz.func44, Tryz.ntmps44
 go_wp2_with fail
 refine (Nam.refscan_v s (a : Int) (y : Int) (by omega) HY.out _).mono ?_
 rintro e1 w1 ⟨rfl, rfl⟩
 go_wp2_with fail
 go_region
 all_goals go_wp2_with fail
 all_goals refine fin3 (fn := Tryz.f44) rfl rfl (heap_alloc2_old w _ _) rfl ?_
 all_goals first | exact ⟨⟨_, _, _, _, _, _, rfl⟩, two_below w _ _⟩ | exact ⟨⟨_, _, _, _, _, _, rfl⟩, (two_below w _ _).drew⟩
set_option maxHeartbeats 2000000 in
theorem one_word (s : ByteArray) (a : Nat) (hs : s.size ≤ 100000) (ha : a < s.size) (y k : Nat) (hys : y ≤ s.size) (hy : Nam.scanZ s.data.toList (a : Int) = (y : Int)) (hay0 : a < y) (h : y ≤ a + 24) (hk : a + k = y) (w : World) :
  Calls Tryz.prog 44 #[.string s, .int .i64 (a : Int)] w fun e1 w' => e1 = oneGood (tk 1 (s.extract a y) 0 0 a) k ∧ Below w.heap.size w w' := by
 have ha' : (a : Int) < (s.size : Int) := by omega
 have hay : a < y := by omega
 have hsl := slice_run s a y (by omega) hys
 have g1 : (a : Int) < (y : Int) := by omega
 have HY := Hh hy
 have h1 : (y : Int) - (a : Int) = (k : Int) := by omega
 have h2 : (k : Int) ≤ 24 := by omega
 clear hy h hk
 go_enter Tryz.func44, Tryz.ntmps44
 go_wp2_with fail
 refine (Nam.refscan_v s (a : Int) (y : Int) (by omega) HY.out _).mono ?_
 rintro e1 w1 ⟨rfl, rfl⟩
 go_wp2_with fail
 go_region
 all_goals go_wp2_with fail
 all_goals refine fin3 (fn := Tryz.f44) rfl rfl (heap_alloc2_old w _ _) rfl ?_
 all_goals first | exact ⟨rfl, two_below w _ _⟩ | exact ⟨rfl, (two_below w _ _).drew⟩
theorem scan_self {s : ByteArray} {a : Nat} (ha : a < s.size) (h : Nam.letter s[a] = false) : Nam.scanZ s.data.toList (a : Int) = (a : Int) := by
 unfold Nam.scanZ
 rw [if_neg (by omega), show ((a : Int)).toNat = a by omega, Nam.scan_not _ a (by rw [Nam.len_list]; exact ha) (by rw [Nam.at_list s a ha]; exact h)]
set_option maxHeartbeats 2000000 in
theorem one_dol_end (s : ByteArray) (a : Nat) (hs : s.size ≤ 100000) (ha : a < s.size) (hlt : Nam.letter s[a] = false) (c : s[a].toNat = 36) (hp : a + 1 = s.size) (w : World) :
  Calls Tryz.prog 44 #[.string s, .int .i64 (a : Int)] w fun e1 w' => OneBad 12 e1 ∧ Below w.heap.size w w' := by
 have ha' : (a : Int) < (s.size : Int) := by omega
 have HY : Hid (Nam.scanZ s.data.toList (a : Int) = (a : Int)) := scan_self ha hlt
 have hirr : decide ((a : Int) < (a : Int)) = false := by simp
 have n37 : ((s[a].toNat : Int) == 37) = false := by rw [Bqf]; omega
 have n35 : ((s[a].toNat : Int) == 35) = false := by rw [Bqf]; omega
 have y36 : ((s[a].toNat : Int) == 36) = true := by rw [beq_iff_eq]; omega
 have ip : (a : Int) + 1 = (s.size : Int) := by omega
 clear c hlt hp
 go_enter Tryz.func44, Tryz.ntmps44
 go_wp2_with fail
 refine (Nam.refscan_v s (a : Int) (a : Int) (by omega) HY.out _).mono ?_
 rintro e1 w1 ⟨rfl, rfl⟩
 go_wp2_with fail
 all_goals refine fin3 (fn := Tryz.f44) rfl rfl (heap_alloc2_old w _ _) rfl ?_
 all_goals first | exact ⟨⟨_, _, _, _, _, _, rfl⟩, two_below w _ _⟩ | exact ⟨⟨_, _, _, _, _, _, rfl⟩, (two_below w _ _).drew⟩
set_option maxHeartbeats 2000000 in
theorem one_dol_bad (s : ByteArray) (a : Nat) (hs : s.size ≤ 100000) (ha : a < s.size) (hlt : Nam.letter s[a] = false) (c : s[a].toNat = 36) (p : Nat) (hp : a + 1 = p) (hps : p < s.size) (hd : s[p].toNat ≠ 103) (hd2 : s[p].toNat ≠ 120) (w : World) :
  Calls Tryz.prog 44 #[.string s, .int .i64 (a : Int)] w fun e1 w' => OneBad 12 e1 ∧ Below w.heap.size w w' := by
 have ha' : (a : Int) < (s.size : Int) := by omega
 have HY : Hid (Nam.scanZ s.data.toList (a : Int) = (a : Int)) := scan_self ha hlt
 have hirr : decide ((a : Int) < (a : Int)) = false := by simp
 have n37 : ((s[a].toNat : Int) == 37) = false := by rw [Bqf]; omega
 have n35 : ((s[a].toNat : Int) == 35) = false := by rw [Bqf]; omega
 have y36 : ((s[a].toNat : Int) == 36) = true := by rw [beq_iff_eq]; omega
 have ip : (a : Int) + 1 = (p : Int) := by omega
 have jp : (p : Int) < (s.size : Int) := by omega
 have kp : ((p : Int) == (s.size : Int)) = false := by rw [Bqf]; omega
 have lp : ((s[p].toNat : Int) == 103) = false := by rw [Bqf]; omega
 have lp' : ((s[p].toNat : Int) != 103) = true := by rw [bne, lp]; rfl
 have mp : ((s[p].toNat : Int) == 120) = false := by rw [Bqf]; omega
 have mp' : ((s[p].toNat : Int) != 120) = true := by rw [bne, mp]; rfl
 clear c hlt hp hd hd2
 go_enter Tryz.func44, Tryz.ntmps44
 go_wp2_with fail
 refine (Nam.refscan_v s (a : Int) (a : Int) (by omega) HY.out _).mono ?_
 rintro e1 w1 ⟨rfl, rfl⟩
 go_wp2_with fail
 all_goals refine fin3 (fn := Tryz.f44) rfl rfl (heap_alloc2_old w _ _) rfl ?_
 all_goals first | exact ⟨⟨_, _, _, _, _, _, rfl⟩, two_below w _ _⟩ | exact ⟨⟨_, _, _, _, _, _, rfl⟩, (two_below w _ _).drew⟩
end Go.Proofs.YtbpichjmkllfaaaGreatDoor.Lex
