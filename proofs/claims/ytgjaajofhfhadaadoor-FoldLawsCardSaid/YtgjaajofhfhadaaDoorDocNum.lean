/- The document's own: how many digits stand at a place, and what digits come to. -/
import Derived.Test.YtgjaajofhfhadaaDoorDocHex
namespace Go.Proofs.YtgjaajofhfhadaaDoor.Lex
open Go.ChangeShapes Go.WideShapes Go.RowKit
set_option linter.unusedVariables false
set_option maxRecDepth 20000

set_option maxHeartbeats 1000000 in
theorem ddigits_v (s : ByteArray) (a n : Nat) (ha : a ≤ s.size) (hs : s.size ≤ 100000) (he : (dg (s.data.toList.drop a)).length = n) (w : World) :
    Calls Tryd.prog 28 #[.string s, .int .i64 (a : Int)] w fun e1 w' => e1 = .returned (.int .i64 (n : Int)) ∧ w = w' := by
  have HE := Lib.hid he
  clear he
  go_enter Tryd.func28, Tryd.ntmps28
  go_wp2_with fail
  go_loopg [5] (s.size - a) (fun gk x wr => ∃ (k p : Nat), a + k = p ∧ p ≤ s.size ∧ x = .int .i64 (k : Int) ∧ Hid (gk = s.size - p ∧ k + (dg (s.data.toList.drop p)).length = n ∧ w = wr))
  case atStart => exact ⟨0, a, by omega, ha, rfl, rfl, by have := HE.out; omega, rfl⟩
  case round =>
    obtain ⟨k, p, hp, hps, rfl, HH⟩ := hrel
    have e1 : (a : Int) + (k : Int) = (p : Int) := by omega
    by_cases hl : p < s.size
    · have hl' : (p : Int) < (s.size : Int) := by omega
      cases hd : dgt s[p]
      · have HD := Lib.hid hd
        by_cases h48 : 48 ≤ s[p].toNat
        · have d1 : decide ((48 : Int) ≤ (s[p].toNat : Int)) = true := by rw [decide_eq_true_iff]; omega
          have d2 : decide ((s[p].toNat : Int) ≤ (57 : Int)) = false := by
            rw [decide_eq_false_iff_not]; unfold dgt at hd; simp at hd; omega
          clear hd h48
          go_wp2_with fail
          go_ret
          refine ⟨Nam.ret_i ?_, HH.out.2.2⟩
          have := HH.out.2.1
          rw [dg_stop _ p (by rw [Nam.len_list]; exact hl) (by rw [Nam.at_list s p hl]; exact HD.out)] at this
          simp at this; omega
        · have d1 : decide ((48 : Int) ≤ (s[p].toNat : Int)) = false := by rw [decide_eq_false_iff_not]; omega
          clear hd h48
          go_wp2_with fail
          go_ret
          refine ⟨Nam.ret_i ?_, HH.out.2.2⟩
          have := HH.out.2.1
          rw [dg_stop _ p (by rw [Nam.len_list]; exact hl) (by rw [Nam.at_list s p hl]; exact HD.out)] at this
          simp at this; omega
      · have HD := Lib.hid hd
        have hdd := isDig_of hd
        have d1 : decide ((48 : Int) ≤ (s[p].toNat : Int)) = true := by rw [decide_eq_true_iff]; have := hdd.1; omega
        have d2 : decide ((s[p].toNat : Int) ≤ (57 : Int)) = true := by rw [decide_eq_true_iff]; have := hdd.2; omega
        clear hd hdd
        go_wp2_with fail
        go_roundg (s.size - (p + 1))
        case measure => have := HH.out.1; omega
        case rel =>
          refine ⟨k + 1, p + 1, by omega, by omega, by go_num, rfl, ?_, HH.out.2.2⟩
          have := HH.out.2.1
          rw [dg_step _ p (by rw [Nam.len_list]; exact hl) (by rw [Nam.at_list s p hl]; exact HD.out)] at this
          omega
    · obtain rfl : p = s.size := by omega
      clear hps
      go_wp2_with fail
      go_ret
      refine ⟨Nam.ret_i ?_, HH.out.2.2⟩
      have := HH.out.2.1
      rw [dg_end _ _ (by rw [Nam.len_list]; exact Nat.le_refl _)] at this
      simp at this; omega
/-- What the document's value answers of a text. -/
def Vals (d : ByteArray) (u : Nat) (cd : Int) : Prop := ∀ w : World, Calls Tryd.prog 29 #[.string d] w fun e w' => e = .returned (.tuple #[.int .u64 (u : Int), .int .i64 cd]) ∧ w = w'
theorem val_empty (d : ByteArray) (h : d.size = 0) : Vals d 0 12 := by
  intro w
  obtain rfl : d = ⟨#[]⟩ := by
    cases d with
    | mk a => have : a = #[] := Array.eq_empty_of_size_eq_zero h; rw [this]
  clear h
  go_enter Tryd.func29, Tryd.ntmps29
  go_wp2_with fail
  go_ret2
  exact ⟨rfl, rfl⟩
theorem ne_empty {d : ByteArray} (h : 0 < d.size) : ¬ d.toList = [] := by
  rw [Lib.toList_data]
  intro e
  have := congrArg List.length e
  rw [Nam.len_list, List.length_nil] at this
  omega
theorem val_nought (d : ByteArray) (h : 1 < d.size) (hs : d.size ≤ 100000) (h0 : d[0].toNat = 48) : Vals d 0 12 := by
  intro w
  have c1 : ((d[0].toNat : Int) == 48) = true := by rw [beq_iff_eq]; omega
  have h1 : (1 : Int) < (d.size : Int) := by omega
  have h2 : 0 < d.size := by omega
  have h3 : (0 : Int) < (d.size : Int) := by omega
  have h4 := ne_empty h2
  have h5 : (d.toList == []) = false := by rw [beq_eq_false_iff_ne]; exact h4
  clear h0
  go_enter Tryd.func29, Tryd.ntmps29
  go_wp2_with fail
  go_ret2
  exact ⟨rfl, rfl⟩
/-- What is answered of digits that may stand so. -/
def VE (d : ByteArray) : Ending := .returned (if Deci.val d.data.toList ≤ 9223372036854775808 then .tuple #[.int .u64 (Deci.val d.data.toList : Int), .int .i64 0] else .tuple #[.int .u64 0, .int .i64 2])
theorem quo_is (u d : Nat) (hd : d ≤ 9) : ((9223372036854775808 - (d : Int)).tdiv 10 < (u : Int)) ↔ 9223372036854775808 < 10 * u + d := by
  rw [Int.tdiv_eq_ediv_of_nonneg (by omega)]; omega
set_option maxHeartbeats 2000000 in
theorem val_main (d : ByteArray) (h : 0 < d.size) (hs : d.size ≤ 100000) (hn : d[0].toNat = 48 → d.size = 1) (hd : ∀ c ∈ d.data.toList, dgt c = true) (w : World) :
    Calls Tryd.prog 29 #[.string d] w fun e w' => e = VE d ∧ w = w' := by
  have h3 : (0 : Int) < (d.size : Int) := by omega
  have h5 : (d.toList == []) = false := by rw [beq_eq_false_iff_ne]; exact ne_empty h
  have h4 := ne_empty h
  have HD := Lib.hid hd
  clear hd
  have main : ∀ (c1 : ((d[0].toNat : Int) == 48) = false ∨ (((d[0].toNat : Int) == 48) = true ∧ decide ((1 : Int) < (d.size : Int)) = false)),
      Calls Tryd.prog 29 #[.string d] w fun e w' => e = VE d ∧ w = w' := by
    rintro (c1 | ⟨c1, c2⟩)
    · go_enter Tryd.func29, Tryd.ntmps29
      go_wp2_with fail
      clear c1 h5 h4
      go_loopg [4, 5] d.size (fun gk u x wr => ∃ (i v : Nat), i ≤ d.size ∧ v ≤ 9223372036854775808 ∧ u = .int .u64 (v : Int) ∧ x = .int .i64 (i : Int) ∧ Hid (gk = d.size - i ∧ Deci.val (d.data.toList.take i) = v ∧ w = wr))
      case atStart => exact ⟨0, 0, Nat.zero_le _, by omega, rfl, rfl, rfl, rfl, rfl⟩
      case round =>
        obtain ⟨i, v, hi, hv, rfl, rfl, HH⟩ := hrel
        by_cases hl : i < d.size
        · have hl' : (i : Int) < (d.size : Int) := by omega
          obtain ⟨b, hb⟩ : ∃ b, d[i].toNat - 48 = b := ⟨_, rfl⟩
          have hdd : Deci.isDig d[i] := isDig_of (by
            have := HD.out (d.data.toList[i]'(by rw [Nam.len_list]; exact hl)) (List.getElem_mem _)
            rw [Nam.at_list d i hl] at this
            exact this)
          have h48 := hdd.1
          have h57 := hdd.2
          have hb9 : b ≤ 9 := by omega
          have e1 : (d[i].toNat : Int) - 48 = (b : Int) := by omega
          have hst : Deci.val (d.data.toList.take (i + 1)) = 10 * v + b := by
            rw [Deci.val_step _ i (by rw [Nam.len_list]; exact hl), HH.out.2.1, Nam.at_list d i hl, hb]
          have HS := Lib.hid hst
          have hq := quo_is v b hb9
          clear hdd hb hst
          by_cases hgt : 9223372036854775808 < 10 * v + b
          · have q1 : (9223372036854775808 - (b : Int)).tdiv 10 < (v : Int) := hq.2 hgt
            have q2 : decide ((9223372036854775808 - (b : Int)).tdiv 10 < (v : Int)) = true := by rw [decide_eq_true_iff]; exact q1
            have q3 : (9223372036854775808 - (b : Int)) / 10 < (v : Int) := by rw [← Int.tdiv_eq_ediv_of_nonneg (by omega)]; exact q1
            have HG := Lib.hid hgt
            clear hq hgt
            go_wp2_with fail
            go_ret2
            refine ⟨?_, HH.out.2.2⟩
            have h1 := Deci.val_take d.data.toList (i + 1)
            have h2 := HS.out
            have h3 := HG.out
            unfold VE; rw [if_neg (by omega)]; rfl
          · have q1 : ¬ (9223372036854775808 - (b : Int)).tdiv 10 < (v : Int) := fun k => hgt (hq.1 k)
            have q2 : decide ((9223372036854775808 - (b : Int)).tdiv 10 < (v : Int)) = false := by rw [decide_eq_false_iff_not]; exact q1
            have q3 : (v : Int) ≤ (9223372036854775808 - (b : Int)) / 10 := by rw [Int.tdiv_eq_ediv_of_nonneg (by omega)] at q1; omega
            have q4 : decide ((9223372036854775808 - (b : Int)) / 10 < (v : Int)) = false := by rw [decide_eq_false_iff_not]; omega
            have HG := Lib.hid hgt
            clear hq hgt q1
            obtain ⟨v2, hv2⟩ : ∃ v2, 10 * v + b = v2 := ⟨_, rfl⟩
            have HV := Lib.hid hv2
            clear hv2
            go_wp2_with fail
            go_roundg (d.size - (i + 1))
            case measure => have := HH.out.1; omega
            case rel =>
              refine ⟨i + 1, v2, by omega, by have := HV.out; have := HG.out; omega, ?_, by go_num, rfl, by rw [HS.out, HV.out], HH.out.2.2⟩
              have := HV.out
              have := HG.out
              first
                | (congr 1; omega)
                | (refine congrArg (Value.int .u64) ?_; rw [IntWalk.u64_in _ (by omega)]; omega)
        · obtain rfl : i = d.size := by omega
          have hval : Deci.val d.data.toList = v := by rw [← HH.out.2.1, List.take_of_length_le (by rw [Nam.len_list]; exact Nat.le_refl _)]
          have HV := Lib.hid hval
          clear hi hval
          go_wp2_with fail
          go_ret2
          refine ⟨?_, HH.out.2.2⟩
          unfold VE; rw [HV.out, if_pos hv]; rfl
    · go_enter Tryd.func29, Tryd.ntmps29
      go_wp2_with fail
      clear c1 c2 h5 h4
      go_loopg [4, 5] d.size (fun gk u x wr => ∃ (i v : Nat), i ≤ d.size ∧ v ≤ 9223372036854775808 ∧ u = .int .u64 (v : Int) ∧ x = .int .i64 (i : Int) ∧ Hid (gk = d.size - i ∧ Deci.val (d.data.toList.take i) = v ∧ w = wr))
      case atStart => exact ⟨0, 0, Nat.zero_le _, by omega, rfl, rfl, rfl, rfl, rfl⟩
      case round =>
        obtain ⟨i, v, hi, hv, rfl, rfl, HH⟩ := hrel
        by_cases hl : i < d.size
        · have hl' : (i : Int) < (d.size : Int) := by omega
          obtain ⟨b, hb⟩ : ∃ b, d[i].toNat - 48 = b := ⟨_, rfl⟩
          have hdd : Deci.isDig d[i] := isDig_of (by
            have := HD.out (d.data.toList[i]'(by rw [Nam.len_list]; exact hl)) (List.getElem_mem _)
            rw [Nam.at_list d i hl] at this
            exact this)
          have h48 := hdd.1
          have h57 := hdd.2
          have hb9 : b ≤ 9 := by omega
          have e1 : (d[i].toNat : Int) - 48 = (b : Int) := by omega
          have hst : Deci.val (d.data.toList.take (i + 1)) = 10 * v + b := by
            rw [Deci.val_step _ i (by rw [Nam.len_list]; exact hl), HH.out.2.1, Nam.at_list d i hl, hb]
          have HS := Lib.hid hst
          have hq := quo_is v b hb9
          clear hdd hb hst
          by_cases hgt : 9223372036854775808 < 10 * v + b
          · have q1 : (9223372036854775808 - (b : Int)).tdiv 10 < (v : Int) := hq.2 hgt
            have q2 : decide ((9223372036854775808 - (b : Int)).tdiv 10 < (v : Int)) = true := by rw [decide_eq_true_iff]; exact q1
            have q3 : (9223372036854775808 - (b : Int)) / 10 < (v : Int) := by rw [← Int.tdiv_eq_ediv_of_nonneg (by omega)]; exact q1
            have HG := Lib.hid hgt
            clear hq hgt
            go_wp2_with fail
            go_ret2
            refine ⟨?_, HH.out.2.2⟩
            have h1 := Deci.val_take d.data.toList (i + 1)
            have h2 := HS.out
            have h3 := HG.out
            unfold VE; rw [if_neg (by omega)]; rfl
          · have q1 : ¬ (9223372036854775808 - (b : Int)).tdiv 10 < (v : Int) := fun k => hgt (hq.1 k)
            have q2 : decide ((9223372036854775808 - (b : Int)).tdiv 10 < (v : Int)) = false := by rw [decide_eq_false_iff_not]; exact q1
            have q3 : (v : Int) ≤ (9223372036854775808 - (b : Int)) / 10 := by rw [Int.tdiv_eq_ediv_of_nonneg (by omega)] at q1; omega
            have q4 : decide ((9223372036854775808 - (b : Int)) / 10 < (v : Int)) = false := by rw [decide_eq_false_iff_not]; omega
            have HG := Lib.hid hgt
            clear hq hgt q1
            obtain ⟨v2, hv2⟩ : ∃ v2, 10 * v + b = v2 := ⟨_, rfl⟩
            have HV := Lib.hid hv2
            clear hv2
            go_wp2_with fail
            go_roundg (d.size - (i + 1))
            case measure => have := HH.out.1; omega
            case rel =>
              refine ⟨i + 1, v2, by omega, by have := HV.out; have := HG.out; omega, ?_, by go_num, rfl, by rw [HS.out, HV.out], HH.out.2.2⟩
              have := HV.out
              have := HG.out
              first
                | (congr 1; omega)
                | (refine congrArg (Value.int .u64) ?_; rw [IntWalk.u64_in _ (by omega)]; omega)
        · obtain rfl : i = d.size := by omega
          have hval : Deci.val d.data.toList = v := by rw [← HH.out.2.1, List.take_of_length_le (by rw [Nam.len_list]; exact Nat.le_refl _)]
          have HV := Lib.hid hval
          clear hi hval
          go_wp2_with fail
          go_ret2
          refine ⟨?_, HH.out.2.2⟩
          unfold VE; rw [HV.out, if_pos hv]; rfl
  by_cases h0 : d[0].toNat = 48
  · exact main (.inr ⟨by rw [beq_iff_eq]; omega, by rw [decide_eq_false_iff_not]; have := hn h0; omega⟩)
  · exact main (.inl (by rw [beq_eq_false_iff_ne]; omega))
/-- What value answers of digits. -/
theorem value_v (d : ByteArray) (hs : d.size ≤ 100000) (hd : ∀ c ∈ d.data.toList, dgt c = true) :
    (vcode 9223372036854775808 d.data.toList = 0 → Vals d (Deci.val d.data.toList) 0) ∧ (∀ cd, vcode 9223372036854775808 d.data.toList = cd → cd ≠ 0 → Vals d 0 cd) := by
  by_cases h0 : 0 < d.size
  · have hhead : d.data.toList.head? = some d[0] := by
      have := Quo.drop_cons d 0 h0
      rw [List.drop_zero] at this
      rw [this]; rfl
    by_cases h1 : d[0].toNat = 48 ∧ 1 < d.size
    · have hv := val_nought d h1.2 hs h1.1
      have hc : vcode 9223372036854775808 d.data.toList = 12 := by
        unfold vcode
        rw [if_pos (.inr ⟨by rw [hhead, (u8_eq (n := 48) (by omega)).2 h1.1]; rfl, by rw [Nam.len_list]; exact h1.2⟩)]
      exact ⟨(fun h => by rw [hc] at h; cases h), fun cd h _ => by rw [hc] at h; subst h; exact hv⟩
    · have hm := val_main d h0 hs (fun h => by omega) hd
      rcases vcode_ways 9223372036854775808 d.data.toList with ⟨k1, k2⟩ | ⟨k1, k2, k3⟩ | ⟨k1, k2, k3⟩
      · exfalso
        apply k1
        rw [well_iff]
        rintro (e | ⟨e1, e2⟩)
        · rw [e] at hhead; cases hhead
        · rw [hhead] at e1
          injection e1 with e1
          exact h1 ⟨by rw [e1]; rfl, by rw [Nam.len_list] at e2; exact e2⟩
      · refine ⟨(fun h => by rw [k3] at h; cases h), fun cd h _ w => ?_⟩
        rw [k3] at h; subst h
        have := hm w
        unfold VE at this
        rw [if_neg (by omega)] at this
        exact this
      · refine ⟨fun _ w => ?_, fun cd h h' => absurd (k3 ▸ h).symm h'⟩
        have := hm w
        unfold VE at this
        rw [if_pos k2] at this
        exact this
  · have hv := val_empty d (by omega)
    have hc : vcode 9223372036854775808 d.data.toList = 12 := by
      unfold vcode
      rw [if_pos (.inl (List.eq_nil_of_length_eq_zero (by rw [Nam.len_list]; omega)))]
    exact ⟨(fun h => by rw [hc] at h; cases h), fun cd h _ => by rw [hc] at h; subst h; exact hv⟩
end Go.Proofs.YtgjaajofhfhadaaDoor.Lex
