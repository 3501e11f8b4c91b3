/- What the document's own Scan and Get answer. -/
import Derived.Test.YtncdppdlklffpaaScanTop
namespace Go.Proofs.Ytncdppdlklffpaa
open Go.ChangeShapes Go.WideShapes Go.RowKit
set_option linter.unusedVariables false

theorem refscan_arg (s : ByteArray) (z : Int) (h : z < 0 ∨ (s.size : Int) < z) (w : World) :
    Calls Try.prog 13 #[.string s, .int .i64 z] w fun e w' => e = E3 (0, 0, 1) ∧ w = w' := by
  by_cases h0 : z < 0
  · clear h
    go_enter Try.func13, Try.ntmps13
    go_wp2_with fail
    go_ret3
    exact ⟨rfl, rfl⟩
  · have h1 : (s.size : Int) < z := by omega
    have h2 : 0 ≤ z := by omega
    clear h h0
    go_enter Try.func13, Try.ntmps13
    go_wp2_with fail
    go_ret3
    exact ⟨rfl, rfl⟩
theorem u64_in (x : Int) (h0 : 0 ≤ x) (h1 : x ≤ 18446744073709551615) : IntKind.u64.wrap x = x := by
  have hb : (2 : Int) ^ IntKind.u64.bits = 18446744073709551616 := by decide
  have hs : IntKind.u64.signed = false := rfl
  simp only [IntKind.wrap, hb, hs, Bool.false_and, Bool.false_eq_true, if_false]
  omega
theorem val_next (s : ByteArray) (fr fin i : Nat) (hf : fin ≤ s.size) (h1 : fr ≤ i) (h2 : i < fin) (h3 : i < s.size) : val ((dgs s fr fin).take (i + 1 - fr)) = 10 * val ((dgs s fr fin).take (i - fr)) + (s[i].toNat - 48) := by
  have hl := dgs_len s fr fin hf
  have hj : i - fr < (dgs s fr fin).length := by omega
  rw [show i + 1 - fr = (i - fr) + 1 by omega, val_step _ _ hj, dgs_get s fr fin (i - fr) hj (by omega)]
  simp only [show fr + (i - fr) = i by omega]
theorem val_all (s : ByteArray) (fr fin : Nat) (hf : fin ≤ s.size) : (dgs s fr fin).take (fin - fr) = dgs s fr fin := List.take_of_length_le (by rw [dgs_len s fr fin hf]; omega)
theorem out_cases (s : ByteArray) (k : Nat) (h : ∀ h : k < s.size, ¬ isDig s[k]) : (∃ h : k < s.size, (s[k].toNat : Int) < 48) ∨ (∃ h : k < s.size, (48 : Int) ≤ (s[k].toNat : Int) ∧ (57 : Int) < (s[k].toNat : Int)) ∨ ¬ k < s.size := by
  by_cases hk : k < s.size
  · by_cases h48 : 48 ≤ s[k].toNat
    · exact .inr (.inl ⟨hk, by omega, by
        have h2 : ¬ s[k].toNat ≤ 57 := fun h57 => h hk ⟨h48, h57⟩
        omega⟩)
    · exact .inl ⟨hk, by omega⟩
  · exact .inr (.inr hk)
set_option maxRecDepth 100000 in
set_option maxHeartbeats 1600000 in
theorem refscan_end_empty (s : ByteArray) (a fr fin : Nat) (hs : s.size ≤ 9223372036854775807) (h : Scn s a false fr fin) (hlt : ¬ a < s.size) (he : fin = fr) (w : World) :
    Calls Try.prog 13 #[.string s, .int .i64 (a : Int)] w fun e w' => e = E3 (0, 0, 12) ∧ w = w' := by
  have hle := h.hle
  have hfin := h.hfin
  have HH := Lib.hid h
  have h45 := h.ha
  obtain rfl : fr = a := h.hfr
  have has : (fr : Int) ≤ (s.size : Int) := by have := h.ha; omega
  have hle' : (fr : Int) ≤ (fin : Int) := by omega
  have hfin' : (fin : Int) ≤ (s.size : Int) := by omega
  clear h h45
  subst he
  have het : ((fin : Int) == (fin : Int)) = true := by simp
  go_enter Try.func13, Try.ntmps13
  go_wp2_with fail
  skip
  go_loopg [9] (fin - fin) (fun gk i wr => ∃ k : Nat, k + gk = fin ∧ fin ≤ k ∧ i = .int .i64 (k : Int) ∧ Hid (w = wr))
  case atStart => exact ⟨fin, by omega, Nat.le_refl _, rfl, rfl⟩
  case round =>
    obtain ⟨k, hk, hfk, rfl, HW⟩ := hrel
    obtain rfl := HW.out
    clear HW
    by_cases hkf : k < fin
    · have hks : k < s.size := by omega
      have h1 := (HH.out.dig k hks hfk hkf).1
      have h2 := (HH.out.dig k hks hfk hkf).2
      have h1' : (48 : Int) ≤ (s[k].toNat : Int) := by omega
      have h2' : (s[k].toNat : Int) ≤ 57 := by omega
      clear h1 h2
      go_wp2_with fail
      go_roundg (gk - 1)
      case measure => omega
      case rel => exact ⟨k + 1, by omega, by omega, by go_num, rfl⟩
    · obtain rfl : k = fin := by omega
      have hways := out_cases s k HH.out.stop
      rcases hways with ⟨hks, h1'⟩ | ⟨hks, h1', h2'⟩ | hks
      all_goals go_wp2_with fail
      all_goals
        go_ret3
        exact ⟨rfl, rfl⟩
set_option maxRecDepth 100000 in
set_option maxHeartbeats 1600000 in
theorem refscan_false_empty (s : ByteArray) (a fr fin : Nat) (hs : s.size ≤ 9223372036854775807) (h : Scn s a false fr fin) (hlt : a < s.size) (he : fin = fr) (w : World) :
    Calls Try.prog 13 #[.string s, .int .i64 (a : Int)] w fun e w' => e = E3 (0, 0, 12) ∧ w = w' := by
  have hle := h.hle
  have hfin := h.hfin
  have HH := Lib.hid h
  have h45 := h.hn rfl hlt
  have h45' : ((s[a].toNat : Int) == 45) = false := by rw [beq_eq_false_iff_ne]; omega
  obtain rfl : fr = a := h.hfr
  have has : (fr : Int) ≤ (s.size : Int) := by have := h.ha; omega
  have hle' : (fr : Int) ≤ (fin : Int) := by omega
  have hfin' : (fin : Int) ≤ (s.size : Int) := by omega
  clear h h45
  subst he
  have het : ((fin : Int) == (fin : Int)) = true := by simp
  go_enter Try.func13, Try.ntmps13
  go_wp2_with fail
  skip
  go_loopg [9] (fin - fin) (fun gk i wr => ∃ k : Nat, k + gk = fin ∧ fin ≤ k ∧ i = .int .i64 (k : Int) ∧ Hid (w = wr))
  case atStart => exact ⟨fin, by omega, Nat.le_refl _, rfl, rfl⟩
  case round =>
    obtain ⟨k, hk, hfk, rfl, HW⟩ := hrel
    obtain rfl := HW.out
    clear HW
    by_cases hkf : k < fin
    · have hks : k < s.size := by omega
      have h1 := (HH.out.dig k hks hfk hkf).1
      have h2 := (HH.out.dig k hks hfk hkf).2
      have h1' : (48 : Int) ≤ (s[k].toNat : Int) := by omega
      have h2' : (s[k].toNat : Int) ≤ 57 := by omega
      clear h1 h2
      go_wp2_with fail
      go_roundg (gk - 1)
      case measure => omega
      case rel => exact ⟨k + 1, by omega, by omega, by go_num, rfl⟩
    · obtain rfl : k = fin := by omega
      have hways := out_cases s k HH.out.stop
      rcases hways with ⟨hks, h1'⟩ | ⟨hks, h1', h2'⟩ | hks
      all_goals go_wp2_with fail
      all_goals
        go_ret3
        exact ⟨rfl, rfl⟩
set_option maxRecDepth 100000 in
set_option maxHeartbeats 1600000 in
theorem refscan_false_two (s : ByteArray) (a fr fin : Nat) (hs : s.size ≤ 9223372036854775807) (h : Scn s a false fr fin) (hlt : a < s.size) (he : fr + 1 < fin) (h48 : ∀ h : fr < s.size, s[fr].toNat = 48) (w : World) :
    Calls Try.prog 13 #[.string s, .int .i64 (a : Int)] w fun e w' => e = E3 (0, 0, 12) ∧ w = w' := by
  have hle := h.hle
  have hfin := h.hfin
  have HH := Lib.hid h
  have h45 := h.hn rfl hlt
  have h45' : ((s[a].toNat : Int) == 45) = false := by rw [beq_eq_false_iff_ne]; omega
  obtain rfl : fr = a := h.hfr
  have has : (fr : Int) ≤ (s.size : Int) := by have := h.ha; omega
  have hle' : (fr : Int) ≤ (fin : Int) := by omega
  have hfin' : (fin : Int) ≤ (s.size : Int) := by omega
  clear h h45
  have hfs : fr < s.size := by omega
  have hen : ((fin : Int) == (fr : Int)) = false := by rw [beq_eq_false_iff_ne]; omega
  have h48' : ((s[fr].toNat : Int) == 48) = true := by rw [beq_iff_eq]; have := h48 hfs; omega
  have hgt : decide ((fr : Int) + 1 < (fin : Int)) = true := by rw [decide_eq_true_iff]; omega
  clear h48
  go_enter Try.func13, Try.ntmps13
  go_wp2_with fail
  skip
  go_loopg [9] (fin - fr) (fun gk i wr => ∃ k : Nat, k + gk = fin ∧ fr ≤ k ∧ i = .int .i64 (k : Int) ∧ Hid (w = wr))
  case atStart => exact ⟨fr, by omega, Nat.le_refl _, rfl, rfl⟩
  case round =>
    obtain ⟨k, hk, hfk, rfl, HW⟩ := hrel
    obtain rfl := HW.out
    clear HW
    by_cases hkf : k < fin
    · have hks : k < s.size := by omega
      have h1 := (HH.out.dig k hks hfk hkf).1
      have h2 := (HH.out.dig k hks hfk hkf).2
      have h1' : (48 : Int) ≤ (s[k].toNat : Int) := by omega
      have h2' : (s[k].toNat : Int) ≤ 57 := by omega
      clear h1 h2
      go_wp2_with fail
      go_roundg (gk - 1)
      case measure => omega
      case rel => exact ⟨k + 1, by omega, by omega, by go_num, rfl⟩
    · obtain rfl : k = fin := by omega
      have hways := out_cases s k HH.out.stop
      rcases hways with ⟨hks, h1'⟩ | ⟨hks, h1', h2'⟩ | hks
      all_goals go_wp2_with fail
      all_goals
        go_ret3
        exact ⟨rfl, rfl⟩
set_option maxRecDepth 100000 in
set_option maxHeartbeats 1600000 in
theorem refscan_false_range (s : ByteArray) (a fr fin : Nat) (hs : s.size ≤ 9223372036854775807) (h : Scn s a false fr fin) (hlt : a < s.size) (he : fr < fin) (h48 : ∀ h : fr < s.size, s[fr].toNat = 48 → fin = fr + 1) (hv : ¬ val (dgs s fr fin) ≤ top false) (w : World) :
    Calls Try.prog 13 #[.string s, .int .i64 (a : Int)] w fun e w' => e = E3 (0, 0, 2) ∧ w = w' := by
  have HV := Lib.hid hv
  clear hv
  have hle := h.hle
  have hfin := h.hfin
  have HH := Lib.hid h
  have h45 := h.hn rfl hlt
  have h45' : ((s[a].toNat : Int) == 45) = false := by rw [beq_eq_false_iff_ne]; omega
  obtain rfl : fr = a := h.hfr
  have has : (fr : Int) ≤ (s.size : Int) := by have := h.ha; omega
  have hle' : (fr : Int) ≤ (fin : Int) := by omega
  have hfin' : (fin : Int) ≤ (s.size : Int) := by omega
  clear h h45
  have hfs : fr < s.size := by omega
  have hen : ((fin : Int) == (fr : Int)) = false := by rw [beq_eq_false_iff_ne]; omega
  go_enter Try.func13, Try.ntmps13
  go_wp2_with fail
  skip
  go_loopg [9] (fin - fr) (fun gk i wr => ∃ k : Nat, k + gk = fin ∧ fr ≤ k ∧ i = .int .i64 (k : Int) ∧ Hid (w = wr))
  case atStart => exact ⟨fr, by omega, Nat.le_refl _, rfl, rfl⟩
  case round =>
    obtain ⟨k, hk, hfk, rfl, HW⟩ := hrel
    obtain rfl := HW.out
    clear HW
    by_cases hkf : k < fin
    · have hks : k < s.size := by omega
      have h1 := (HH.out.dig k hks hfk hkf).1
      have h2 := (HH.out.dig k hks hfk hkf).2
      have h1' : (48 : Int) ≤ (s[k].toNat : Int) := by omega
      have h2' : (s[k].toNat : Int) ≤ 57 := by omega
      clear h1 h2
      go_wp2_with fail
      go_roundg (gk - 1)
      case measure => omega
      case rel => exact ⟨k + 1, by omega, by omega, by go_num, rfl⟩
    · obtain rfl : k = fin := by omega
      have hways := out_cases s k HH.out.stop
      have hcase : ((s[fr].toNat : Int) == 48) = false ∨ (((s[fr].toNat : Int) == 48) = true ∧ decide ((fr : Int) + 1 < (k : Int)) = false) := by
        by_cases h : s[fr].toNat = 48
        · have h2 := h48 hfs h
          exact .inr ⟨by rw [beq_iff_eq]; omega, by rw [decide_eq_false_iff_not]; omega⟩
        · exact .inl (by rw [beq_eq_false_iff_ne]; omega)
      clear h48
      rcases hways with ⟨hks, h1'⟩ | ⟨hks, h1', h2'⟩ | hks <;> rcases hcase with h48' | ⟨h48', hgt⟩
      all_goals go_wp2_with fail
      all_goals
        go_loopg [10, 11] (k - fr) (fun gk uu ii wr => ∃ i u : Nat, i + gk = k ∧ fr ≤ i ∧ uu = .int .u64 (u : Int) ∧ ii = .int .i64 (i : Int) ∧ Hid (u = val ((dgs s fr k).take (i - fr)) ∧ u ≤ 18446744073709551615 ∧ w = wr))
        case atStart => exact ⟨fr, 0, by omega, Nat.le_refl _, rfl, rfl, by simp [val], by omega, rfl⟩
        case round =>
          obtain ⟨i, u, hi, hfi, rfl, rfl, HU⟩ := hrel
          have HF := Lib.hid HU.out.1
          have HM := Lib.hid HU.out.2.1
          obtain rfl := HU.out.2.2
          clear HU
          by_cases hik : i < k
          · have his : i < s.size := by omega
            have hdk := HH.out.dig i his hfi hik
            have h3 := hdk.1
            have h4 := hdk.2
            have h3' : (48 : Int) ≤ (s[i].toNat : Int) := by omega
            have h4' : (s[i].toNat : Int) ≤ 57 := by omega
            have hst : val ((dgs s fr k).take (i + 1 - fr)) = 10 * u + (s[i].toNat - 48) := by rw [val_next s fr k i hfin hfi hik his, HF.out]
            have htk := val_take (dgs s fr k) (i + 1 - fr)
            rw [hst] at htk
            by_cases hto : 10 * u + (s[i].toNat - 48) ≤ 18446744073709551615
            · have hf : (u : Int) ≤ 1844674407370955161 := by omega
              have hq : decide ((18446744073709551615 - ((s[i].toNat : Int) - 48)) / 10 < (u : Int)) = false := by rw [decide_eq_false_iff_not]; omega
              have hwr := u64_in (10 * (u : Int) + ((s[i].toNat : Int) - 48)) (by omega) (by omega)
              have HWR := Lib.hid hwr
              clear hwr
              have HS := Lib.hid hst
              have HT2 := Lib.hid hto
              clear hst hto htk hdk h3 h4
              go_wp2_with fail
              go_roundg (gk - 1)
              case measure => omega
              case rel => exact ⟨i + 1, 10 * u + (s[i].toNat - 48), by omega, by omega, congrArg (Value.int .u64) (HWR.out.trans (by omega)), by go_num, HS.out.symm, HT2.out, rfl⟩
            · have hfm := HM.out
              have hf : (u : Int) ≤ 18446744073709551615 := by omega
              have hq : decide ((18446744073709551615 - ((s[i].toNat : Int) - 48)) / 10 < (u : Int)) = true := by rw [decide_eq_true_iff]; omega
              clear hst hto htk hdk h3 h4 hfm
              go_wp2_with fail
              go_ret3
              exact ⟨rfl, rfl⟩
          · obtain rfl : i = k := by omega
            have hval : u = val (dgs s fr i) := by rw [HF.out, val_all s fr i hfin]
            have hut : ¬ u ≤ 9223372036854775807 := by rw [hval]; exact HV.out
            by_cases hue : (u : Int) = 9223372036854775808
            · have hu1 : decide ((9223372036854775808 : Int) < (u : Int)) = false := by rw [decide_eq_false_iff_not]; omega
              have hu2 : ((u : Int) == 9223372036854775808) = true := by rw [beq_iff_eq]; exact hue
              clear hval hut hue
              go_wp2_with fail
              go_ret3
              exact ⟨rfl, rfl⟩
            · have hu1 : decide ((9223372036854775808 : Int) < (u : Int)) = true := by rw [decide_eq_true_iff]; omega
              clear hval hut hue
              go_wp2_with fail
              go_ret3
              exact ⟨rfl, rfl⟩
set_option maxRecDepth 100000 in
set_option maxHeartbeats 1600000 in
theorem refscan_false_ok (s : ByteArray) (a fr fin : Nat) (hs : s.size ≤ 9223372036854775807) (h : Scn s a false fr fin) (hlt : a < s.size) (he : fr < fin) (h48 : ∀ h : fr < s.size, s[fr].toNat = 48 → fin = fr + 1) (hv : val (dgs s fr fin) ≤ top false) (w : World) :
    Calls Try.prog 13 #[.string s, .int .i64 (a : Int)] w fun e w' => e = E3 (sgn false (val (dgs s fr fin)), (fin : Int), 0) ∧ w = w' := by
  obtain ⟨v, hvv⟩ : ∃ v, val (dgs s fr fin) = v := ⟨_, rfl⟩
  rw [hvv] at hv
  rw [hvv]
  have HV := Lib.hid hvv
  have HT := Lib.hid hv
  clear hvv hv
  have hle := h.hle
  have hfin := h.hfin
  have HH := Lib.hid h
  have h45 := h.hn rfl hlt
  have h45' : ((s[a].toNat : Int) == 45) = false := by rw [beq_eq_false_iff_ne]; omega
  obtain rfl : fr = a := h.hfr
  have has : (fr : Int) ≤ (s.size : Int) := by have := h.ha; omega
  have hle' : (fr : Int) ≤ (fin : Int) := by omega
  have hfin' : (fin : Int) ≤ (s.size : Int) := by omega
  clear h h45
  have hfs : fr < s.size := by omega
  have hen : ((fin : Int) == (fr : Int)) = false := by rw [beq_eq_false_iff_ne]; omega
  go_enter Try.func13, Try.ntmps13
  go_wp2_with fail
  skip
  go_loopg [9] (fin - fr) (fun gk i wr => ∃ k : Nat, k + gk = fin ∧ fr ≤ k ∧ i = .int .i64 (k : Int) ∧ Hid (w = wr))
  case atStart => exact ⟨fr, by omega, Nat.le_refl _, rfl, rfl⟩
  case round =>
    obtain ⟨k, hk, hfk, rfl, HW⟩ := hrel
    obtain rfl := HW.out
    clear HW
    by_cases hkf : k < fin
    · have hks : k < s.size := by omega
      have h1 := (HH.out.dig k hks hfk hkf).1
      have h2 := (HH.out.dig k hks hfk hkf).2
      have h1' : (48 : Int) ≤ (s[k].toNat : Int) := by omega
      have h2' : (s[k].toNat : Int) ≤ 57 := by omega
      clear h1 h2
      go_wp2_with fail
      go_roundg (gk - 1)
      case measure => omega
      case rel => exact ⟨k + 1, by omega, by omega, by go_num, rfl⟩
    · obtain rfl : k = fin := by omega
      have hways := out_cases s k HH.out.stop
      have hcase : ((s[fr].toNat : Int) == 48) = false ∨ (((s[fr].toNat : Int) == 48) = true ∧ decide ((fr : Int) + 1 < (k : Int)) = false) := by
        by_cases h : s[fr].toNat = 48
        · have h2 := h48 hfs h
          exact .inr ⟨by rw [beq_iff_eq]; omega, by rw [decide_eq_false_iff_not]; omega⟩
        · exact .inl (by rw [beq_eq_false_iff_ne]; omega)
      clear h48
      rcases hways with ⟨hks, h1'⟩ | ⟨hks, h1', h2'⟩ | hks <;> rcases hcase with h48' | ⟨h48', hgt⟩
      all_goals go_wp2_with fail
      all_goals
        go_loopg [10, 11] (k - fr) (fun gk uu ii wr => ∃ i u : Nat, i + gk = k ∧ fr ≤ i ∧ uu = .int .u64 (u : Int) ∧ ii = .int .i64 (i : Int) ∧ Hid (u = val ((dgs s fr k).take (i - fr)) ∧ u ≤ 18446744073709551615 ∧ w = wr))
        case atStart => exact ⟨fr, 0, by omega, Nat.le_refl _, rfl, rfl, by simp [val], by omega, rfl⟩
        case round =>
          obtain ⟨i, u, hi, hfi, rfl, rfl, HU⟩ := hrel
          have HF := Lib.hid HU.out.1
          have HM := Lib.hid HU.out.2.1
          obtain rfl := HU.out.2.2
          clear HU
          by_cases hik : i < k
          · have his : i < s.size := by omega
            have hdk := HH.out.dig i his hfi hik
            have h3 := hdk.1
            have h4 := hdk.2
            have h3' : (48 : Int) ≤ (s[i].toNat : Int) := by omega
            have h4' : (s[i].toNat : Int) ≤ 57 := by omega
            have hst : val ((dgs s fr k).take (i + 1 - fr)) = 10 * u + (s[i].toNat - 48) := by rw [val_next s fr k i hfin hfi hik his, HF.out]
            have htk := val_take (dgs s fr k) (i + 1 - fr)
            rw [hst] at htk
            have hto : 10 * u + (s[i].toNat - 48) ≤ 18446744073709551615 := by
              have h5 := HT.out
              rw [HV.out] at htk
              simp only [top, Bool.false_eq_true, if_false] at h5
              omega
            have hf : (u : Int) ≤ 1844674407370955161 := by omega
            have hq : decide ((18446744073709551615 - ((s[i].toNat : Int) - 48)) / 10 < (u : Int)) = false := by rw [decide_eq_false_iff_not]; omega
            have hwr := u64_in (10 * (u : Int) + ((s[i].toNat : Int) - 48)) (by omega) (by omega)
            have HWR := Lib.hid hwr
            clear hwr
            have HS := Lib.hid hst
            have HT2 := Lib.hid hto
            clear hst hto htk hdk h3 h4
            go_wp2_with fail
            go_roundg (gk - 1)
            case measure => omega
            case rel => exact ⟨i + 1, 10 * u + (s[i].toNat - 48), by omega, by omega, congrArg (Value.int .u64) (HWR.out.trans (by omega)), by go_num, HS.out.symm, HT2.out, rfl⟩
          · obtain rfl : i = k := by omega
            have hval : u = val (dgs s fr i) := by rw [HF.out, val_all s fr i hfin]
            have hux : u = v := hval.trans HV.out
            have hut : u ≤ 9223372036854775807 := by rw [hux]; exact HT.out
            have hut' : (u : Int) ≤ 9223372036854775807 := by omega
            have hu1 : decide ((9223372036854775808 : Int) < (u : Int)) = false := by rw [decide_eq_false_iff_not]; omega
            have hu2 : ((u : Int) == 9223372036854775808) = false := by rw [beq_eq_false_iff_ne]; omega
            have HX := Lib.hid hux
            clear hval hux hut
            go_wp2_with fail
            go_ret3
            exact ⟨by rw [← HX.out]; rfl, rfl⟩
set_option maxRecDepth 100000 in
set_option maxHeartbeats 1600000 in
theorem refscan_true_empty (s : ByteArray) (a fr fin : Nat) (hs : s.size ≤ 9223372036854775807) (h : Scn s a true fr fin) (he : fin = fr) (w : World) :
    Calls Try.prog 13 #[.string s, .int .i64 (a : Int)] w fun e w' => e = E3 (0, 0, 12) ∧ w = w' := by
  have hle := h.hle
  have hfin := h.hfin
  have HH := Lib.hid h
  obtain ⟨hlt, h45⟩ := h.hy rfl
  have h45' : ((s[a].toNat : Int) == 45) = true := by rw [beq_iff_eq]; omega
  have hfr : (a : Int) + 1 = (fr : Int) := by have : fr = a + 1 := h.hfr; omega
  have has : (a : Int) ≤ (s.size : Int) := by have := h.ha; omega
  have hle' : (fr : Int) ≤ (fin : Int) := by omega
  have hfin' : (fin : Int) ≤ (s.size : Int) := by omega
  clear h h45
  subst he
  have het : ((fin : Int) == (fin : Int)) = true := by simp
  go_enter Try.func13, Try.ntmps13
  go_wp2_with fail
  clear hfr
  go_loopg [9] (fin - fin) (fun gk i wr => ∃ k : Nat, k + gk = fin ∧ fin ≤ k ∧ i = .int .i64 (k : Int) ∧ Hid (w = wr))
  case atStart => exact ⟨fin, by omega, Nat.le_refl _, rfl, rfl⟩
  case round =>
    obtain ⟨k, hk, hfk, rfl, HW⟩ := hrel
    obtain rfl := HW.out
    clear HW
    by_cases hkf : k < fin
    · have hks : k < s.size := by omega
      have h1 := (HH.out.dig k hks hfk hkf).1
      have h2 := (HH.out.dig k hks hfk hkf).2
      have h1' : (48 : Int) ≤ (s[k].toNat : Int) := by omega
      have h2' : (s[k].toNat : Int) ≤ 57 := by omega
      clear h1 h2
      go_wp2_with fail
      go_roundg (gk - 1)
      case measure => omega
      case rel => exact ⟨k + 1, by omega, by omega, by go_num, rfl⟩
    · obtain rfl : k = fin := by omega
      have hways := out_cases s k HH.out.stop
      rcases hways with ⟨hks, h1'⟩ | ⟨hks, h1', h2'⟩ | hks
      all_goals go_wp2_with fail
      all_goals
        go_ret3
        exact ⟨rfl, rfl⟩
set_option maxRecDepth 100000 in
set_option maxHeartbeats 1600000 in
theorem refscan_true_two (s : ByteArray) (a fr fin : Nat) (hs : s.size ≤ 9223372036854775807) (h : Scn s a true fr fin) (he : fr + 1 < fin) (h48 : ∀ h : fr < s.size, s[fr].toNat = 48) (w : World) :
    Calls Try.prog 13 #[.string s, .int .i64 (a : Int)] w fun e w' => e = E3 (0, 0, 12) ∧ w = w' := by
  have hle := h.hle
  have hfin := h.hfin
  have HH := Lib.hid h
  obtain ⟨hlt, h45⟩ := h.hy rfl
  have h45' : ((s[a].toNat : Int) == 45) = true := by rw [beq_iff_eq]; omega
  have hfr : (a : Int) + 1 = (fr : Int) := by have : fr = a + 1 := h.hfr; omega
  have has : (a : Int) ≤ (s.size : Int) := by have := h.ha; omega
  have hle' : (fr : Int) ≤ (fin : Int) := by omega
  have hfin' : (fin : Int) ≤ (s.size : Int) := by omega
  clear h h45
  have hfs : fr < s.size := by omega
  have hen : ((fin : Int) == (fr : Int)) = false := by rw [beq_eq_false_iff_ne]; omega
  have h48' : ((s[fr].toNat : Int) == 48) = true := by rw [beq_iff_eq]; have := h48 hfs; omega
  have hgt : decide ((fr : Int) + 1 < (fin : Int)) = true := by rw [decide_eq_true_iff]; omega
  clear h48
  go_enter Try.func13, Try.ntmps13
  go_wp2_with fail
  clear hfr
  go_loopg [9] (fin - fr) (fun gk i wr => ∃ k : Nat, k + gk = fin ∧ fr ≤ k ∧ i = .int .i64 (k : Int) ∧ Hid (w = wr))
  case atStart => exact ⟨fr, by omega, Nat.le_refl _, rfl, rfl⟩
  case round =>
    obtain ⟨k, hk, hfk, rfl, HW⟩ := hrel
    obtain rfl := HW.out
    clear HW
    by_cases hkf : k < fin
    · have hks : k < s.size := by omega
      have h1 := (HH.out.dig k hks hfk hkf).1
      have h2 := (HH.out.dig k hks hfk hkf).2
      have h1' : (48 : Int) ≤ (s[k].toNat : Int) := by omega
      have h2' : (s[k].toNat : Int) ≤ 57 := by omega
      clear h1 h2
      go_wp2_with fail
      go_roundg (gk - 1)
      case measure => omega
      case rel => exact ⟨k + 1, by omega, by omega, by go_num, rfl⟩
    · obtain rfl : k = fin := by omega
      have hways := out_cases s k HH.out.stop
      rcases hways with ⟨hks, h1'⟩ | ⟨hks, h1', h2'⟩ | hks
      all_goals go_wp2_with fail
      all_goals
        go_ret3
        exact ⟨rfl, rfl⟩
set_option maxRecDepth 100000 in
set_option maxHeartbeats 1600000 in
theorem refscan_true_minus (s : ByteArray) (a fr fin : Nat) (hs : s.size ≤ 9223372036854775807) (h : Scn s a true fr fin) (he : fin = fr + 1) (h48 : ∀ h : fr < s.size, s[fr].toNat = 48) (w : World) :
    Calls Try.prog 13 #[.string s, .int .i64 (a : Int)] w fun e w' => e = E3 (0, 0, 12) ∧ w = w' := by
  have hle := h.hle
  have hfin := h.hfin
  have HH := Lib.hid h
  obtain ⟨hlt, h45⟩ := h.hy rfl
  have h45' : ((s[a].toNat : Int) == 45) = true := by rw [beq_iff_eq]; omega
  have hfr : (a : Int) + 1 = (fr : Int) := by have : fr = a + 1 := h.hfr; omega
  have has : (a : Int) ≤ (s.size : Int) := by have := h.ha; omega
  have hle' : (fr : Int) ≤ (fin : Int) := by omega
  have hfin' : (fin : Int) ≤ (s.size : Int) := by omega
  clear h h45
  have hfs : fr < s.size := by omega
  have hen : ((fin : Int) == (fr : Int)) = false := by rw [beq_eq_false_iff_ne]; omega
  have h48' : ((s[fr].toNat : Int) == 48) = true := by rw [beq_iff_eq]; have := h48 hfs; omega
  have hgt : decide ((fr : Int) + 1 < (fin : Int)) = false := by rw [decide_eq_false_iff_not]; omega
  have HE := Lib.hid he
  clear h48 he
  go_enter Try.func13, Try.ntmps13
  go_wp2_with fail
  clear hfr
  go_loopg [9] (fin - fr) (fun gk i wr => ∃ k : Nat, k + gk = fin ∧ fr ≤ k ∧ i = .int .i64 (k : Int) ∧ Hid (w = wr))
  case atStart => exact ⟨fr, by omega, Nat.le_refl _, rfl, rfl⟩
  case round =>
    obtain ⟨k, hk, hfk, rfl, HW⟩ := hrel
    obtain rfl := HW.out
    clear HW
    by_cases hkf : k < fin
    · have hks : k < s.size := by omega
      have h1 := (HH.out.dig k hks hfk hkf).1
      have h2 := (HH.out.dig k hks hfk hkf).2
      have h1' : (48 : Int) ≤ (s[k].toNat : Int) := by omega
      have h2' : (s[k].toNat : Int) ≤ 57 := by omega
      clear h1 h2
      go_wp2_with fail
      go_roundg (gk - 1)
      case measure => omega
      case rel => exact ⟨k + 1, by omega, by omega, by go_num, rfl⟩
    · obtain rfl : k = fin := by omega
      have hways := out_cases s k HH.out.stop
      rcases hways with ⟨hks, h1'⟩ | ⟨hks, h1', h2'⟩ | hks
      all_goals go_wp2_with fail
      all_goals
        go_ret3
        exact ⟨rfl, rfl⟩
set_option maxRecDepth 100000 in
set_option maxHeartbeats 1600000 in
theorem refscan_true_range (s : ByteArray) (a fr fin : Nat) (hs : s.size ≤ 9223372036854775807) (h : Scn s a true fr fin) (he : fr < fin) (h48 : ∀ h : fr < s.size, s[fr].toNat = 48 → fin = fr + 1 ∧ False) (hv : ¬ val (dgs s fr fin) ≤ top true) (w : World) :
    Calls Try.prog 13 #[.string s, .int .i64 (a : Int)] w fun e w' => e = E3 (0, 0, 2) ∧ w = w' := by
  have HV := Lib.hid hv
  clear hv
  have hle := h.hle
  have hfin := h.hfin
  have HH := Lib.hid h
  obtain ⟨hlt, h45⟩ := h.hy rfl
  have h45' : ((s[a].toNat : Int) == 45) = true := by rw [beq_iff_eq]; omega
  have hfr : (a : Int) + 1 = (fr : Int) := by have : fr = a + 1 := h.hfr; omega
  have has : (a : Int) ≤ (s.size : Int) := by have := h.ha; omega
  have hle' : (fr : Int) ≤ (fin : Int) := by omega
  have hfin' : (fin : Int) ≤ (s.size : Int) := by omega
  clear h h45
  have hfs : fr < s.size := by omega
  have hen : ((fin : Int) == (fr : Int)) = false := by rw [beq_eq_false_iff_ne]; omega
  go_enter Try.func13, Try.ntmps13
  go_wp2_with fail
  clear hfr
  go_loopg [9] (fin - fr) (fun gk i wr => ∃ k : Nat, k + gk = fin ∧ fr ≤ k ∧ i = .int .i64 (k : Int) ∧ Hid (w = wr))
  case atStart => exact ⟨fr, by omega, Nat.le_refl _, rfl, rfl⟩
  case round =>
    obtain ⟨k, hk, hfk, rfl, HW⟩ := hrel
    obtain rfl := HW.out
    clear HW
    by_cases hkf : k < fin
    · have hks : k < s.size := by omega
      have h1 := (HH.out.dig k hks hfk hkf).1
      have h2 := (HH.out.dig k hks hfk hkf).2
      have h1' : (48 : Int) ≤ (s[k].toNat : Int) := by omega
      have h2' : (s[k].toNat : Int) ≤ 57 := by omega
      clear h1 h2
      go_wp2_with fail
      go_roundg (gk - 1)
      case measure => omega
      case rel => exact ⟨k + 1, by omega, by omega, by go_num, rfl⟩
    · obtain rfl : k = fin := by omega
      have hways := out_cases s k HH.out.stop
      have h48' : ((s[fr].toNat : Int) == 48) = false := by rw [beq_eq_false_iff_ne]; intro h; exact (h48 hfs (by omega)).2
      clear h48
      rcases hways with ⟨hks, h1'⟩ | ⟨hks, h1', h2'⟩ | hks
      all_goals go_wp2_with fail
      all_goals
        go_loopg [10, 11] (k - fr) (fun gk uu ii wr => ∃ i u : Nat, i + gk = k ∧ fr ≤ i ∧ uu = .int .u64 (u : Int) ∧ ii = .int .i64 (i : Int) ∧ Hid (u = val ((dgs s fr k).take (i - fr)) ∧ u ≤ 18446744073709551615 ∧ w = wr))
        case atStart => exact ⟨fr, 0, by omega, Nat.le_refl _, rfl, rfl, by simp [val], by omega, rfl⟩
        case round =>
          obtain ⟨i, u, hi, hfi, rfl, rfl, HU⟩ := hrel
          have HF := Lib.hid HU.out.1
          have HM := Lib.hid HU.out.2.1
          obtain rfl := HU.out.2.2
          clear HU
          by_cases hik : i < k
          · have his : i < s.size := by omega
            have hdk := HH.out.dig i his hfi hik
            have h3 := hdk.1
            have h4 := hdk.2
            have h3' : (48 : Int) ≤ (s[i].toNat : Int) := by omega
            have h4' : (s[i].toNat : Int) ≤ 57 := by omega
            have hst : val ((dgs s fr k).take (i + 1 - fr)) = 10 * u + (s[i].toNat - 48) := by rw [val_next s fr k i hfin hfi hik his, HF.out]
            have htk := val_take (dgs s fr k) (i + 1 - fr)
            rw [hst] at htk
            by_cases hto : 10 * u + (s[i].toNat - 48) ≤ 18446744073709551615
            · have hf : (u : Int) ≤ 1844674407370955161 := by omega
              have hq : decide ((18446744073709551615 - ((s[i].toNat : Int) - 48)) / 10 < (u : Int)) = false := by rw [decide_eq_false_iff_not]; omega
              have hwr := u64_in (10 * (u : Int) + ((s[i].toNat : Int) - 48)) (by omega) (by omega)
              have HWR := Lib.hid hwr
              clear hwr
              have HS := Lib.hid hst
              have HT2 := Lib.hid hto
              clear hst hto htk hdk h3 h4
              go_wp2_with fail
              go_roundg (gk - 1)
              case measure => omega
              case rel => exact ⟨i + 1, 10 * u + (s[i].toNat - 48), by omega, by omega, congrArg (Value.int .u64) (HWR.out.trans (by omega)), by go_num, HS.out.symm, HT2.out, rfl⟩
            · have hfm := HM.out
              have hf : (u : Int) ≤ 18446744073709551615 := by omega
              have hq : decide ((18446744073709551615 - ((s[i].toNat : Int) - 48)) / 10 < (u : Int)) = true := by rw [decide_eq_true_iff]; omega
              clear hst hto htk hdk h3 h4 hfm
              go_wp2_with fail
              go_ret3
              exact ⟨rfl, rfl⟩
          · obtain rfl : i = k := by omega
            have hval : u = val (dgs s fr i) := by rw [HF.out, val_all s fr i hfin]
            have hut : ¬ u ≤ 9223372036854775808 := by rw [hval]; exact HV.out
            have hu1 : decide ((9223372036854775808 : Int) < (u : Int)) = true := by rw [decide_eq_true_iff]; omega
            clear hval hut
            go_wp2_with fail
            go_ret3
            exact ⟨rfl, rfl⟩
set_option maxRecDepth 100000 in
set_option maxHeartbeats 1600000 in
theorem refscan_true_ok (s : ByteArray) (a fr fin : Nat) (hs : s.size ≤ 9223372036854775807) (h : Scn s a true fr fin) (he : fr < fin) (h48 : ∀ h : fr < s.size, s[fr].toNat = 48 → fin = fr + 1 ∧ False) (hv : val (dgs s fr fin) ≤ top true) (w : World) :
    Calls Try.prog 13 #[.string s, .int .i64 (a : Int)] w fun e w' => e = E3 (sgn true (val (dgs s fr fin)), (fin : Int), 0) ∧ w = w' := by
  obtain ⟨v, hvv⟩ : ∃ v, val (dgs s fr fin) = v := ⟨_, rfl⟩
  rw [hvv] at hv
  rw [hvv]
  have HV := Lib.hid hvv
  have HT := Lib.hid hv
  clear hvv hv
  have hle := h.hle
  have hfin := h.hfin
  have HH := Lib.hid h
  obtain ⟨hlt, h45⟩ := h.hy rfl
  have h45' : ((s[a].toNat : Int) == 45) = true := by rw [beq_iff_eq]; omega
  have hfr : (a : Int) + 1 = (fr : Int) := by have : fr = a + 1 := h.hfr; omega
  have has : (a : Int) ≤ (s.size : Int) := by have := h.ha; omega
  have hle' : (fr : Int) ≤ (fin : Int) := by omega
  have hfin' : (fin : Int) ≤ (s.size : Int) := by omega
  clear h h45
  have hfs : fr < s.size := by omega
  have hen : ((fin : Int) == (fr : Int)) = false := by rw [beq_eq_false_iff_ne]; omega
  go_enter Try.func13, Try.ntmps13
  go_wp2_with fail
  clear hfr
  go_loopg [9] (fin - fr) (fun gk i wr => ∃ k : Nat, k + gk = fin ∧ fr ≤ k ∧ i = .int .i64 (k : Int) ∧ Hid (w = wr))
  case atStart => exact ⟨fr, by omega, Nat.le_refl _, rfl, rfl⟩
  case round =>
    obtain ⟨k, hk, hfk, rfl, HW⟩ := hrel
    obtain rfl := HW.out
    clear HW
    by_cases hkf : k < fin
    · have hks : k < s.size := by omega
      have h1 := (HH.out.dig k hks hfk hkf).1
      have h2 := (HH.out.dig k hks hfk hkf).2
      have h1' : (48 : Int) ≤ (s[k].toNat : Int) := by omega
      have h2' : (s[k].toNat : Int) ≤ 57 := by omega
      clear h1 h2
      go_wp2_with fail
      go_roundg (gk - 1)
      case measure => omega
      case rel => exact ⟨k + 1, by omega, by omega, by go_num, rfl⟩
    · obtain rfl : k = fin := by omega
      have hways := out_cases s k HH.out.stop
      have h48' : ((s[fr].toNat : Int) == 48) = false := by rw [beq_eq_false_iff_ne]; intro h; exact (h48 hfs (by omega)).2
      clear h48
      rcases hways with ⟨hks, h1'⟩ | ⟨hks, h1', h2'⟩ | hks
      all_goals go_wp2_with fail
      all_goals
        go_loopg [10, 11] (k - fr) (fun gk uu ii wr => ∃ i u : Nat, i + gk = k ∧ fr ≤ i ∧ uu = .int .u64 (u : Int) ∧ ii = .int .i64 (i : Int) ∧ Hid (u = val ((dgs s fr k).take (i - fr)) ∧ u ≤ 18446744073709551615 ∧ w = wr))
        case atStart => exact ⟨fr, 0, by omega, Nat.le_refl _, rfl, rfl, by simp [val], by omega, rfl⟩
        case round =>
          obtain ⟨i, u, hi, hfi, rfl, rfl, HU⟩ := hrel
          have HF := Lib.hid HU.out.1
          have HM := Lib.hid HU.out.2.1
          obtain rfl := HU.out.2.2
          clear HU
          by_cases hik : i < k
          · have his : i < s.size := by omega
            have hdk := HH.out.dig i his hfi hik
            have h3 := hdk.1
            have h4 := hdk.2
            have h3' : (48 : Int) ≤ (s[i].toNat : Int) := by omega
            have h4' : (s[i].toNat : Int) ≤ 57 := by omega
            have hst : val ((dgs s fr k).take (i + 1 - fr)) = 10 * u + (s[i].toNat - 48) := by rw [val_next s fr k i hfin hfi hik his, HF.out]
            have htk := val_take (dgs s fr k) (i + 1 - fr)
            rw [hst] at htk
            have hto : 10 * u + (s[i].toNat - 48) ≤ 18446744073709551615 := by
              have h5 := HT.out
              rw [HV.out] at htk
              simp only [top, if_true] at h5
              omega
            have hf : (u : Int) ≤ 1844674407370955161 := by omega
            have hq : decide ((18446744073709551615 - ((s[i].toNat : Int) - 48)) / 10 < (u : Int)) = false := by rw [decide_eq_false_iff_not]; omega
            have hwr := u64_in (10 * (u : Int) + ((s[i].toNat : Int) - 48)) (by omega) (by omega)
            have HWR := Lib.hid hwr
            clear hwr
            have HS := Lib.hid hst
            have HT2 := Lib.hid hto
            clear hst hto htk hdk h3 h4
            go_wp2_with fail
            go_roundg (gk - 1)
            case measure => omega
            case rel => exact ⟨i + 1, 10 * u + (s[i].toNat - 48), by omega, by omega, congrArg (Value.int .u64) (HWR.out.trans (by omega)), by go_num, HS.out.symm, HT2.out, rfl⟩
          · obtain rfl : i = k := by omega
            have hval : u = val (dgs s fr i) := by rw [HF.out, val_all s fr i hfin]
            have hux : u = v := hval.trans HV.out
            have hut : u ≤ 9223372036854775808 := by rw [hux]; exact HT.out
            have hx : IntKind.i64.wrap (IntKind.u64.wrap (-(u : Int))) = -(u : Int) := back_neg u hut
            have hu1 : decide ((9223372036854775808 : Int) < (u : Int)) = false := by rw [decide_eq_false_iff_not]; omega
            have HX := Lib.hid hux
            clear hval hux hut
            by_cases hue : (u : Int) = 9223372036854775808
            · have hu2 : ((u : Int) == 9223372036854775808) = true := by rw [beq_iff_eq]; exact hue
              clear hue
              go_wp2_with fail
              go_ret3
              exact ⟨by rw [← HX.out]; rfl, rfl⟩
            · have hu2 : ((u : Int) == 9223372036854775808) = false := by rw [beq_eq_false_iff_ne]; exact hue
              clear hue
              go_wp2_with fail
              go_ret3
              exact ⟨by rw [← HX.out]; rfl, rfl⟩
end Go.Proofs.Ytncdppdlklffpaa
