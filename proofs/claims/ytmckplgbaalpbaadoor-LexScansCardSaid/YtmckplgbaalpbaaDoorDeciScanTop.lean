/- What the program's Scan and Get answer. -/
import Derived.Test.YtmckplgbaalpbaaDoorDeciScan
namespace Go.Proofs.YtmckplgbaalpbaaDoor.Deci
open Go.ChangeShapes Go.WideShapes Go.RowKit
set_option linter.unusedVariables false

theorem behind_z (s : ByteArray) (z : Int) (fr fin : Nat) (hz : (fr : Int) = z) (hs : s.size ≤ 9223372036854775807) (hle : fr ≤ fin) (hfin : fin ≤ s.size) (hd : ∀ i (h : i < s.size), fr ≤ i → i < fin → isDig s[i]) (hst : ∀ h : fin < s.size, ¬ isDig s[fin]) (w : World) :
    Calls Tryd.prog 67 #[.string s, .int .i64 z] w fun e w' => e = .returned (.int .i64 (fin : Int)) ∧ w = w' := by
  subst hz; exact behind_v s fr fin hs hle hfin hd hst w
/-- Three integers handed back. -/
def E3 (t : Int × Int × Int) : Ending := .returned (.tuple #[.int .i64 t.1, .int .i64 t.2.1, .int .i64 t.2.2])
theorem ext_size (s : ByteArray) (fr fin : Nat) (hs : s.size ≤ 9223372036854775807) : (s.extract fr fin).size ≤ 9223372036854775807 := by
  rw [ByteArray.size_extract]; omega
theorem slice_run (s : ByteArray) (a fin : Nat) (h1 : a + 1 ≤ fin) (h2 : fin ≤ s.size) (W : World) :
    (Instr.slice 9 (.string s) (some (.int .i64 ((a : Int) + 1))) (some (.int .i64 (fin : Int))) none).run Tryd.prog W = .ok (.string (s.extract (a + 1) fin)) W := by
  rw [run_slice_string W 9 s .i64 .i64 _ _ Tryd.underlying9 (by omega) (by omega) (by omega)]
  rw [show ((a : Int) + 1).toNat = a + 1 by omega, show ((fin : Int)).toNat = fin by omega]
theorem scan_arg (s : ByteArray) (z : Int) (h : z < 0 ∨ (s.size : Int) < z) (w : World) :
    Calls Tryd.prog 61 #[.string s, .int .i64 z] w fun e w' => e = E3 (0, 0, 1) ∧ w = w' := by
  by_cases h0 : z < 0
  · clear h
    go_enter Tryd.func61, Tryd.ntmps61
    go_wp2_with fail
    go_ret3
    exact ⟨rfl, rfl⟩
  · have h1 : (s.size : Int) < z := by omega
    have h2 : 0 ≤ z := by omega
    clear h h0
    go_enter Tryd.func61, Tryd.ntmps61
    go_wp2_with fail
    go_ret3
    exact ⟨rfl, rfl⟩
set_option maxHeartbeats 400000 in
theorem scan_true_bad (s : ByteArray) (a fin : Nat) (hs : s.size ≤ 9223372036854775807) (h : Scn s a true (a + 1) fin) (hw : ¬ well (dgs s (a + 1) fin) true) (w : World) :
    Calls Tryd.prog 61 #[.string s, .int .i64 (a : Int)] w fun e w' => e = E3 (0, 0, 12) ∧ w = w' := by
  have hle := h.hle
  have hfin := h.hfin
  have HW := Lib.hid hw
  have HH := Lib.hid h
  obtain ⟨hlt, h45⟩ := h.hy rfl
  have h45' : ((s[a].toNat : Int) == 45) = true := by rw [beq_iff_eq]; omega
  have hsl := slice_run s a fin hle hfin
  have has : (a : Int) ≤ (s.size : Int) := by have := h.ha; omega
  have hle' : ((a : Int) + 1) ≤ (fin : Int) := by omega
  have hfin' : (fin : Int) ≤ (s.size : Int) := by omega
  clear h hw h45
  go_enter Tryd.func61, Tryd.ntmps61
  go_wp2_with fail
  refine (behind_z s ((a : Int) + 1) (a + 1) fin (by omega) hs hle hfin HH.out.dig HH.out.stop _).mono ?_
  rintro e w' ⟨rfl, rfl⟩
  go_wp2_with fail
  refine (well_not (s.extract (a + 1) fin) true HW.out _).mono ?_
  rintro e w' ⟨rfl, rfl⟩
  go_wp2_with fail
  go_ret3
  exact ⟨rfl, rfl⟩
set_option maxHeartbeats 400000 in
theorem scan_true_range (s : ByteArray) (a fin : Nat) (hs : s.size ≤ 9223372036854775807) (h : Scn s a true (a + 1) fin) (hw : well (dgs s (a + 1) fin) true) (hv : ¬ val (dgs s (a + 1) fin) ≤ top true) (w : World) :
    Calls Tryd.prog 61 #[.string s, .int .i64 (a : Int)] w fun e w' => e = E3 (0, 0, 2) ∧ w = w' := by
  have hnum : numT (s.extract (a + 1) fin).data.toList true = (0, false) := if_neg hv
  have HV := Lib.hid hnum
  clear hnum hv
  have hle := h.hle
  have hfin := h.hfin
  have HW := Lib.hid hw
  have HH := Lib.hid h
  obtain ⟨hlt, h45⟩ := h.hy rfl
  have h45' : ((s[a].toNat : Int) == 45) = true := by rw [beq_iff_eq]; omega
  have hsl := slice_run s a fin hle hfin
  have has : (a : Int) ≤ (s.size : Int) := by have := h.ha; omega
  have hle' : ((a : Int) + 1) ≤ (fin : Int) := by omega
  have hfin' : (fin : Int) ≤ (s.size : Int) := by omega
  clear h hw h45
  go_enter Tryd.func61, Tryd.ntmps61
  go_wp2_with fail
  refine (behind_z s ((a : Int) + 1) (a + 1) fin (by omega) hs hle hfin HH.out.dig HH.out.stop _).mono ?_
  rintro e w' ⟨rfl, rfl⟩
  go_wp2_with fail
  refine (well_yes (s.extract (a + 1) fin) true HW.out _).mono ?_
  rintro e w' ⟨rfl, rfl⟩
  go_wp2_with fail
  refine (number_v (s.extract (a + 1) fin) true 0 false (ext_size s _ _ hs) HH.out.digs HV.out _).mono ?_
  rintro e w' ⟨rfl, rfl⟩
  go_wp2_with fail
  go_ret3
  exact ⟨rfl, rfl⟩
set_option maxHeartbeats 400000 in
theorem scan_true_ok (s : ByteArray) (a fin : Nat) (hs : s.size ≤ 9223372036854775807) (h : Scn s a true (a + 1) fin) (hw : well (dgs s (a + 1) fin) true) (hv : val (dgs s (a + 1) fin) ≤ top true) (w : World) :
    Calls Tryd.prog 61 #[.string s, .int .i64 (a : Int)] w fun e w' => e = E3 (sgn true (val (dgs s (a + 1) fin)), (fin : Int), 0) ∧ w = w' := by
  obtain ⟨v, hvv⟩ : ∃ v, sgn true (val (dgs s (a + 1) fin)) = v := ⟨_, rfl⟩
  rw [hvv]
  have hnum : numT (s.extract (a + 1) fin).data.toList true = (v, true) := by rw [← hvv]; exact if_pos hv
  have HV := Lib.hid hnum
  clear hvv hnum hv
  have hle := h.hle
  have hfin := h.hfin
  have HW := Lib.hid hw
  have HH := Lib.hid h
  obtain ⟨hlt, h45⟩ := h.hy rfl
  have h45' : ((s[a].toNat : Int) == 45) = true := by rw [beq_iff_eq]; omega
  have hsl := slice_run s a fin hle hfin
  have has : (a : Int) ≤ (s.size : Int) := by have := h.ha; omega
  have hle' : ((a : Int) + 1) ≤ (fin : Int) := by omega
  have hfin' : (fin : Int) ≤ (s.size : Int) := by omega
  clear h hw h45
  go_enter Tryd.func61, Tryd.ntmps61
  go_wp2_with fail
  refine (behind_z s ((a : Int) + 1) (a + 1) fin (by omega) hs hle hfin HH.out.dig HH.out.stop _).mono ?_
  rintro e w' ⟨rfl, rfl⟩
  go_wp2_with fail
  refine (well_yes (s.extract (a + 1) fin) true HW.out _).mono ?_
  rintro e w' ⟨rfl, rfl⟩
  go_wp2_with fail
  refine (number_v (s.extract (a + 1) fin) true v true (ext_size s _ _ hs) HH.out.digs HV.out _).mono ?_
  rintro e w' ⟨rfl, rfl⟩
  go_wp2_with fail
  go_ret3
  exact ⟨rfl, rfl⟩
set_option maxHeartbeats 400000 in
theorem scan_false_bad (s : ByteArray) (a fin : Nat) (hs : s.size ≤ 9223372036854775807) (h : Scn s a false (a) fin) (hlt : a < s.size) (hw : ¬ well (dgs s (a) fin) false) (w : World) :
    Calls Tryd.prog 61 #[.string s, .int .i64 (a : Int)] w fun e w' => e = E3 (0, 0, 12) ∧ w = w' := by
  have hle := h.hle
  have hfin := h.hfin
  have HW := Lib.hid hw
  have HH := Lib.hid h
  have h45 := h.hn rfl hlt
  have h45' : ((s[a].toNat : Int) == 45) = false := by rw [beq_eq_false_iff_ne]; omega
  have has : (a : Int) ≤ (s.size : Int) := by have := h.ha; omega
  have hle' : (a : Int) ≤ (fin : Int) := by omega
  have hfin' : (fin : Int) ≤ (s.size : Int) := by omega
  clear h hw h45
  go_enter Tryd.func61, Tryd.ntmps61
  go_wp2_with fail
  refine (behind_z s (a : Int) (a) fin (by omega) hs hle hfin HH.out.dig HH.out.stop _).mono ?_
  rintro e w' ⟨rfl, rfl⟩
  go_wp2_with fail
  refine (well_not (s.extract (a) fin) false HW.out _).mono ?_
  rintro e w' ⟨rfl, rfl⟩
  go_wp2_with fail
  go_ret3
  exact ⟨rfl, rfl⟩
set_option maxHeartbeats 400000 in
theorem scan_false_range (s : ByteArray) (a fin : Nat) (hs : s.size ≤ 9223372036854775807) (h : Scn s a false (a) fin) (hlt : a < s.size) (hw : well (dgs s (a) fin) false) (hv : ¬ val (dgs s (a) fin) ≤ top false) (w : World) :
    Calls Tryd.prog 61 #[.string s, .int .i64 (a : Int)] w fun e w' => e = E3 (0, 0, 2) ∧ w = w' := by
  have hnum : numT (s.extract (a) fin).data.toList false = (0, false) := if_neg hv
  have HV := Lib.hid hnum
  clear hnum hv
  have hle := h.hle
  have hfin := h.hfin
  have HW := Lib.hid hw
  have HH := Lib.hid h
  have h45 := h.hn rfl hlt
  have h45' : ((s[a].toNat : Int) == 45) = false := by rw [beq_eq_false_iff_ne]; omega
  have has : (a : Int) ≤ (s.size : Int) := by have := h.ha; omega
  have hle' : (a : Int) ≤ (fin : Int) := by omega
  have hfin' : (fin : Int) ≤ (s.size : Int) := by omega
  clear h hw h45
  go_enter Tryd.func61, Tryd.ntmps61
  go_wp2_with fail
  refine (behind_z s (a : Int) (a) fin (by omega) hs hle hfin HH.out.dig HH.out.stop _).mono ?_
  rintro e w' ⟨rfl, rfl⟩
  go_wp2_with fail
  refine (well_yes (s.extract (a) fin) false HW.out _).mono ?_
  rintro e w' ⟨rfl, rfl⟩
  go_wp2_with fail
  refine (number_v (s.extract (a) fin) false 0 false (ext_size s _ _ hs) HH.out.digs HV.out _).mono ?_
  rintro e w' ⟨rfl, rfl⟩
  go_wp2_with fail
  go_ret3
  exact ⟨rfl, rfl⟩
set_option maxHeartbeats 400000 in
theorem scan_false_ok (s : ByteArray) (a fin : Nat) (hs : s.size ≤ 9223372036854775807) (h : Scn s a false (a) fin) (hlt : a < s.size) (hw : well (dgs s (a) fin) false) (hv : val (dgs s (a) fin) ≤ top false) (w : World) :
    Calls Tryd.prog 61 #[.string s, .int .i64 (a : Int)] w fun e w' => e = E3 (sgn false (val (dgs s (a) fin)), (fin : Int), 0) ∧ w = w' := by
  obtain ⟨v, hvv⟩ : ∃ v, sgn false (val (dgs s (a) fin)) = v := ⟨_, rfl⟩
  rw [hvv]
  have hnum : numT (s.extract (a) fin).data.toList false = (v, true) := by rw [← hvv]; exact if_pos hv
  have HV := Lib.hid hnum
  clear hvv hnum hv
  have hle := h.hle
  have hfin := h.hfin
  have HW := Lib.hid hw
  have HH := Lib.hid h
  have h45 := h.hn rfl hlt
  have h45' : ((s[a].toNat : Int) == 45) = false := by rw [beq_eq_false_iff_ne]; omega
  have has : (a : Int) ≤ (s.size : Int) := by have := h.ha; omega
  have hle' : (a : Int) ≤ (fin : Int) := by omega
  have hfin' : (fin : Int) ≤ (s.size : Int) := by omega
  clear h hw h45
  go_enter Tryd.func61, Tryd.ntmps61
  go_wp2_with fail
  refine (behind_z s (a : Int) (a) fin (by omega) hs hle hfin HH.out.dig HH.out.stop _).mono ?_
  rintro e w' ⟨rfl, rfl⟩
  go_wp2_with fail
  refine (well_yes (s.extract (a) fin) false HW.out _).mono ?_
  rintro e w' ⟨rfl, rfl⟩
  go_wp2_with fail
  refine (number_v (s.extract (a) fin) false v true (ext_size s _ _ hs) HH.out.digs HV.out _).mono ?_
  rintro e w' ⟨rfl, rfl⟩
  go_wp2_with fail
  go_ret3
  exact ⟨rfl, rfl⟩
set_option maxHeartbeats 400000 in
theorem scan_end_bad (s : ByteArray) (a fin : Nat) (hs : s.size ≤ 9223372036854775807) (h : Scn s a false (a) fin) (hlt : ¬ a < s.size) (hw : ¬ well (dgs s (a) fin) false) (w : World) :
    Calls Tryd.prog 61 #[.string s, .int .i64 (a : Int)] w fun e w' => e = E3 (0, 0, 12) ∧ w = w' := by
  have hle := h.hle
  have hfin := h.hfin
  have HW := Lib.hid hw
  have HH := Lib.hid h
  have h45 := h.ha
  have has : (a : Int) ≤ (s.size : Int) := by have := h.ha; omega
  have hle' : (a : Int) ≤ (fin : Int) := by omega
  have hfin' : (fin : Int) ≤ (s.size : Int) := by omega
  clear h hw h45
  go_enter Tryd.func61, Tryd.ntmps61
  go_wp2_with fail
  refine (behind_z s (a : Int) (a) fin (by omega) hs hle hfin HH.out.dig HH.out.stop _).mono ?_
  rintro e w' ⟨rfl, rfl⟩
  go_wp2_with fail
  refine (well_not (s.extract (a) fin) false HW.out _).mono ?_
  rintro e w' ⟨rfl, rfl⟩
  go_wp2_with fail
  go_ret3
  exact ⟨rfl, rfl⟩
theorem scan_is (s : ByteArray) (a : Nat) (m : Bool) (fr fin : Nat) (hs : s.size ≤ 9223372036854775807) (h : Scn s a m fr fin) (w : World) :
    Calls Tryd.prog 61 #[.string s, .int .i64 (a : Int)] w fun e w' => e = E3 (scanT (dgs s fr fin) m fin) ∧ w = w' := by
  cases m
  · obtain rfl : fr = a := h.hfr
    by_cases hlt : fr < s.size
    · by_cases hw : well (dgs s fr fin) false
      · by_cases hv : val (dgs s fr fin) ≤ top false
        · rw [scanT_ok hw hv]; exact scan_false_ok s fr fin hs h hlt hw hv w
        · rw [scanT_range hw hv]; exact scan_false_range s fr fin hs h hlt hw hv w
      · rw [scanT_bad hw]; exact scan_false_bad s fr fin hs h hlt hw w
    · have hw : ¬ well (dgs s fr fin) false := by
        intro hw
        apply hw.1
        apply List.eq_nil_of_length_eq_zero
        rw [dgs_len s fr fin h.hfin]
        have := h.hfin
        omega
      rw [scanT_bad hw]; exact scan_end_bad s fr fin hs h hlt hw w
  · obtain rfl : fr = a + 1 := h.hfr
    by_cases hw : well (dgs s (a + 1) fin) true
    · by_cases hv : val (dgs s (a + 1) fin) ≤ top true
      · rw [scanT_ok hw hv]; exact scan_true_ok s a fin hs h hw hv w
      · rw [scanT_range hw hv]; exact scan_true_range s a fin hs h hw hv w
    · rw [scanT_bad hw]; exact scan_true_bad s a fin hs h hw w
theorem scan_v (s : ByteArray) (a : Nat) (m : Bool) (fr fin : Nat) (x y z : Int) (hs : s.size ≤ 9223372036854775807) (h : Scn s a m fr fin) (ht : scanT (dgs s fr fin) m fin = (x, y, z)) (w : World) :
    Calls Tryd.prog 61 #[.string s, .int .i64 (a : Int)] w fun e w' => e = .returned (.tuple #[.int .i64 x, .int .i64 y, .int .i64 z]) ∧ w = w' := by
  have k := scan_is s a m fr fin hs h w
  rw [ht] at k; exact k
/-- What Get makes of what Scan answers. -/
def getT (n : Nat) (t : Int × Int × Int) : Int × Int := if t.2.2 = 0 then (if t.2.1 < (n : Int) then (0, 12) else (t.1, 0)) else (0, t.2.2)
def E2 (t : Int × Int) : Ending := .returned (.tuple #[.int .i64 t.1, .int .i64 t.2])
theorem get_is (s : ByteArray) (m : Bool) (fr fin : Nat) (x y z : Int) (hs : s.size ≤ 9223372036854775807) (h : Scn s 0 m fr fin) (ht : scanT (dgs s fr fin) m fin = (x, y, z)) (w : World) :
    Calls Tryd.prog 50 #[.string s] w fun e w' => e = E2 (getT s.size (x, y, z)) ∧ w = w' := by
  have HH := Lib.hid h
  have HT := Lib.hid ht
  clear h ht
  by_cases hz : z = 0
  · subst hz
    by_cases hy : y < (s.size : Int)
    · have he : E2 (getT s.size (x, y, 0)) = .returned (.tuple #[.int .i64 0, .int .i64 12]) := by unfold getT; rw [if_pos rfl, if_pos hy]; rfl
      rw [he]; clear he
      go_enter Tryd.func50, Tryd.ntmps50
      go_wp2_with fail
      refine (scan_v s 0 m fr fin x y 0 hs HH.out HT.out _).mono ?_
      rintro e w' ⟨rfl, rfl⟩
      go_wp2_with fail
      go_ret2
      exact ⟨rfl, rfl⟩
    · have he : E2 (getT s.size (x, y, 0)) = .returned (.tuple #[.int .i64 x, .int .i64 0]) := by unfold getT; rw [if_pos rfl, if_neg hy]; rfl
      rw [he]; clear he
      have hy' : (s.size : Int) ≤ y := by omega
      go_enter Tryd.func50, Tryd.ntmps50
      go_wp2_with fail
      refine (scan_v s 0 m fr fin x y 0 hs HH.out HT.out _).mono ?_
      rintro e w' ⟨rfl, rfl⟩
      go_wp2_with fail
      go_ret2
      exact ⟨rfl, rfl⟩
  · have he : E2 (getT s.size (x, y, z)) = .returned (.tuple #[.int .i64 0, .int .i64 z]) := by unfold getT; rw [if_neg hz]; rfl
    rw [he]; clear he
    have hz' : (z != 0) = true := by rw [bne_iff_ne]; exact hz
    have hz2 : (z == 0) = false := by rw [beq_eq_false_iff_ne]; exact hz
    go_enter Tryd.func50, Tryd.ntmps50
    go_wp2_with fail
    refine (scan_v s 0 m fr fin x y z hs HH.out HT.out _).mono ?_
    rintro e w' ⟨rfl, rfl⟩
    go_wp2_with fail
    go_ret2
    exact ⟨rfl, rfl⟩
theorem get_v (s : ByteArray) (m : Bool) (fr fin : Nat) (x y z c g : Int) (hs : s.size ≤ 9223372036854775807) (h : Scn s 0 m fr fin) (ht : scanT (dgs s fr fin) m fin = (x, y, z)) (hg : getT s.size (x, y, z) = (c, g)) (w : World) :
    Calls Tryd.prog 50 #[.string s] w fun e w' => e = .returned (.tuple #[.int .i64 c, .int .i64 g]) ∧ w = w' := by
  have k := get_is s m fr fin x y z hs h ht w
  rw [hg] at k; exact k
end Go.Proofs.YtmckplgbaalpbaaDoor.Deci
