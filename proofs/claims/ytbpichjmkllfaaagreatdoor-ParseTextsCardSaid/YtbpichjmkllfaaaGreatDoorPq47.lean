/- Packed texts of one proof. Conditions: none. -/
import Derived.Test.YtbpichjmkllfaaaGreatDoorPq45
import Derived.Deep.RegionWith
namespace Go.Proofs.YtbpichjmkllfaaaGreatDoor.Lex
open Go.ChangeShapes Go.WideShapes Go.RowKit
set_option linter.unusedVariables false
set_option maxRecDepth 20000
set_option maxHeartbeats 2000000 in
theorem one_num_code (s : ByteArray) (a : Nat) (hs : s.size ≤ 100000) (ha : a < s.size) (hlt : Nam.letter s[a] = false) (fr n N e u : Nat) (cd : Int) (hfr : a + 0 = fr) (hfs : fr ≤ s.size) (hn : (dg (s.data.toList.drop fr)).length = n) (hN : 0 + n = N) (he : a + N = e) (hes : e ≤ s.size) (hv : Vals (s.extract fr e) u cd) (c : 48 ≤ s[a].toNat) (c9 : s[a].toNat ≤ 57) (hc : ¬ cd = 0) (w : World) :
  Calls Tryz.prog 44 #[.string s, .int .i64 (a : Int)] w fun e1 w' => OneBad cd e1 ∧ Below w.heap.size w w' := by
 have ha' : (a : Int) < (s.size : Int) := by omega
 have HY : Hid (Nam.scanZ s.data.toList (a : Int) = (a : Int)) := scan_self ha hlt
 have hirr : decide ((a : Int) < (a : Int)) = false := by simp
 have n37 : ((s[a].toNat : Int) == 37) = false := by rw [Bqf]; omega
 have n35 : ((s[a].toNat : Int) == 35) = false := by rw [Bqf]; omega
 have n36 : ((s[a].toNat : Int) == 36) = false := by rw [Bqf]; omega
 have g48 : decide ((48 : Int) ≤ (s[a].toNat : Int)) = true := by rw [decide_eq_true_iff]; omega
 have g57 : decide ((s[a].toNat : Int) ≤ (57 : Int)) = true := by rw [decide_eq_true_iff]; omega
 have HN := Hh (Ai hn hv)
 have hsl := slice_run s fr e (by omega) hes
 have hsl2 := slice_run s a e (by omega) hes
 have i3 : (a : Int) + (N : Int) = (e : Int) := by omega
 have we : IntKind.i64.wrap (e : Int) = (e : Int) := IntWalk.i64_in _ (by omega)
 obtain rfl : a = fr := by omega
 obtain rfl : n = N := by omega
 have b1 : (n : Int) ≤ 100000 := by omega
 clear hn hv hN he hlt
 have z1 : (cd == 0) = false := by rw [Bqf]; exact hc
 obtain ⟨xw, hxw⟩ : ∃ xw, IntKind.i64.wrap (u : Int) = xw := ⟨_, rfl⟩
 clear c c9
 go_enter Tryz.func44, Tryz.ntmps44
 go_wp2_with fail
 refine (Nam.refscan_v s (a : Int) (a : Int) (by omega) HY.out _).mono ?_
 rintro e1 w1 ⟨rfl, rfl⟩
 go_wp2_with fail
 refine (ddigits_v s a n hfs hs HN.out.1 _).mono ?_
 rintro e1 w1 ⟨rfl, rfl⟩
 go_wp2_with fail
 refine (HN.out.2 _).mono ?_
 rintro e1 w1 ⟨rfl, rfl⟩
 go_wp2_with fail
 go_region_with (fail)
 all_goals go_wp2_with fail
 all_goals refine fin3 (fn := Tryz.f44) rfl rfl (heap_alloc2_old w _ _) rfl ?_
 all_goals first | exact ⟨⟨_, _, _, _, _, _, rfl⟩, two_below w _ _⟩ | exact ⟨⟨_, _, _, _, _, _, rfl⟩, (two_below w _ _).drew⟩
set_option maxHeartbeats 2000000 in
theorem one_num_fine (s : ByteArray) (a : Nat) (hs : s.size ≤ 100000) (ha : a < s.size) (hlt : Nam.letter s[a] = false) (fr n N e u : Nat) (cd : Int) (hfr : a + 0 = fr) (hfs : fr ≤ s.size) (hn : (dg (s.data.toList.drop fr)).length = n) (hN : 0 + n = N) (he : a + N = e) (hes : e ≤ s.size) (hv : Vals (s.extract fr e) u cd) (c : 48 ≤ s[a].toNat) (c9 : s[a].toNat ≤ 57) (hc : cd = 0) (hu : u ≤ 9223372036854775807) (w : World) :
  Calls Tryz.prog 44 #[.string s, .int .i64 (a : Int)] w fun e1 w' => e1 = oneGood (tk 2 (s.extract a e) u 0 a) N ∧ Below w.heap.size w w' := by
 have ha' : (a : Int) < (s.size : Int) := by omega
 have HY : Hid (Nam.scanZ s.data.toList (a : Int) = (a : Int)) := scan_self ha hlt
 have hirr : decide ((a : Int) < (a : Int)) = false := by simp
 have n37 : ((s[a].toNat : Int) == 37) = false := by rw [Bqf]; omega
 have n35 : ((s[a].toNat : Int) == 35) = false := by rw [Bqf]; omega
 have n36 : ((s[a].toNat : Int) == 36) = false := by rw [Bqf]; omega
 have g48 : decide ((48 : Int) ≤ (s[a].toNat : Int)) = true := by rw [decide_eq_true_iff]; omega
 have g57 : decide ((s[a].toNat : Int) ≤ (57 : Int)) = true := by rw [decide_eq_true_iff]; omega
 have HN := Hh (Ai hn hv)
 have hsl := slice_run s fr e (by omega) hes
 have hsl2 := slice_run s a e (by omega) hes
 have i3 : (a : Int) + (N : Int) = (e : Int) := by omega
 have we : IntKind.i64.wrap (e : Int) = (e : Int) := IntWalk.i64_in _ (by omega)
 obtain rfl : a = fr := by omega
 obtain rfl : n = N := by omega
 have b1 : (n : Int) ≤ 100000 := by omega
 clear hn hv hN he hlt
 subst hc
 have z1 : (u : Int) ≤ 9223372036854775807 := by omega
 have wu : IntKind.i64.wrap (u : Int) = (u : Int) := IntWalk.i64_in _ (by omega)
 clear c c9
 go_enter Tryz.func44, Tryz.ntmps44
 go_wp2_with fail
 refine (Nam.refscan_v s (a : Int) (a : Int) (by omega) HY.out _).mono ?_
 rintro e1 w1 ⟨rfl, rfl⟩
 go_wp2_with fail
 refine (ddigits_v s a n hfs hs HN.out.1 _).mono ?_
 rintro e1 w1 ⟨rfl, rfl⟩
 go_wp2_with fail
 refine (HN.out.2 _).mono ?_
 rintro e1 w1 ⟨rfl, rfl⟩
 go_wp2_with fail
 go_region_with (fail)
 all_goals go_wp2_with fail
 all_goals refine fin3 (fn := Tryz.f44) rfl rfl (heap_alloc2_old w _ _) rfl ?_
 all_goals first | exact ⟨rfl, two_below w _ _⟩ | exact ⟨rfl, (two_below w _ _).drew⟩
set_option maxHeartbeats 2000000 in
theorem one_num_least (s : ByteArray) (a : Nat) (hs : s.size ≤ 100000) (ha : a < s.size) (hlt : Nam.letter s[a] = false) (fr n N e u : Nat) (cd : Int) (hfr : a + 0 = fr) (hfs : fr ≤ s.size) (hn : (dg (s.data.toList.drop fr)).length = n) (hN : 0 + n = N) (he : a + N = e) (hes : e ≤ s.size) (hv : Vals (s.extract fr e) u cd) (c : 48 ≤ s[a].toNat) (c9 : s[a].toNat ≤ 57) (hc : cd = 0) (hu : u = 9223372036854775808) (w : World) :
  Calls Tryz.prog 44 #[.string s, .int .i64 (a : Int)] w fun e1 w' => e1 = oneGood (tk 2 (s.extract a e) (-9223372036854775808) 0 a) N ∧ Below w.heap.size w w' := by
 have ha' : (a : Int) < (s.size : Int) := by omega
 have HY : Hid (Nam.scanZ s.data.toList (a : Int) = (a : Int)) := scan_self ha hlt
 have hirr : decide ((a : Int) < (a : Int)) = false := by simp
 have n37 : ((s[a].toNat : Int) == 37) = false := by rw [Bqf]; omega
 have n35 : ((s[a].toNat : Int) == 35) = false := by rw [Bqf]; omega
 have n36 : ((s[a].toNat : Int) == 36) = false := by rw [Bqf]; omega
 have g48 : decide ((48 : Int) ≤ (s[a].toNat : Int)) = true := by rw [decide_eq_true_iff]; omega
 have g57 : decide ((s[a].toNat : Int) ≤ (57 : Int)) = true := by rw [decide_eq_true_iff]; omega
 have HN := Hh (Ai hn hv)
 have hsl := slice_run s fr e (by omega) hes
 have hsl2 := slice_run s a e (by omega) hes
 have i3 : (a : Int) + (N : Int) = (e : Int) := by omega
 have we : IntKind.i64.wrap (e : Int) = (e : Int) := IntWalk.i64_in _ (by omega)
 obtain rfl : a = fr := by omega
 obtain rfl : n = N := by omega
 have b1 : (n : Int) ≤ 100000 := by omega
 clear hn hv hN he hlt
 subst hc
 subst hu
 have wu : IntKind.i64.wrap (9223372036854775808 : Int) = -9223372036854775808 := by decide
 clear c c9
 go_enter Tryz.func44, Tryz.ntmps44
 go_wp2_with fail
 refine (Nam.refscan_v s (a : Int) (a : Int) (by omega) HY.out _).mono ?_
 rintro e1 w1 ⟨rfl, rfl⟩
 go_wp2_with fail
 refine (ddigits_v s a n hfs hs HN.out.1 _).mono ?_
 rintro e1 w1 ⟨rfl, rfl⟩
 go_wp2_with fail
 refine (HN.out.2 _).mono ?_
 rintro e1 w1 ⟨rfl, rfl⟩
 go_wp2_with fail
 go_region_with (fail)
 all_goals go_wp2_with fail
 all_goals refine fin3 (fn := Tryz.f44) rfl rfl (heap_alloc2_old w _ _) rfl ?_
 all_goals first | exact ⟨rfl, two_below w _ _⟩ | exact ⟨rfl, (two_below w _ _).drew⟩
def sg (k : Nat) : UInt8 := signs.getD k 0
theorem sgI : ∀ k : Nat, (hk : k < 14) → (⟨#[123, 125, 40, 41, 91, 93, 44, 58, 59, 61, 43, 45, 42, 46]⟩ : ByteArray)[k] = sg k := by decide +kernel
theorem sg_run (k : Nat) (hk : k < 14) (W : World) :
  (Instr.index 9 (.string ⟨#[123, 125, 40, 41, 91, 93, 44, 58, 59, 61, 43, 45, 42, 46]⟩) (.int .i64 (k : Int))).run Tryz.prog W = .ok (.int .u8 ((sg k).toNat : Int)) W := by
 rw [← sgI k hk]; exact str_run ⟨#[123, 125, 40, 41, 91, 93, 44, 58, 59, 61, 43, 45, 42, 46]⟩ k hk W
theorem sg_in {c : UInt8} {k : Nat} (hk : k < 14) (h : (sg k).toNat = c.toNat) : c ∈ signs := by
 have e : sg k = c := UInt8.toNat_inj.1 h
 rw [← e]
 revert hk
 exact (show ∀ k : Nat, k < 14 → sg k ∈ signs by decide +kernel) k
theorem sg_out {c : UInt8} (h : ∀ k, k < 14 → (sg k).toNat ≠ c.toNat) : ¬ c ∈ signs := by
 revert h
 refine Quo.all_bytes (fun c => (∀ k, k < 14 → (sg k).toNat ≠ c.toNat) → ¬ c ∈ signs) ?_ c
 decide +kernel
def SignP (s : ByteArray) (a k : Nat) (c : UInt8) (e : Ending) : Prop := (c ∈ signs ∧ e = oneGood (tk 7 (s.extract a (a + k)) 0 0 a) k) ∨ (¬ c ∈ signs ∧ OneBad 10 e)
set_option maxHeartbeats 2000000 in
theorem sign_one (s : ByteArray) (a : Nat) (hs : s.size ≤ 100000) (ha : a < s.size) (hlt : Nam.letter s[a] = false) (hdg : dgt s[a] = false) (c37 : s[a].toNat ≠ 37) (c35 : s[a].toNat ≠ 35) (c36 : s[a].toNat ≠ 36) (n46 : s[a].toNat ≠ 46) (w : World) :
  Calls Tryz.prog 44 #[.string s, .int .i64 (a : Int)] w fun e1 w' => SignP s a 1 s[a] e1 ∧ Below w.heap.size w w' := by
 have ha' : (a : Int) < (s.size : Int) := by omega
 have HY : Hid (Nam.scanZ s.data.toList (a : Int) = (a : Int)) := scan_self ha hlt
 have hirr : decide ((a : Int) < (a : Int)) = false := by simp
 have n37 : ((s[a].toNat : Int) == 37) = false := by rw [Bqf]; omega
 have n35 : ((s[a].toNat : Int) == 35) = false := by rw [Bqf]; omega
 have n36 : ((s[a].toNat : Int) == 36) = false := by rw [Bqf]; omega
 have f46 : ((s[a].toNat : Int) == 46) = false := by rw [Bqf]; omega
 obtain ⟨e, he⟩ : ∃ e, a + 1 = e := ⟨_, rfl⟩
 have ie : (a : Int) + 1 = (e : Int) := by omega
 have hes : e ≤ s.size := by omega
 have hsl := slice_run s a e (by omega) hes
 have we : IntKind.i64.wrap (e : Int) = (e : Int) := IntWalk.i64_in _ (by omega)
 have HEE := Hh he
 by_cases g48 : 48 ≤ s[a].toNat
 ·have d48 : decide ((48 : Int) ≤ (s[a].toNat : Int)) = true := by rw [decide_eq_true_iff]; omega
  have d57 : decide ((s[a].toNat : Int) ≤ (57 : Int)) = false := by
   rw [decide_eq_false_iff_not]; unfold dgt at hdg; simp at hdg; omega
  clear c37 c35 c36 n46 he
  go_enter Tryz.func44, Tryz.ntmps44
  go_wp2_with fail
  refine (Nam.refscan_v s (a : Int) (a : Int) (by omega) HY.out _).mono ?_
  rintro e1 w1 ⟨rfl, rfl⟩
  go_wp2_with fail
  clear hirr n37 n35 n36 d48 d57
  go_loopg [14] 14 (fun gk u wr => ∃ i : Nat, i ≤ 14 ∧ u = .int .i64 (i : Int) ∧ Hid (gk = 14 - i ∧ (∀ j, j < i → (sg j).toNat ≠ s[a].toNat)) ∧ wr = (w.alloc (.cells t0 72)).alloc (.cells (tc 0 ⟨#[]⟩ 0 0 a) 72))
  case atStart => exact ⟨0, by omega, rfl, ⟨rfl, (fun j h => absurd h (Nat.not_lt_zero _))⟩, rfl⟩
  case round =>
   obtain ⟨i, hi, rfl, HH, rfl⟩ := hrel
   unfold t0 tc
   by_cases hl : i < 14
   ·have hl' : (i : Int) < 14 := by omega
    have ht := sg_run i hl
    obtain ⟨y, hy⟩ : ∃ y, (sg i).toNat = y := ⟨_, rfl⟩
    rw [hy] at ht
    have HYI := Hh hy
    clear hy
    by_cases heq : y = s[a].toNat
    ·have c1 : ((y : Int) == (s[a].toNat : Int)) = true := by rw [beq_iff_eq]; omega
     have HEQ := Hh heq
     clear heq
     go_wp2_with fail
     go_region_with (fail)
     all_goals go_wp2_with fail
     all_goals refine fin3 (fn := Tryz.f44) rfl rfl (heap_alloc2_old w _ _) rfl ?_
     all_goals refine ⟨.inl ⟨sg_in hl (by rw [HYI.out, HEQ.out]), ?_⟩, ?_⟩
     all_goals first | exact two_below w _ _ | exact (two_below w _ _).drew | (rw [HEE.out]; rfl)
    ·have c1 : ((y : Int) == (s[a].toNat : Int)) = false := by rw [Bqf]; omega
     have HEQ := Hh heq
     clear heq
     go_wp2_with fail
     go_roundg (14 - (i + 1))
     case measure => have := HH.out.1; omega
     case rel =>
      refine ⟨i + 1, by omega, by go_num, ⟨rfl, fun j hj => ?_⟩, rfl⟩
      by_cases e : j = i
      ·subst e; rw [HYI.out]; exact HEQ.out
      ·exact HH.out.2 j (by omega)
   ·obtain rfl : i = 14 := by omega
    go_wp2_with fail
    refine fin3 (fn := Tryz.f44) rfl rfl (heap_alloc2_old w _ _) rfl ?_
    exact ⟨.inr ⟨sg_out HH.out.2, ⟨_, _, _, _, _, _, rfl⟩⟩, two_below w _ _⟩
 ·have d48 : decide ((48 : Int) ≤ (s[a].toNat : Int)) = false := by rw [decide_eq_false_iff_not]; omega
  clear c37 c35 c36 n46 he
  go_enter Tryz.func44, Tryz.ntmps44
  go_wp2_with fail
  refine (Nam.refscan_v s (a : Int) (a : Int) (by omega) HY.out _).mono ?_
  rintro e1 w1 ⟨rfl, rfl⟩
  go_wp2_with fail
  clear hirr n37 n35 n36 d48
  go_loopg [14] 14 (fun gk u wr => ∃ i : Nat, i ≤ 14 ∧ u = .int .i64 (i : Int) ∧ Hid (gk = 14 - i ∧ (∀ j, j < i → (sg j).toNat ≠ s[a].toNat)) ∧ wr = (w.alloc (.cells t0 72)).alloc (.cells (tc 0 ⟨#[]⟩ 0 0 a) 72))
  case atStart => exact ⟨0, by omega, rfl, ⟨rfl, (fun j h => absurd h (Nat.not_lt_zero _))⟩, rfl⟩
  case round =>
   obtain ⟨i, hi, rfl, HH, rfl⟩ := hrel
   unfold t0 tc
   by_cases hl : i < 14
   ·have hl' : (i : Int) < 14 := by omega
    have ht := sg_run i hl
    obtain ⟨y, hy⟩ : ∃ y, (sg i).toNat = y := ⟨_, rfl⟩
    rw [hy] at ht
    have HYI := Hh hy
    clear hy
    by_cases heq : y = s[a].toNat
    ·have c1 : ((y : Int) == (s[a].toNat : Int)) = true := by rw [beq_iff_eq]; omega
     have HEQ := Hh heq
     clear heq
     go_wp2_with fail
     go_region_with (fail)
     all_goals go_wp2_with fail
     all_goals refine fin3 (fn := Tryz.f44) rfl rfl (heap_alloc2_old w _ _) rfl ?_
     all_goals refine ⟨.inl ⟨sg_in hl (by rw [HYI.out, HEQ.out]), ?_⟩, ?_⟩
     all_goals first | exact two_below w _ _ | exact (two_below w _ _).drew | (rw [HEE.out]; rfl)
    ·have c1 : ((y : Int) == (s[a].toNat : Int)) = false := by rw [Bqf]; omega
     have HEQ := Hh heq
     clear heq
     go_wp2_with fail
     go_roundg (14 - (i + 1))
     case measure => have := HH.out.1; omega
     case rel =>
      refine ⟨i + 1, by omega, by go_num, ⟨rfl, fun j hj => ?_⟩, rfl⟩
      by_cases e : j = i
      ·subst e; rw [HYI.out]; exact HEQ.out
      ·exact HH.out.2 j (by omega)
   ·obtain rfl : i = 14 := by omega
    go_wp2_with fail
    refine fin3 (fn := Tryz.f44) rfl rfl (heap_alloc2_old w _ _) rfl ?_
    exact ⟨.inr ⟨sg_out HH.out.2, ⟨_, _, _, _, _, _, rfl⟩⟩, two_below w _ _⟩
set_option maxHeartbeats 2000000 in
theorem sign_pend (s : ByteArray) (a : Nat) (hs : s.size ≤ 100000) (ha : a < s.size) (hlt : Nam.letter s[a] = false) (hdg : dgt s[a] = false) (c37 : s[a].toNat ≠ 37) (c35 : s[a].toNat ≠ 35) (c36 : s[a].toNat ≠ 36) (y46 : s[a].toNat = 46) (hp : a + 1 = s.size) (w : World) :
  Calls Tryz.prog 44 #[.string s, .int .i64 (a : Int)] w fun e1 w' => SignP s a 1 s[a] e1 ∧ Below w.heap.size w w' := by
 have ha' : (a : Int) < (s.size : Int) := by omega
 have HY : Hid (Nam.scanZ s.data.toList (a : Int) = (a : Int)) := scan_self ha hlt
 have hirr : decide ((a : Int) < (a : Int)) = false := by simp
 have n37 : ((s[a].toNat : Int) == 37) = false := by rw [Bqf]; omega
 have n35 : ((s[a].toNat : Int) == 35) = false := by rw [Bqf]; omega
 have n36 : ((s[a].toNat : Int) == 36) = false := by rw [Bqf]; omega
 have f46 : ((s[a].toNat : Int) == 46) = true := by rw [beq_iff_eq]; omega
 have ip : (a : Int) + 1 = (s.size : Int) := by omega
 have hes : s.size ≤ s.size := by omega
 have hsl := slice_run s a s.size (by omega) hes
 have we : IntKind.i64.wrap (s.size : Int) = (s.size : Int) := IntWalk.i64_in _ (by omega)
 have HEE := Hh hp
 by_cases g48 : 48 ≤ s[a].toNat
 ·have d48 : decide ((48 : Int) ≤ (s[a].toNat : Int)) = true := by rw [decide_eq_true_iff]; omega
  have d57 : decide ((s[a].toNat : Int) ≤ (57 : Int)) = false := by
   rw [decide_eq_false_iff_not]; unfold dgt at hdg; simp at hdg; omega
  clear c37 c35 c36 y46 hp
  go_enter Tryz.func44, Tryz.ntmps44
  go_wp2_with fail
  refine (Nam.refscan_v s (a : Int) (a : Int) (by omega) HY.out _).mono ?_
  rintro e1 w1 ⟨rfl, rfl⟩
  go_wp2_with fail
  clear hirr n37 n35 n36 d48 d57
  go_loopg [14] 14 (fun gk u wr => ∃ i : Nat, i ≤ 14 ∧ u = .int .i64 (i : Int) ∧ Hid (gk = 14 - i ∧ (∀ j, j < i → (sg j).toNat ≠ s[a].toNat)) ∧ wr = (w.alloc (.cells t0 72)).alloc (.cells (tc 0 ⟨#[]⟩ 0 0 a) 72))
  case atStart => exact ⟨0, by omega, rfl, ⟨rfl, (fun j h => absurd h (Nat.not_lt_zero _))⟩, rfl⟩
  case round =>
   obtain ⟨i, hi, rfl, HH, rfl⟩ := hrel
   unfold t0 tc
   by_cases hl : i < 14
   ·have hl' : (i : Int) < 14 := by omega
    have ht := sg_run i hl
    obtain ⟨y, hy⟩ : ∃ y, (sg i).toNat = y := ⟨_, rfl⟩
    rw [hy] at ht
    have HYI := Hh hy
    clear hy
    by_cases heq : y = s[a].toNat
    ·have c1 : ((y : Int) == (s[a].toNat : Int)) = true := by rw [beq_iff_eq]; omega
     have HEQ := Hh heq
     clear heq
     go_wp2_with fail
     go_region_with (fail)
     all_goals go_wp2_with fail
     all_goals refine fin3 (fn := Tryz.f44) rfl rfl (heap_alloc2_old w _ _) rfl ?_
     all_goals refine ⟨.inl ⟨sg_in hl (by rw [HYI.out, HEQ.out]), ?_⟩, ?_⟩
     all_goals first | exact two_below w _ _ | exact (two_below w _ _).drew | (rw [HEE.out]; rfl)
    ·have c1 : ((y : Int) == (s[a].toNat : Int)) = false := by rw [Bqf]; omega
     have HEQ := Hh heq
     clear heq
     go_wp2_with fail
     go_roundg (14 - (i + 1))
     case measure => have := HH.out.1; omega
     case rel =>
      refine ⟨i + 1, by omega, by go_num, ⟨rfl, fun j hj => ?_⟩, rfl⟩
      by_cases e : j = i
      ·subst e; rw [HYI.out]; exact HEQ.out
      ·exact HH.out.2 j (by omega)
   ·obtain rfl : i = 14 := by omega
    go_wp2_with fail
    refine fin3 (fn := Tryz.f44) rfl rfl (heap_alloc2_old w _ _) rfl ?_
    exact ⟨.inr ⟨sg_out HH.out.2, ⟨_, _, _, _, _, _, rfl⟩⟩, two_below w _ _⟩
 ·have d48 : decide ((48 : Int) ≤ (s[a].toNat : Int)) = false := by rw [decide_eq_false_iff_not]; omega
  clear c37 c35 c36 y46 hp
  go_enter Tryz.func44, Tryz.ntmps44
  go_wp2_with fail
  refine (Nam.refscan_v s (a : Int) (a : Int) (by omega) HY.out _).mono ?_
  rintro e1 w1 ⟨rfl, rfl⟩
  go_wp2_with fail
  clear hirr n37 n35 n36 d48
  go_loopg [14] 14 (fun gk u wr => ∃ i : Nat, i ≤ 14 ∧ u = .int .i64 (i : Int) ∧ Hid (gk = 14 - i ∧ (∀ j, j < i → (sg j).toNat ≠ s[a].toNat)) ∧ wr = (w.alloc (.cells t0 72)).alloc (.cells (tc 0 ⟨#[]⟩ 0 0 a) 72))
  case atStart => exact ⟨0, by omega, rfl, ⟨rfl, (fun j h => absurd h (Nat.not_lt_zero _))⟩, rfl⟩
  case round =>
   obtain ⟨i, hi, rfl, HH, rfl⟩ := hrel
   unfold t0 tc
   by_cases hl : i < 14
   ·have hl' : (i : Int) < 14 := by omega
    have ht := sg_run i hl
    obtain ⟨y, hy⟩ : ∃ y, (sg i).toNat = y := ⟨_, rfl⟩
    rw [hy] at ht
    have HYI := Hh hy
    clear hy
    by_cases heq : y = s[a].toNat
    ·have c1 : ((y : Int) == (s[a].toNat : Int)) = true := by rw [beq_iff_eq]; omega
     have HEQ := Hh heq
     clear heq
     go_wp2_with fail
     go_region_with (fail)
     all_goals go_wp2_with fail
     all_goals refine fin3 (fn := Tryz.f44) rfl rfl (heap_alloc2_old w _ _) rfl ?_
     all_goals refine ⟨.inl ⟨sg_in hl (by rw [HYI.out, HEQ.out]), ?_⟩, ?_⟩
     all_goals first | exact two_below w _ _ | exact (two_below w _ _).drew | (rw [HEE.out]; rfl)
    ·have c1 : ((y : Int) == (s[a].toNat : Int)) = false := by rw [Bqf]; omega
     have HEQ := Hh heq
     clear heq
     go_wp2_with fail
     go_roundg (14 - (i + 1))
     case measure => have := HH.out.1; omega
     case rel =>
      refine ⟨i + 1, by omega, by go_num, ⟨rfl, fun j hj => ?_⟩, rfl⟩
      by_cases e : j = i
      ·subst e; rw [HYI.out]; exact HEQ.out
      ·exact HH.out.2 j (by omega)
   ·obtain rfl : i = 14 := by omega
    go_wp2_with fail
    refine fin3 (fn := Tryz.f44) rfl rfl (heap_alloc2_old w _ _) rfl ?_
    exact ⟨.inr ⟨sg_out HH.out.2, ⟨_, _, _, _, _, _, rfl⟩⟩, two_below w _ _⟩
set_option maxHeartbeats 2000000 in
theorem sign_pone (s : ByteArray) (a : Nat) (hs : s.size ≤ 100000) (ha : a < s.size) (hlt : Nam.letter s[a] = false) (hdg : dgt s[a] = false) (c37 : s[a].toNat ≠ 37) (c35 : s[a].toNat ≠ 35) (c36 : s[a].toNat ≠ 36) (y46 : s[a].toNat = 46) (p : Nat) (hp : a + 1 = p) (hps : p < s.size) (hd : s[p].toNat ≠ 46) (w : World) :
  Calls Tryz.prog 44 #[.string s, .int .i64 (a : Int)] w fun e1 w' => SignP s a 1 s[a] e1 ∧ Below w.heap.size w w' := by
 have ha' : (a : Int) < (s.size : Int) := by omega
 have HY : Hid (Nam.scanZ s.data.toList (a : Int) = (a : Int)) := scan_self ha hlt
 have hirr : decide ((a : Int) < (a : Int)) = false := by simp
 have n37 : ((s[a].toNat : Int) == 37) = false := by rw [Bqf]; omega
 have n35 : ((s[a].toNat : Int) == 35) = false := by rw [Bqf]; omega
 have n36 : ((s[a].toNat : Int) == 36) = false := by rw [Bqf]; omega
 have f46 : ((s[a].toNat : Int) == 46) = true := by rw [beq_iff_eq]; omega
 have ip : (a : Int) + 1 = (p : Int) := by omega
 have jp : (p : Int) < (s.size : Int) := by omega
 have lp : ((s[p].toNat : Int) == 46) = false := by rw [Bqf]; omega
 have he : a + 1 = p := hp
 have hes : p ≤ s.size := by omega
 have hsl := slice_run s a p (by omega) hes
 have we : IntKind.i64.wrap (p : Int) = (p : Int) := IntWalk.i64_in _ (by omega)
 have HEE := Hh he
 by_cases g48 : 48 ≤ s[a].toNat
 ·have d48 : decide ((48 : Int) ≤ (s[a].toNat : Int)) = true := by rw [decide_eq_true_iff]; omega
  have d57 : decide ((s[a].toNat : Int) ≤ (57 : Int)) = false := by
   rw [decide_eq_false_iff_not]; unfold dgt at hdg; simp at hdg; omega
  clear c37 c35 c36 y46 hd
  go_enter Tryz.func44, Tryz.ntmps44
  go_wp2_with fail
  refine (Nam.refscan_v s (a : Int) (a : Int) (by omega) HY.out _).mono ?_
  rintro e1 w1 ⟨rfl, rfl⟩
  go_wp2_with fail
  clear hirr n37 n35 n36 d48 d57
  go_loopg [14] 14 (fun gk u wr => ∃ i : Nat, i ≤ 14 ∧ u = .int .i64 (i : Int) ∧ Hid (gk = 14 - i ∧ (∀ j, j < i → (sg j).toNat ≠ s[a].toNat)) ∧ wr = (w.alloc (.cells t0 72)).alloc (.cells (tc 0 ⟨#[]⟩ 0 0 a) 72))
  case atStart => exact ⟨0, by omega, rfl, ⟨rfl, (fun j h => absurd h (Nat.not_lt_zero _))⟩, rfl⟩
  case round =>
   obtain ⟨i, hi, rfl, HH, rfl⟩ := hrel
   unfold t0 tc
   by_cases hl : i < 14
   ·have hl' : (i : Int) < 14 := by omega
    have ht := sg_run i hl
    obtain ⟨y, hy⟩ : ∃ y, (sg i).toNat = y := ⟨_, rfl⟩
    rw [hy] at ht
    have HYI := Hh hy
    clear hy
    by_cases heq : y = s[a].toNat
    ·have c1 : ((y : Int) == (s[a].toNat : Int)) = true := by rw [beq_iff_eq]; omega
     have HEQ := Hh heq
     clear heq
     go_wp2_with fail
     go_region_with (fail)
     all_goals go_wp2_with fail
     all_goals refine fin3 (fn := Tryz.f44) rfl rfl (heap_alloc2_old w _ _) rfl ?_
     all_goals refine ⟨.inl ⟨sg_in hl (by rw [HYI.out, HEQ.out]), ?_⟩, ?_⟩
     all_goals first | exact two_below w _ _ | exact (two_below w _ _).drew | (rw [HEE.out]; rfl)
    ·have c1 : ((y : Int) == (s[a].toNat : Int)) = false := by rw [Bqf]; omega
     have HEQ := Hh heq
     clear heq
     go_wp2_with fail
     go_roundg (14 - (i + 1))
     case measure => have := HH.out.1; omega
     case rel =>
      refine ⟨i + 1, by omega, by go_num, ⟨rfl, fun j hj => ?_⟩, rfl⟩
      by_cases e : j = i
      ·subst e; rw [HYI.out]; exact HEQ.out
      ·exact HH.out.2 j (by omega)
   ·obtain rfl : i = 14 := by omega
    go_wp2_with fail
    refine fin3 (fn := Tryz.f44) rfl rfl (heap_alloc2_old w _ _) rfl ?_
    exact ⟨.inr ⟨sg_out HH.out.2, ⟨_, _, _, _, _, _, rfl⟩⟩, two_below w _ _⟩
 ·have d48 : decide ((48 : Int) ≤ (s[a].toNat : Int)) = false := by rw [decide_eq_false_iff_not]; omega
  clear c37 c35 c36 y46 hd
  go_enter Tryz.func44, Tryz.ntmps44
  go_wp2_with fail
  refine (Nam.refscan_v s (a : Int) (a : Int) (by omega) HY.out _).mono ?_
  rintro e1 w1 ⟨rfl, rfl⟩
  go_wp2_with fail
  clear hirr n37 n35 n36 d48
  go_loopg [14] 14 (fun gk u wr => ∃ i : Nat, i ≤ 14 ∧ u = .int .i64 (i : Int) ∧ Hid (gk = 14 - i ∧ (∀ j, j < i → (sg j).toNat ≠ s[a].toNat)) ∧ wr = (w.alloc (.cells t0 72)).alloc (.cells (tc 0 ⟨#[]⟩ 0 0 a) 72))
  case atStart => exact ⟨0, by omega, rfl, ⟨rfl, (fun j h => absurd h (Nat.not_lt_zero _))⟩, rfl⟩
  case round =>
   obtain ⟨i, hi, rfl, HH, rfl⟩ := hrel
   unfold t0 tc
   by_cases hl : i < 14
   ·have hl' : (i : Int) < 14 := by omega
    have ht := sg_run i hl
    obtain ⟨y, hy⟩ : ∃ y, (sg i).toNat = y := ⟨_, rfl⟩
    rw [hy] at ht
    have HYI := Hh hy
    clear hy
    by_cases heq : y = s[a].toNat
    ·have c1 : ((y : Int) == (s[a].toNat : Int)) = true := by rw [beq_iff_eq]; omega
     have HEQ := Hh heq
     clear heq
     go_wp2_with fail
     go_region_with (fail)
     all_goals go_wp2_with fail
     all_goals refine fin3 (fn := Tryz.f44) rfl rfl (heap_alloc2_old w _ _) rfl ?_
     all_goals refine ⟨.inl ⟨sg_in hl (by rw [HYI.out, HEQ.out]), ?_⟩, ?_⟩
     all_goals first | exact two_below w _ _ | exact (two_below w _ _).drew | (rw [HEE.out]; rfl)
    ·have c1 : ((y : Int) == (s[a].toNat : Int)) = false := by rw [Bqf]; omega
     have HEQ := Hh heq
     clear heq
     go_wp2_with fail
     go_roundg (14 - (i + 1))
     case measure => have := HH.out.1; omega
     case rel =>
      refine ⟨i + 1, by omega, by go_num, ⟨rfl, fun j hj => ?_⟩, rfl⟩
      by_cases e : j = i
      ·subst e; rw [HYI.out]; exact HEQ.out
      ·exact HH.out.2 j (by omega)
   ·obtain rfl : i = 14 := by omega
    go_wp2_with fail
    refine fin3 (fn := Tryz.f44) rfl rfl (heap_alloc2_old w _ _) rfl ?_
    exact ⟨.inr ⟨sg_out HH.out.2, ⟨_, _, _, _, _, _, rfl⟩⟩, two_below w _ _⟩
set_option maxHeartbeats 2000000 in
theorem sign_ptwo (s : ByteArray) (a : Nat) (hs : s.size ≤ 100000) (ha : a < s.size) (hlt : Nam.letter s[a] = false) (hdg : dgt s[a] = false) (c37 : s[a].toNat ≠ 37) (c35 : s[a].toNat ≠ 35) (c36 : s[a].toNat ≠ 36) (y46 : s[a].toNat = 46) (p : Nat) (hp : a + 1 = p) (hps : p < s.size) (hd : s[p].toNat = 46) (w : World) :
  Calls Tryz.prog 44 #[.string s, .int .i64 (a : Int)] w fun e1 w' => SignP s a 2 s[a] e1 ∧ Below w.heap.size w w' := by
 have ha' : (a : Int) < (s.size : Int) := by omega
 have HY : Hid (Nam.scanZ s.data.toList (a : Int) = (a : Int)) := scan_self ha hlt
 have hirr : decide ((a : Int) < (a : Int)) = false := by simp
 have n37 : ((s[a].toNat : Int) == 37) = false := by rw [Bqf]; omega
 have n35 : ((s[a].toNat : Int) == 35) = false := by rw [Bqf]; omega
 have n36 : ((s[a].toNat : Int) == 36) = false := by rw [Bqf]; omega
 have f46 : ((s[a].toNat : Int) == 46) = true := by rw [beq_iff_eq]; omega
 have ip : (a : Int) + 1 = (p : Int) := by omega
 have jp : (p : Int) < (s.size : Int) := by omega
 have lp : ((s[p].toNat : Int) == 46) = true := by rw [beq_iff_eq]; omega
 obtain ⟨e, he⟩ : ∃ e, a + 2 = e := ⟨_, rfl⟩
 have ie : (a : Int) + 2 = (e : Int) := by omega
 have hes : e ≤ s.size := by omega
 have hsl := slice_run s a e (by omega) hes
 have we : IntKind.i64.wrap (e : Int) = (e : Int) := IntWalk.i64_in _ (by omega)
 have HEE := Hh he
 by_cases g48 : 48 ≤ s[a].toNat
 ·have d48 : decide ((48 : Int) ≤ (s[a].toNat : Int)) = true := by rw [decide_eq_true_iff]; omega
  have d57 : decide ((s[a].toNat : Int) ≤ (57 : Int)) = false := by
   rw [decide_eq_false_iff_not]; unfold dgt at hdg; simp at hdg; omega
  clear c37 c35 c36 y46 hd he
  go_enter Tryz.func44, Tryz.ntmps44
  go_wp2_with fail
  refine (Nam.refscan_v s (a : Int) (a : Int) (by omega) HY.out _).mono ?_
  rintro e1 w1 ⟨rfl, rfl⟩
  go_wp2_with fail
  clear hirr n37 n35 n36 d48 d57
  go_loopg [14] 14 (fun gk u wr => ∃ i : Nat, i ≤ 14 ∧ u = .int .i64 (i : Int) ∧ Hid (gk = 14 - i ∧ (∀ j, j < i → (sg j).toNat ≠ s[a].toNat)) ∧ wr = (w.alloc (.cells t0 72)).alloc (.cells (tc 0 ⟨#[]⟩ 0 0 a) 72))
  case atStart => exact ⟨0, by omega, rfl, ⟨rfl, (fun j h => absurd h (Nat.not_lt_zero _))⟩, rfl⟩
  case round =>
   obtain ⟨i, hi, rfl, HH, rfl⟩ := hrel
   unfold t0 tc
   by_cases hl : i < 14
   ·have hl' : (i : Int) < 14 := by omega
    have ht := sg_run i hl
    obtain ⟨y, hy⟩ : ∃ y, (sg i).toNat = y := ⟨_, rfl⟩
    rw [hy] at ht
    have HYI := Hh hy
    clear hy
    by_cases heq : y = s[a].toNat
    ·have c1 : ((y : Int) == (s[a].toNat : Int)) = true := by rw [beq_iff_eq]; omega
     have HEQ := Hh heq
     clear heq
     go_wp2_with fail
     go_region_with (fail)
     all_goals go_wp2_with fail
     all_goals refine fin3 (fn := Tryz.f44) rfl rfl (heap_alloc2_old w _ _) rfl ?_
     all_goals refine ⟨.inl ⟨sg_in hl (by rw [HYI.out, HEQ.out]), ?_⟩, ?_⟩
     all_goals first | exact two_below w _ _ | exact (two_below w _ _).drew | (rw [HEE.out]; rfl)
    ·have c1 : ((y : Int) == (s[a].toNat : Int)) = false := by rw [Bqf]; omega
     have HEQ := Hh heq
     clear heq
     go_wp2_with fail
     go_roundg (14 - (i + 1))
     case measure => have := HH.out.1; omega
     case rel =>
      refine ⟨i + 1, by omega, by go_num, ⟨rfl, fun j hj => ?_⟩, rfl⟩
      by_cases e : j = i
      ·subst e; rw [HYI.out]; exact HEQ.out
      ·exact HH.out.2 j (by omega)
   ·obtain rfl : i = 14 := by omega
    go_wp2_with fail
    refine fin3 (fn := Tryz.f44) rfl rfl (heap_alloc2_old w _ _) rfl ?_
    exact ⟨.inr ⟨sg_out HH.out.2, ⟨_, _, _, _, _, _, rfl⟩⟩, two_below w _ _⟩
 ·have d48 : decide ((48 : Int) ≤ (s[a].toNat : Int)) = false := by rw [decide_eq_false_iff_not]; omega
  clear c37 c35 c36 y46 hd he
  go_enter Tryz.func44, Tryz.ntmps44
  go_wp2_with fail
  refine (Nam.refscan_v s (a : Int) (a : Int) (by omega) HY.out _).mono ?_
  rintro e1 w1 ⟨rfl, rfl⟩
  go_wp2_with fail
  clear hirr n37 n35 n36 d48
  go_loopg [14] 14 (fun gk u wr => ∃ i : Nat, i ≤ 14 ∧ u = .int .i64 (i : Int) ∧ Hid (gk = 14 - i ∧ (∀ j, j < i → (sg j).toNat ≠ s[a].toNat)) ∧ wr = (w.alloc (.cells t0 72)).alloc (.cells (tc 0 ⟨#[]⟩ 0 0 a) 72))
  case atStart => exact ⟨0, by omega, rfl, ⟨rfl, (fun j h => absurd h (Nat.not_lt_zero _))⟩, rfl⟩
  case round =>
   obtain ⟨i, hi, rfl, HH, rfl⟩ := hrel
   unfold t0 tc
   by_cases hl : i < 14
   ·have hl' : (i : Int) < 14 := by omega
    have ht := sg_run i hl
    obtain ⟨y, hy⟩ : ∃ y, (sg i).toNat = y := ⟨_, rfl⟩
    rw [hy] at ht
    have HYI := Hh hy
    clear hy
    by_cases heq : y = s[a].toNat
    ·have c1 : ((y : Int) == (s[a].toNat : Int)) = true := by rw [beq_iff_eq]; omega
     have HEQ := Hh heq
     clear heq
     go_wp2_with fail
     go_region_with (fail)
     all_goals go_wp2_with fail
     all_goals refine fin3 (fn := Tryz.f44) rfl rfl (heap_alloc2_old w _ _) rfl ?_
     all_goals refine ⟨.inl ⟨sg_in hl (by rw [HYI.out, HEQ.out]), ?_⟩, ?_⟩
     all_goals first | exact two_below w _ _ | exact (two_below w _ _).drew | (rw [HEE.out]; rfl)
    ·have c1 : ((y : Int) == (s[a].toNat : Int)) = false := by rw [Bqf]; omega
     have HEQ := Hh heq
     clear heq
     go_wp2_with fail
     go_roundg (14 - (i + 1))
     case measure => have := HH.out.1; omega
     case rel =>
      refine ⟨i + 1, by omega, by go_num, ⟨rfl, fun j hj => ?_⟩, rfl⟩
      by_cases e : j = i
      ·subst e; rw [HYI.out]; exact HEQ.out
      ·exact HH.out.2 j (by omega)
   ·obtain rfl : i = 14 := by omega
    go_wp2_with fail
    refine fin3 (fn := Tryz.f44) rfl rfl (heap_alloc2_old w _ _) rfl ?_
    exact ⟨.inr ⟨sg_out HH.out.2, ⟨_, _, _, _, _, _, rfl⟩⟩, two_below w _ _⟩
end Go.Proofs.YtbpichjmkllfaaaGreatDoor.Lex
