/- Packed texts of one proof. Conditions: none. -/
import Derived.Test.YtbpichjmkllfaaaGreatDoorPq45
import Derived.Deep.RegionWith
namespace Go.Proofs.YtbpichjmkllfaaaGreatDoor.Lex
open Go.ChangeShapes Go.WideShapes Go.RowKit
set_option linter.unusedVariables false
set_option maxRecDepth 20000
set_option maxHeartbeats 2000000 in
theorem one_pct_code (s : ByteArray) (a : Nat) (hs : s.size ≤ 100000) (ha : a < s.size) (hlt : Nam.letter s[a] = false) (fr n N e u : Nat) (cd : Int) (hfr : a + 1 = fr) (hfs : fr ≤ s.size) (hn : (dg (s.data.toList.drop fr)).length = n) (hN : 1 + n = N) (he : a + N = e) (hes : e ≤ s.size) (hv : Vals (s.extract fr e) u cd) (c : s[a].toNat = 37) (hc : ¬ cd = 0) (w : World) :
  Calls Tryz.prog 44 #[.string s, .int .i64 (a : Int)] w fun e1 w' => OneBad cd e1 ∧ Below w.heap.size w w' := by
 have ha' : (a : Int) < (s.size : Int) := by omega
 have HY : Hid (Nam.scanZ s.data.toList (a : Int) = (a : Int)) := scan_self ha hlt
 have hirr : decide ((a : Int) < (a : Int)) = false := by simp
 have y37 : ((s[a].toNat : Int) == 37) = true := by rw [beq_iff_eq]; omega
 have HN := Hh (Ai hn hv)
 have hsl := slice_run s fr e (by omega) hes
 have hsl2 := slice_run s a e (by omega) hes
 have i3 : (a : Int) + (N : Int) = (e : Int) := by omega
 have we : IntKind.i64.wrap (e : Int) = (e : Int) := IntWalk.i64_in _ (by omega)
 have i1 : (a : Int) + 1 = (fr : Int) := by omega
 have i2 : (1 : Int) + (n : Int) = (N : Int) := by omega
 have b1 : (N : Int) ≤ 100000 := by omega
 have b2 : (n : Int) ≤ 100000 := by omega
 clear hn hv hN he hlt
 have z1 : (cd == 0) = false := by rw [Bqf]; exact hc
 obtain ⟨xw, hxw⟩ : ∃ xw, IntKind.i64.wrap (u : Int) = xw := ⟨_, rfl⟩
 clear c
 go_enter Tryz.func44, Tryz.ntmps44
 go_wp2_with fail
 refine (Nam.refscan_v s (a : Int) (a : Int) (by omega) HY.out _).mono ?_
 rintro e1 w1 ⟨rfl, rfl⟩
 go_wp2_with fail
 refine (ddigits_v s fr n hfs hs HN.out.1 _).mono ?_
 rintro e1 w1 ⟨rfl, rfl⟩
 go_wp2_with fail
 refine (HN.out.2 _).mono ?_
 rintro e1 w1 ⟨rfl, rfl⟩
 go_wp2_with fail
 go_region_with (fail)
 all_goals go_wp2_with fail
 all_goals refine fin3 (fn := Tryz.f44) rfl rfl (heap_alloc2_old w _ _) rfl ?_
 all_goals first | exact ⟨⟨_, _, _, _, _, _, rfl⟩, two_below w _ _⟩ | exact ⟨⟨_, _, _, _, _, _, rfl⟩, (two_below w _ _).drew⟩
set_option maxHeartbeats 2000000 in
theorem one_pct_great (s : ByteArray) (a : Nat) (hs : s.size ≤ 100000) (ha : a < s.size) (hlt : Nam.letter s[a] = false) (fr n N e u : Nat) (cd : Int) (hfr : a + 1 = fr) (hfs : fr ≤ s.size) (hn : (dg (s.data.toList.drop fr)).length = n) (hN : 1 + n = N) (he : a + N = e) (hes : e ≤ s.size) (hv : Vals (s.extract fr e) u cd) (c : s[a].toNat = 37) (hc : cd = 0) (hu : 2147483647 < u) (hu2 : u ≤ 9223372036854775808) (w : World) :
  Calls Tryz.prog 44 #[.string s, .int .i64 (a : Int)] w fun e1 w' => OneBad 2 e1 ∧ Below w.heap.size w w' := by
 have ha' : (a : Int) < (s.size : Int) := by omega
 have HY : Hid (Nam.scanZ s.data.toList (a : Int) = (a : Int)) := scan_self ha hlt
 have hirr : decide ((a : Int) < (a : Int)) = false := by simp
 have y37 : ((s[a].toNat : Int) == 37) = true := by rw [beq_iff_eq]; omega
 have HN := Hh (Ai hn hv)
 have hsl := slice_run s fr e (by omega) hes
 have hsl2 := slice_run s a e (by omega) hes
 have i3 : (a : Int) + (N : Int) = (e : Int) := by omega
 have we : IntKind.i64.wrap (e : Int) = (e : Int) := IntWalk.i64_in _ (by omega)
 have i1 : (a : Int) + 1 = (fr : Int) := by omega
 have i2 : (1 : Int) + (n : Int) = (N : Int) := by omega
 have b1 : (N : Int) ≤ 100000 := by omega
 have b2 : (n : Int) ≤ 100000 := by omega
 clear hn hv hN he hlt
 subst hc
 have z1 : (2147483647 : Int) < (u : Int) := by omega
 obtain ⟨xw, hxw⟩ : ∃ xw, IntKind.i64.wrap (u : Int) = xw := ⟨_, rfl⟩
 clear c
 go_enter Tryz.func44, Tryz.ntmps44
 go_wp2_with fail
 refine (Nam.refscan_v s (a : Int) (a : Int) (by omega) HY.out _).mono ?_
 rintro e1 w1 ⟨rfl, rfl⟩
 go_wp2_with fail
 refine (ddigits_v s fr n hfs hs HN.out.1 _).mono ?_
 rintro e1 w1 ⟨rfl, rfl⟩
 go_wp2_with fail
 refine (HN.out.2 _).mono ?_
 rintro e1 w1 ⟨rfl, rfl⟩
 go_wp2_with fail
 go_region_with (fail)
 all_goals go_wp2_with fail
 all_goals refine fin3 (fn := Tryz.f44) rfl rfl (heap_alloc2_old w _ _) rfl ?_
 all_goals first | exact ⟨⟨_, _, _, _, _, _, rfl⟩, two_below w _ _⟩ | exact ⟨⟨_, _, _, _, _, _, rfl⟩, (two_below w _ _).drew⟩
set_option maxHeartbeats 2000000 in
theorem one_pct_fine (s : ByteArray) (a : Nat) (hs : s.size ≤ 100000) (ha : a < s.size) (hlt : Nam.letter s[a] = false) (fr n N e u : Nat) (cd : Int) (hfr : a + 1 = fr) (hfs : fr ≤ s.size) (hn : (dg (s.data.toList.drop fr)).length = n) (hN : 1 + n = N) (he : a + N = e) (hes : e ≤ s.size) (hv : Vals (s.extract fr e) u cd) (c : s[a].toNat = 37) (hc : cd = 0) (hu : u ≤ 2147483647) (w : World) :
  Calls Tryz.prog 44 #[.string s, .int .i64 (a : Int)] w fun e1 w' => e1 = oneGood (tk 4 (s.extract a e) u 0 a) N ∧ Below w.heap.size w w' := by
 have ha' : (a : Int) < (s.size : Int) := by omega
 have HY : Hid (Nam.scanZ s.data.toList (a : Int) = (a : Int)) := scan_self ha hlt
 have hirr : decide ((a : Int) < (a : Int)) = false := by simp
 have y37 : ((s[a].toNat : Int) == 37) = true := by rw [beq_iff_eq]; omega
 have HN := Hh (Ai hn hv)
 have hsl := slice_run s fr e (by omega) hes
 have hsl2 := slice_run s a e (by omega) hes
 have i3 : (a : Int) + (N : Int) = (e : Int) := by omega
 have we : IntKind.i64.wrap (e : Int) = (e : Int) := IntWalk.i64_in _ (by omega)
 have i1 : (a : Int) + 1 = (fr : Int) := by omega
 have i2 : (1 : Int) + (n : Int) = (N : Int) := by omega
 have b1 : (N : Int) ≤ 100000 := by omega
 have b2 : (n : Int) ≤ 100000 := by omega
 clear hn hv hN he hlt
 subst hc
 have z1 : (u : Int) ≤ 2147483647 := by omega
 have wu : IntKind.i64.wrap (u : Int) = (u : Int) := IntWalk.i64_in _ (by omega)
 clear c
 go_enter Tryz.func44, Tryz.ntmps44
 go_wp2_with fail
 refine (Nam.refscan_v s (a : Int) (a : Int) (by omega) HY.out _).mono ?_
 rintro e1 w1 ⟨rfl, rfl⟩
 go_wp2_with fail
 refine (ddigits_v s fr n hfs hs HN.out.1 _).mono ?_
 rintro e1 w1 ⟨rfl, rfl⟩
 go_wp2_with fail
 refine (HN.out.2 _).mono ?_
 rintro e1 w1 ⟨rfl, rfl⟩
 go_wp2_with fail
 go_region_with (fail)
 all_goals go_wp2_with fail
 all_goals refine fin3 (fn := Tryz.f44) rfl rfl (heap_alloc2_old w _ _) rfl ?_
 all_goals first | exact ⟨rfl, two_below w _ _⟩ | exact ⟨rfl, (two_below w _ _).drew⟩
set_option maxHeartbeats 2000000 in
theorem one_hash_code (s : ByteArray) (a : Nat) (hs : s.size ≤ 100000) (ha : a < s.size) (hlt : Nam.letter s[a] = false) (fr n N e u : Nat) (cd : Int) (hfr : a + 1 = fr) (hfs : fr ≤ s.size) (hn : (dg (s.data.toList.drop fr)).length = n) (hN : 1 + n = N) (he : a + N = e) (hes : e ≤ s.size) (hv : Vals (s.extract fr e) u cd) (c : s[a].toNat = 35) (hc : ¬ cd = 0) (w : World) :
  Calls Tryz.prog 44 #[.string s, .int .i64 (a : Int)] w fun e1 w' => OneBad cd e1 ∧ Below w.heap.size w w' := by
 have ha' : (a : Int) < (s.size : Int) := by omega
 have HY : Hid (Nam.scanZ s.data.toList (a : Int) = (a : Int)) := scan_self ha hlt
 have hirr : decide ((a : Int) < (a : Int)) = false := by simp
 have n37 : ((s[a].toNat : Int) == 37) = false := by rw [Bqf]; omega
 have y35 : ((s[a].toNat : Int) == 35) = true := by rw [beq_iff_eq]; omega
 have HN := Hh (Ai hn hv)
 have hsl := slice_run s fr e (by omega) hes
 have hsl2 := slice_run s a e (by omega) hes
 have i3 : (a : Int) + (N : Int) = (e : Int) := by omega
 have we : IntKind.i64.wrap (e : Int) = (e : Int) := IntWalk.i64_in _ (by omega)
 have i1 : (a : Int) + 1 = (fr : Int) := by omega
 have i2 : (1 : Int) + (n : Int) = (N : Int) := by omega
 have b1 : (N : Int) ≤ 100000 := by omega
 have b2 : (n : Int) ≤ 100000 := by omega
 clear hn hv hN he hlt
 have z1 : (cd == 0) = false := by rw [Bqf]; exact hc
 obtain ⟨xw, hxw⟩ : ∃ xw, IntKind.i64.wrap (u : Int) = xw := ⟨_, rfl⟩
 clear c
 go_enter Tryz.func44, Tryz.ntmps44
 go_wp2_with fail
 refine (Nam.refscan_v s (a : Int) (a : Int) (by omega) HY.out _).mono ?_
 rintro e1 w1 ⟨rfl, rfl⟩
 go_wp2_with fail
 refine (ddigits_v s fr n hfs hs HN.out.1 _).mono ?_
 rintro e1 w1 ⟨rfl, rfl⟩
 go_wp2_with fail
 refine (HN.out.2 _).mono ?_
 rintro e1 w1 ⟨rfl, rfl⟩
 go_wp2_with fail
 go_region_with (fail)
 all_goals go_wp2_with fail
 all_goals refine fin3 (fn := Tryz.f44) rfl rfl (heap_alloc2_old w _ _) rfl ?_
 all_goals first | exact ⟨⟨_, _, _, _, _, _, rfl⟩, two_below w _ _⟩ | exact ⟨⟨_, _, _, _, _, _, rfl⟩, (two_below w _ _).drew⟩
set_option maxHeartbeats 2000000 in
theorem one_hash_great (s : ByteArray) (a : Nat) (hs : s.size ≤ 100000) (ha : a < s.size) (hlt : Nam.letter s[a] = false) (fr n N e u : Nat) (cd : Int) (hfr : a + 1 = fr) (hfs : fr ≤ s.size) (hn : (dg (s.data.toList.drop fr)).length = n) (hN : 1 + n = N) (he : a + N = e) (hes : e ≤ s.size) (hv : Vals (s.extract fr e) u cd) (c : s[a].toNat = 35) (hc : cd = 0) (hu : 2147483647 < u) (hu2 : u ≤ 9223372036854775808) (w : World) :
  Calls Tryz.prog 44 #[.string s, .int .i64 (a : Int)] w fun e1 w' => OneBad 2 e1 ∧ Below w.heap.size w w' := by
 have ha' : (a : Int) < (s.size : Int) := by omega
 have HY : Hid (Nam.scanZ s.data.toList (a : Int) = (a : Int)) := scan_self ha hlt
 have hirr : decide ((a : Int) < (a : Int)) = false := by simp
 have n37 : ((s[a].toNat : Int) == 37) = false := by rw [Bqf]; omega
 have y35 : ((s[a].toNat : Int) == 35) = true := by rw [beq_iff_eq]; omega
 have HN := Hh (Ai hn hv)
 have hsl := slice_run s fr e (by omega) hes
 have hsl2 := slice_run s a e (by omega) hes
 have i3 : (a : Int) + (N : Int) = (e : Int) := by omega
 have we : IntKind.i64.wrap (e : Int) = (e : Int) := IntWalk.i64_in _ (by omega)
 have i1 : (a : Int) + 1 = (fr : Int) := by omega
 have i2 : (1 : Int) + (n : Int) = (N : Int) := by omega
 have b1 : (N : Int) ≤ 100000 := by omega
 have b2 : (n : Int) ≤ 100000 := by omega
 clear hn hv hN he hlt
 subst hc
 have z1 : (2147483647 : Int) < (u : Int) := by omega
 obtain ⟨xw, hxw⟩ : ∃ xw, IntKind.i64.wrap (u : Int) = xw := ⟨_, rfl⟩
 clear c
 go_enter Tryz.func44, Tryz.ntmps44
 go_wp2_with fail
 refine (Nam.refscan_v s (a : Int) (a : Int) (by omega) HY.out _).mono ?_
 rintro e1 w1 ⟨rfl, rfl⟩
 go_wp2_with fail
 refine (ddigits_v s fr n hfs hs HN.out.1 _).mono ?_
 rintro e1 w1 ⟨rfl, rfl⟩
 go_wp2_with fail
 refine (HN.out.2 _).mono ?_
 rintro e1 w1 ⟨rfl, rfl⟩
 go_wp2_with fail
 go_region_with (fail)
 all_goals go_wp2_with fail
 all_goals refine fin3 (fn := Tryz.f44) rfl rfl (heap_alloc2_old w _ _) rfl ?_
 all_goals first | exact ⟨⟨_, _, _, _, _, _, rfl⟩, two_below w _ _⟩ | exact ⟨⟨_, _, _, _, _, _, rfl⟩, (two_below w _ _).drew⟩
set_option maxHeartbeats 2000000 in
theorem one_hash_fine (s : ByteArray) (a : Nat) (hs : s.size ≤ 100000) (ha : a < s.size) (hlt : Nam.letter s[a] = false) (fr n N e u : Nat) (cd : Int) (hfr : a + 1 = fr) (hfs : fr ≤ s.size) (hn : (dg (s.data.toList.drop fr)).length = n) (hN : 1 + n = N) (he : a + N = e) (hes : e ≤ s.size) (hv : Vals (s.extract fr e) u cd) (c : s[a].toNat = 35) (hc : cd = 0) (hu : u ≤ 2147483647) (w : World) :
  Calls Tryz.prog 44 #[.string s, .int .i64 (a : Int)] w fun e1 w' => e1 = oneGood (tk 6 (s.extract a e) u 0 a) N ∧ Below w.heap.size w w' := by
 have ha' : (a : Int) < (s.size : Int) := by omega
 have HY : Hid (Nam.scanZ s.data.toList (a : Int) = (a : Int)) := scan_self ha hlt
 have hirr : decide ((a : Int) < (a : Int)) = false := by simp
 have n37 : ((s[a].toNat : Int) == 37) = false := by rw [Bqf]; omega
 have y35 : ((s[a].toNat : Int) == 35) = true := by rw [beq_iff_eq]; omega
 have HN := Hh (Ai hn hv)
 have hsl := slice_run s fr e (by omega) hes
 have hsl2 := slice_run s a e (by omega) hes
 have i3 : (a : Int) + (N : Int) = (e : Int) := by omega
 have we : IntKind.i64.wrap (e : Int) = (e : Int) := IntWalk.i64_in _ (by omega)
 have i1 : (a : Int) + 1 = (fr : Int) := by omega
 have i2 : (1 : Int) + (n : Int) = (N : Int) := by omega
 have b1 : (N : Int) ≤ 100000 := by omega
 have b2 : (n : Int) ≤ 100000 := by omega
 clear hn hv hN he hlt
 subst hc
 have z1 : (u : Int) ≤ 2147483647 := by omega
 have wu : IntKind.i64.wrap (u : Int) = (u : Int) := IntWalk.i64_in _ (by omega)
 clear c
 go_enter Tryz.func44, Tryz.ntmps44
 go_wp2_with fail
 refine (Nam.refscan_v s (a : Int) (a : Int) (by omega) HY.out _).mono ?_
 rintro e1 w1 ⟨rfl, rfl⟩
 go_wp2_with fail
 refine (ddigits_v s fr n hfs hs HN.out.1 _).mono ?_
 rintro e1 w1 ⟨rfl, rfl⟩
 go_wp2_with fail
 refine (HN.out.2 _).mono ?_
 rintro e1 w1 ⟨rfl, rfl⟩
 go_wp2_with fail
 go_region_with (fail)
 all_goals go_wp2_with fail
 all_goals refine fin3 (fn := Tryz.f44) rfl rfl (heap_alloc2_old w _ _) rfl ?_
 all_goals first | exact ⟨rfl, two_below w _ _⟩ | exact ⟨rfl, (two_below w _ _).drew⟩
set_option maxHeartbeats 2000000 in
theorem one_dolg_code (s : ByteArray) (a : Nat) (hs : s.size ≤ 100000) (ha : a < s.size) (hlt : Nam.letter s[a] = false) (fr n N e u : Nat) (cd : Int) (hfr : a + 2 = fr) (hfs : fr ≤ s.size) (hn : (dg (s.data.toList.drop fr)).length = n) (hN : 2 + n = N) (he : a + N = e) (hes : e ≤ s.size) (hv : Vals (s.extract fr e) u cd) (c : s[a].toNat = 36) (p : Nat) (hp : a + 1 = p) (hps : p < s.size) (hd : s[p].toNat = 103) (hc : ¬ cd = 0) (w : World) :
  Calls Tryz.prog 44 #[.string s, .int .i64 (a : Int)] w fun e1 w' => OneBad cd e1 ∧ Below w.heap.size w w' := by
 have ha' : (a : Int) < (s.size : Int) := by omega
 have HY : Hid (Nam.scanZ s.data.toList (a : Int) = (a : Int)) := scan_self ha hlt
 have hirr : decide ((a : Int) < (a : Int)) = false := by simp
 have n37 : ((s[a].toNat : Int) == 37) = false := by rw [Bqf]; omega
 have n35 : ((s[a].toNat : Int) == 35) = false := by rw [Bqf]; omega
 have y36 : ((s[a].toNat : Int) == 36) = true := by rw [beq_iff_eq]; omega
 have ip : (a : Int) + 1 = (p : Int) := by omega
 have jp : (p : Int) < (s.size : Int) := by omega
 have kp : ((p : Int) == (s.size : Int)) = false := by rw [Bqf]; omega
 have lp : ((s[p].toNat : Int) == 103) = true := by rw [beq_iff_eq]; omega
 have lp' : ((s[p].toNat : Int) != 103) = false := by rw [bne, lp]; rfl
 have mp : ((s[p].toNat : Int) == 120) = false := by rw [Bqf]; omega
 have HN := Hh (Ai hn hv)
 have hsl := slice_run s fr e (by omega) hes
 have hsl2 := slice_run s a e (by omega) hes
 have i3 : (a : Int) + (N : Int) = (e : Int) := by omega
 have we : IntKind.i64.wrap (e : Int) = (e : Int) := IntWalk.i64_in _ (by omega)
 have i1 : (a : Int) + 2 = (fr : Int) := by omega
 have i2 : (2 : Int) + (n : Int) = (N : Int) := by omega
 have b1 : (N : Int) ≤ 100000 := by omega
 have b2 : (n : Int) ≤ 100000 := by omega
 clear hn hv hN he hlt
 have z1 : (cd == 0) = false := by rw [Bqf]; exact hc
 obtain ⟨xw, hxw⟩ : ∃ xw, IntKind.i64.wrap (u : Int) = xw := ⟨_, rfl⟩
 clear c hd
 go_enter Tryz.func44, Tryz.ntmps44
 go_wp2_with fail
 refine (Nam.refscan_v s (a : Int) (a : Int) (by omega) HY.out _).mono ?_
 rintro e1 w1 ⟨rfl, rfl⟩
 go_wp2_with fail
 refine (ddigits_v s fr n hfs hs HN.out.1 _).mono ?_
 rintro e1 w1 ⟨rfl, rfl⟩
 go_wp2_with fail
 refine (HN.out.2 _).mono ?_
 rintro e1 w1 ⟨rfl, rfl⟩
 go_wp2_with fail
 go_region_with (fail)
 all_goals go_wp2_with fail
 all_goals refine fin3 (fn := Tryz.f44) rfl rfl (heap_alloc2_old w _ _) rfl ?_
 all_goals first | exact ⟨⟨_, _, _, _, _, _, rfl⟩, two_below w _ _⟩ | exact ⟨⟨_, _, _, _, _, _, rfl⟩, (two_below w _ _).drew⟩
set_option maxHeartbeats 2000000 in
theorem one_dolg_great (s : ByteArray) (a : Nat) (hs : s.size ≤ 100000) (ha : a < s.size) (hlt : Nam.letter s[a] = false) (fr n N e u : Nat) (cd : Int) (hfr : a + 2 = fr) (hfs : fr ≤ s.size) (hn : (dg (s.data.toList.drop fr)).length = n) (hN : 2 + n = N) (he : a + N = e) (hes : e ≤ s.size) (hv : Vals (s.extract fr e) u cd) (c : s[a].toNat = 36) (p : Nat) (hp : a + 1 = p) (hps : p < s.size) (hd : s[p].toNat = 103) (hc : cd = 0) (hu : 2147483647 < u) (hu2 : u ≤ 9223372036854775808) (w : World) :
  Calls Tryz.prog 44 #[.string s, .int .i64 (a : Int)] w fun e1 w' => OneBad 2 e1 ∧ Below w.heap.size w w' := by
 have ha' : (a : Int) < (s.size : Int) := by omega
 have HY : Hid (Nam.scanZ s.data.toList (a : Int) = (a : Int)) := scan_self ha hlt
 have hirr : decide ((a : Int) < (a : Int)) = false := by simp
 have n37 : ((s[a].toNat : Int) == 37) = false := by rw [Bqf]; omega
 have n35 : ((s[a].toNat : Int) == 35) = false := by rw [Bqf]; omega
 have y36 : ((s[a].toNat : Int) == 36) = true := by rw [beq_iff_eq]; omega
 have ip : (a : Int) + 1 = (p : Int) := by omega
 have jp : (p : Int) < (s.size : Int) := by omega
 have kp : ((p : Int) == (s.size : Int)) = false := by rw [Bqf]; omega
 have lp : ((s[p].toNat : Int) == 103) = true := by rw [beq_iff_eq]; omega
 have lp' : ((s[p].toNat : Int) != 103) = false := by rw [bne, lp]; rfl
 have mp : ((s[p].toNat : Int) == 120) = false := by rw [Bqf]; omega
 have HN := Hh (Ai hn hv)
 have hsl := slice_run s fr e (by omega) hes
 have hsl2 := slice_run s a e (by omega) hes
 have i3 : (a : Int) + (N : Int) = (e : Int) := by omega
 have we : IntKind.i64.wrap (e : Int) = (e : Int) := IntWalk.i64_in _ (by omega)
 have i1 : (a : Int) + 2 = (fr : Int) := by omega
 have i2 : (2 : Int) + (n : Int) = (N : Int) := by omega
 have b1 : (N : Int) ≤ 100000 := by omega
 have b2 : (n : Int) ≤ 100000 := by omega
 clear hn hv hN he hlt
 subst hc
 have z1 : (2147483647 : Int) < (u : Int) := by omega
 obtain ⟨xw, hxw⟩ : ∃ xw, IntKind.i64.wrap (u : Int) = xw := ⟨_, rfl⟩
 clear c hd
 go_enter Tryz.func44, Tryz.ntmps44
 go_wp2_with fail
 refine (Nam.refscan_v s (a : Int) (a : Int) (by omega) HY.out _).mono ?_
 rintro e1 w1 ⟨rfl, rfl⟩
 go_wp2_with fail
 refine (ddigits_v s fr n hfs hs HN.out.1 _).mono ?_
 rintro e1 w1 ⟨rfl, rfl⟩
 go_wp2_with fail
 refine (HN.out.2 _).mono ?_
 rintro e1 w1 ⟨rfl, rfl⟩
 go_wp2_with fail
 go_region_with (fail)
 all_goals go_wp2_with fail
 all_goals refine fin3 (fn := Tryz.f44) rfl rfl (heap_alloc2_old w _ _) rfl ?_
 all_goals first | exact ⟨⟨_, _, _, _, _, _, rfl⟩, two_below w _ _⟩ | exact ⟨⟨_, _, _, _, _, _, rfl⟩, (two_below w _ _).drew⟩
set_option maxHeartbeats 2000000 in
theorem one_dolg_fine (s : ByteArray) (a : Nat) (hs : s.size ≤ 100000) (ha : a < s.size) (hlt : Nam.letter s[a] = false) (fr n N e u : Nat) (cd : Int) (hfr : a + 2 = fr) (hfs : fr ≤ s.size) (hn : (dg (s.data.toList.drop fr)).length = n) (hN : 2 + n = N) (he : a + N = e) (hes : e ≤ s.size) (hv : Vals (s.extract fr e) u cd) (c : s[a].toNat = 36) (p : Nat) (hp : a + 1 = p) (hps : p < s.size) (hd : s[p].toNat = 103) (hc : cd = 0) (hu : u ≤ 2147483647) (w : World) :
  Calls Tryz.prog 44 #[.string s, .int .i64 (a : Int)] w fun e1 w' => e1 = oneGood (tk 5 (s.extract a e) u 0 a) N ∧ Below w.heap.size w w' := by
 have ha' : (a : Int) < (s.size : Int) := by omega
 have HY : Hid (Nam.scanZ s.data.toList (a : Int) = (a : Int)) := scan_self ha hlt
 have hirr : decide ((a : Int) < (a : Int)) = false := by simp
 have n37 : ((s[a].toNat : Int) == 37) = false := by rw [Bqf]; omega
 have n35 : ((s[a].toNat : Int) == 35) = false := by rw [Bqf]; omega
 have y36 : ((s[a].toNat : Int) == 36) = true := by rw [beq_iff_eq]; omega
 have ip : (a : Int) + 1 = (p : Int) := by omega
 have jp : (p : Int) < (s.size : Int) := by omega
 have kp : ((p : Int) == (s.size : Int)) = false := by rw [Bqf]; omega
 have lp : ((s[p].toNat : Int) == 103) = true := by rw [beq_iff_eq]; omega
 have lp' : ((s[p].toNat : Int) != 103) = false := by rw [bne, lp]; rfl
 have mp : ((s[p].toNat : Int) == 120) = false := by rw [Bqf]; omega
 have HN := Hh (Ai hn hv)
 have hsl := slice_run s fr e (by omega) hes
 have hsl2 := slice_run s a e (by omega) hes
 have i3 : (a : Int) + (N : Int) = (e : Int) := by omega
 have we : IntKind.i64.wrap (e : Int) = (e : Int) := IntWalk.i64_in _ (by omega)
 have i1 : (a : Int) + 2 = (fr : Int) := by omega
 have i2 : (2 : Int) + (n : Int) = (N : Int) := by omega
 have b1 : (N : Int) ≤ 100000 := by omega
 have b2 : (n : Int) ≤ 100000 := by omega
 clear hn hv hN he hlt
 subst hc
 have z1 : (u : Int) ≤ 2147483647 := by omega
 have wu : IntKind.i64.wrap (u : Int) = (u : Int) := IntWalk.i64_in _ (by omega)
 clear c hd
 go_enter Tryz.func44, Tryz.ntmps44
 go_wp2_with fail
 refine (Nam.refscan_v s (a : Int) (a : Int) (by omega) HY.out _).mono ?_
 rintro e1 w1 ⟨rfl, rfl⟩
 go_wp2_with fail
 refine (ddigits_v s fr n hfs hs HN.out.1 _).mono ?_
 rintro e1 w1 ⟨rfl, rfl⟩
 go_wp2_with fail
 refine (HN.out.2 _).mono ?_
 rintro e1 w1 ⟨rfl, rfl⟩
 go_wp2_with fail
 go_region_with (fail)
 all_goals go_wp2_with fail
 all_goals refine fin3 (fn := Tryz.f44) rfl rfl (heap_alloc2_old w _ _) rfl ?_
 all_goals first | exact ⟨rfl, two_below w _ _⟩ | exact ⟨rfl, (two_below w _ _).drew⟩
set_option maxHeartbeats 2000000 in
theorem one_dolx_code (s : ByteArray) (a : Nat) (hs : s.size ≤ 100000) (ha : a < s.size) (hlt : Nam.letter s[a] = false) (fr n N e u : Nat) (cd : Int) (hfr : a + 2 = fr) (hfs : fr ≤ s.size) (hn : (dg (s.data.toList.drop fr)).length = n) (hN : 2 + n = N) (he : a + N = e) (hes : e ≤ s.size) (hv : Vals (s.extract fr e) u cd) (c : s[a].toNat = 36) (p : Nat) (hp : a + 1 = p) (hps : p < s.size) (hd : s[p].toNat = 120) (hc : ¬ cd = 0) (w : World) :
  Calls Tryz.prog 44 #[.string s, .int .i64 (a : Int)] w fun e1 w' => OneBad cd e1 ∧ Below w.heap.size w w' := by
 have ha' : (a : Int) < (s.size : Int) := by omega
 have HY : Hid (Nam.scanZ s.data.toList (a : Int) = (a : Int)) := scan_self ha hlt
 have hirr : decide ((a : Int) < (a : Int)) = false := by simp
 have n37 : ((s[a].toNat : Int) == 37) = false := by rw [Bqf]; omega
 have n35 : ((s[a].toNat : Int) == 35) = false := by rw [Bqf]; omega
 have y36 : ((s[a].toNat : Int) == 36) = true := by rw [beq_iff_eq]; omega
 have ip : (a : Int) + 1 = (p : Int) := by omega
 have jp : (p : Int) < (s.size : Int) := by omega
 have kp : ((p : Int) == (s.size : Int)) = false := by rw [Bqf]; omega
 have lp : ((s[p].toNat : Int) == 103) = false := by rw [Bqf]; omega
 have lp' : ((s[p].toNat : Int) != 103) = true := by rw [bne, lp]; rfl
 have mp : ((s[p].toNat : Int) == 120) = true := by rw [beq_iff_eq]; omega
 have mp' : ((s[p].toNat : Int) != 120) = false := by rw [bne, mp]; rfl
 have HN := Hh (Ai hn hv)
 have hsl := slice_run s fr e (by omega) hes
 have hsl2 := slice_run s a e (by omega) hes
 have i3 : (a : Int) + (N : Int) = (e : Int) := by omega
 have we : IntKind.i64.wrap (e : Int) = (e : Int) := IntWalk.i64_in _ (by omega)
 have i1 : (a : Int) + 2 = (fr : Int) := by omega
 have i2 : (2 : Int) + (n : Int) = (N : Int) := by omega
 have b1 : (N : Int) ≤ 100000 := by omega
 have b2 : (n : Int) ≤ 100000 := by omega
 clear hn hv hN he hlt
 have z1 : (cd == 0) = false := by rw [Bqf]; exact hc
 obtain ⟨xw, hxw⟩ : ∃ xw, IntKind.i64.wrap (u : Int) = xw := ⟨_, rfl⟩
 clear c hd
 go_enter Tryz.func44, Tryz.ntmps44
 go_wp2_with fail
 refine (Nam.refscan_v s (a : Int) (a : Int) (by omega) HY.out _).mono ?_
 rintro e1 w1 ⟨rfl, rfl⟩
 go_wp2_with fail
 refine (ddigits_v s fr n hfs hs HN.out.1 _).mono ?_
 rintro e1 w1 ⟨rfl, rfl⟩
 go_wp2_with fail
 refine (HN.out.2 _).mono ?_
 rintro e1 w1 ⟨rfl, rfl⟩
 go_wp2_with fail
 go_region_with (fail)
 all_goals go_wp2_with fail
 all_goals refine fin3 (fn := Tryz.f44) rfl rfl (heap_alloc2_old w _ _) rfl ?_
 all_goals first | exact ⟨⟨_, _, _, _, _, _, rfl⟩, two_below w _ _⟩ | exact ⟨⟨_, _, _, _, _, _, rfl⟩, (two_below w _ _).drew⟩
set_option maxHeartbeats 2000000 in
theorem one_dolx_great (s : ByteArray) (a : Nat) (hs : s.size ≤ 100000) (ha : a < s.size) (hlt : Nam.letter s[a] = false) (fr n N e u : Nat) (cd : Int) (hfr : a + 2 = fr) (hfs : fr ≤ s.size) (hn : (dg (s.data.toList.drop fr)).length = n) (hN : 2 + n = N) (he : a + N = e) (hes : e ≤ s.size) (hv : Vals (s.extract fr e) u cd) (c : s[a].toNat = 36) (p : Nat) (hp : a + 1 = p) (hps : p < s.size) (hd : s[p].toNat = 120) (hc : cd = 0) (hu : 2147483647 < u) (hu2 : u ≤ 9223372036854775808) (w : World) :
  Calls Tryz.prog 44 #[.string s, .int .i64 (a : Int)] w fun e1 w' => OneBad 2 e1 ∧ Below w.heap.size w w' := by
 have ha' : (a : Int) < (s.size : Int) := by omega
 have HY : Hid (Nam.scanZ s.data.toList (a : Int) = (a : Int)) := scan_self ha hlt
 have hirr : decide ((a : Int) < (a : Int)) = false := by simp
 have n37 : ((s[a].toNat : Int) == 37) = false := by rw [Bqf]; omega
 have n35 : ((s[a].toNat : Int) == 35) = false := by rw [Bqf]; omega
 have y36 : ((s[a].toNat : Int) == 36) = true := by rw [beq_iff_eq]; omega
 have ip : (a : Int) + 1 = (p : Int) := by omega
 have jp : (p : Int) < (s.size : Int) := by omega
 have kp : ((p : Int) == (s.size : Int)) = false := by rw [Bqf]; omega
 have lp : ((s[p].toNat : Int) == 103) = false := by rw [Bqf]; omega
 have lp' : ((s[p].toNat : Int) != 103) = true := by rw [bne, lp]; rfl
 have mp : ((s[p].toNat : Int) == 120) = true := by rw [beq_iff_eq]; omega
 have mp' : ((s[p].toNat : Int) != 120) = false := by rw [bne, mp]; rfl
 have HN := Hh (Ai hn hv)
 have hsl := slice_run s fr e (by omega) hes
 have hsl2 := slice_run s a e (by omega) hes
 have i3 : (a : Int) + (N : Int) = (e : Int) := by omega
 have we : IntKind.i64.wrap (e : Int) = (e : Int) := IntWalk.i64_in _ (by omega)
 have i1 : (a : Int) + 2 = (fr : Int) := by omega
 have i2 : (2 : Int) + (n : Int) = (N : Int) := by omega
 have b1 : (N : Int) ≤ 100000 := by omega
 have b2 : (n : Int) ≤ 100000 := by omega
 clear hn hv hN he hlt
 subst hc
 have z1 : (2147483647 : Int) < (u : Int) := by omega
 obtain ⟨xw, hxw⟩ : ∃ xw, IntKind.i64.wrap (u : Int) = xw := ⟨_, rfl⟩
 clear c hd
 go_enter Tryz.func44, Tryz.ntmps44
 go_wp2_with fail
 refine (Nam.refscan_v s (a : Int) (a : Int) (by omega) HY.out _).mono ?_
 rintro e1 w1 ⟨rfl, rfl⟩
 go_wp2_with fail
 refine (ddigits_v s fr n hfs hs HN.out.1 _).mono ?_
 rintro e1 w1 ⟨rfl, rfl⟩
 go_wp2_with fail
 refine (HN.out.2 _).mono ?_
 rintro e1 w1 ⟨rfl, rfl⟩
 go_wp2_with fail
 go_region_with (fail)
 all_goals go_wp2_with fail
 all_goals refine fin3 (fn := Tryz.f44) rfl rfl (heap_alloc2_old w _ _) rfl ?_
 all_goals first | exact ⟨⟨_, _, _, _, _, _, rfl⟩, two_below w _ _⟩ | exact ⟨⟨_, _, _, _, _, _, rfl⟩, (two_below w _ _).drew⟩
set_option maxHeartbeats 2000000 in
theorem one_dolx_fine (s : ByteArray) (a : Nat) (hs : s.size ≤ 100000) (ha : a < s.size) (hlt : Nam.letter s[a] = false) (fr n N e u : Nat) (cd : Int) (hfr : a + 2 = fr) (hfs : fr ≤ s.size) (hn : (dg (s.data.toList.drop fr)).length = n) (hN : 2 + n = N) (he : a + N = e) (hes : e ≤ s.size) (hv : Vals (s.extract fr e) u cd) (c : s[a].toNat = 36) (p : Nat) (hp : a + 1 = p) (hps : p < s.size) (hd : s[p].toNat = 120) (hc : cd = 0) (hu : u ≤ 2147483647) (w : World) :
  Calls Tryz.prog 44 #[.string s, .int .i64 (a : Int)] w fun e1 w' => e1 = oneGood (tk 5 (s.extract a e) u 1 a) N ∧ Below w.heap.size w w' := by
 have ha' : (a : Int) < (s.size : Int) := by omega
 have HY : Hid (Nam.scanZ s.data.toList (a : Int) = (a : Int)) := scan_self ha hlt
 have hirr : decide ((a : Int) < (a : Int)) = false := by simp
 have n37 : ((s[a].toNat : Int) == 37) = false := by rw [Bqf]; omega
 have n35 : ((s[a].toNat : Int) == 35) = false := by rw [Bqf]; omega
 have y36 : ((s[a].toNat : Int) == 36) = true := by rw [beq_iff_eq]; omega
 have ip : (a : Int) + 1 = (p : Int) := by omega
 have jp : (p : Int) < (s.size : Int) := by omega
 have kp : ((p : Int) == (s.size : Int)) = false := by rw [Bqf]; omega
 have lp : ((s[p].toNat : Int) == 103) = false := by rw [Bqf]; omega
 have lp' : ((s[p].toNat : Int) != 103) = true := by rw [bne, lp]; rfl
 have mp : ((s[p].toNat : Int) == 120) = true := by rw [beq_iff_eq]; omega
 have mp' : ((s[p].toNat : Int) != 120) = false := by rw [bne, mp]; rfl
 have HN := Hh (Ai hn hv)
 have hsl := slice_run s fr e (by omega) hes
 have hsl2 := slice_run s a e (by omega) hes
 have i3 : (a : Int) + (N : Int) = (e : Int) := by omega
 have we : IntKind.i64.wrap (e : Int) = (e : Int) := IntWalk.i64_in _ (by omega)
 have i1 : (a : Int) + 2 = (fr : Int) := by omega
 have i2 : (2 : Int) + (n : Int) = (N : Int) := by omega
 have b1 : (N : Int) ≤ 100000 := by omega
 have b2 : (n : Int) ≤ 100000 := by omega
 clear hn hv hN he hlt
 subst hc
 have z1 : (u : Int) ≤ 2147483647 := by omega
 have wu : IntKind.i64.wrap (u : Int) = (u : Int) := IntWalk.i64_in _ (by omega)
 clear c hd
 go_enter Tryz.func44, Tryz.ntmps44
 go_wp2_with fail
 refine (Nam.refscan_v s (a : Int) (a : Int) (by omega) HY.out _).mono ?_
 rintro e1 w1 ⟨rfl, rfl⟩
 go_wp2_with fail
 refine (ddigits_v s fr n hfs hs HN.out.1 _).mono ?_
 rintro e1 w1 ⟨rfl, rfl⟩
 go_wp2_with fail
 refine (HN.out.2 _).mono ?_
 rintro e1 w1 ⟨rfl, rfl⟩
 go_wp2_with fail
 go_region_with (fail)
 all_goals go_wp2_with fail
 all_goals refine fin3 (fn := Tryz.f44) rfl rfl (heap_alloc2_old w _ _) rfl ?_
 all_goals first | exact ⟨rfl, two_below w _ _⟩ | exact ⟨rfl, (two_below w _ _).drew⟩
end Go.Proofs.YtbpichjmkllfaaaGreatDoor.Lex
