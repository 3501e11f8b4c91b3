/- Packed texts of one proof. Conditions: none. -/
import Derived.Test.YtbpichjmkllfaaaGreatDoorPq08
import Derived.Lib.IndexAny
namespace Go.Proofs.YtbpichjmkllfaaaGreatDoor.Lex
open Go.ChangeShapes Go.WideShapes Go.RowKit
set_option linter.unusedVariables false
set_option maxRecDepth 20000
def Gets (d : ByteArray) (x cd : Int) : Prop := ∀ w : World, Calls Tryz.prog 132 #[.string d] w fun e w' => e = .returned (.tuple #[.int .i64 x, .int .i64 cd]) ∧ w = w'
theorem counted_code (s : ByteArray) (a fr e : Nat) (k c : Int) (x cd : Int) (hs : s.size ≤ 100000) (haf : a ≤ fr) (hfs : fr ≤ s.size) (he : fr + (dg (s.data.toList.drop fr)).length = e) (hes : e ≤ s.size) (hg : Gets (s.extract fr e) x cd) (hc : ¬ cd = 0) (w : World) :
  Calls Tryz.prog 135 #[sp s a, tk k ⟨#[]⟩ 0 c 0, .int .i64 (fr : Int)] w fun e1 w' => e1 = bad cd a ∧ Below w.heap.size w w' := by
 have HE := Hh he
 have HG := Hh hg
 have hsl := slice_run s fr e (by omega) hes
 have hae : a ≤ e := by omega
 have h1 : (cd != 0) = true := by rw [bne_iff_ne]; exact hc
 have h2 : (cd == 0) = false := by rw [Bqf]; exact hc
 have M0 := Hh (res3 w (.cells #[.string s, .int .i64 (a : Int)] 123) (.cells #[.int .i64 k, .string ⟨#[]⟩, .int .i64 0, .int .i64 c, .int .i64 0] 72))
 clear he hg
 unfold sp tk tc
 go_enter Tryz.func135, Tryz.ntmps135
 go_wp2_with fail
 refine (behind_v s fr e hfs hs HE.out _).mono ?_
 rintro e1 w1 ⟨rfl, rfl⟩
 go_wp2_with fail
 refine (HG.out _).mono ?_
 rintro e1 w1 ⟨rfl, rfl⟩
 go_wp2_with fail
 refine (wrong_v s a cd hc _).mono ?_
 rintro e1 w1 ⟨rfl, hb⟩
 have M1 := Hh (M0.out.next hb)
 obtain ⟨z0, z1, z2, z3, z4⟩ := M1.out.cells
 obtain ⟨f0, f1, f2, f3, f4⟩ := M1.out.frozen
 clear hb
 unfold t0 tc
 go_wp2_with fail
 refine fin3 (fn := Tryz.f135) rfl rfl (M1.out.five _ _ _ _ _).1 rfl ?_
 exact ⟨rfl, (M1.out.five _ _ _ _ _).2⟩
theorem counted_great (s : ByteArray) (a fr e : Nat) (k c : Int) (x cd : Int) (hs : s.size ≤ 100000) (haf : a ≤ fr) (hfs : fr ≤ s.size) (he : fr + (dg (s.data.toList.drop fr)).length = e) (hes : e ≤ s.size) (hg : Gets (s.extract fr e) x cd) (hc : cd = 0) (hx : 2147483647 < x) (w : World) :
  Calls Tryz.prog 135 #[sp s a, tk k ⟨#[]⟩ 0 c 0, .int .i64 (fr : Int)] w fun e1 w' => e1 = bad 2 a ∧ Below w.heap.size w w' := by
 have HE := Hh he
 have HG := Hh hg
 have hsl := slice_run s fr e (by omega) hes
 have hae : a ≤ e := by omega
 subst hc
 have h1 : decide (x > 2147483647) = true := by rw [decide_eq_true_iff]; exact hx
 have M0 := Hh (res3 w (.cells #[.string s, .int .i64 (a : Int)] 123) (.cells #[.int .i64 k, .string ⟨#[]⟩, .int .i64 0, .int .i64 c, .int .i64 0] 72))
 clear he hg
 unfold sp tk tc
 go_enter Tryz.func135, Tryz.ntmps135
 go_wp2_with fail
 refine (behind_v s fr e hfs hs HE.out _).mono ?_
 rintro e1 w1 ⟨rfl, rfl⟩
 go_wp2_with fail
 refine (HG.out _).mono ?_
 rintro e1 w1 ⟨rfl, rfl⟩
 go_wp2_with fail
 refine (wrong_v s a 2 (by decide) _).mono ?_
 rintro e1 w1 ⟨rfl, hb⟩
 have M1 := Hh (M0.out.next hb)
 obtain ⟨z0, z1, z2, z3, z4⟩ := M1.out.cells
 obtain ⟨f0, f1, f2, f3, f4⟩ := M1.out.frozen
 clear hb
 unfold t0 tc
 go_wp2_with fail
 refine fin3 (fn := Tryz.f135) rfl rfl (M1.out.five _ _ _ _ _).1 rfl ?_
 exact ⟨rfl, (M1.out.five _ _ _ _ _).2⟩
theorem counted_right (s : ByteArray) (a fr e : Nat) (k c : Int) (x cd : Int) (hs : s.size ≤ 100000) (haf : a ≤ fr) (hfs : fr ≤ s.size) (he : fr + (dg (s.data.toList.drop fr)).length = e) (hes : e ≤ s.size) (hg : Gets (s.extract fr e) x cd) (hc : cd = 0) (hx : x ≤ 2147483647) (w : World) :
  Calls Tryz.prog 135 #[sp s a, tk k ⟨#[]⟩ 0 c 0, .int .i64 (fr : Int)] w fun e1 w' => e1 = good (tk k (s.extract a e) x c a) e ∧ Below w.heap.size w w' := by
 have HE := Hh he
 have HG := Hh hg
 have hsl := slice_run s fr e (by omega) hes
 have hae : a ≤ e := by omega
 subst hc
 have h1 : decide (x > 2147483647) = false := by rw [decide_eq_false_iff_not]; omega
 have M0 := Hh (res3 w (.cells #[.string s, .int .i64 (a : Int)] 123) (.cells #[.int .i64 k, .string ⟨#[]⟩, .int .i64 x, .int .i64 c, .int .i64 0] 72))
 clear he hg
 unfold sp tk tc
 go_enter Tryz.func135, Tryz.ntmps135
 go_wp2_with fail
 refine (behind_v s fr e hfs hs HE.out _).mono ?_
 rintro e1 w1 ⟨rfl, rfl⟩
 go_wp2_with fail
 refine (HG.out _).mono ?_
 rintro e1 w1 ⟨rfl, rfl⟩
 go_wp2_with fail
 refine (right_v s a e hae hes k x c 0 ⟨#[]⟩ _).mono ?_
 rintro e1 w1 ⟨rfl, hb⟩
 have M1 := Hh (M0.out.next hb)
 obtain ⟨z0, z1, z2, z3, z4⟩ := M1.out.cells
 obtain ⟨f0, f1, f2, f3, f4⟩ := M1.out.frozen
 clear hb
 unfold tk tc
 go_wp2_with fail
 refine fin3 (fn := Tryz.f135) rfl rfl (M1.out.five _ _ _ _ _).1 rfl ?_
 exact ⟨rfl, (M1.out.five _ _ _ _ _).2⟩
theorem number_code (s : ByteArray) (a e : Nat) (x cd : Int) (hs : s.size ≤ 100000) (has : a ≤ s.size) (he : a + (dg (s.data.toList.drop a)).length = e) (hes : e ≤ s.size) (hg : Gets (s.extract a e) x cd) (hc : ¬ cd = 0) (hc2 : ¬ cd = 2) (w : World) :
  Calls Tryz.prog 94 #[sp s a] w fun e1 w' => e1 = bad cd a ∧ Below w.heap.size w w' := by
 have HE := Hh he
 have HG := Hh hg
 have hsl := slice_run s a e (by omega) hes
 have hae : a ≤ e := by omega
 have h1 : (cd != 0) = true := by rw [bne_iff_ne]; exact hc
 have h2 : (cd == 0) = false := by rw [Bqf]; exact hc
 have h3 : (cd == 2) = false := by rw [Bqf]; exact hc2
 have M0 := Hh (res2 w (.cells #[.string s, .int .i64 (a : Int)] 123))
 clear he hg
 unfold sp
 go_enter Tryz.func94, Tryz.ntmps94
 go_wp2_with fail
 refine (behind_v s a e has hs HE.out _).mono ?_
 rintro e1 w1 ⟨rfl, rfl⟩
 go_wp2_with fail
 refine (HG.out _).mono ?_
 rintro e1 w1 ⟨rfl, rfl⟩
 go_wp2_with fail
 refine (wrong_v s a cd hc _).mono ?_
 rintro e1 w1 ⟨rfl, hb⟩
 have M1 := Hh (M0.out.next hb)
 obtain ⟨z0, z1, z2, z3, z4⟩ := M1.out.cells
 obtain ⟨f0, f1, f2, f3, f4⟩ := M1.out.frozen
 clear hb
 unfold t0 tc
 go_wp2_with fail
 refine fin3 (fn := Tryz.f94) rfl rfl (M1.out.five _ _ _ _ _).1 rfl ?_
 exact ⟨rfl, (M1.out.five _ _ _ _ _).2⟩
theorem number_right (s : ByteArray) (a e : Nat) (x cd : Int) (hs : s.size ≤ 100000) (has : a ≤ s.size) (he : a + (dg (s.data.toList.drop a)).length = e) (hes : e ≤ s.size) (hg : Gets (s.extract a e) x cd) (hc : cd = 0) (w : World) :
  Calls Tryz.prog 94 #[sp s a] w fun e1 w' => e1 = good (tk 2 (s.extract a e) x 0 a) e ∧ Below w.heap.size w w' := by
 have HE := Hh he
 have HG := Hh hg
 have hsl := slice_run s a e (by omega) hes
 have hae : a ≤ e := by omega
 subst hc
 have M0 := Hh (res2 w (.cells #[.string s, .int .i64 (a : Int)] 123))
 clear he hg
 unfold sp
 go_enter Tryz.func94, Tryz.ntmps94
 go_wp2_with fail
 refine (behind_v s a e has hs HE.out _).mono ?_
 rintro e1 w1 ⟨rfl, rfl⟩
 go_wp2_with fail
 refine (HG.out _).mono ?_
 rintro e1 w1 ⟨rfl, rfl⟩
 go_wp2_with fail
 refine (right_v s a e hae hes 2 x 0 0 ⟨#[]⟩ _).mono ?_
 rintro e1 w1 ⟨rfl, hb⟩
 have M1 := Hh (M0.out.next hb)
 obtain ⟨z0, z1, z2, z3, z4⟩ := M1.out.cells
 obtain ⟨f0, f1, f2, f3, f4⟩ := M1.out.frozen
 clear hb
 unfold tk tc
 go_wp2_with fail
 refine fin3 (fn := Tryz.f94) rfl rfl (M1.out.five _ _ _ _ _).1 rfl ?_
 exact ⟨rfl, (M1.out.five _ _ _ _ _).2⟩
theorem number_least (s : ByteArray) (a e : Nat) (x cd : Int) (hs : s.size ≤ 100000) (has : a ≤ s.size) (he : a + (dg (s.data.toList.drop a)).length = e) (hes : e ≤ s.size) (hg : Gets (s.extract a e) x cd) (hc : cd = 2) (x2 : Int) (hg2 : Gets (⟨#[45]⟩ ++ s.extract a e) x2 0) (w : World) :
  Calls Tryz.prog 94 #[sp s a] w fun e1 w' => e1 = good (tk 2 (s.extract a e) x2 0 a) e ∧ Below w.heap.size w w' := by
 have HE := Hh he
 have HG := Hh hg
 have hsl := slice_run s a e (by omega) hes
 have hae : a ≤ e := by omega
 subst hc
 have HG2 := Hh hg2
 clear hg2
 have M0 := Hh (res2 w (.cells #[.string s, .int .i64 (a : Int)] 123))
 clear he hg
 unfold sp
 go_enter Tryz.func94, Tryz.ntmps94
 go_wp2_with fail
 refine (behind_v s a e has hs HE.out _).mono ?_
 rintro e1 w1 ⟨rfl, rfl⟩
 go_wp2_with fail
 refine (HG.out _).mono ?_
 rintro e1 w1 ⟨rfl, rfl⟩
 go_wp2_with fail
 refine (HG2.out _).mono ?_
 rintro e1 w1 ⟨rfl, rfl⟩
 go_wp2_with fail
 refine (right_v s a e hae hes 2 x2 0 0 ⟨#[]⟩ _).mono ?_
 rintro e1 w1 ⟨rfl, hb⟩
 have M1 := Hh (M0.out.next hb)
 obtain ⟨z0, z1, z2, z3, z4⟩ := M1.out.cells
 obtain ⟨f0, f1, f2, f3, f4⟩ := M1.out.frozen
 clear hb
 unfold tk tc
 go_wp2_with fail
 refine fin3 (fn := Tryz.f94) rfl rfl (M1.out.five _ _ _ _ _).1 rfl ?_
 exact ⟨rfl, (M1.out.five _ _ _ _ _).2⟩
theorem number_great (s : ByteArray) (a e : Nat) (x cd : Int) (hs : s.size ≤ 100000) (has : a ≤ s.size) (he : a + (dg (s.data.toList.drop a)).length = e) (hes : e ≤ s.size) (hg : Gets (s.extract a e) x cd) (hc : cd = 2) (x2 cd2 : Int) (hc2 : ¬ cd2 = 0) (hg2 : Gets (⟨#[45]⟩ ++ s.extract a e) x2 cd2) (w : World) :
  Calls Tryz.prog 94 #[sp s a] w fun e1 w' => e1 = bad cd2 a ∧ Below w.heap.size w w' := by
 have HE := Hh he
 have HG := Hh hg
 have hsl := slice_run s a e (by omega) hes
 have hae : a ≤ e := by omega
 subst hc
 have HG2 := Hh hg2
 have h1 : (cd2 != 0) = true := by rw [bne_iff_ne]; exact hc2
 have h2 : (cd2 == 0) = false := by rw [Bqf]; exact hc2
 clear hg2
 have M0 := Hh (res2 w (.cells #[.string s, .int .i64 (a : Int)] 123))
 clear he hg
 unfold sp
 go_enter Tryz.func94, Tryz.ntmps94
 go_wp2_with fail
 refine (behind_v s a e has hs HE.out _).mono ?_
 rintro e1 w1 ⟨rfl, rfl⟩
 go_wp2_with fail
 refine (HG.out _).mono ?_
 rintro e1 w1 ⟨rfl, rfl⟩
 go_wp2_with fail
 refine (HG2.out _).mono ?_
 rintro e1 w1 ⟨rfl, rfl⟩
 go_wp2_with fail
 refine (wrong_v s a cd2 hc2 _).mono ?_
 rintro e1 w1 ⟨rfl, hb⟩
 have M1 := Hh (M0.out.next hb)
 obtain ⟨z0, z1, z2, z3, z4⟩ := M1.out.cells
 obtain ⟨f0, f1, f2, f3, f4⟩ := M1.out.frozen
 clear hb
 unfold t0 tc
 go_wp2_with fail
 refine fin3 (fn := Tryz.f94) rfl rfl (M1.out.five _ _ _ _ _).1 rfl ?_
 exact ⟨rfl, (M1.out.five _ _ _ _ _).2⟩
theorem vreg_bad (s : ByteArray) (a fr : Nat) (hs : s.size ≤ 100000) (ha : a < s.size) (haf : a + 1 = fr) (cd : Int)
  (hk : ∀ w : World, Calls Tryz.prog 135 #[sp s a, tk 4 ⟨#[]⟩ 0 0 0, .int .i64 (fr : Int)] w fun e1 w' => e1 = bad cd a ∧ Below w.heap.size w w') (w : World) :
  Calls Tryz.prog 98 #[sp s a] w fun e1 w' => e1 = bad cd a ∧ Below w.heap.size w w' := by
 have HK := Hh hk
 have h1 : (a : Int) + 1 = (fr : Int) := by omega
 have M0 := Hh (res2 w (.cells #[.string s, .int .i64 (a : Int)] 123))
 clear hk haf
 unfold sp
 go_enter Tryz.func98, Tryz.ntmps98
 go_wp2_with fail
 refine (HK.out _).mono ?_
 rintro e1 w1 ⟨rfl, hb⟩
 have M1 := Hh (M0.out.next hb)
 obtain ⟨z0, z1, z2, z3, z4⟩ := M1.out.cells
 obtain ⟨f0, f1, f2, f3, f4⟩ := M1.out.frozen
 clear hb
 unfold bad t0 tc
 go_wp2_with fail
 refine fin3 (fn := Tryz.f98) rfl rfl (M1.out.five _ _ _ _ _).1 rfl ?_
 exact ⟨rfl, (M1.out.five _ _ _ _ _).2⟩
theorem vreg_good (s : ByteArray) (a fr : Nat) (hs : s.size ≤ 100000) (ha : a < s.size) (haf : a + 1 = fr) (x : Int) (e : Nat) (t : ByteArray)
  (hk : ∀ w : World, Calls Tryz.prog 135 #[sp s a, tk 4 ⟨#[]⟩ 0 0 0, .int .i64 (fr : Int)] w fun e1 w' => e1 = good (tk 4 t x 0 a) e ∧ Below w.heap.size w w') (w : World) :
  Calls Tryz.prog 98 #[sp s a] w fun e1 w' => e1 = good (tk 4 t x 0 a) e ∧ Below w.heap.size w w' := by
 have HK := Hh hk
 have h1 : (a : Int) + 1 = (fr : Int) := by omega
 have M0 := Hh (res2 w (.cells #[.string s, .int .i64 (a : Int)] 123))
 clear hk haf
 unfold sp
 go_enter Tryz.func98, Tryz.ntmps98
 go_wp2_with fail
 refine (HK.out _).mono ?_
 rintro e1 w1 ⟨rfl, hb⟩
 have M1 := Hh (M0.out.next hb)
 obtain ⟨z0, z1, z2, z3, z4⟩ := M1.out.cells
 obtain ⟨f0, f1, f2, f3, f4⟩ := M1.out.frozen
 clear hb
 unfold good tk tc
 go_wp2_with fail
 refine fin3 (fn := Tryz.f98) rfl rfl (M1.out.five _ _ _ _ _).1 rfl ?_
 exact ⟨rfl, (M1.out.five _ _ _ _ _).2⟩
theorem slot_bad (s : ByteArray) (a fr : Nat) (hs : s.size ≤ 100000) (ha : a < s.size) (haf : a + 1 = fr) (cd : Int)
  (hk : ∀ w : World, Calls Tryz.prog 135 #[sp s a, tk 6 ⟨#[]⟩ 0 0 0, .int .i64 (fr : Int)] w fun e1 w' => e1 = bad cd a ∧ Below w.heap.size w w') (w : World) :
  Calls Tryz.prog 100 #[sp s a] w fun e1 w' => e1 = bad cd a ∧ Below w.heap.size w w' := by
 have HK := Hh hk
 have h1 : (a : Int) + 1 = (fr : Int) := by omega
 have M0 := Hh (res2 w (.cells #[.string s, .int .i64 (a : Int)] 123))
 clear hk haf
 unfold sp
 go_enter Tryz.func100, Tryz.ntmps100
 go_wp2_with fail
 refine (HK.out _).mono ?_
 rintro e1 w1 ⟨rfl, hb⟩
 have M1 := Hh (M0.out.next hb)
 obtain ⟨z0, z1, z2, z3, z4⟩ := M1.out.cells
 obtain ⟨f0, f1, f2, f3, f4⟩ := M1.out.frozen
 clear hb
 unfold bad t0 tc
 go_wp2_with fail
 refine fin3 (fn := Tryz.f100) rfl rfl (M1.out.five _ _ _ _ _).1 rfl ?_
 exact ⟨rfl, (M1.out.five _ _ _ _ _).2⟩
theorem slot_good (s : ByteArray) (a fr : Nat) (hs : s.size ≤ 100000) (ha : a < s.size) (haf : a + 1 = fr) (x : Int) (e : Nat) (t : ByteArray)
  (hk : ∀ w : World, Calls Tryz.prog 135 #[sp s a, tk 6 ⟨#[]⟩ 0 0 0, .int .i64 (fr : Int)] w fun e1 w' => e1 = good (tk 6 t x 0 a) e ∧ Below w.heap.size w w') (w : World) :
  Calls Tryz.prog 100 #[sp s a] w fun e1 w' => e1 = good (tk 6 t x 0 a) e ∧ Below w.heap.size w w' := by
 have HK := Hh hk
 have h1 : (a : Int) + 1 = (fr : Int) := by omega
 have M0 := Hh (res2 w (.cells #[.string s, .int .i64 (a : Int)] 123))
 clear hk haf
 unfold sp
 go_enter Tryz.func100, Tryz.ntmps100
 go_wp2_with fail
 refine (HK.out _).mono ?_
 rintro e1 w1 ⟨rfl, hb⟩
 have M1 := Hh (M0.out.next hb)
 obtain ⟨z0, z1, z2, z3, z4⟩ := M1.out.cells
 obtain ⟨f0, f1, f2, f3, f4⟩ := M1.out.frozen
 clear hb
 unfold good tk tc
 go_wp2_with fail
 refine fin3 (fn := Tryz.f100) rfl rfl (M1.out.five _ _ _ _ _).1 rfl ?_
 exact ⟨rfl, (M1.out.five _ _ _ _ _).2⟩
theorem preg_none (s : ByteArray) (a fr : Nat) (hs : s.size ≤ 100000) (ha : a < s.size) (haf : a + 1 = fr) (c : Int) (hc : clsOf (s.data.toList.drop fr) = (c, false)) (w : World) :
  Calls Tryz.prog 99 #[sp s a] w fun e1 w' => e1 = bad 12 a ∧ Below w.heap.size w w' := by
 have HC := Hh hc
 have h1 : (a : Int) + 1 = (fr : Int) := by omega
 have hfs : fr ≤ s.size := by omega
 have M0 := Hh (res2 w (.cells #[.string s, .int .i64 (a : Int)] 123))
 clear hc haf
 unfold sp
 go_enter Tryz.func99, Tryz.ntmps99
 go_wp2_with fail
 refine (class_v s fr hfs hs c false HC.out _).mono ?_
 rintro e1 w1 ⟨rfl, rfl⟩
 go_wp2_with fail
 refine (wrong_v s a 12 (by decide) _).mono ?_
 rintro e1 w1 ⟨rfl, hb⟩
 have M1 := Hh (M0.out.next hb)
 obtain ⟨z0, z1, z2, z3, z4⟩ := M1.out.cells
 obtain ⟨f0, f1, f2, f3, f4⟩ := M1.out.frozen
 clear hb
 unfold t0 tc
 go_wp2_with fail
 refine fin3 (fn := Tryz.f99) rfl rfl (M1.out.five _ _ _ _ _).1 rfl ?_
 exact ⟨rfl, (M1.out.five _ _ _ _ _).2⟩
theorem preg_bad (s : ByteArray) (a f1 fr : Nat) (hs : s.size ≤ 100000) (ha : a < s.size) (haf : a + 1 = f1) (haf2 : a + 2 = fr) (c : Int) (hc : clsOf (s.data.toList.drop f1) = (c, true)) (cd : Int)
  (hk : ∀ w : World, Calls Tryz.prog 135 #[sp s a, tk 5 ⟨#[]⟩ 0 c 0, .int .i64 (fr : Int)] w fun e1 w' => e1 = bad cd a ∧ Below w.heap.size w w') (w : World) :
  Calls Tryz.prog 99 #[sp s a] w fun e1 w' => e1 = bad cd a ∧ Below w.heap.size w w' := by
 have HK := Hh hk
 have HC := Hh hc
 have h1 : (a : Int) + 1 = (f1 : Int) := by omega
 have h2 : (a : Int) + 2 = (fr : Int) := by omega
 have hfs : f1 ≤ s.size := by omega
 have M0 := Hh (res2 w (.cells #[.string s, .int .i64 (a : Int)] 123))
 clear hk haf haf2 hc
 unfold sp
 go_enter Tryz.func99, Tryz.ntmps99
 go_wp2_with fail
 refine (class_v s f1 hfs hs c true HC.out _).mono ?_
 rintro e1 w1 ⟨rfl, rfl⟩
 go_wp2_with fail
 refine (HK.out _).mono ?_
 rintro e1 w1 ⟨rfl, hb⟩
 have M1 := Hh (M0.out.next hb)
 obtain ⟨z0, z1, z2, z3, z4⟩ := M1.out.cells
 obtain ⟨f0, f1, f2, f3, f4⟩ := M1.out.frozen
 clear hb
 unfold bad t0 tc
 go_wp2_with fail
 refine fin3 (fn := Tryz.f99) rfl rfl (M1.out.five _ _ _ _ _).1 rfl ?_
 exact ⟨rfl, (M1.out.five _ _ _ _ _).2⟩
theorem preg_good (s : ByteArray) (a f1 fr : Nat) (hs : s.size ≤ 100000) (ha : a < s.size) (haf : a + 1 = f1) (haf2 : a + 2 = fr) (c : Int) (hc : clsOf (s.data.toList.drop f1) = (c, true)) (x : Int) (e : Nat) (t : ByteArray)
  (hk : ∀ w : World, Calls Tryz.prog 135 #[sp s a, tk 5 ⟨#[]⟩ 0 c 0, .int .i64 (fr : Int)] w fun e1 w' => e1 = good (tk 5 t x c a) e ∧ Below w.heap.size w w') (w : World) :
  Calls Tryz.prog 99 #[sp s a] w fun e1 w' => e1 = good (tk 5 t x c a) e ∧ Below w.heap.size w w' := by
 have HK := Hh hk
 have HC := Hh hc
 have h1 : (a : Int) + 1 = (f1 : Int) := by omega
 have h2 : (a : Int) + 2 = (fr : Int) := by omega
 have hfs : f1 ≤ s.size := by omega
 have M0 := Hh (res2 w (.cells #[.string s, .int .i64 (a : Int)] 123))
 clear hk haf haf2 hc
 unfold sp
 go_enter Tryz.func99, Tryz.ntmps99
 go_wp2_with fail
 refine (class_v s f1 hfs hs c true HC.out _).mono ?_
 rintro e1 w1 ⟨rfl, rfl⟩
 go_wp2_with fail
 refine (HK.out _).mono ?_
 rintro e1 w1 ⟨rfl, hb⟩
 have M1 := Hh (M0.out.next hb)
 obtain ⟨z0, z1, z2, z3, z4⟩ := M1.out.cells
 obtain ⟨f0, f1, f2, f3, f4⟩ := M1.out.frozen
 clear hb
 unfold good tk tc
 go_wp2_with fail
 refine fin3 (fn := Tryz.f99) rfl rfl (M1.out.five _ _ _ _ _).1 rfl ?_
 exact ⟨rfl, (M1.out.five _ _ _ _ _).2⟩
theorem quoted_bad (s : ByteArray) (a : Nat) (x : List UInt8) (y : Nat) (e : Int) (hs : s.size ≤ 100000) (ha : a < s.size) (hq : s[a].toNat = 34) (hR : Quo.scan s.size (s.data.toList.drop (a + 1)) (a + 1) [] = (x, y, e)) (he : ¬ e = 0) (w : World) :
  Calls Tryz.prog 97 #[sp s a] w fun e1 w' => e1 = bad e y ∧ Below w.heap.size w w' := by
 have HR := Hh (Ai hq hR)
 have h1 : (e != 0) = true := by rw [bne_iff_ne]; exact he
 have h2 : (e == 0) = false := by rw [Bqf]; exact he
 have M := Hh (mine_start w s a)
 clear hq hR
 unfold sp
 go_enter Tryz.func97, Tryz.ntmps97
 go_wp2_with fail
 refine (Quo.scan_v s a x y e hs ha HR.out.1 HR.out.2 _).mono ?_
 rintro e1 w1 ⟨rfl, hb⟩
 have M1 := Hh (M.out.next hb)
 obtain ⟨z0, z1, z2, z3, z4⟩ := M1.out.cells
 obtain ⟨f0, f1, f2, f3, f4⟩ := M1.out.frozen
 clear hb
 unfold Quo.E3
 go_wp2_with fail
 refine (Fau.new_v e (y : Int) he _).mono ?_
 rintro e1 w2 ⟨rfl, rfl⟩
 go_wp2_with fail
 refine fin3 (fn := Tryz.f97) rfl rfl (M1.out.five _ _ _ _ _).1 rfl ?_
 exact ⟨rfl, (M1.out.five _ _ _ _ _).2⟩
theorem quoted_good (s : ByteArray) (a : Nat) (x : List UInt8) (y : Nat) (e : Int) (hs : s.size ≤ 100000) (ha : a < s.size) (hq : s[a].toNat = 34) (hR : Quo.scan s.size (s.data.toList.drop (a + 1)) (a + 1) [] = (x, y, e)) (he : e = 0) (w : World) :
  Calls Tryz.prog 97 #[sp s a] w fun e1 w' => e1 = good (tk 3 ⟨x.toArray⟩ 0 0 a) y ∧ Below w.heap.size w w' := by
 subst he
 have HR := Hh (Ai hq hR)
 have M := Hh (mine_start w s a)
 clear hq hR
 unfold sp
 go_enter Tryz.func97, Tryz.ntmps97
 go_wp2_with fail
 refine (Quo.scan_v s a x y 0 hs ha HR.out.1 HR.out.2 _).mono ?_
 rintro e1 w1 ⟨rfl, hb⟩
 have M1 := Hh (M.out.next hb)
 obtain ⟨z0, z1, z2, z3, z4⟩ := M1.out.cells
 obtain ⟨f0, f1, f2, f3, f4⟩ := M1.out.frozen
 obtain ⟨p0, p1⟩ := M1.out.spot
 clear hb
 unfold Quo.E3
 go_wp2_with fail
 refine fin3 (fn := Tryz.f97) rfl rfl (M1.out.five _ _ _ _ _).1 rfl ?_
 exact ⟨rfl, (M1.out.five _ _ _ _ _).2⟩
def rd (k : Nat) (s : ByteArray) (a : Nat) : Value := .func (.func k) #[sp s a] #[]
theorem way_end (s : ByteArray) (w : World) : Calls Tryz.prog 54 #[sp s s.size] w fun e w' => e = .returned (rd 90 s s.size) ∧ Below w.heap.size w w' := by
 unfold sp rd
 have hb := Hh (((Below.refl _ w).alloc (Nat.le_refl _) (.cells #[.string s, .int .i64 (s.size : Int)] 123)))
 go_enter Tryz.func54, Tryz.ntmps54
 go_wp2_with fail
 go_ret
 exact ⟨rfl, hb.out⟩
theorem way_word (s : ByteArray) (a : Nat) (ha : a < s.size) (h1 : Nam.letter s[a] = true) (w : World) : Calls Tryz.prog 54 #[sp s a] w fun e w' => e = .returned (rd 92 s a) ∧ Below w.heap.size w w' := by
 unfold sp rd
 have hb := Hh (((Below.refl _ w).alloc (Nat.le_refl _) (.cells #[.string s, .int .i64 (a : Int)] 123)))
 have h0 : ((a : Int) == (s.size : Int)) = false := by rw [Bqf]; omega
 have h0' : (a : Int) < (s.size : Int) := by omega
 have H1 := Hh h1
 clear h1
 go_enter Tryz.func54, Tryz.ntmps54
 go_wp2_with fail
 refine (Nam.letter_v s[a] _ H1.out _).mono ?_
 rintro e w1 ⟨rfl, rfl⟩
 go_wp2_with fail
 go_ret
 exact ⟨rfl, hb.out⟩
theorem way_number (s : ByteArray) (a : Nat) (ha : a < s.size) (h1 : Nam.letter s[a] = false) (h2 : dgt s[a] = true) (w : World) : Calls Tryz.prog 54 #[sp s a] w fun e w' => e = .returned (rd 94 s a) ∧ Below w.heap.size w w' := by
 unfold sp rd
 have hb := Hh (((Below.refl _ w).alloc (Nat.le_refl _) (.cells #[.string s, .int .i64 (a : Int)] 123)))
 have h0 : ((a : Int) == (s.size : Int)) = false := by rw [Bqf]; omega
 have h0' : (a : Int) < (s.size : Int) := by omega
 have H1 := Hh h1
 have H2 := Hh h2
 clear h1 h2
 go_enter Tryz.func54, Tryz.ntmps54
 go_wp2_with fail
 refine (Nam.letter_v s[a] _ H1.out _).mono ?_
 rintro e w1 ⟨rfl, rfl⟩
 go_wp2_with fail
 refine (digit_v s[a] _ H2.out _).mono ?_
 rintro e w1 ⟨rfl, rfl⟩
 go_wp2_with fail
 go_ret
 exact ⟨rfl, hb.out⟩
def sgs : List UInt8 := [123, 125, 40, 41, 91, 93, 44, 58, 59, 61, 43, 45, 42]
theorem sgs_in {c : UInt8} (h : c ∈ sgs) : 0 ≤ Lib.indexByte sgs c := by
 have := Lib.contains_iff_indexByte sgs c
 rw [List.contains_iff_mem.2 h] at this
 exact of_decide_eq_true this.symm
theorem sgs_out {c : UInt8} (h : ¬ c ∈ sgs) : Lib.indexByte sgs c < 0 := by
 have := Lib.contains_iff_indexByte sgs c
 have h2 : sgs.contains c = false := by rw [Bool.eq_false_iff]; intro k; exact h (List.contains_iff_mem.1 k)
 rw [h2] at this
 have := of_decide_eq_false this.symm
 omega
theorem way_sign (s : ByteArray) (a : Nat) (ha : a < s.size) (h1 : Nam.letter s[a] = false) (h2 : dgt s[a] = false) (h3 : s[a] ∈ sgs) (w : World) : Calls Tryz.prog 54 #[sp s a] w fun e w' => e = .returned (rd 96 s a) ∧ Below w.heap.size w w' := by
 unfold sp rd
 have hb := Hh (((Below.refl _ w).alloc (Nat.le_refl _) (.cells #[.string s, .int .i64 (a : Int)] 123)))
 have h0 : ((a : Int) == (s.size : Int)) = false := by rw [Bqf]; omega
 have h0' : (a : Int) < (s.size : Int) := by omega
 obtain ⟨z, hz⟩ : ∃ z, Lib.indexByte sgs s[a] = z := ⟨_, rfl⟩
 have hz0 : 0 ≤ z := by rw [← hz]; exact sgs_in h3
 have HZ := Hh hz
 have H1 := Hh h1
 have H2 := Hh h2
 clear h1 h2 hz h3
 go_enter Tryz.func54, Tryz.ntmps54
 go_wp2_with fail
 refine (Nam.letter_v s[a] _ H1.out _).mono ?_
 rintro e w1 ⟨rfl, rfl⟩
 go_wp2_with fail
 refine (digit_v s[a] _ H2.out _).mono ?_
 rintro e w1 ⟨rfl, rfl⟩
 go_wp2_with fail
 refine (index_v _ s[a] z HZ.out _).mono ?_
 rintro e w1 ⟨rfl, rfl⟩
 go_wp2_with fail
 go_ret
 exact ⟨rfl, hb.out⟩
theorem way_quoted (s : ByteArray) (a : Nat) (ha : a < s.size) (h1 : Nam.letter s[a] = false) (h2 : dgt s[a] = false) (h3 : ¬ s[a] ∈ sgs)  (y : s[a].toNat = 34) (w : World) : Calls Tryz.prog 54 #[sp s a] w fun e w' => e = .returned (rd 97 s a) ∧ Below w.heap.size w w' := by
 unfold sp rd
 have hb := Hh (((Below.refl _ w).alloc (Nat.le_refl _) (.cells #[.string s, .int .i64 (a : Int)] 123)))
 have h0 : ((a : Int) == (s.size : Int)) = false := by rw [Bqf]; omega
 have h0' : (a : Int) < (s.size : Int) := by omega
 obtain ⟨z, hz⟩ : ∃ z, Lib.indexByte sgs s[a] = z := ⟨_, rfl⟩
 have hz0 : z < 0 := by rw [← hz]; exact sgs_out h3
 have HZ := Hh hz
 have H1 := Hh h1
 have H2 := Hh h2
 have c34 : ((s[a].toNat : Int) == 34) = true := by rw [beq_iff_eq]; omega
 clear h1 h2 hz h3  y
 go_enter Tryz.func54, Tryz.ntmps54
 go_wp2_with fail
 refine (Nam.letter_v s[a] _ H1.out _).mono ?_
 rintro e w1 ⟨rfl, rfl⟩
 go_wp2_with fail
 refine (digit_v s[a] _ H2.out _).mono ?_
 rintro e w1 ⟨rfl, rfl⟩
 go_wp2_with fail
 refine (index_v _ s[a] z HZ.out _).mono ?_
 rintro e w1 ⟨rfl, rfl⟩
 go_wp2_with fail
 go_ret
 exact ⟨rfl, hb.out⟩
theorem way_vreg (s : ByteArray) (a : Nat) (ha : a < s.size) (h1 : Nam.letter s[a] = false) (h2 : dgt s[a] = false) (h3 : ¬ s[a] ∈ sgs) (n34 : s[a].toNat ≠ 34) (y : s[a].toNat = 37) (w : World) : Calls Tryz.prog 54 #[sp s a] w fun e w' => e = .returned (rd 98 s a) ∧ Below w.heap.size w w' := by
 unfold sp rd
 have hb := Hh (((Below.refl _ w).alloc (Nat.le_refl _) (.cells #[.string s, .int .i64 (a : Int)] 123)))
 have h0 : ((a : Int) == (s.size : Int)) = false := by rw [Bqf]; omega
 have h0' : (a : Int) < (s.size : Int) := by omega
 obtain ⟨z, hz⟩ : ∃ z, Lib.indexByte sgs s[a] = z := ⟨_, rfl⟩
 have hz0 : z < 0 := by rw [← hz]; exact sgs_out h3
 have HZ := Hh hz
 have H1 := Hh h1
 have H2 := Hh h2
 have c34 : ((s[a].toNat : Int) == 34) = false := by rw [Bqf]; omega
 have c37 : ((s[a].toNat : Int) == 37) = true := by rw [beq_iff_eq]; omega
 clear h1 h2 hz h3 n34 y
 go_enter Tryz.func54, Tryz.ntmps54
 go_wp2_with fail
 refine (Nam.letter_v s[a] _ H1.out _).mono ?_
 rintro e w1 ⟨rfl, rfl⟩
 go_wp2_with fail
 refine (digit_v s[a] _ H2.out _).mono ?_
 rintro e w1 ⟨rfl, rfl⟩
 go_wp2_with fail
 refine (index_v _ s[a] z HZ.out _).mono ?_
 rintro e w1 ⟨rfl, rfl⟩
 go_wp2_with fail
 go_ret
 exact ⟨rfl, hb.out⟩
theorem way_preg (s : ByteArray) (a : Nat) (ha : a < s.size) (h1 : Nam.letter s[a] = false) (h2 : dgt s[a] = false) (h3 : ¬ s[a] ∈ sgs) (n34 : s[a].toNat ≠ 34) (n37 : s[a].toNat ≠ 37) (y : s[a].toNat = 36) (w : World) : Calls Tryz.prog 54 #[sp s a] w fun e w' => e = .returned (rd 99 s a) ∧ Below w.heap.size w w' := by
 unfold sp rd
 have hb := Hh (((Below.refl _ w).alloc (Nat.le_refl _) (.cells #[.string s, .int .i64 (a : Int)] 123)))
 have h0 : ((a : Int) == (s.size : Int)) = false := by rw [Bqf]; omega
 have h0' : (a : Int) < (s.size : Int) := by omega
 obtain ⟨z, hz⟩ : ∃ z, Lib.indexByte sgs s[a] = z := ⟨_, rfl⟩
 have hz0 : z < 0 := by rw [← hz]; exact sgs_out h3
 have HZ := Hh hz
 have H1 := Hh h1
 have H2 := Hh h2
 have c34 : ((s[a].toNat : Int) == 34) = false := by rw [Bqf]; omega
 have c37 : ((s[a].toNat : Int) == 37) = false := by rw [Bqf]; omega
 have c36 : ((s[a].toNat : Int) == 36) = true := by rw [beq_iff_eq]; omega
 clear h1 h2 hz h3 n34 n37 y
 go_enter Tryz.func54, Tryz.ntmps54
 go_wp2_with fail
 refine (Nam.letter_v s[a] _ H1.out _).mono ?_
 rintro e w1 ⟨rfl, rfl⟩
 go_wp2_with fail
 refine (digit_v s[a] _ H2.out _).mono ?_
 rintro e w1 ⟨rfl, rfl⟩
 go_wp2_with fail
 refine (index_v _ s[a] z HZ.out _).mono ?_
 rintro e w1 ⟨rfl, rfl⟩
 go_wp2_with fail
 go_ret
 exact ⟨rfl, hb.out⟩
theorem way_slot (s : ByteArray) (a : Nat) (ha : a < s.size) (h1 : Nam.letter s[a] = false) (h2 : dgt s[a] = false) (h3 : ¬ s[a] ∈ sgs) (n34 : s[a].toNat ≠ 34) (n37 : s[a].toNat ≠ 37) (n36 : s[a].toNat ≠ 36) (y : s[a].toNat = 35) (w : World) : Calls Tryz.prog 54 #[sp s a] w fun e w' => e = .returned (rd 100 s a) ∧ Below w.heap.size w w' := by
 unfold sp rd
 have hb := Hh (((Below.refl _ w).alloc (Nat.le_refl _) (.cells #[.string s, .int .i64 (a : Int)] 123)))
 have h0 : ((a : Int) == (s.size : Int)) = false := by rw [Bqf]; omega
 have h0' : (a : Int) < (s.size : Int) := by omega
 obtain ⟨z, hz⟩ : ∃ z, Lib.indexByte sgs s[a] = z := ⟨_, rfl⟩
 have hz0 : z < 0 := by rw [← hz]; exact sgs_out h3
 have HZ := Hh hz
 have H1 := Hh h1
 have H2 := Hh h2
 have c34 : ((s[a].toNat : Int) == 34) = false := by rw [Bqf]; omega
 have c37 : ((s[a].toNat : Int) == 37) = false := by rw [Bqf]; omega
 have c36 : ((s[a].toNat : Int) == 36) = false := by rw [Bqf]; omega
 have c35 : ((s[a].toNat : Int) == 35) = true := by rw [beq_iff_eq]; omega
 clear h1 h2 hz h3 n34 n37 n36 y
 go_enter Tryz.func54, Tryz.ntmps54
 go_wp2_with fail
 refine (Nam.letter_v s[a] _ H1.out _).mono ?_
 rintro e w1 ⟨rfl, rfl⟩
 go_wp2_with fail
 refine (digit_v s[a] _ H2.out _).mono ?_
 rintro e w1 ⟨rfl, rfl⟩
 go_wp2_with fail
 refine (index_v _ s[a] z HZ.out _).mono ?_
 rintro e w1 ⟨rfl, rfl⟩
 go_wp2_with fail
 go_ret
 exact ⟨rfl, hb.out⟩
theorem way_points (s : ByteArray) (a : Nat) (ha : a < s.size) (h1 : Nam.letter s[a] = false) (h2 : dgt s[a] = false) (h3 : ¬ s[a] ∈ sgs) (n34 : s[a].toNat ≠ 34) (n37 : s[a].toNat ≠ 37) (n36 : s[a].toNat ≠ 36) (n35 : s[a].toNat ≠ 35) (y : s[a].toNat = 46) (w : World) : Calls Tryz.prog 54 #[sp s a] w fun e w' => e = .returned (rd 101 s a) ∧ Below w.heap.size w w' := by
 unfold sp rd
 have hb := Hh (((Below.refl _ w).alloc (Nat.le_refl _) (.cells #[.string s, .int .i64 (a : Int)] 123)))
 have h0 : ((a : Int) == (s.size : Int)) = false := by rw [Bqf]; omega
 have h0' : (a : Int) < (s.size : Int) := by omega
 obtain ⟨z, hz⟩ : ∃ z, Lib.indexByte sgs s[a] = z := ⟨_, rfl⟩
 have hz0 : z < 0 := by rw [← hz]; exact sgs_out h3
 have HZ := Hh hz
 have H1 := Hh h1
 have H2 := Hh h2
 have c34 : ((s[a].toNat : Int) == 34) = false := by rw [Bqf]; omega
 have c37 : ((s[a].toNat : Int) == 37) = false := by rw [Bqf]; omega
 have c36 : ((s[a].toNat : Int) == 36) = false := by rw [Bqf]; omega
 have c35 : ((s[a].toNat : Int) == 35) = false := by rw [Bqf]; omega
 have c46 : ((s[a].toNat : Int) == 46) = true := by rw [beq_iff_eq]; omega
 clear h1 h2 hz h3 n34 n37 n36 n35 y
 go_enter Tryz.func54, Tryz.ntmps54
 go_wp2_with fail
 refine (Nam.letter_v s[a] _ H1.out _).mono ?_
 rintro e w1 ⟨rfl, rfl⟩
 go_wp2_with fail
 refine (digit_v s[a] _ H2.out _).mono ?_
 rintro e w1 ⟨rfl, rfl⟩
 go_wp2_with fail
 refine (index_v _ s[a] z HZ.out _).mono ?_
 rintro e w1 ⟨rfl, rfl⟩
 go_wp2_with fail
 go_ret
 exact ⟨rfl, hb.out⟩
theorem way_none (s : ByteArray) (a : Nat) (ha : a < s.size) (h1 : Nam.letter s[a] = false) (h2 : dgt s[a] = false) (h3 : ¬ s[a] ∈ sgs) (n34 : s[a].toNat ≠ 34) (n37 : s[a].toNat ≠ 37) (n36 : s[a].toNat ≠ 36) (n35 : s[a].toNat ≠ 35) (n46 : s[a].toNat ≠ 46) (w : World) : Calls Tryz.prog 54 #[sp s a] w fun e w' => e = .returned (rd 102 s a) ∧ Below w.heap.size w w' := by
 unfold sp rd
 have hb := Hh (((Below.refl _ w).alloc (Nat.le_refl _) (.cells #[.string s, .int .i64 (a : Int)] 123)))
 have h0 : ((a : Int) == (s.size : Int)) = false := by rw [Bqf]; omega
 have h0' : (a : Int) < (s.size : Int) := by omega
 obtain ⟨z, hz⟩ : ∃ z, Lib.indexByte sgs s[a] = z := ⟨_, rfl⟩
 have hz0 : z < 0 := by rw [← hz]; exact sgs_out h3
 have HZ := Hh hz
 have H1 := Hh h1
 have H2 := Hh h2
 have c34 : ((s[a].toNat : Int) == 34) = false := by rw [Bqf]; omega
 have c37 : ((s[a].toNat : Int) == 37) = false := by rw [Bqf]; omega
 have c36 : ((s[a].toNat : Int) == 36) = false := by rw [Bqf]; omega
 have c35 : ((s[a].toNat : Int) == 35) = false := by rw [Bqf]; omega
 have c46 : ((s[a].toNat : Int) == 46) = false := by rw [Bqf]; omega
 clear h1 h2 hz h3 n34 n37 n36 n35 n46
 go_enter Tryz.func54, Tryz.ntmps54
 go_wp2_with fail
 refine (Nam.letter_v s[a] _ H1.out _).mono ?_
 rintro e w1 ⟨rfl, rfl⟩
 go_wp2_with fail
 refine (digit_v s[a] _ H2.out _).mono ?_
 rintro e w1 ⟨rfl, rfl⟩
 go_wp2_with fail
 refine (index_v _ s[a] z HZ.out _).mono ?_
 rintro e w1 ⟨rfl, rfl⟩
 go_wp2_with fail
 go_ret
 exact ⟨rfl, hb.out⟩
end Go.Proofs.YtbpichjmkllfaaaGreatDoor.Lex
