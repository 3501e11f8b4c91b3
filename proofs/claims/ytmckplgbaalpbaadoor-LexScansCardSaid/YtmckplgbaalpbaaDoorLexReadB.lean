/- What the readings of tokens with digits, and of texts, answer. -/
import Derived.Test.YtmckplgbaalpbaaDoorLexRead
namespace Go.Proofs.YtmckplgbaalpbaaDoor.Lex
open Go.ChangeShapes Go.WideShapes Go.RowKit
set_option linter.unusedVariables false
set_option maxRecDepth 20000

/-- What Get is known to answer of a text. -/
def Gets (d : ByteArray) (x cd : Int) : Prop := ∀ w : World, Calls Tryd.prog 50 #[.string d] w fun e w' => e = .returned (.tuple #[.int .i64 x, .int .i64 cd]) ∧ w = w'
theorem counted_code (s : ByteArray) (a fr e : Nat) (k c : Int) (x cd : Int) (hs : s.size ≤ 100000) (haf : a ≤ fr) (hfs : fr ≤ s.size) (he : fr + (dg (s.data.toList.drop fr)).length = e) (hes : e ≤ s.size) (hg : Gets (s.extract fr e) x cd) (hc : ¬ cd = 0) (w : World) :
    Calls Tryd.prog 53 #[sp s a, tk k ⟨#[]⟩ 0 c 0, .int .i64 (fr : Int)] w fun e1 w' => e1 = bad cd a ∧ Below w.heap.size w w' := by
  have HE := Lib.hid he
  have HG := Lib.hid hg
  have hsl := slice_run s fr e (by omega) hes
  have hae : a ≤ e := by omega
  have h1 : (cd != 0) = true := by rw [bne_iff_ne]; exact hc
  have h2 : (cd == 0) = false := by rw [beq_eq_false_iff_ne]; exact hc
  have M0 := Lib.hid (res3 w (.cells #[.string s, .int .i64 (a : Int)] 48) (.cells #[.int .i64 k, .string ⟨#[]⟩, .int .i64 0, .int .i64 c, .int .i64 0] 37))
  clear he hg
  unfold sp tk tc
  go_enter Tryd.func53, Tryd.ntmps53
  go_wp2_with fail
  refine (behind_v s fr e hfs hs HE.out _).mono ?_
  rintro e1 w1 ⟨rfl, rfl⟩
  go_wp2_with fail
  refine (HG.out _).mono ?_
  rintro e1 w1 ⟨rfl, rfl⟩
  go_wp2_with fail
  refine (wrong_v s a cd hc _).mono ?_
  rintro e1 w1 ⟨rfl, hb⟩
  have M1 := Lib.hid (M0.out.next hb)
  obtain ⟨z0, z1, z2, z3, z4⟩ := M1.out.cells
  obtain ⟨f0, f1, f2, f3, f4⟩ := M1.out.frozen
  clear hb
  unfold t0 tc
  go_wp2_with fail
  refine fin3 (fn := Tryd.f53) rfl rfl (M1.out.five _ _ _ _ _).1 rfl ?_
  exact ⟨rfl, (M1.out.five _ _ _ _ _).2⟩
theorem counted_great (s : ByteArray) (a fr e : Nat) (k c : Int) (x cd : Int) (hs : s.size ≤ 100000) (haf : a ≤ fr) (hfs : fr ≤ s.size) (he : fr + (dg (s.data.toList.drop fr)).length = e) (hes : e ≤ s.size) (hg : Gets (s.extract fr e) x cd) (hc : cd = 0) (hx : 2147483647 < x) (w : World) :
    Calls Tryd.prog 53 #[sp s a, tk k ⟨#[]⟩ 0 c 0, .int .i64 (fr : Int)] w fun e1 w' => e1 = bad 2 a ∧ Below w.heap.size w w' := by
  have HE := Lib.hid he
  have HG := Lib.hid hg
  have hsl := slice_run s fr e (by omega) hes
  have hae : a ≤ e := by omega
  subst hc
  have h1 : decide (x > 2147483647) = true := by rw [decide_eq_true_iff]; exact hx
  have M0 := Lib.hid (res3 w (.cells #[.string s, .int .i64 (a : Int)] 48) (.cells #[.int .i64 k, .string ⟨#[]⟩, .int .i64 0, .int .i64 c, .int .i64 0] 37))
  clear he hg
  unfold sp tk tc
  go_enter Tryd.func53, Tryd.ntmps53
  go_wp2_with fail
  refine (behind_v s fr e hfs hs HE.out _).mono ?_
  rintro e1 w1 ⟨rfl, rfl⟩
  go_wp2_with fail
  refine (HG.out _).mono ?_
  rintro e1 w1 ⟨rfl, rfl⟩
  go_wp2_with fail
  refine (wrong_v s a 2 (by decide) _).mono ?_
  rintro e1 w1 ⟨rfl, hb⟩
  have M1 := Lib.hid (M0.out.next hb)
  obtain ⟨z0, z1, z2, z3, z4⟩ := M1.out.cells
  obtain ⟨f0, f1, f2, f3, f4⟩ := M1.out.frozen
  clear hb
  unfold t0 tc
  go_wp2_with fail
  refine fin3 (fn := Tryd.f53) rfl rfl (M1.out.five _ _ _ _ _).1 rfl ?_
  exact ⟨rfl, (M1.out.five _ _ _ _ _).2⟩
theorem counted_right (s : ByteArray) (a fr e : Nat) (k c : Int) (x cd : Int) (hs : s.size ≤ 100000) (haf : a ≤ fr) (hfs : fr ≤ s.size) (he : fr + (dg (s.data.toList.drop fr)).length = e) (hes : e ≤ s.size) (hg : Gets (s.extract fr e) x cd) (hc : cd = 0) (hx : x ≤ 2147483647) (w : World) :
    Calls Tryd.prog 53 #[sp s a, tk k ⟨#[]⟩ 0 c 0, .int .i64 (fr : Int)] w fun e1 w' => e1 = good (tk k (s.extract a e) x c a) e ∧ Below w.heap.size w w' := by
  have HE := Lib.hid he
  have HG := Lib.hid hg
  have hsl := slice_run s fr e (by omega) hes
  have hae : a ≤ e := by omega
  subst hc
  have h1 : decide (x > 2147483647) = false := by rw [decide_eq_false_iff_not]; omega
  have M0 := Lib.hid (res3 w (.cells #[.string s, .int .i64 (a : Int)] 48) (.cells #[.int .i64 k, .string ⟨#[]⟩, .int .i64 x, .int .i64 c, .int .i64 0] 37))
  clear he hg
  unfold sp tk tc
  go_enter Tryd.func53, Tryd.ntmps53
  go_wp2_with fail
  refine (behind_v s fr e hfs hs HE.out _).mono ?_
  rintro e1 w1 ⟨rfl, rfl⟩
  go_wp2_with fail
  refine (HG.out _).mono ?_
  rintro e1 w1 ⟨rfl, rfl⟩
  go_wp2_with fail
  refine (right_v s a e hae hes k x c 0 ⟨#[]⟩ _).mono ?_
  rintro e1 w1 ⟨rfl, hb⟩
  have M1 := Lib.hid (M0.out.next hb)
  obtain ⟨z0, z1, z2, z3, z4⟩ := M1.out.cells
  obtain ⟨f0, f1, f2, f3, f4⟩ := M1.out.frozen
  clear hb
  unfold tk tc
  go_wp2_with fail
  refine fin3 (fn := Tryd.f53) rfl rfl (M1.out.five _ _ _ _ _).1 rfl ?_
  exact ⟨rfl, (M1.out.five _ _ _ _ _).2⟩
theorem number_code (s : ByteArray) (a e : Nat) (x cd : Int) (hs : s.size ≤ 100000) (has : a ≤ s.size) (he : a + (dg (s.data.toList.drop a)).length = e) (hes : e ≤ s.size) (hg : Gets (s.extract a e) x cd) (hc : ¬ cd = 0) (hc2 : ¬ cd = 2) (w : World) :
    Calls Tryd.prog 30 #[sp s a] w fun e1 w' => e1 = bad cd a ∧ Below w.heap.size w w' := by
  have HE := Lib.hid he
  have HG := Lib.hid hg
  have hsl := slice_run s a e (by omega) hes
  have hae : a ≤ e := by omega
  have h1 : (cd != 0) = true := by rw [bne_iff_ne]; exact hc
  have h2 : (cd == 0) = false := by rw [beq_eq_false_iff_ne]; exact hc
  have h3 : (cd == 2) = false := by rw [beq_eq_false_iff_ne]; exact hc2
  have M0 := Lib.hid (res2 w (.cells #[.string s, .int .i64 (a : Int)] 48))
  clear he hg
  unfold sp
  go_enter Tryd.func30, Tryd.ntmps30
  go_wp2_with fail
  refine (behind_v s a e has hs HE.out _).mono ?_
  rintro e1 w1 ⟨rfl, rfl⟩
  go_wp2_with fail
  refine (HG.out _).mono ?_
  rintro e1 w1 ⟨rfl, rfl⟩
  go_wp2_with fail
  refine (wrong_v s a cd hc _).mono ?_
  rintro e1 w1 ⟨rfl, hb⟩
  have M1 := Lib.hid (M0.out.next hb)
  obtain ⟨z0, z1, z2, z3, z4⟩ := M1.out.cells
  obtain ⟨f0, f1, f2, f3, f4⟩ := M1.out.frozen
  clear hb
  unfold t0 tc
  go_wp2_with fail
  refine fin3 (fn := Tryd.f30) rfl rfl (M1.out.five _ _ _ _ _).1 rfl ?_
  exact ⟨rfl, (M1.out.five _ _ _ _ _).2⟩
theorem number_right (s : ByteArray) (a e : Nat) (x cd : Int) (hs : s.size ≤ 100000) (has : a ≤ s.size) (he : a + (dg (s.data.toList.drop a)).length = e) (hes : e ≤ s.size) (hg : Gets (s.extract a e) x cd) (hc : cd = 0) (w : World) :
    Calls Tryd.prog 30 #[sp s a] w fun e1 w' => e1 = good (tk 2 (s.extract a e) x 0 a) e ∧ Below w.heap.size w w' := by
  have HE := Lib.hid he
  have HG := Lib.hid hg
  have hsl := slice_run s a e (by omega) hes
  have hae : a ≤ e := by omega
  subst hc
  have M0 := Lib.hid (res2 w (.cells #[.string s, .int .i64 (a : Int)] 48))
  clear he hg
  unfold sp
  go_enter Tryd.func30, Tryd.ntmps30
  go_wp2_with fail
  refine (behind_v s a e has hs HE.out _).mono ?_
  rintro e1 w1 ⟨rfl, rfl⟩
  go_wp2_with fail
  refine (HG.out _).mono ?_
  rintro e1 w1 ⟨rfl, rfl⟩
  go_wp2_with fail
  refine (right_v s a e hae hes 2 x 0 0 ⟨#[]⟩ _).mono ?_
  rintro e1 w1 ⟨rfl, hb⟩
  have M1 := Lib.hid (M0.out.next hb)
  obtain ⟨z0, z1, z2, z3, z4⟩ := M1.out.cells
  obtain ⟨f0, f1, f2, f3, f4⟩ := M1.out.frozen
  clear hb
  unfold tk tc
  go_wp2_with fail
  refine fin3 (fn := Tryd.f30) rfl rfl (M1.out.five _ _ _ _ _).1 rfl ?_
  exact ⟨rfl, (M1.out.five _ _ _ _ _).2⟩
theorem number_least (s : ByteArray) (a e : Nat) (x cd : Int) (hs : s.size ≤ 100000) (has : a ≤ s.size) (he : a + (dg (s.data.toList.drop a)).length = e) (hes : e ≤ s.size) (hg : Gets (s.extract a e) x cd) (hc : cd = 2) (x2 : Int) (hg2 : Gets (⟨#[45]⟩ ++ s.extract a e) x2 0) (w : World) :
    Calls Tryd.prog 30 #[sp s a] w fun e1 w' => e1 = good (tk 2 (s.extract a e) x2 0 a) e ∧ Below w.heap.size w w' := by
  have HE := Lib.hid he
  have HG := Lib.hid hg
  have hsl := slice_run s a e (by omega) hes
  have hae : a ≤ e := by omega
  subst hc
  have HG2 := Lib.hid hg2
  clear hg2
  have M0 := Lib.hid (res2 w (.cells #[.string s, .int .i64 (a : Int)] 48))
  clear he hg
  unfold sp
  go_enter Tryd.func30, Tryd.ntmps30
  go_wp2_with fail
  refine (behind_v s a e has hs HE.out _).mono ?_
  rintro e1 w1 ⟨rfl, rfl⟩
  go_wp2_with fail
  refine (HG.out _).mono ?_
  rintro e1 w1 ⟨rfl, rfl⟩
  go_wp2_with fail
  refine (HG2.out _).mono ?_
  rintro e1 w1 ⟨rfl, rfl⟩
  go_wp2_with fail
  refine (right_v s a e hae hes 2 x2 0 0 ⟨#[]⟩ _).mono ?_
  rintro e1 w1 ⟨rfl, hb⟩
  have M1 := Lib.hid (M0.out.next hb)
  obtain ⟨z0, z1, z2, z3, z4⟩ := M1.out.cells
  obtain ⟨f0, f1, f2, f3, f4⟩ := M1.out.frozen
  clear hb
  unfold tk tc
  go_wp2_with fail
  refine fin3 (fn := Tryd.f30) rfl rfl (M1.out.five _ _ _ _ _).1 rfl ?_
  exact ⟨rfl, (M1.out.five _ _ _ _ _).2⟩
theorem number_great (s : ByteArray) (a e : Nat) (x cd : Int) (hs : s.size ≤ 100000) (has : a ≤ s.size) (he : a + (dg (s.data.toList.drop a)).length = e) (hes : e ≤ s.size) (hg : Gets (s.extract a e) x cd) (hc : cd = 2) (x2 cd2 : Int) (hc2 : ¬ cd2 = 0) (hg2 : Gets (⟨#[45]⟩ ++ s.extract a e) x2 cd2) (w : World) :
    Calls Tryd.prog 30 #[sp s a] w fun e1 w' => e1 = bad cd2 a ∧ Below w.heap.size w w' := by
  have HE := Lib.hid he
  have HG := Lib.hid hg
  have hsl := slice_run s a e (by omega) hes
  have hae : a ≤ e := by omega
  subst hc
  have HG2 := Lib.hid hg2
  have h1 : (cd2 != 0) = true := by rw [bne_iff_ne]; exact hc2
  have h2 : (cd2 == 0) = false := by rw [beq_eq_false_iff_ne]; exact hc2
  clear hg2
  have M0 := Lib.hid (res2 w (.cells #[.string s, .int .i64 (a : Int)] 48))
  clear he hg
  unfold sp
  go_enter Tryd.func30, Tryd.ntmps30
  go_wp2_with fail
  refine (behind_v s a e has hs HE.out _).mono ?_
  rintro e1 w1 ⟨rfl, rfl⟩
  go_wp2_with fail
  refine (HG.out _).mono ?_
  rintro e1 w1 ⟨rfl, rfl⟩
  go_wp2_with fail
  refine (HG2.out _).mono ?_
  rintro e1 w1 ⟨rfl, rfl⟩
  go_wp2_with fail
  refine (wrong_v s a cd2 hc2 _).mono ?_
  rintro e1 w1 ⟨rfl, hb⟩
  have M1 := Lib.hid (M0.out.next hb)
  obtain ⟨z0, z1, z2, z3, z4⟩ := M1.out.cells
  obtain ⟨f0, f1, f2, f3, f4⟩ := M1.out.frozen
  clear hb
  unfold t0 tc
  go_wp2_with fail
  refine fin3 (fn := Tryd.f30) rfl rfl (M1.out.five _ _ _ _ _).1 rfl ?_
  exact ⟨rfl, (M1.out.five _ _ _ _ _).2⟩
theorem vreg_bad (s : ByteArray) (a fr : Nat) (hs : s.size ≤ 100000) (ha : a < s.size) (haf : a + 1 = fr) (cd : Int)
    (hk : ∀ w : World, Calls Tryd.prog 53 #[sp s a, tk 4 ⟨#[]⟩ 0 0 0, .int .i64 (fr : Int)] w fun e1 w' => e1 = bad cd a ∧ Below w.heap.size w w') (w : World) :
    Calls Tryd.prog 34 #[sp s a] w fun e1 w' => e1 = bad cd a ∧ Below w.heap.size w w' := by
  have HK := Lib.hid hk
  have h1 : (a : Int) + 1 = (fr : Int) := by omega
  have M0 := Lib.hid (res2 w (.cells #[.string s, .int .i64 (a : Int)] 48))
  clear hk haf
  unfold sp
  go_enter Tryd.func34, Tryd.ntmps34
  go_wp2_with fail
  refine (HK.out _).mono ?_
  rintro e1 w1 ⟨rfl, hb⟩
  have M1 := Lib.hid (M0.out.next hb)
  obtain ⟨z0, z1, z2, z3, z4⟩ := M1.out.cells
  obtain ⟨f0, f1, f2, f3, f4⟩ := M1.out.frozen
  clear hb
  unfold bad t0 tc
  go_wp2_with fail
  refine fin3 (fn := Tryd.f34) rfl rfl (M1.out.five _ _ _ _ _).1 rfl ?_
  exact ⟨rfl, (M1.out.five _ _ _ _ _).2⟩
theorem vreg_good (s : ByteArray) (a fr : Nat) (hs : s.size ≤ 100000) (ha : a < s.size) (haf : a + 1 = fr) (x : Int) (e : Nat) (t : ByteArray)
    (hk : ∀ w : World, Calls Tryd.prog 53 #[sp s a, tk 4 ⟨#[]⟩ 0 0 0, .int .i64 (fr : Int)] w fun e1 w' => e1 = good (tk 4 t x 0 a) e ∧ Below w.heap.size w w') (w : World) :
    Calls Tryd.prog 34 #[sp s a] w fun e1 w' => e1 = good (tk 4 t x 0 a) e ∧ Below w.heap.size w w' := by
  have HK := Lib.hid hk
  have h1 : (a : Int) + 1 = (fr : Int) := by omega
  have M0 := Lib.hid (res2 w (.cells #[.string s, .int .i64 (a : Int)] 48))
  clear hk haf
  unfold sp
  go_enter Tryd.func34, Tryd.ntmps34
  go_wp2_with fail
  refine (HK.out _).mono ?_
  rintro e1 w1 ⟨rfl, hb⟩
  have M1 := Lib.hid (M0.out.next hb)
  obtain ⟨z0, z1, z2, z3, z4⟩ := M1.out.cells
  obtain ⟨f0, f1, f2, f3, f4⟩ := M1.out.frozen
  clear hb
  unfold good tk tc
  go_wp2_with fail
  refine fin3 (fn := Tryd.f34) rfl rfl (M1.out.five _ _ _ _ _).1 rfl ?_
  exact ⟨rfl, (M1.out.five _ _ _ _ _).2⟩
theorem slot_bad (s : ByteArray) (a fr : Nat) (hs : s.size ≤ 100000) (ha : a < s.size) (haf : a + 1 = fr) (cd : Int)
    (hk : ∀ w : World, Calls Tryd.prog 53 #[sp s a, tk 6 ⟨#[]⟩ 0 0 0, .int .i64 (fr : Int)] w fun e1 w' => e1 = bad cd a ∧ Below w.heap.size w w') (w : World) :
    Calls Tryd.prog 36 #[sp s a] w fun e1 w' => e1 = bad cd a ∧ Below w.heap.size w w' := by
  have HK := Lib.hid hk
  have h1 : (a : Int) + 1 = (fr : Int) := by omega
  have M0 := Lib.hid (res2 w (.cells #[.string s, .int .i64 (a : Int)] 48))
  clear hk haf
  unfold sp
  go_enter Tryd.func36, Tryd.ntmps36
  go_wp2_with fail
  refine (HK.out _).mono ?_
  rintro e1 w1 ⟨rfl, hb⟩
  have M1 := Lib.hid (M0.out.next hb)
  obtain ⟨z0, z1, z2, z3, z4⟩ := M1.out.cells
  obtain ⟨f0, f1, f2, f3, f4⟩ := M1.out.frozen
  clear hb
  unfold bad t0 tc
  go_wp2_with fail
  refine fin3 (fn := Tryd.f36) rfl rfl (M1.out.five _ _ _ _ _).1 rfl ?_
  exact ⟨rfl, (M1.out.five _ _ _ _ _).2⟩
theorem slot_good (s : ByteArray) (a fr : Nat) (hs : s.size ≤ 100000) (ha : a < s.size) (haf : a + 1 = fr) (x : Int) (e : Nat) (t : ByteArray)
    (hk : ∀ w : World, Calls Tryd.prog 53 #[sp s a, tk 6 ⟨#[]⟩ 0 0 0, .int .i64 (fr : Int)] w fun e1 w' => e1 = good (tk 6 t x 0 a) e ∧ Below w.heap.size w w') (w : World) :
    Calls Tryd.prog 36 #[sp s a] w fun e1 w' => e1 = good (tk 6 t x 0 a) e ∧ Below w.heap.size w w' := by
  have HK := Lib.hid hk
  have h1 : (a : Int) + 1 = (fr : Int) := by omega
  have M0 := Lib.hid (res2 w (.cells #[.string s, .int .i64 (a : Int)] 48))
  clear hk haf
  unfold sp
  go_enter Tryd.func36, Tryd.ntmps36
  go_wp2_with fail
  refine (HK.out _).mono ?_
  rintro e1 w1 ⟨rfl, hb⟩
  have M1 := Lib.hid (M0.out.next hb)
  obtain ⟨z0, z1, z2, z3, z4⟩ := M1.out.cells
  obtain ⟨f0, f1, f2, f3, f4⟩ := M1.out.frozen
  clear hb
  unfold good tk tc
  go_wp2_with fail
  refine fin3 (fn := Tryd.f36) rfl rfl (M1.out.five _ _ _ _ _).1 rfl ?_
  exact ⟨rfl, (M1.out.five _ _ _ _ _).2⟩
theorem preg_none (s : ByteArray) (a fr : Nat) (hs : s.size ≤ 100000) (ha : a < s.size) (haf : a + 1 = fr) (c : Int) (hc : clsOf (s.data.toList.drop fr) = (c, false)) (w : World) :
    Calls Tryd.prog 35 #[sp s a] w fun e1 w' => e1 = bad 12 a ∧ Below w.heap.size w w' := by
  have HC := Lib.hid hc
  have h1 : (a : Int) + 1 = (fr : Int) := by omega
  have hfs : fr ≤ s.size := by omega
  have M0 := Lib.hid (res2 w (.cells #[.string s, .int .i64 (a : Int)] 48))
  clear hc haf
  unfold sp
  go_enter Tryd.func35, Tryd.ntmps35
  go_wp2_with fail
  refine (class_v s fr hfs hs c false HC.out _).mono ?_
  rintro e1 w1 ⟨rfl, rfl⟩
  go_wp2_with fail
  refine (wrong_v s a 12 (by decide) _).mono ?_
  rintro e1 w1 ⟨rfl, hb⟩
  have M1 := Lib.hid (M0.out.next hb)
  obtain ⟨z0, z1, z2, z3, z4⟩ := M1.out.cells
  obtain ⟨f0, f1, f2, f3, f4⟩ := M1.out.frozen
  clear hb
  unfold t0 tc
  go_wp2_with fail
  refine fin3 (fn := Tryd.f35) rfl rfl (M1.out.five _ _ _ _ _).1 rfl ?_
  exact ⟨rfl, (M1.out.five _ _ _ _ _).2⟩
theorem preg_bad (s : ByteArray) (a f1 fr : Nat) (hs : s.size ≤ 100000) (ha : a < s.size) (haf : a + 1 = f1) (haf2 : a + 2 = fr) (c : Int) (hc : clsOf (s.data.toList.drop f1) = (c, true)) (cd : Int)
    (hk : ∀ w : World, Calls Tryd.prog 53 #[sp s a, tk 5 ⟨#[]⟩ 0 c 0, .int .i64 (fr : Int)] w fun e1 w' => e1 = bad cd a ∧ Below w.heap.size w w') (w : World) :
    Calls Tryd.prog 35 #[sp s a] w fun e1 w' => e1 = bad cd a ∧ Below w.heap.size w w' := by
  have HK := Lib.hid hk
  have HC := Lib.hid hc
  have h1 : (a : Int) + 1 = (f1 : Int) := by omega
  have h2 : (a : Int) + 2 = (fr : Int) := by omega
  have hfs : f1 ≤ s.size := by omega
  have M0 := Lib.hid (res2 w (.cells #[.string s, .int .i64 (a : Int)] 48))
  clear hk haf haf2 hc
  unfold sp
  go_enter Tryd.func35, Tryd.ntmps35
  go_wp2_with fail
  refine (class_v s f1 hfs hs c true HC.out _).mono ?_
  rintro e1 w1 ⟨rfl, rfl⟩
  go_wp2_with fail
  refine (HK.out _).mono ?_
  rintro e1 w1 ⟨rfl, hb⟩
  have M1 := Lib.hid (M0.out.next hb)
  obtain ⟨z0, z1, z2, z3, z4⟩ := M1.out.cells
  obtain ⟨f0, f1, f2, f3, f4⟩ := M1.out.frozen
  clear hb
  unfold bad t0 tc
  go_wp2_with fail
  refine fin3 (fn := Tryd.f35) rfl rfl (M1.out.five _ _ _ _ _).1 rfl ?_
  exact ⟨rfl, (M1.out.five _ _ _ _ _).2⟩
theorem preg_good (s : ByteArray) (a f1 fr : Nat) (hs : s.size ≤ 100000) (ha : a < s.size) (haf : a + 1 = f1) (haf2 : a + 2 = fr) (c : Int) (hc : clsOf (s.data.toList.drop f1) = (c, true)) (x : Int) (e : Nat) (t : ByteArray)
    (hk : ∀ w : World, Calls Tryd.prog 53 #[sp s a, tk 5 ⟨#[]⟩ 0 c 0, .int .i64 (fr : Int)] w fun e1 w' => e1 = good (tk 5 t x c a) e ∧ Below w.heap.size w w') (w : World) :
    Calls Tryd.prog 35 #[sp s a] w fun e1 w' => e1 = good (tk 5 t x c a) e ∧ Below w.heap.size w w' := by
  have HK := Lib.hid hk
  have HC := Lib.hid hc
  have h1 : (a : Int) + 1 = (f1 : Int) := by omega
  have h2 : (a : Int) + 2 = (fr : Int) := by omega
  have hfs : f1 ≤ s.size := by omega
  have M0 := Lib.hid (res2 w (.cells #[.string s, .int .i64 (a : Int)] 48))
  clear hk haf haf2 hc
  unfold sp
  go_enter Tryd.func35, Tryd.ntmps35
  go_wp2_with fail
  refine (class_v s f1 hfs hs c true HC.out _).mono ?_
  rintro e1 w1 ⟨rfl, rfl⟩
  go_wp2_with fail
  refine (HK.out _).mono ?_
  rintro e1 w1 ⟨rfl, hb⟩
  have M1 := Lib.hid (M0.out.next hb)
  obtain ⟨z0, z1, z2, z3, z4⟩ := M1.out.cells
  obtain ⟨f0, f1, f2, f3, f4⟩ := M1.out.frozen
  clear hb
  unfold good tk tc
  go_wp2_with fail
  refine fin3 (fn := Tryd.f35) rfl rfl (M1.out.five _ _ _ _ _).1 rfl ?_
  exact ⟨rfl, (M1.out.five _ _ _ _ _).2⟩
theorem quoted_bad (s : ByteArray) (a : Nat) (x : List UInt8) (y : Nat) (e : Int) (hs : s.size ≤ 100000) (ha : a < s.size) (hq : s[a].toNat = 34) (hR : Quo.scan s.size (s.data.toList.drop (a + 1)) (a + 1) [] = (x, y, e)) (he : ¬ e = 0) (w : World) :
    Calls Tryd.prog 33 #[sp s a] w fun e1 w' => e1 = bad e y ∧ Below w.heap.size w w' := by
  have HR := Lib.hid (And.intro hq hR)
  have h1 : (e != 0) = true := by rw [bne_iff_ne]; exact he
  have h2 : (e == 0) = false := by rw [beq_eq_false_iff_ne]; exact he
  have M := Lib.hid (mine_start w s a)
  clear hq hR
  unfold sp
  go_enter Tryd.func33, Tryd.ntmps33
  go_wp2_with fail
  refine (Quo.scan_v s a x y e hs ha HR.out.1 HR.out.2 _).mono ?_
  rintro e1 w1 ⟨rfl, hb⟩
  have M1 := Lib.hid (M.out.next hb)
  obtain ⟨z0, z1, z2, z3, z4⟩ := M1.out.cells
  obtain ⟨f0, f1, f2, f3, f4⟩ := M1.out.frozen
  clear hb
  unfold Quo.E3
  go_wp2_with fail
  refine (Fau.new_v e (y : Int) he _).mono ?_
  rintro e1 w2 ⟨rfl, rfl⟩
  go_wp2_with fail
  refine fin3 (fn := Tryd.f33) rfl rfl (M1.out.five _ _ _ _ _).1 rfl ?_
  exact ⟨rfl, (M1.out.five _ _ _ _ _).2⟩
theorem quoted_good (s : ByteArray) (a : Nat) (x : List UInt8) (y : Nat) (e : Int) (hs : s.size ≤ 100000) (ha : a < s.size) (hq : s[a].toNat = 34) (hR : Quo.scan s.size (s.data.toList.drop (a + 1)) (a + 1) [] = (x, y, e)) (he : e = 0) (w : World) :
    Calls Tryd.prog 33 #[sp s a] w fun e1 w' => e1 = good (tk 3 ⟨x.toArray⟩ 0 0 a) y ∧ Below w.heap.size w w' := by
  subst he
  have HR := Lib.hid (And.intro hq hR)
  have M := Lib.hid (mine_start w s a)
  clear hq hR
  unfold sp
  go_enter Tryd.func33, Tryd.ntmps33
  go_wp2_with fail
  refine (Quo.scan_v s a x y 0 hs ha HR.out.1 HR.out.2 _).mono ?_
  rintro e1 w1 ⟨rfl, hb⟩
  have M1 := Lib.hid (M.out.next hb)
  obtain ⟨z0, z1, z2, z3, z4⟩ := M1.out.cells
  obtain ⟨f0, f1, f2, f3, f4⟩ := M1.out.frozen
  obtain ⟨p0, p1⟩ := M1.out.spot
  clear hb
  unfold Quo.E3
  go_wp2_with fail
  refine fin3 (fn := Tryd.f33) rfl rfl (M1.out.five _ _ _ _ _).1 rfl ?_
  exact ⟨rfl, (M1.out.five _ _ _ _ _).2⟩
end Go.Proofs.YtmckplgbaalpbaaDoor.Lex
