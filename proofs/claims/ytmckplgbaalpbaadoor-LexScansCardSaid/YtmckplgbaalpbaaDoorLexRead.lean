/- What the readings of tokens answer: end, none, word, points, text, number, virtual register, slot, register. -/
import Derived.Test.YtmckplgbaalpbaaDoorLexBlank
namespace Go.Proofs.YtmckplgbaalpbaaDoor.Lex
open Go.ChangeShapes Go.WideShapes Go.RowKit
set_option linter.unusedVariables false
set_option maxRecDepth 20000

/-- The answer's cells, as a call leaves them. -/
structure Res (w w1 : World) (g : Nat) : Prop where
  below : Below w.heap.size w w1
  ge : w.heap.size ≤ g
  z : w1.heap[g]? = some (.cells t0 37 (0, 0))
theorem res2 (w : World) (A : Obj) : Res w ((w.alloc A).alloc (.cells t0 37)) (w.heap.size + 1) := ⟨((Below.refl _ w).alloc (Nat.le_refl _) _).alloc (by simp) _, Nat.le_succ _, heap_alloc2_new w _ _⟩
theorem res3 (w : World) (A B : Obj) : Res w (((w.alloc A).alloc B).alloc (.cells t0 37)) (w.heap.size + 1 + 1) := ⟨(((Below.refl _ w).alloc (Nat.le_refl _) _).alloc (by simp) _).alloc (by simp; omega) _, by omega, heap_alloc3_new w _ _ _⟩
theorem Res.next {w w1 w2 : World} {g : Nat} (h : Res w w1 g) (hb : Below w1.heap.size w1 w2) : Res w w2 g :=
  ⟨h.below.trans (hb.mono h.below.size), h.ge, (hb.block _ (Fau.fresh0 h.z)).trans h.z⟩
theorem Res.cells {w w1 : World} {g : Nat} (h : Res w w1 g) :
    w1.cell? ⟨g, 0, none⟩ = some (.int .i64 0) ∧ w1.cell? ⟨g, 1, none⟩ = some (.string ⟨#[]⟩) ∧ w1.cell? ⟨g, 2, none⟩ = some (.int .i64 0) ∧ w1.cell? ⟨g, 3, none⟩ = some (.int .i64 0) ∧ w1.cell? ⟨g, 4, none⟩ = some (.int .i64 0) := by
  refine ⟨?_, ?_, ?_, ?_, ?_⟩ <;> (rw [Lib.cell_of_heap h.z]; rfl)
theorem Res.frozen {w w1 : World} {g : Nat} (h : Res w w1 g) : w1.frozen? ⟨g, 0, none⟩ = false ∧ w1.frozen? ⟨g, 1, none⟩ = false ∧ w1.frozen? ⟨g, 2, none⟩ = false ∧ w1.frozen? ⟨g, 3, none⟩ = false ∧ w1.frozen? ⟨g, 4, none⟩ = false :=
  ⟨Lib.frozen_of_heap h.z 0, Lib.frozen_of_heap h.z 1, Lib.frozen_of_heap h.z 2, Lib.frozen_of_heap h.z 3, Lib.frozen_of_heap h.z 4⟩
theorem Res.five {w w1 : World} {g : Nat} (h : Res w w1 g) (x0 x1 x2 x3 x4 : Value) : (Lex.five w1 g x0 x1 x2 x3 x4).heap[g]? = some (.cells #[x0, x1, x2, x3, x4] 37 (0, 0)) ∧ Below w.heap.size w (Lex.five w1 g x0 x1 x2 x3 x4) :=
  ⟨five_heap h.z, five_below h.below h.ge⟩
/-- A token as a value; what a reading answers. -/
def tkv (t : Tok) : Value := tk t.kind ⟨t.text.toArray⟩ t.n t.cls t.at_
def good (t : Value) (e : Nat) : Ending := .returned (.tuple #[t, .int .i64 (e : Int), .nilIface])
def bad (c : Int) (a : Int) : Ending := .returned (.tuple #[.agg t0, .int .i64 0, Fau.bare c a])
theorem none_v (s : ByteArray) (a : Nat) (w : World) :
    Calls Tryd.prog 38 #[sp s a] w fun e1 w' => e1 = bad 10 a ∧ Below w.heap.size w w' := by
  have M0 := Lib.hid (res2 w (.cells #[.string s, .int .i64 (a : Int)] 48))
  unfold sp
  go_enter Tryd.func38, Tryd.ntmps38
  go_wp2_with fail
  refine (wrong_v s a 10 (by decide) _).mono ?_
  rintro e1 w1 ⟨rfl, hb⟩
  have M1 := Lib.hid (M0.out.next hb)
  obtain ⟨z0, z1, z2, z3, z4⟩ := M1.out.cells
  obtain ⟨f0, f1, f2, f3, f4⟩ := M1.out.frozen
  clear hb
  unfold t0 tc
  go_wp2_with fail
  refine fin3 (fn := Tryd.f38) rfl rfl (M1.out.five _ _ _ _ _).1 rfl ?_
  exact ⟨rfl, (M1.out.five _ _ _ _ _).2⟩
theorem end_v (s : ByteArray) (a : Nat) (ha : a ≤ s.size) (w : World) :
    Calls Tryd.prog 26 #[sp s a] w fun e1 w' => e1 = good (tk 0 ByteArray.empty 0 0 a) a ∧ Below w.heap.size w w' := by
  have M0 := Lib.hid (res2 w (.cells #[.string s, .int .i64 (a : Int)] 48))
  unfold sp
  go_enter Tryd.func26, Tryd.ntmps26
  go_wp2_with fail
  refine (right_v s a a (Nat.le_refl _) ha 0 0 0 0 ⟨#[]⟩ _).mono ?_
  rintro e1 w1 ⟨rfl, hb⟩
  have M1 := Lib.hid (M0.out.next hb)
  obtain ⟨z0, z1, z2, z3, z4⟩ := M1.out.cells
  obtain ⟨f0, f1, f2, f3, f4⟩ := M1.out.frozen
  clear hb
  unfold tk tc
  go_wp2_with fail
  refine fin3 (fn := Tryd.f26) rfl rfl (M1.out.five _ _ _ _ _).1 rfl ?_
  exact ⟨rfl, (M1.out.five _ _ _ _ _).2⟩
theorem word_long (s : ByteArray) (a y : Nat) (hs : s.size ≤ 100000) (hys : y ≤ s.size) (hy : Nam.scanZ s.data.toList (a : Int) = (y : Int)) (h : a + 24 < y) (w : World) :
    Calls Tryd.prog 28 #[sp s a] w fun e1 w' => e1 = bad 3 a ∧ Below w.heap.size w w' := by
  have HY := Lib.hid hy
  have h1 : decide ((y : Int) - (a : Int) > 24) = true := by rw [decide_eq_true_iff]; omega
  have h2 : 24 < (y : Int) - (a : Int) := by omega
  have h3 : (y : Int) - (a : Int) ≤ 100000 := by omega
  clear hy
  have M0 := Lib.hid (res2 w (.cells #[.string s, .int .i64 (a : Int)] 48))
  unfold sp
  go_enter Tryd.func28, Tryd.ntmps28
  go_wp2_with fail
  refine (Nam.scan_v s (a : Int) (y : Int) (by omega) HY.out _).mono ?_
  rintro e1 w1 ⟨rfl, rfl⟩
  go_wp2_with fail
  refine (wrong_v s a 3 (by decide) _).mono ?_
  rintro e1 w1 ⟨rfl, hb⟩
  have M1 := Lib.hid (M0.out.next hb)
  obtain ⟨z0, z1, z2, z3, z4⟩ := M1.out.cells
  obtain ⟨f0, f1, f2, f3, f4⟩ := M1.out.frozen
  clear hb
  unfold t0 tc
  go_wp2_with fail
  refine fin3 (fn := Tryd.f28) rfl rfl (M1.out.five _ _ _ _ _).1 rfl ?_
  exact ⟨rfl, (M1.out.five _ _ _ _ _).2⟩
theorem word_right (s : ByteArray) (a y : Nat) (hs : s.size ≤ 100000) (hay : a ≤ y) (hys : y ≤ s.size) (hy : Nam.scanZ s.data.toList (a : Int) = (y : Int)) (h : y ≤ a + 24) (w : World) :
    Calls Tryd.prog 28 #[sp s a] w fun e1 w' => e1 = good (tk 1 (s.extract a y) 0 0 a) y ∧ Below w.heap.size w w' := by
  have HY := Lib.hid hy
  have h1 : decide ((y : Int) - (a : Int) > 24) = false := by rw [decide_eq_false_iff_not]; omega
  have h2 : (y : Int) - (a : Int) ≤ 24 := by omega
  have h3 : 0 ≤ (y : Int) - (a : Int) := by omega
  clear hy
  have M0 := Lib.hid (res2 w (.cells #[.string s, .int .i64 (a : Int)] 48))
  unfold sp
  go_enter Tryd.func28, Tryd.ntmps28
  go_wp2_with fail
  refine (Nam.scan_v s (a : Int) (y : Int) (by omega) HY.out _).mono ?_
  rintro e1 w1 ⟨rfl, rfl⟩
  go_wp2_with fail
  refine (right_v s a y hay hys 1 0 0 0 ⟨#[]⟩ _).mono ?_
  rintro e1 w1 ⟨rfl, hb⟩
  have M1 := Lib.hid (M0.out.next hb)
  obtain ⟨z0, z1, z2, z3, z4⟩ := M1.out.cells
  obtain ⟨f0, f1, f2, f3, f4⟩ := M1.out.frozen
  clear hb
  unfold tk tc
  go_wp2_with fail
  refine fin3 (fn := Tryd.f28) rfl rfl (M1.out.five _ _ _ _ _).1 rfl ?_
  exact ⟨rfl, (M1.out.five _ _ _ _ _).2⟩
theorem points_two (s : ByteArray) (a e : Nat) (ha : a ≤ s.size) (hs : s.size ≤ 100000) (hae : a + 2 = e) (hes : e ≤ s.size) (hp : [46, 46].isPrefixOf (s.data.toList.drop a) = true) (w : World) :
    Calls Tryd.prog 37 #[sp s a] w fun e1 w' => e1 = good (tk 7 (s.extract a e) 0 0 a) e ∧ Below w.heap.size w w' := by
  have hf := Quo.from_run s a ha
  have HP : Hid ((⟨#[46, 46]⟩ : ByteArray).data.toList.isPrefixOf (s.extract a s.size).data.toList = true) := by unfold Hid; rw [Quo.extract_list]; exact hp
  have he : (a : Int) + 2 = (e : Int) := by omega
  have hae' : a ≤ e := by omega
  clear hp hae
  have M0 := Lib.hid (res2 w (.cells #[.string s, .int .i64 (a : Int)] 48))
  unfold sp
  go_enter Tryd.func37, Tryd.ntmps37
  go_wp2_with fail
  refine (prefix_v _ _ _ HP.out _).mono ?_
  rintro e1 w1 ⟨rfl, rfl⟩
  go_wp2_with fail
  refine (right_v s a e hae' hes 7 0 0 0 ⟨#[]⟩ _).mono ?_
  rintro e1 w1 ⟨rfl, hb⟩
  have M1 := Lib.hid (M0.out.next hb)
  obtain ⟨z0, z1, z2, z3, z4⟩ := M1.out.cells
  obtain ⟨f0, f1, f2, f3, f4⟩ := M1.out.frozen
  clear hb
  unfold tk tc
  go_wp2_with fail
  refine fin3 (fn := Tryd.f37) rfl rfl (M1.out.five _ _ _ _ _).1 rfl ?_
  exact ⟨rfl, (M1.out.five _ _ _ _ _).2⟩
theorem points_one (s : ByteArray) (a e : Nat) (ha : a ≤ s.size) (hs : s.size ≤ 100000) (hae : a + 1 = e) (hes : e ≤ s.size) (hp : [46, 46].isPrefixOf (s.data.toList.drop a) = false) (w : World) :
    Calls Tryd.prog 37 #[sp s a] w fun e1 w' => e1 = good (tk 7 (s.extract a e) 0 0 a) e ∧ Below w.heap.size w w' := by
  have hf := Quo.from_run s a ha
  have HP : Hid ((⟨#[46, 46]⟩ : ByteArray).data.toList.isPrefixOf (s.extract a s.size).data.toList = false) := by unfold Hid; rw [Quo.extract_list]; exact hp
  have he : (a : Int) + 1 = (e : Int) := by omega
  have hae' : a ≤ e := by omega
  clear hp hae
  have M0 := Lib.hid (res2 w (.cells #[.string s, .int .i64 (a : Int)] 48))
  unfold sp
  go_enter Tryd.func37, Tryd.ntmps37
  go_wp2_with fail
  refine (prefix_v _ _ _ HP.out _).mono ?_
  rintro e1 w1 ⟨rfl, rfl⟩
  go_wp2_with fail
  refine (right_v s a e hae' hes 7 0 0 0 ⟨#[]⟩ _).mono ?_
  rintro e1 w1 ⟨rfl, hb⟩
  have M1 := Lib.hid (M0.out.next hb)
  obtain ⟨z0, z1, z2, z3, z4⟩ := M1.out.cells
  obtain ⟨f0, f1, f2, f3, f4⟩ := M1.out.frozen
  clear hb
  unfold tk tc
  go_wp2_with fail
  refine fin3 (fn := Tryd.f37) rfl rfl (M1.out.five _ _ _ _ _).1 rfl ?_
  exact ⟨rfl, (M1.out.five _ _ _ _ _).2⟩
end Go.Proofs.YtmckplgbaalpbaaDoor.Lex
