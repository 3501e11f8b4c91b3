/- The document's own: the token at a place that is no blank. -/
import Derived.Test.YtgjaajofhfhadaaDoorDocNum
import Derived.BigRegion
namespace Go.Proofs.YtgjaajofhfhadaaDoor.Lex
open Go.ChangeShapes Go.WideShapes Go.RowKit
set_option linter.unusedVariables false
set_option maxRecDepth 20000

/-- What the document's reading answers: a token and how many bytes it has; or a code, with whatever beside it. -/
def oneGood (t : Value) (k : Nat) : Ending := .returned (.tuple #[t, .int .i64 (k : Int), .int .i64 0])
def OneBad (c : Int) (e : Ending) : Prop := ∃ (k : Int) (s : ByteArray) (n cl a z : Int), e = .returned (.tuple #[tk k s n cl a, .int .i64 z, .int .i64 c])
theorem two_below (w : World) (A B : Obj) : Below w.heap.size w ((w.alloc A).alloc B) := ((Below.refl _ w).alloc (Nat.le_refl _) _).alloc (by simp) _
set_option maxHeartbeats 2000000 in
theorem one_word_long (s : ByteArray) (a : Nat) (hs : s.size ≤ 100000) (ha : a < s.size) (y : Nat) (hys : y ≤ s.size) (hy : Nam.scanZ s.data.toList (a : Int) = (y : Int)) (h : a + 24 < y) (w : World) :
    Calls Tryd.prog 15 #[.string s, .int .i64 (a : Int)] w fun e1 w' => OneBad 3 e1 ∧ Below w.heap.size w w' := by
  have ha' : (a : Int) < (s.size : Int) := by omega
  have hay : a < y := by omega
  have hsl := slice_run s a y (by omega) hys
  have g1 : (a : Int) < (y : Int) := by omega
  have HY := Lib.hid hy
  have h1 : 24 < (y : Int) - (a : Int) := by omega
  have h2 : (y : Int) - (a : Int) ≤ 100000 := by omega
  clear hy h
  go_enter Tryd.func15, Tryd.ntmps15
  go_wp2_with fail
  refine (Nam.refscan_v s (a : Int) (y : Int) (by omega) HY.out _).mono ?_
  rintro e1 w1 ⟨rfl, rfl⟩
  go_wp2_with fail
  go_region
  all_goals go_wp2_with fail
  all_goals refine fin3 (fn := Tryd.f15) rfl rfl (heap_alloc2_old w _ _) rfl ?_
  all_goals first | exact ⟨⟨_, _, _, _, _, _, rfl⟩, two_below w _ _⟩ | exact ⟨⟨_, _, _, _, _, _, rfl⟩, (two_below w _ _).drew⟩
set_option maxHeartbeats 2000000 in
theorem one_word (s : ByteArray) (a : Nat) (hs : s.size ≤ 100000) (ha : a < s.size) (y k : Nat) (hys : y ≤ s.size) (hy : Nam.scanZ s.data.toList (a : Int) = (y : Int)) (hay0 : a < y) (h : y ≤ a + 24) (hk : a + k = y) (w : World) :
    Calls Tryd.prog 15 #[.string s, .int .i64 (a : Int)] w fun e1 w' => e1 = oneGood (tk 1 (s.extract a y) 0 0 a) k ∧ Below w.heap.size w w' := by
  have ha' : (a : Int) < (s.size : Int) := by omega
  have hay : a < y := by omega
  have hsl := slice_run s a y (by omega) hys
  have g1 : (a : Int) < (y : Int) := by omega
  have HY := Lib.hid hy
  have h1 : (y : Int) - (a : Int) = (k : Int) := by omega
  have h2 : (k : Int) ≤ 24 := by omega
  clear hy h hk
  go_enter Tryd.func15, Tryd.ntmps15
  go_wp2_with fail
  refine (Nam.refscan_v s (a : Int) (y : Int) (by omega) HY.out _).mono ?_
  rintro e1 w1 ⟨rfl, rfl⟩
  go_wp2_with fail
  go_region
  all_goals go_wp2_with fail
  all_goals refine fin3 (fn := Tryd.f15) rfl rfl (heap_alloc2_old w _ _) rfl ?_
  all_goals first | exact ⟨rfl, two_below w _ _⟩ | exact ⟨rfl, (two_below w _ _).drew⟩
theorem scan_self {s : ByteArray} {a : Nat} (ha : a < s.size) (h : Nam.letter s[a] = false) : Nam.scanZ s.data.toList (a : Int) = (a : Int) := by
  unfold Nam.scanZ
  rw [if_neg (by omega), show ((a : Int)).toNat = a by omega, Nam.scan_not _ a (by rw [Nam.len_list]; exact ha) (by rw [Nam.at_list s a ha]; exact h)]
set_option maxHeartbeats 2000000 in
theorem one_dol_end (s : ByteArray) (a : Nat) (hs : s.size ≤ 100000) (ha : a < s.size) (hlt : Nam.letter s[a] = false) (c : s[a].toNat = 36) (hp : a + 1 = s.size) (w : World) :
    Calls Tryd.prog 15 #[.string s, .int .i64 (a : Int)] w fun e1 w' => OneBad 12 e1 ∧ Below w.heap.size w w' := by
  have ha' : (a : Int) < (s.size : Int) := by omega
  have HY : Hid (Nam.scanZ s.data.toList (a : Int) = (a : Int)) := scan_self ha hlt
  have hirr : decide ((a : Int) < (a : Int)) = false := by simp
  have n37 : ((s[a].toNat : Int) == 37) = false := by rw [beq_eq_false_iff_ne]; omega
  have n35 : ((s[a].toNat : Int) == 35) = false := by rw [beq_eq_false_iff_ne]; omega
  have y36 : ((s[a].toNat : Int) == 36) = true := by rw [beq_iff_eq]; omega
  have ip : (a : Int) + 1 = (s.size : Int) := by omega
  clear c hlt hp
  go_enter Tryd.func15, Tryd.ntmps15
  go_wp2_with fail
  refine (Nam.refscan_v s (a : Int) (a : Int) (by omega) HY.out _).mono ?_
  rintro e1 w1 ⟨rfl, rfl⟩
  go_wp2_with fail
  all_goals refine fin3 (fn := Tryd.f15) rfl rfl (heap_alloc2_old w _ _) rfl ?_
  all_goals first | exact ⟨⟨_, _, _, _, _, _, rfl⟩, two_below w _ _⟩ | exact ⟨⟨_, _, _, _, _, _, rfl⟩, (two_below w _ _).drew⟩
set_option maxHeartbeats 2000000 in
theorem one_dol_bad (s : ByteArray) (a : Nat) (hs : s.size ≤ 100000) (ha : a < s.size) (hlt : Nam.letter s[a] = false) (c : s[a].toNat = 36) (p : Nat) (hp : a + 1 = p) (hps : p < s.size) (hd : s[p].toNat ≠ 103) (hd2 : s[p].toNat ≠ 120) (w : World) :
    Calls Tryd.prog 15 #[.string s, .int .i64 (a : Int)] w fun e1 w' => OneBad 12 e1 ∧ Below w.heap.size w w' := by
  have ha' : (a : Int) < (s.size : Int) := by omega
  have HY : Hid (Nam.scanZ s.data.toList (a : Int) = (a : Int)) := scan_self ha hlt
  have hirr : decide ((a : Int) < (a : Int)) = false := by simp
  have n37 : ((s[a].toNat : Int) == 37) = false := by rw [beq_eq_false_iff_ne]; omega
  have n35 : ((s[a].toNat : Int) == 35) = false := by rw [beq_eq_false_iff_ne]; omega
  have y36 : ((s[a].toNat : Int) == 36) = true := by rw [beq_iff_eq]; omega
  have ip : (a : Int) + 1 = (p : Int) := by omega
  have jp : (p : Int) < (s.size : Int) := by omega
  have kp : ((p : Int) == (s.size : Int)) = false := by rw [beq_eq_false_iff_ne]; omega
  have lp : ((s[p].toNat : Int) == 103) = false := by rw [beq_eq_false_iff_ne]; omega
  have lp' : ((s[p].toNat : Int) != 103) = true := by rw [bne, lp]; rfl
  have mp : ((s[p].toNat : Int) == 120) = false := by rw [beq_eq_false_iff_ne]; omega
  have mp' : ((s[p].toNat : Int) != 120) = true := by rw [bne, mp]; rfl
  clear c hlt hp hd hd2
  go_enter Tryd.func15, Tryd.ntmps15
  go_wp2_with fail
  refine (Nam.refscan_v s (a : Int) (a : Int) (by omega) HY.out _).mono ?_
  rintro e1 w1 ⟨rfl, rfl⟩
  go_wp2_with fail
  all_goals refine fin3 (fn := Tryd.f15) rfl rfl (heap_alloc2_old w _ _) rfl ?_
  all_goals first | exact ⟨⟨_, _, _, _, _, _, rfl⟩, two_below w _ _⟩ | exact ⟨⟨_, _, _, _, _, _, rfl⟩, (two_below w _ _).drew⟩
end Go.Proofs.YtgjaajofhfhadaaDoor.Lex
