/- OpNames' walk: each operation is found by its name, and no text else finds one. -/
import Derived.Test.YtmpcjjlffebljaaDoorRFind
import Derived.Test.YtmpcjjlffebljaaDoorWorks
namespace Go.Proofs.YtmpcjjlffebljaaDoor
open Go.ChangeShapes Go.WideShapes Go.RowKit
set_option linter.unusedVariables false

theorem found_same (n : Int) (r : Int) (b : Bool) (h : FindS (nameOf n) r b) : (isOp n = true ∧ b = true ∧ r = n) ∨ (isOp n = false ∧ b = false) := by
  by_cases hn : n < 1 ∨ 27 < n
  · rw [nameOf_none n hn] at h
    refine .inr ⟨?_, h.of_none.1⟩
    unfold isOp
    rw [Bool.and_eq_false_iff, decide_eq_false_iff_not, decide_eq_false_iff_not]
    omega
  · refine .inl ⟨?_, (h.of_op (n := n) (by omega) (by omega) rfl).1, (h.of_op (n := n) (by omega) (by omega) rfl).2⟩
    unfold isOp
    rw [Bool.and_eq_true, decide_eq_true_iff, decide_eq_true_iff]
    omega
theorem found_text (s : ByteArray) (r : Int) (b : Bool) (h : FindS s r b) : isOp r = b ∧ (b = true → nameOf r = s) := by
  refine ⟨h.is, fun hb => ?_⟩
  rcases h with ⟨_, _, _, h5⟩ | ⟨h1, _⟩
  · exact h5
  · rw [hb] at h1; cases h1
theorem opNames_v (n : Int) (s : ByteArray) (w : World) (hG : Glob w) : Calls Tryd.prog 5 #[.int .i64 n, .string s] w fun e w' => e = .returned (.bool true) ∧ Below w.heap.size w w' := by
  obtain ⟨t, ht⟩ : ∃ t, nameOf n = t := ⟨_, rfl⟩
  have HT := Lib.hid ht
  have HG := Lib.hid hG
  clear hG ht
  go_enter Tryd.func5, Tryd.ntmps5
  go_wp2_with fail
  refine (name_v n t HT.out _ HG.out).mono ?_
  rintro e w1 ⟨rfl, rfl⟩
  go_wp2_with fail
  refine (find_v _ _ HG.out).mono ?_
  rintro e w1 ⟨r, b, hf, rfl, rfl⟩
  have hs := found_same n r b (by rw [HT.out]; exact hf)
  have HS := Lib.hid hs
  clear hf hs
  go_wp2_with fail
  refine (rfind_v n _).mono ?_
  rintro e w1 ⟨A, rfl, _, hb1⟩
  have B1 := Lib.hid hb1
  have G1 := Lib.hid (HG.out.below hb1 HG.out.1)
  clear hb1
  unfold rc
  obtain ⟨k, hk⟩ : ∃ k, isOp n = k := ⟨_, rfl⟩
  rw [hk] at HS ⊢
  have HK := Lib.hid hk
  clear hk
  generalize rowOf n = R at *
  obtain ⟨w2, hw2⟩ : ∃ w2, w1.alloc (.cells #[.string R.nm, .string R.ds, .slice A R.ar.length R.ar.length, .int .i64 R.lb, .bool R.al] 25) = w2 := ⟨_, rfl⟩
  have B2 := Lib.hid (show Below w.heap.size w w2 by rw [← hw2]; exact B1.out.alloc B1.out.size _)
  have G2 := Lib.hid (show Glob w2 from HG.out.below B2.out HG.out.1)
  rcases HS.out with ⟨rfl, rfl, rfl⟩ | ⟨rfl, rfl⟩
  all_goals
    clear HS
    go_wp2_with fail
    clear hw2
    refine (find_v s _ G2.out).mono ?_
    rintro e w3 ⟨r2, b2, hf2, rfl, rfl⟩
    have H2 := Lib.hid (found_text s r2 b2 hf2)
    clear hf2
    go_wp2_with fail
    refine (is_v r2 b2 H2.out.1 _).mono ?_
    rintro e w3 ⟨rfl, rfl⟩
    cases b2
  · go_wp2_with fail
    refine (works_v _ G2.out).mono ?_
    rintro e w4 ⟨rfl, hb4⟩
    have B4 := Lib.hid hb4
    clear hb4
    go_wp2_with fail
    go_ret
    exact ⟨rfl, B2.out.trans (B4.out.mono B2.out.size)⟩
  · go_wp2_with fail
    refine (name_v r2 s (H2.out.2 (by trivial)) _ G2.out).mono ?_
    rintro e w3 ⟨rfl, rfl⟩
    go_wp2_with fail
    refine (works_v _ G2.out).mono ?_
    rintro e w4 ⟨rfl, hb4⟩
    have B4 := Lib.hid hb4
    clear hb4
    go_wp2_with fail
    go_ret
    exact ⟨rfl, B2.out.trans (B4.out.mono B2.out.size)⟩
  · go_wp2_with fail
    refine (works_v _ G2.out).mono ?_
    rintro e w4 ⟨rfl, hb4⟩
    have B4 := Lib.hid hb4
    clear hb4
    go_wp2_with fail
    go_ret
    exact ⟨rfl, B2.out.trans (B4.out.mono B2.out.size)⟩
  · go_wp2_with fail
    refine (name_v r2 s (H2.out.2 (by trivial)) _ G2.out).mono ?_
    rintro e w3 ⟨rfl, rfl⟩
    go_wp2_with fail
    refine (works_v _ G2.out).mono ?_
    rintro e w4 ⟨rfl, hb4⟩
    have B4 := Lib.hid hb4
    clear hb4
    go_wp2_with fail
    go_ret
    exact ⟨rfl, B2.out.trans (B4.out.mono B2.out.size)⟩
end Go.Proofs.YtmpcjjlffebljaaDoor
