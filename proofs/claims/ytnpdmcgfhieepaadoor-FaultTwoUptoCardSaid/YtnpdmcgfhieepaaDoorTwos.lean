/- FaultTwo, in all: also where a code is OK, or there are too many parts. -/
import Derived.Test.YtnpdmcgfhieepaaDoorTwo
namespace Go.Proofs.YtnpdmcgfhieepaaDoor
open Go.RowKit Go.Extern.Stop Go.Stop Go.Extern
set_option linter.unusedVariables false

theorem two_out (x0 y0 x1 y1 : Int) (A B : Option Addr) (capA capB N M : Nat) (w : World) (hg : Glob w) (h : 12 < N ∨ (N ≤ 12 ∧ 12 < M) ∨ (N ≤ 12 ∧ M ≤ 12 ∧ x0 = 0) ∨ (N ≤ 12 ∧ M ≤ 12 ∧ ¬ x0 = 0 ∧ x1 = 0)) :
    Calls Tryd.prog 5 #[.agg #[.int .i64 x0, .int .i64 y0], .agg #[.int .i64 x1, .int .i64 y1], .slice A N capA, .slice B M capB] w fun e w' => e = .returned (.bool true) ∧ Below w.heap.size w w' := by
  have hb : Below w.heap.size w ((w.alloc (.cells #[.int .i64 x0, .int .i64 y0] 36)).alloc (.cells #[.int .i64 x1, .int .i64 y1] 36)) := ((Below.refl _ w).alloc (Nat.le_refl _) _).alloc (by simp) _
  have HB := Lib.hid (And.intro hb hg)
  clear hb hg
  rcases h with h | ⟨h1, h2⟩ | ⟨h1, h2, h3⟩ | ⟨h1, h2, h3, h4⟩
  · have d1 : decide (12 < N) = true := decide_eq_true h
    go_enter Tryd.func5, Tryd.ntmps5
    go_wp2_with fail
    refine (works_v _ (HB.out.2.next HB.out.1)).mono ?_
    rintro e w3 ⟨rfl, hb3⟩
    have B3 := Lib.hid (HB.out.1.trans (hb3.mono HB.out.1.size))
    clear hb3
    go_wp2_with fail
    go_ret
    exact ⟨rfl, B3.out⟩
  · have d1 : decide (12 < N) = false := by rw [decide_eq_false_iff_not]; omega
    have d2 : decide (12 < M) = true := decide_eq_true h2
    go_enter Tryd.func5, Tryd.ntmps5
    go_wp2_with fail
    refine (works_v _ (HB.out.2.next HB.out.1)).mono ?_
    rintro e w3 ⟨rfl, hb3⟩
    have B3 := Lib.hid (HB.out.1.trans (hb3.mono HB.out.1.size))
    clear hb3
    go_wp2_with fail
    go_ret
    exact ⟨rfl, B3.out⟩
  · subst h3
    have d1 : decide (12 < N) = false := by rw [decide_eq_false_iff_not]; omega
    have d2 : decide (12 < M) = false := by rw [decide_eq_false_iff_not]; omega
    go_enter Tryd.func5, Tryd.ntmps5
    go_wp2_with fail
    refine (works_v _ (HB.out.2.next HB.out.1)).mono ?_
    rintro e w3 ⟨rfl, hb3⟩
    have B3 := Lib.hid (HB.out.1.trans (hb3.mono HB.out.1.size))
    clear hb3
    go_wp2_with fail
    go_ret
    exact ⟨rfl, B3.out⟩
  · subst h4
    have d1 : decide (12 < N) = false := by rw [decide_eq_false_iff_not]; omega
    have d2 : decide (12 < M) = false := by rw [decide_eq_false_iff_not]; omega
    have q0 := int_beq h3
    go_enter Tryd.func5, Tryd.ntmps5
    go_wp2_with fail
    refine (works_v _ (HB.out.2.next HB.out.1)).mono ?_
    rintro e w3 ⟨rfl, hb3⟩
    have B3 := Lib.hid (HB.out.1.trans (hb3.mono HB.out.1.size))
    clear hb3
    go_wp2_with fail
    go_ret
    exact ⟨rfl, B3.out⟩
theorem two_walk (w : World) (x0 y0 x1 y1 : Int) (A B : Option Addr) (capA capB : Nat) (ss rr : List ByteArray) (f0 : Deci.fit x0) (g0 : Deci.fit y0) (f1 : Deci.fit x1) (g1 : Deci.fit y1)
    (hsN : (heads ss).length ≤ 100000000) (hsM : (heads rr).length ≤ 100000000) (hA : Strs w A ss) (hB : Strs w B rr) (cA : A = none → capA = 0) (cB : B = none → capB = 0) (hg : Glob w) :
    Calls Tryd.prog 5 #[.agg #[.int .i64 x0, .int .i64 y0], .agg #[.int .i64 x1, .int .i64 y1], .slice A ss.length capA, .slice B rr.length capB] w fun e w' => e = .returned (.bool true) ∧ Below w.heap.size w w' := by
  by_cases h1 : 12 < ss.length
  · exact two_out _ _ _ _ _ _ _ _ _ _ w hg (.inl h1)
  · by_cases h2 : 12 < rr.length
    · exact two_out _ _ _ _ _ _ _ _ _ _ w hg (.inr (.inl ⟨by omega, h2⟩))
    · by_cases h3 : x0 = 0
      · exact two_out _ _ _ _ _ _ _ _ _ _ w hg (.inr (.inr (.inl ⟨by omega, by omega, h3⟩)))
      · by_cases h4 : x1 = 0
        · exact two_out _ _ _ _ _ _ _ _ _ _ w hg (.inr (.inr (.inr ⟨by omega, by omega, h3, h4⟩)))
        · refine two_v x0 y0 x1 y1 h3 h4 A B capA capB _ _ ss rr ⟨(full x0 y0 ss).toArray⟩ ⟨(full x1 y1 rr).toArray⟩ _ rfl rfl (by omega) (by omega) hsN hsM f0 g0 f1 g1 rfl rfl rfl ?_ ?_ w hA hB cA cB hg
          · rintro rfl rfl rfl
            simp
          · intro p1 p2 h
            rw [beq_iff_eq, Lib.toList_data, Lib.toList_data] at h
            exact full_inj p1 p2 h
end Go.Proofs.YtnpdmcgfhieepaaDoor
