/- The statement on all tokens: the program's answer and the document's are one. -/
import Derived.Test.YtmckplgbaalpbaaDoorDocAll
namespace Go.Proofs.YtmckplgbaalpbaaDoor.Lex
open Go.ChangeShapes Go.WideShapes Go.RowKit
set_option linter.unusedVariables false
set_option maxRecDepth 20000

theorem go_ok_zero : ∀ (n : Nat) (l : List UInt8) (f p : Nat) (out : List Tok) (m : List Tok) (q : Nat), l.length ≤ n → go f l p out = (m, 0, q) → q = 0 := by
  intro n
  induction n with
  | zero =>
    intro l f p out m q h1 h
    obtain rfl : l = [] := List.eq_nil_of_length_eq_zero (by omega)
    cases f with
    | zero => injection h with _ h; injection h with _ h; exact h.symm
    | succ f => rw [go_end] at h; injection h with _ h; injection h with _ h; exact h.symm
  | succ n ih =>
    intro l f p out m q h1 h
    cases f with
    | zero => injection h with _ h; injection h with _ h; exact h.symm
    | succ f =>
      cases l with
      | nil => rw [go_end] at h; injection h with _ h; injection h with _ h; exact h.symm
      | cons c r =>
        cases hx : nx (c :: r) p with
        | skip k =>
          have hk := nx_skip_size hx
          rw [go_skip out hx] at h
          exact ih _ _ _ _ _ _ (by rw [List.length_drop]; omega) h
        | tok t k =>
          have hk := nx_tok_size hx
          rw [go_tok out hx] at h
          exact ih _ _ _ _ _ _ (by rw [List.length_drop]; omega) h
        | bad e p' =>
          rw [go_bad out hx] at h
          injection h with _ h
          injection h with h _
          exact absurd h (nx_bad_code hx)
theorem scans_mid (s : ByteArray) (h : 3000 < s.size) (h2 : s.size ≤ 65536) (w : World) (hg : Fau.Glob w) : Calls Tryd.prog 3 #[.string s] w fun e w' => e = .returned (.bool true) ∧ Below w.heap.size w w' := by
  have HG := Lib.hid hg
  have h1 : (3000 : Int) < (s.size : Int) := by omega
  have h3 : (s.size : Int) ≤ 65536 := by omega
  clear hg h h2
  go_enter Tryd.func3, Tryd.ntmps3
  go_wp2_with fail
  refine (works_v _ HG.out).mono ?_
  rintro e w1 ⟨rfl, hb⟩
  have H1 := Lib.hid hb
  clear hb
  go_wp2_with fail
  go_ret
  exact ⟨rfl, H1.out⟩
theorem scans_good (s : ByteArray) (hs : s.size ≤ 3000) (m : List Tok) (q : Nat) (hm : all s.data.toList = (m, 0, q)) (w : World) (hg : Fau.Glob w) : Calls Tryd.prog 3 #[.string s] w fun e w' => e = .returned (.bool true) ∧ Below w.heap.size w w' := by
  have HG := Lib.hid hg
  have h1 : (s.size : Int) ≤ 3000 := by omega
  have hne : 0 < m.length := by
    cases m with
    | nil =>
      obtain ⟨ts, e, _⟩ : ∃ ts, ([] : List Tok) = ts ++ [⟨0, [], 0, 0, 0 + s.data.toList.length⟩] ∧ ∀ t ∈ ts, Snd t := by
        unfold all at hm
        split at hm
        · cases hm
        · exact go_sound _ _ _ _ _ _ _ (Nat.le_refl _) (Nat.lt_succ_self _) (by intro t ht; cases ht) hm
      exact absurd e.symm (by simp)
    | cons => simp
  have tm := (all_text hm).2
  rw [Nam.len_list] at tm
  have HM := Lib.hid (And.intro hm hne)
  have hq0 : q = 0 := by
    unfold all at hm
    split at hm
    · cases hm
    · exact go_ok_zero _ _ _ _ _ _ _ (Nat.le_refl _) hm
  subst hq0
  obtain ⟨M, hM⟩ : ∃ M, m.length = M := ⟨_, rfl⟩
  have HMM := Lib.hid hM
  have hMs : M ≤ 1000000 := by omega
  clear hg hm hne tm hM
  go_enter Tryd.func3, Tryd.ntmps3
  go_wp2_with fail
  refine (all_v s _).mono ?_
  rintro e w1 hP
  obtain ⟨A, c, rfl, ho, hb1⟩ := hP.good HM.out.1
  obtain ⟨g, rfl, _, _, _⟩ := ho.form HM.out.2
  rw [HMM.out]
  have H1 := Lib.hid (And.intro hb1 ho)
  clear hP hb1 ho
  go_wp2_with fail
  refine (doc_v s _).mono ?_
  rintro e w2 ⟨m', code, q', hm', hb2, hw⟩
  rw [HM.out.1] at hm'
  injection hm' with e1 e2
  injection e2 with e2 e3
  subst e1 e2 e3
  rcases hw with ⟨_, A2, c2, rfl, ho2⟩ | ⟨hx, _⟩
  · obtain ⟨g2, rfl, _, _, _⟩ := ho2.form HM.out.2
    rw [HMM.out]
    have B2 := Lib.hid (H1.out.1.trans (hb2.mono H1.out.1.size))
    have H2 := Lib.hid (And.intro (H1.out.2.grow hb2) ho2)
    clear hb2 ho2
    go_wp2_with fail
    refine (same_is _ _ g g2 c c2 M m _ HMM.out hMs H2.out.1 H2.out.2).mono ?_
    rintro e w3 ⟨rfl, hb3⟩
    have B3 := Lib.hid (B2.out.trans (hb3.mono B2.out.size))
    clear hb3
    go_wp2_with fail
    refine (Fau.of_nil _).mono ?_
    rintro e w4 ⟨rfl, hb4⟩
    have B4 := Lib.hid (B3.out.trans (hb4.mono B3.out.size))
    clear hb4
    go_wp2_with fail
    refine (Fau.at_nil _).mono ?_
    rintro e w5 ⟨rfl, hb5⟩
    have B5 := Lib.hid (B4.out.trans (hb5.mono B4.out.size))
    clear hb5
    go_wp2_with fail
    refine (works_v _ (HG.out.below B5.out HG.out.pos)).mono ?_
    rintro e w6 ⟨rfl, hb6⟩
    have B6 := Lib.hid (B5.out.trans (hb6.mono B5.out.size))
    clear hb6
    go_wp2_with fail
    go_ret
    exact ⟨rfl, B6.out⟩
  · exact absurd rfl hx
theorem scans_bad (s : ByteArray) (hs : s.size ≤ 3000 ∨ 65536 < s.size) (m : List Tok) (code : Int) (q : Nat) (hm : all s.data.toList = (m, code, q)) (hc : code ≠ 0) (w : World) (hg : Fau.Glob w) : Calls Tryd.prog 3 #[.string s] w fun e w' => e = .returned (.bool true) ∧ Below w.heap.size w w' := by
  have HG := Lib.hid hg
  have HM := Lib.hid (And.intro hm hc)
  have z1 : (code == 0) = false := by rw [beq_eq_false_iff_ne]; exact hc
  clear hg hm
  have main : (decide ((3000 : Int) < (s.size : Int)) = false ∨ (decide ((3000 : Int) < (s.size : Int)) = true ∧ decide ((s.size : Int) ≤ 65536) = false)) → Calls Tryd.prog 3 #[.string s] w fun e w' => e = .returned (.bool true) ∧ Below w.heap.size w w' := by
    rintro (d1 | ⟨d1, d2⟩)
    · go_enter Tryd.func3, Tryd.ntmps3
      go_wp2_with fail
      refine (all_v s _).mono ?_
      rintro e w1 hP
      obtain ⟨rfl, hb1⟩ := hP.bad HM.out.1 HM.out.2
      have B1 := Lib.hid hb1
      clear hP hb1
      go_wp2_with fail
      refine (doc_v s _).mono ?_
      rintro e w2 ⟨m', code', q', hm', hb2, hw⟩
      rw [HM.out.1] at hm'
      injection hm' with e1 e2
      injection e2 with e2 e3
      subst e1 e2 e3
      rcases hw with ⟨hx, _⟩ | ⟨_, rfl⟩
      · exact absurd hx hc
      · have B2 := Lib.hid (B1.out.trans (hb2.mono B1.out.size))
        clear hb2
        go_wp2_with fail
        refine (same_nil _ _ _ _ _).mono ?_
        rintro e w3 ⟨rfl, hb3⟩
        have B3 := Lib.hid (B2.out.trans (hb3.mono B2.out.size))
        clear hb3
        go_wp2_with fail
        refine (Fau.of_v code (q : Int) _ (HG.out.below B3.out HG.out.pos)).mono ?_
        rintro e w4 ⟨rfl, hb4⟩
        have B4 := Lib.hid (B3.out.trans (hb4.mono B3.out.size))
        clear hb4
        go_wp2_with fail
        refine (Fau.at_v code (q : Int) _ (HG.out.below B4.out HG.out.pos)).mono ?_
        rintro e w5 ⟨rfl, hb5⟩
        have B5 := Lib.hid (B4.out.trans (hb5.mono B4.out.size))
        clear hb5
        unfold Fau.bare
        go_wp2_with fail
        refine (works_v _ (HG.out.below B5.out HG.out.pos)).mono ?_
        rintro e w6 ⟨rfl, hb6⟩
        have B6 := Lib.hid (B5.out.trans (hb6.mono B5.out.size))
        clear hb6
        go_wp2_with fail
        go_ret
        exact ⟨rfl, B6.out⟩
    · go_enter Tryd.func3, Tryd.ntmps3
      go_wp2_with fail
      refine (all_v s _).mono ?_
      rintro e w1 hP
      obtain ⟨rfl, hb1⟩ := hP.bad HM.out.1 HM.out.2
      have B1 := Lib.hid hb1
      clear hP hb1
      go_wp2_with fail
      refine (doc_v s _).mono ?_
      rintro e w2 ⟨m', code', q', hm', hb2, hw⟩
      rw [HM.out.1] at hm'
      injection hm' with e1 e2
      injection e2 with e2 e3
      subst e1 e2 e3
      rcases hw with ⟨hx, _⟩ | ⟨_, rfl⟩
      · exact absurd hx hc
      · have B2 := Lib.hid (B1.out.trans (hb2.mono B1.out.size))
        clear hb2
        go_wp2_with fail
        refine (same_nil _ _ _ _ _).mono ?_
        rintro e w3 ⟨rfl, hb3⟩
        have B3 := Lib.hid (B2.out.trans (hb3.mono B2.out.size))
        clear hb3
        go_wp2_with fail
        refine (Fau.of_v code (q : Int) _ (HG.out.below B3.out HG.out.pos)).mono ?_
        rintro e w4 ⟨rfl, hb4⟩
        have B4 := Lib.hid (B3.out.trans (hb4.mono B3.out.size))
        clear hb4
        go_wp2_with fail
        refine (Fau.at_v code (q : Int) _ (HG.out.below B4.out HG.out.pos)).mono ?_
        rintro e w5 ⟨rfl, hb5⟩
        have B5 := Lib.hid (B4.out.trans (hb5.mono B4.out.size))
        clear hb5
        unfold Fau.bare
        go_wp2_with fail
        refine (works_v _ (HG.out.below B5.out HG.out.pos)).mono ?_
        rintro e w6 ⟨rfl, hb6⟩
        have B6 := Lib.hid (B5.out.trans (hb6.mono B5.out.size))
        clear hb6
        go_wp2_with fail
        go_ret
        exact ⟨rfl, B6.out⟩
  by_cases h3 : 3000 < s.size
  · exact main (.inr ⟨by rw [decide_eq_true_iff]; omega, by rw [decide_eq_false_iff_not]; omega⟩)
  · exact main (.inl (by rw [decide_eq_false_iff_not]; omega))
theorem scans_all (s : ByteArray) (w : World) (hg : Fau.Glob w) : Calls Tryd.prog 3 #[.string s] w fun e w' => e = .returned (.bool true) ∧ Below w.heap.size w w' := by
  by_cases h : 3000 < s.size ∧ s.size ≤ 65536
  · exact scans_mid s h.1 h.2 w hg
  · obtain ⟨m, code, q, hm⟩ : ∃ m code q, all s.data.toList = (m, code, q) := ⟨_, _, _, rfl⟩
    by_cases hc : code = 0
    · subst hc
      by_cases h3 : s.size ≤ 3000
      · exact scans_good s h3 m q hm w hg
      · rw [all_long (by rw [Nam.len_list]; omega)] at hm
        injection hm with _ hm
        injection hm with hm _
        cases hm
    · exact scans_bad s (by omega) m code q hm hc w hg
end Go.Proofs.YtmckplgbaalpbaaDoor.Lex
