
/- The program's Succ and Pred. -/
import Derived.Test.YtojfbcfbnadboaaGraTop
import Derived.Test.YtojfbcfbnadboaaGraClone
namespace Go.Proofs.Ytojfbcfbnadboaa.Gra
open Go.ChangeShapes Go.WideShapes Go.RowKit
set_option linter.unusedVariables false
set_option maxRecDepth 20000
set_option maxHeartbeats 1000000

def rowI (s : Gr) (i : Int) : List Nat := if 0 ≤ i ∧ i < (s.length : Int) then nx s i.toNat else []
theorem gsucc_v (p : Nat) (q : GV) (s t : Gr) (i : Int) (w : World) (h : IsG w p q s t) (hn : ∀ k, (nx s k).length ≤ 1000000) :
    Calls Try.prog 14 #[.pointer (some ⟨p, 0, none⟩), .int .i64 i] w fun e w' => (∃ B m d, e = .returned (.slice B m d) ∧ (rowI s i).length = m ∧ OwnL 3 1 intC w.heap.size w' B d (nn (rowI s i))) ∧ Below w.heap.size w w' := by
  have c0 := cell_i h.box 0
  have c1 := cell_i h.box 1
  have H := Lib.hid h
  obtain ⟨b, hb⟩ : ∃ b, hasI q.n i = b := ⟨_, rfl⟩
  have HH := Lib.hid (hb ▸ ghas_v p q s t i w h)
  have HB := Lib.hid hb
  clear h hb
  cases b with
  | false =>
    have HE := Lib.hid (show rowI s i = [] by
      unfold rowI
      have h1 := HB.out
      rw [hasI, decide_eq_false_iff_not] at h1
      rw [if_neg (by rw [H.out.su.1]; exact h1)])
    go_enter Try.func14, Try.ntmps14
    go_wp2_with fail
    refine HH.out.mono ?_
    rintro e w1 ⟨rfl, rfl⟩
    go_wp2_with fail
    go_ret
    exact ⟨⟨none, 0, 0, rfl, by rw [HE.out]; rfl, by rw [HE.out]; exact OwnL.nil⟩, Below.refl _ _⟩
  | true =>
    have h1 := HB.out
    rw [hasI, decide_eq_true_eq] at h1
    obtain ⟨k, rfl⟩ : ∃ k : Nat, i = (k : Int) := ⟨i.toNat, by omega⟩
    have hk : k < q.n := by omega
    have t1 : (k : Int) < (q.n : Int) := by omega
    have HE := Lib.hid (show rowI s (k : Int) = nx s k by
      unfold rowI
      rw [if_pos (by rw [H.out.su.1]; exact h1)]
      simp)
    obtain ⟨b, o, hA, -, C, m, d, d0, d1⟩ := H.out.su.at hk
    have HC := Lib.hid (clone_v C m d _ w d1 (by rw [← d1.1, nn_len]; exact hn k))
    have hlm : (nx s k).length = m := by rw [← nn_len]; exact d1.1
    have HM := Lib.hid hlm
    clear h1 d1 hlm hn
    rw [hA] at c0
    go_enter Try.func14, Try.ntmps14
    go_wp2_with fail
    refine HH.out.mono ?_
    rintro e w1 ⟨rfl, rfl⟩
    go_wp2_with fail
    refine HC.out.mono ?_
    rintro e w2 ⟨⟨B, d', rfl, ho⟩, hb⟩
    have HO := Lib.hid (And.intro ho hb)
    clear ho hb
    go_wp2_with fail
    go_ret
    exact ⟨⟨B, m, d', rfl, by rw [HE.out]; exact HM.out, by rw [HE.out]; exact HO.out.1⟩, HO.out.2⟩
theorem gpred_v (p : Nat) (q : GV) (s t : Gr) (i : Int) (w : World) (h : IsG w p q s t) (hn : ∀ k, (nx t k).length ≤ 1000000) :
    Calls Try.prog 15 #[.pointer (some ⟨p, 0, none⟩), .int .i64 i] w fun e w' => (∃ B m d, e = .returned (.slice B m d) ∧ (rowI t i).length = m ∧ OwnL 3 1 intC w.heap.size w' B d (nn (rowI t i))) ∧ Below w.heap.size w w' := by
  have c0 := cell_i h.box 0
  have c1 := cell_i h.box 1
  have H := Lib.hid h
  obtain ⟨b, hb⟩ : ∃ b, hasI q.n i = b := ⟨_, rfl⟩
  have HH := Lib.hid (hb ▸ ghas_v p q s t i w h)
  have HB := Lib.hid hb
  clear h hb
  cases b with
  | false =>
    have HE := Lib.hid (show rowI t i = [] by
      unfold rowI
      have h1 := HB.out
      rw [hasI, decide_eq_false_iff_not] at h1
      rw [if_neg (by rw [H.out.pr.1]; exact h1)])
    go_enter Try.func15, Try.ntmps15
    go_wp2_with fail
    refine HH.out.mono ?_
    rintro e w1 ⟨rfl, rfl⟩
    go_wp2_with fail
    go_ret
    exact ⟨⟨none, 0, 0, rfl, by rw [HE.out]; rfl, by rw [HE.out]; exact OwnL.nil⟩, Below.refl _ _⟩
  | true =>
    have h1 := HB.out
    rw [hasI, decide_eq_true_eq] at h1
    obtain ⟨k, rfl⟩ : ∃ k : Nat, i = (k : Int) := ⟨i.toNat, by omega⟩
    have hk : k < q.n := by omega
    have t1 : (k : Int) < (q.n : Int) := by omega
    have HE := Lib.hid (show rowI t (k : Int) = nx t k by
      unfold rowI
      rw [if_pos (by rw [H.out.pr.1]; exact h1)]
      simp)
    obtain ⟨b, o, hA, -, C, m, d, d0, d1⟩ := H.out.pr.at hk
    have HC := Lib.hid (clone_v C m d _ w d1 (by rw [← d1.1, nn_len]; exact hn k))
    have hlm : (nx t k).length = m := by rw [← nn_len]; exact d1.1
    have HM := Lib.hid hlm
    clear h1 d1 hlm hn
    rw [hA] at c1
    go_enter Try.func15, Try.ntmps15
    go_wp2_with fail
    refine HH.out.mono ?_
    rintro e w1 ⟨rfl, rfl⟩
    go_wp2_with fail
    refine HC.out.mono ?_
    rintro e w2 ⟨⟨B, d', rfl, ho⟩, hb⟩
    have HO := Lib.hid (And.intro ho hb)
    clear ho hb
    go_wp2_with fail
    go_ret
    exact ⟨⟨B, m, d', rfl, by rw [HE.out]; exact HM.out, by rw [HE.out]; exact HO.out.1⟩, HO.out.2⟩
end Go.Proofs.Ytojfbcfbnadboaa.Gra
