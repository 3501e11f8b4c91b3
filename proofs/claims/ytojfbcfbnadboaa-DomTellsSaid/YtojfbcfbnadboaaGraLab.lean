
/- By which labels a block goes on. -/
import Derived.Test.YtojfbcfbnadboaaGraFns
namespace Go.Proofs.Ytojfbcfbnadboaa.Gra
open Go.ChangeShapes Go.WideShapes Go.RowKit
set_option linter.unusedVariables false
set_option maxRecDepth 20000

def isEnd (x : Int) : Bool := decide (20 ≤ x ∧ x ≤ 23)
theorem oplast_v (x : Int) (w : World) : Calls Try.prog 62 #[.int .i64 x] w fun e w' => e = .returned (.bool (isEnd x)) ∧ w = w' := by
  obtain ⟨b, hb⟩ : ∃ b, isEnd x = b := ⟨_, rfl⟩
  rw [hb]
  have HB := Lib.hid hb
  clear hb
  have yes : 20 ≤ x ∧ x ≤ 23 → b = true := fun h => by rw [← HB.out]; unfold isEnd; rw [decide_eq_true_eq]; exact h
  have HY := Lib.hid yes
  clear yes
  go_enter Try.func62, Try.ntmps62
  cases h0 : (x == 20)
  · cases h1 : (x == 21)
    · cases h2 : (x == 22)
      · cases h3 : (x == 23)
        · have n0 := beq_eq_false_iff_ne.1 h0
          have n1 := beq_eq_false_iff_ne.1 h1
          have n2 := beq_eq_false_iff_ne.1 h2
          have n3 := beq_eq_false_iff_ne.1 h3
          have hb : b = false := by
            rw [← HB.out]
            unfold isEnd
            rw [decide_eq_false_iff_not]
            omega
          subst hb
          clear n0 n1 n2 n3
          go_wp2_with fail
          go_ret
          exact ⟨rfl, rfl⟩
        · have hb := HY.out (by have := eq_of_beq h3; omega)
          subst hb
          go_wp2_with fail
          go_ret
          exact ⟨rfl, rfl⟩
      · have hb := HY.out (by have := eq_of_beq h2; omega)
        subst hb
        go_wp2_with fail
        go_ret
        exact ⟨rfl, rfl⟩
    · have hb := HY.out (by have := eq_of_beq h1; omega)
      subst hb
      go_wp2_with fail
      go_ret
      exact ⟨rfl, rfl⟩
  · have hb := HY.out (by have := eq_of_beq h0; omega)
    subst hb
    go_wp2_with fail
    go_ret
    exact ⟨rfl, rfl⟩
theorem labs_last {b : Blk} {m : Nat} {x : Ins} (hl : b.code.length = m + 1) (hx : b.code[m]? = some x) : labs b = if isEnd x.op = true then x.labels else [] := by
  unfold labs
  rw [List.getLast?_eq_getElem?, hl, Nat.add_sub_cancel, hx]
  unfold isEnd
  simp only [decide_eq_true_eq]
theorem labels_v (b : Blk) (r : BlkV) (w : World) (h : IsBlk w b r) : Calls Try.prog 37 #[.agg (blkR b r)] w fun e w' => (∃ A n c, e = .returned (.slice A n c) ∧ ∀ W, IsBlk W b r → IsStrs W A n (labs b)) ∧ Below w.heap.size w w' := by
  obtain ⟨w0, hw0⟩ : ∃ w0, w.alloc (.cells (blkR b r) 61) = w0 := ⟨_, rfl⟩
  have nb := m_box w _ 61 hw0
  have h0 := h.below nb.1
  have H := Lib.hid (And.intro h0 nb.1)
  obtain ⟨lab, edge, ins, code⟩ := b
  obtain ⟨ia, il, ic, ka, kn, kc, Rk⟩ := r
  have hk := h0.code
  have hb4 : w0.heap[w.heap.size]? = some (.cells #[.string lab, .bool edge, .slice ia il ic, .slice ka kn kc] 61 (0, 0)) := nb.2
  obtain ⟨⟨c0, c1, c2, c3⟩, _⟩ := mbox4 hb4
  have HB4 := Lib.hid hb4
  unfold blkR at hw0 ⊢
  dsimp only at hk hw0 ⊢
  have hl : code.length = kn := hk.1
  have hmx : kn ≤ 9223372036854775807 := hk.2.1
  clear nb h h0 hb4
  go_enter Try.func37, Try.ntmps37
  by_cases hz : kn = 0
  · have hz2 : ((kn : Int) == 0) = true := by rw [beq_iff_eq]; omega
    have HL := Lib.hid (show code = [] from List.eq_nil_of_length_eq_zero (by omega))
    clear hz hl
    go_wp2_with fail
    try rw [hw0]
    go_ret
    exact ⟨⟨none, 0, 0, rfl, fun W _ => by rw [HL.out]; exact IsStrs.nil _ _⟩, H.out.2⟩
  · obtain ⟨m, hm⟩ : ∃ m, kn = m + 1 := ⟨kn - 1, by omega⟩
    have hz2 : ((kn : Int) == 0) = false := by rw [beq_eq_false_iff_ne]; omega
    obtain ⟨bb, o, rfl, -, x, hx, hin, d0, d1, d2, d3, d4, d5, d6, d7, d8, d9⟩ := hk.at (k := m) (by omega)
    obtain ⟨op, ⟨dk, dc, dn, dt⟩, args, nm, off, labels, cs⟩ := x
    obtain ⟨⟨aa, an, ac, la, ln, lc, ca, cn, cc⟩, hR⟩ : ∃ q, Rk m = q := ⟨_, rfl⟩
    rw [hR] at d5 d8 d9 hin
    dsimp only at d0 d1 d2 d3 d4 d5 d6 d7 d8 d9
    have e1 : (kn : Int) - 1 = (m : Int) := by omega
    have e2 : IntKind.i64.wrap (m : Int) = (m : Int) := by rw [IntKind.wrap_i64]; omega
    have e3 : (m : Int) < (kn : Int) := by omega
    have e4 : m < kn := by omega
    obtain ⟨w1, hw1⟩ : ∃ w1, w0.alloc (.cells #[.int .i64 0, .int .i64 0, .int .i64 0, .int .i64 0, .int .i64 0, .slice none 0 0, .string ⟨#[]⟩, .int .i64 0, .slice none 0 0, .slice none 0 0] 66) = w1 := ⟨_, rfl⟩
    have n1 := m_box w0 _ 66 hw1
    obtain ⟨w2, hw2⟩ : ∃ w2, mset10 w1 w0.heap.size (.int .i64 op) (.int .i64 dk) (.int .i64 dc) (.int .i64 dn) (.int .i64 dt) (.slice aa an ac) (.string nm) (.int .i64 off) (.slice la ln lc) (.slice ca cn cc) = w2 := ⟨_, rfl⟩
    have b2 : Below w0.heap.size w0 w2 := by rw [← hw2]; exact mset10_below n1.1 (Nat.le_refl _)
    have g2 : w2.heap[w0.heap.size]? = some (.cells #[.int .i64 op, .int .i64 dk, .int .i64 dc, .int .i64 dn, .int .i64 dt, .slice aa an ac, .string nm, .int .i64 off, .slice la ln lc, .slice ca cn cc] 66 (0, 0)) := by rw [← hw2]; exact mset10_heap n1.2
    have hall : ∀ W, IsBlk W ⟨lab, edge, ins, code⟩ ⟨ia, il, ic, some ⟨bb, o, none⟩, kn, kc, Rk⟩ → IsStrs W la ln labels := fun W hW => by
      obtain ⟨_, _, _, _, y, hy, h2, _⟩ := hW.code.at (k := m) e4
      have e : y = ⟨op, ⟨dk, dc, dn, dt⟩, args, nm, off, labels, cs⟩ := by
        rw [hx] at hy
        injection hy with hy
        exact hy.symm
      subst e
      have h3 := h2.labels
      dsimp only at h3
      rw [hR] at h3
      exact h3
    have HW := Lib.hid (And.intro (H.out.2.trans (b2.mono H.out.2.size)) (And.intro hall (And.intro (labs_last (b := ⟨lab, edge, ins, code⟩) (m := m) (by show code.length = _; omega) hx) g2)))
    obtain ⟨⟨f0, f1, f2, f3, f4, f5, f6, f7, f8, f9⟩, g0', g1', g2', g3', g4', g5', g6', g7', g8', g9'⟩ := mbox10 n1.2
    obtain ⟨⟨i0, i1, i2, i3, i4, i5, i6, i7, i8, i9⟩, _⟩ := mbox10 g2
    unfold mset10 at hw2
    clear hx hR hin n1 b2 g2 hk hl hz hm
    obtain ⟨be, hbe⟩ : ∃ be, isEnd op = be := ⟨_, rfl⟩
    have HE := Lib.hid hbe
    clear hbe
    go_wp2_with fail
    try rw [hw2]
    clear d0 d1 d2 d3 d4 d5 d6 d7 d8 d9 f0 f1 f2 f3 f4 f5 f6 f7 f8 f9 g0' g1' g2' g3' g4' g5' g6' g7' g8' g9'
    refine (oplast_v op w2).mono ?_
    rintro e w3 ⟨rfl, rfl⟩
    rw [HE.out]
    cases be with
    | false =>
      go_wp2_with fail
      go_ret
      exact ⟨⟨none, 0, 0, rfl, fun W _ => by rw [HW.out.2.2.1, HE.out]; exact IsStrs.nil _ _⟩, HW.out.1⟩
    | true =>
      go_wp2_with fail
      go_ret
      exact ⟨⟨la, ln, lc, rfl, fun W hW => by rw [HW.out.2.2.1, HE.out]; exact HW.out.2.1 W hW⟩, HW.out.1⟩
end Go.Proofs.Ytojfbcfbnadboaa.Gra
