
/- Small functions: whether a number is one of some, the first block of a label, by which labels a block goes on. -/
import Derived.Test.YtojfbcfbnadboaaGraSuc
import Derived.ProofKit
import Derived.OwnWalk
import Derived.Deep.Light
import Derived.BigQuiet
import Derived.Deep.QuietTactic
import Derived.StillTailTactics
import Derived.Laws.Strings
namespace Go.Proofs.Ytojfbcfbnadboaa.Gra
open Go.ChangeShapes Go.WideShapes Go.RowKit
set_option linter.unusedVariables false
set_option maxRecDepth 20000

theorem rin_v (A : Option Addr) (n c : Nat) (l : List Int) (x : Int) (w : World) (h : IsInts w A n l) :
    Calls Try.prog 17 #[.slice A n c, .int .i64 x] w fun e w' => e = .returned (.bool (decide (x ∈ l))) ∧ w = w' := by
  have hm := h.2.1
  have H0 := Lib.hid h
  obtain ⟨bx, hbx⟩ : ∃ b, decide (x ∈ l) = b := ⟨_, rfl⟩
  rw [hbx]
  have HB := Lib.hid hbx
  clear h hbx
  go_enter Try.func17, Try.ntmps17
  go_wp2_with fail
  go_loopg [5] n (fun gk u wr => ∃ k : Nat, k + gk = n ∧ u = .int .i64 (k : Int) ∧ wr = w ∧ Hid (x ∉ l.take k))
  case atStart => exact ⟨0, by omega, rfl, rfl, Lib.hid (by simp)⟩
  case round =>
    obtain ⟨k, hk, rfl, rfl, HH⟩ := hrel
    by_cases hlt : k < n
    · obtain ⟨b, o, rfl, hb, y, hy, c0⟩ := H0.out.at hlt
      have i1 : (k : Int) < (n : Int) := by omega
      have HY := Lib.hid hy
      clear hy
      cases hq : (y == x)
      · go_wp2_with fail
        have hne := beq_eq_false_iff_ne.1 hq
        go_roundg (gk - 1)
        case measure => omega
        case rel => exact ⟨k + 1, by omega, by go_num, rfl, Lib.hid (by
          rw [List.take_add_one, HY.out]
          intro hx
          rcases List.mem_append.1 hx with h | h
          · exact HH.out h
          · rw [Option.toList_some, List.mem_singleton] at h
            exact hne h.symm)⟩
      · have he := eq_of_beq hq
        have hb : bx = true := by rw [← HB.out, decide_eq_true_eq, ← he]; exact List.mem_of_getElem? HY.out
        subst hb
        go_wp2_with fail
        go_ret
        exact ⟨rfl, rfl⟩
    · obtain rfl : k = n := by omega
      have hge : ¬ (k : Int) < (k : Int) := by omega
      have hb : bx = false := by
        have h1 := HH.out
        rw [List.take_of_length_le (by have := H0.out.1; omega)] at h1
        rw [← HB.out, decide_eq_false_iff_not]
        exact h1
      subst hb
      go_wp2_with fail
      go_ret
      exact ⟨rfl, rfl⟩
theorem fnd_here {bs : List Blk} {u : ByteArray} {k : Nat} {x : Blk} (hx : bs[k]? = some x) (h : (x.label.toList == u.toList) = true) (hn : ∀ (j : Nat) (y : Blk), j < k → bs[j]? = some y → (y.label.toList == u.toList) = false) : fndI bs u = (k : Int) := by
  obtain ⟨hk, rfl⟩ := List.getElem?_eq_some_iff.1 hx
  have e : fnd bs u = some k := by
    unfold fnd
    rw [List.findIdx?_eq_some_iff_getElem]
    exact ⟨hk, h, fun j hj => by
      have := hn j _ hj (List.getElem?_eq_getElem (by omega))
      simp only [this]
      simp⟩
  unfold fndI
  rw [e]
theorem fnd_none {bs : List Blk} {u : ByteArray} (hn : ∀ (j : Nat) (y : Blk), bs[j]? = some y → (y.label.toList == u.toList) = false) : fndI bs u = -1 := by
  have e : fnd bs u = none := by
    unfold fnd
    rw [List.findIdx?_eq_none_iff]
    intro x hx
    obtain ⟨j, hj⟩ := List.mem_iff_getElem?.1 hx
    exact hn j x hj
  unfold fndI
  rw [e]
theorem rfind_v (f : Fun) (v : FunV) (u : ByteArray) (w : World) (hI : IsFun w f v) :
    Calls Try.prog 40 #[.agg (funR f v), .string u] w fun e w' => e = .returned (.int .i64 (fndI f.blocks u)) ∧ Below w.heap.size w w' := by
  obtain ⟨machine, name, regs, params, blocks⟩ := f
  obtain ⟨ra, rn, rc, pa, pn, pc, ba, bn, bc, R⟩ := v
  have hB := hI.blocks
  unfold funR
  dsimp only at hB ⊢
  obtain ⟨w0, hw0⟩ : ∃ w0, w.alloc (.cells #[.bool machine, .string name, .slice ra rn rc, .slice pa pn pc, .slice ba bn bc] 26) = w0 := ⟨_, rfl⟩
  have nb := m_box w _ 26 hw0
  have hlen : bn ≤ 9223372036854775807 := hB.2.1
  have H := Lib.hid (And.intro (hB.below nb.1) nb)
  obtain ⟨z, hz⟩ : ∃ z, fndI blocks u = z := ⟨_, rfl⟩
  rw [hz]
  have HZ := Lib.hid hz
  clear hB nb hI hz
  go_enter Try.func40, Try.ntmps40
  go_wp2_with fail
  try rw [hw0]
  clear hw0
  go_loopg [5] bn (fun gk q wr => ∃ k : Nat, k + gk = bn ∧ q = .int .i64 (k : Int) ∧ wr = w0 ∧ Hid (∀ j y, j < k → blocks[j]? = some y → (y.label.toList == u.toList) = false))
  case atStart => exact ⟨0, by omega, rfl, rfl, Lib.hid (by omega)⟩
  case round =>
    obtain ⟨k, hk, rfl, rfl, HH⟩ := hrel
    obtain ⟨⟨c0, c1, c2, c3, c4⟩, _⟩ := mbox5 H.out.2.2
    by_cases hlt : k < bn
    · obtain ⟨b, o, rfl, hb, x, hx, -, d0, -⟩ := H.out.1.at hlt
      have t1 : (k : Int) < (bn : Int) := by omega
      have HX := Lib.hid hx
      obtain ⟨lab, edge, ins, code⟩ := x
      dsimp only at d0
      clear hx
      cases hq : (lab.toList == u.toList)
      · go_wp2_with fail
        have HQ := Lib.hid hq
        clear hq
        go_roundg (gk - 1)
        case measure => omega
        case rel => exact ⟨k + 1, by omega, by go_num, rfl, Lib.hid (fun j y hj hy => by
          rcases Nat.lt_succ_iff_lt_or_eq.1 hj with h | rfl
          · exact HH.out j y h hy
          · rw [HX.out] at hy
            injection hy with hy
            rw [← hy]
            exact HQ.out)⟩
      · have hz : z = (k : Int) := by rw [← HZ.out]; exact fnd_here HX.out hq HH.out
        subst hz
        go_wp2_with fail
        go_ret
        exact ⟨rfl, H.out.2.1⟩
    · obtain rfl : k = bn := by omega
      have t1 : ¬ (k : Int) < (k : Int) := by omega
      have hz : z = -1 := by
        rw [← HZ.out]
        refine fnd_none fun j y hy => HH.out j y ?_ hy
        have h1 := H.out.1.1
        have h2 := (List.getElem?_eq_some_iff.1 hy).1
        omega
      subst hz
      go_wp2_with fail
      go_ret
      exact ⟨rfl, H.out.2.1⟩
theorem find_v (f : Fun) (v : FunV) (u : ByteArray) (w : World) (hI : IsFun w f v) :
    Calls Try.prog 39 #[.agg (funR f v), .string u] w fun e w' => e = .returned (.int .i64 (fndI f.blocks u)) ∧ Below w.heap.size w w' := by
  obtain ⟨machine, name, regs, params, blocks⟩ := f
  obtain ⟨ra, rn, rc, pa, pn, pc, ba, bn, bc, R⟩ := v
  have hB := hI.blocks
  unfold funR
  dsimp only at hB ⊢
  obtain ⟨w0, hw0⟩ : ∃ w0, w.alloc (.cells #[.bool machine, .string name, .slice ra rn rc, .slice pa pn pc, .slice ba bn bc] 26) = w0 := ⟨_, rfl⟩
  have nb := m_box w _ 26 hw0
  have hlen : bn ≤ 9223372036854775807 := hB.2.1
  have H := Lib.hid (And.intro (hB.below nb.1) nb.1)
  obtain ⟨⟨c0, c1, c2, c3, c4⟩, _⟩ := mbox5 nb.2
  obtain ⟨z, hz⟩ : ∃ z, fndI blocks u = z := ⟨_, rfl⟩
  rw [hz]
  have HZ := Lib.hid hz
  clear hB nb hI hz
  go_enter Try.func39, Try.ntmps39
  go_wp2_with fail
  try rw [hw0]
  clear hw0 c0 c1 c2 c3 c4
  go_loopg [10] bn (fun gk q wr => ∃ k : Nat, k + gk = bn ∧ q = .int .i64 (k : Int) ∧ Hid (Below w.heap.size w wr ∧ IsBlks wr ba bn R blocks ∧ ∀ j y, j < k → blocks[j]? = some y → (y.label.toList == u.toList) = false))
  case atStart => exact ⟨0, by omega, rfl, Lib.hid ⟨H.out.2, H.out.1, by omega⟩⟩
  case round =>
    obtain ⟨k, hk, rfl, HH⟩ := hrel
    by_cases hlt : k < bn
    · obtain ⟨b, o, rfl, hb, x, hx, -, d0, d1, d2, d3⟩ := HH.out.2.1.at hlt
      have t1 : (k : Int) < (bn : Int) := by omega
      have HX := Lib.hid hx
      obtain ⟨lab, edge, ins, code⟩ := x
      obtain ⟨⟨ia, il, ic, ka, kn, kc, Rk⟩, hRk⟩ : ∃ r, R k = r := ⟨_, rfl⟩
      rw [hRk] at d2 d3
      dsimp only at d0 d1 d2 d3
      obtain ⟨w1, hw1⟩ : ∃ w1, wr.alloc (.cells #[.string ⟨#[]⟩, .bool false, .slice none 0 0, .slice none 0 0] 61) = w1 := ⟨_, rfl⟩
      have n1 := m_box wr _ 61 hw1
      obtain ⟨w2, hw2⟩ : ∃ w2, mset4 w1 wr.heap.size (.string lab) (.bool edge) (.slice ia il ic) (.slice ka kn kc) = w2 := ⟨_, rfl⟩
      have b2 : Below wr.heap.size wr w2 := by rw [← hw2]; exact mset4_below n1.1 (Nat.le_refl _)
      have h2 : w2.heap[wr.heap.size]? = some (.cells #[.string lab, .bool edge, .slice ia il ic, .slice ka kn kc] 61 (0, 0)) := by rw [← hw2]; exact mset4_heap n1.2
      have HB := Lib.hid (And.intro (HH.out.1.trans (b2.mono HH.out.1.size)) (HH.out.2.1.below b2))
      obtain ⟨⟨e0, e1, e2, e3⟩, f0, f1, f2, f3⟩ := mbox4 n1.2
      obtain ⟨⟨g0, g1, g2, g3⟩, _⟩ := mbox4 h2
      unfold mset4 at hw2
      clear hx hRk n1 b2 h2
      cases hq : (lab.toList == u.toList)
      · go_wp2_with fail
        try rw [hw2]
        have HQ := Lib.hid hq
        clear hq d0 d1 d2 d3 e0 e1 e2 e3 f0 f1 f2 f3 g0 g1 g2 g3 hw1 hw2
        go_roundg (gk - 1)
        case measure => omega
        case rel => exact ⟨k + 1, by omega, by go_num, Lib.hid ⟨HB.out.1, HB.out.2, fun j y hj hy => by
          rcases Nat.lt_succ_iff_lt_or_eq.1 hj with h | rfl
          · exact HH.out.2.2 j y h hy
          · rw [HX.out] at hy
            injection hy with hy
            rw [← hy]
            exact HQ.out⟩⟩
      · have hz : z = (k : Int) := by rw [← HZ.out]; exact fnd_here HX.out hq HH.out.2.2
        subst hz
        go_wp2_with fail
        try rw [hw2]
        go_ret
        exact ⟨rfl, HB.out.1⟩
    · obtain rfl : k = bn := by omega
      have t1 : ¬ (k : Int) < (k : Int) := by omega
      have hz : z = -1 := by
        rw [← HZ.out]
        refine fnd_none fun j y hy => HH.out.2.2 j y ?_ hy
        have h1 := HH.out.2.1.1
        have h2 := (List.getElem?_eq_some_iff.1 hy).1
        omega
      subst hz
      go_wp2_with fail
      go_ret
      exact ⟨rfl, HH.out.1⟩
end Go.Proofs.Ytojfbcfbnadboaa.Gra
