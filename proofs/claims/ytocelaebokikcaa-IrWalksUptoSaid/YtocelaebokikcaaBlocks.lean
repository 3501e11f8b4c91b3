/- Two lists of blocks held against each other by the library's EqualFunc. -/
import Derived.Test.YtocelaebokikcaaBlock
namespace Go.Proofs.Ytocelaebokikcaa
open Go.ChangeShapes Go.WideShapes Go.RowKit
set_option linter.unusedVariables false
set_option maxRecDepth 20000

set_option maxHeartbeats 2000000 in
theorem eq46_v (A A' : Option Addr) (n n' c c' : Nat) (R R' : Nat → BlkV) (l l' : List Blk) (w : World) (h : IsBlks w A n R l) (h' : IsBlks w A' n' R' l') :
    Calls Try.prog 46 #[.slice A n c, .slice A' n' c', .func (.func 47) #[] #[]] w fun e w' => e = .returned (.bool (sameL blkEq l l')) ∧ Below w.heap.size w w' := by
  have hl := h.1
  have hl' := h'.1
  have hm := h.2.1
  by_cases hn : ¬ n = n'
  · rw [sameL_len blkEq l l' (by omega)]
    have i1 : ¬ (n : Int) = (n' : Int) := by omega
    clear h h' hl hl'
    go_enter Try.func46, Try.ntmps46
    go_wp2_with fail
    go_ret
    exact ⟨rfl, Below.refl _ _⟩
  have hn := Decidable.not_not.1 hn
  subst hn
  have H0 := Lib.hid (And.intro h (And.intro h' (And.intro hl hl')))
  clear h h' hl hl'
  go_enter Try.func46, Try.ntmps46
  go_wp2_with fail
  go_loopg [17] n (fun gk u wr => ∃ k : Nat, k + gk = n ∧ u = .int .i64 (k : Int) ∧ Hid (Below w.heap.size w wr ∧ ∀ (j : Nat) (x y : Blk), j < k → l[j]? = some x → l'[j]? = some y → blkEq x y = true))
  case atStart => exact ⟨0, by omega, rfl, Below.refl _ _, fun j x y hj => by omega⟩
  case round =>
    obtain ⟨k, hk, rfl, HH⟩ := hrel
    by_cases hlt : k < n
    · obtain ⟨h, h', hl, hl'⟩ := H0.out
      obtain ⟨b, o, rfl, hb, x, hx, hix, c0, c1, c2, c3⟩ := (h.below HH.out.1).at hlt
      obtain ⟨b', o', rfl, hb', y, hy, hiy, d0, d1, d2, d3⟩ := (h'.below HH.out.1).at hlt
      have i1 : (k : Int) < (n : Int) := by omega
      have B0 : Below wr.heap.size wr ((wr.alloc (.cells (blkR x (R k)) 48)).alloc (.cells (blkR y (R' k)) 48)) := ((Below.refl _ wr).alloc (Nat.le_refl _) _).alloc (by simp) _
      have hs : w.heap.size ≤ ((wr.alloc (.cells (blkR x (R k)) 48)).alloc (.cells (blkR y (R' k)) 48)).heap.size := by have := HH.out.1.size; simp; omega
      cases hq : blkEq x y
      · have HX := Lib.hid (sameL_no blkEq l l' k x y hx hy hq)
        clear h h' hl hl' hx hy
        have D := Lib.hid (And.intro (hix.below B0) (And.intro (hiy.below B0) (And.intro (HH.out.1.trans (B0.mono HH.out.1.size)) hs)))
        clear hix hiy B0 hs
        generalize R k = r at D c0 c1 c2 c3
        generalize R' k = r' at D d0 d1 d2 d3
        have HQ := Lib.hid hq
        clear hq
        obtain ⟨label, edge, ins, code⟩ := x
        obtain ⟨label', edge', ins', code'⟩ := y
        obtain ⟨ia, il, ic, ka, kn, kc, rr⟩ := r
        obtain ⟨ia', il', ic', ka', kn', kc', rr'⟩ := r'
        dsimp only at c0 c1 c2 c3 d0 d1 d2 d3
        go_wp2_with fail
        refine (eq47_v _ _ _ _ _ D.out.1 D.out.2.1).mono ?_
        rintro e w1 ⟨rfl, hb⟩
        rw [HQ.out]
        have B1 := Lib.hid (D.out.2.2.1.trans (hb.mono D.out.2.2.2))
        clear hb
        go_wp2_with fail
        go_ret
        exact ⟨by rw [HX.out]; rfl, B1.out⟩
      · have RR : Hid (∀ (j : Nat) (x y : Blk), j < k + 1 → l[j]? = some x → l'[j]? = some y → blkEq x y = true) := Lib.hid (fun j x2 y2 hj h2 h3 => by
          rcases Nat.lt_or_ge j k with h4 | h4
          · exact HH.out.2 j x2 y2 h4 h2 h3
          · obtain rfl : j = k := by omega
            rw [hx] at h2; injection h2 with h2; rw [hy] at h3; injection h3 with h3
            subst h2 h3; exact hq)
        clear h h' hl hl' hx hy
        have D := Lib.hid (And.intro (hix.below B0) (And.intro (hiy.below B0) (And.intro (HH.out.1.trans (B0.mono HH.out.1.size)) hs)))
        clear hix hiy B0 hs
        generalize R k = r at D c0 c1 c2 c3
        generalize R' k = r' at D d0 d1 d2 d3
        have HQ := Lib.hid hq
        clear hq
        obtain ⟨label, edge, ins, code⟩ := x
        obtain ⟨label', edge', ins', code'⟩ := y
        obtain ⟨ia, il, ic, ka, kn, kc, rr⟩ := r
        obtain ⟨ia', il', ic', ka', kn', kc', rr'⟩ := r'
        dsimp only at c0 c1 c2 c3 d0 d1 d2 d3
        go_wp2_with fail
        refine (eq47_v _ _ _ _ _ D.out.1 D.out.2.1).mono ?_
        rintro e w1 ⟨rfl, hb⟩
        rw [HQ.out]
        have B1 := Lib.hid (D.out.2.2.1.trans (hb.mono D.out.2.2.2))
        clear hb
        go_wp2_with fail
        go_roundg (gk - 1)
        case measure => omega
        case rel => exact ⟨k + 1, by omega, by go_num, B1.out, RR.out⟩
    · obtain rfl : k = n := by omega
      have hge : ¬ (k : Int) < (k : Int) := by omega
      have HX := Lib.hid (sameL_yes blkEq l l' (by rw [H0.out.2.2.1, H0.out.2.2.2]) (fun j x y hx hy => HH.out.2 j x y (by
        have := (List.getElem?_eq_some_iff.1 hx).1; have := H0.out.2.2.1; omega) hx hy))
      go_wp2_with fail
      go_ret
      exact ⟨by rw [HX.out]; rfl, HH.out.1⟩
end Go.Proofs.Ytocelaebokikcaa
