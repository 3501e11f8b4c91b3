/- Two lists of instructions held against each other. -/
import Derived.Test.YtocelaebokikcaaInstr
namespace Go.Proofs.Ytocelaebokikcaa
open Go.ChangeShapes Go.WideShapes Go.RowKit
set_option linter.unusedVariables false
set_option maxRecDepth 20000

set_option maxHeartbeats 2000000 in
theorem eq49_v (A A' : Option Addr) (n n' c c' : Nat) (R R' : Nat → InsV) (l l' : List Ins) (w : World) (h : IsCode w A n R l) (h' : IsCode w A' n' R' l') :
    Calls Try.prog 49 #[.slice A n c, .slice A' n' c'] w fun e w' => e = .returned (.bool (sameL insEq l l')) ∧ Below w.heap.size w w' := by
  have hl := h.1
  have hl' := h'.1
  have hm := h.2.1
  by_cases hn : ¬ n = n'
  · rw [sameL_len insEq l l' (by omega)]
    have i1 : ¬ (n : Int) = (n' : Int) := by omega
    clear h h' hl hl'
    go_enter Try.func49, Try.ntmps49
    go_wp2_with fail
    go_ret
    exact ⟨rfl, Below.refl _ _⟩
  have hn := Decidable.not_not.1 hn
  subst hn
  have H0 := Lib.hid (And.intro h (And.intro h' (And.intro hl hl')))
  clear h h' hl hl'
  go_enter Try.func49, Try.ntmps49
  go_wp2_with fail
  go_loopg [5] n (fun gk u wr => ∃ k : Nat, k + gk = n ∧ u = .int .i64 (k : Int) ∧ Hid (Below w.heap.size w wr ∧ ∀ (j : Nat) (x y : Ins), j < k → l[j]? = some x → l'[j]? = some y → insEq x y = true))
  case atStart => exact ⟨0, by omega, rfl, Below.refl _ _, fun j x y hj => by omega⟩
  case round =>
    obtain ⟨k, hk, rfl, HH⟩ := hrel
    by_cases hlt : k < n
    · obtain ⟨h, h', hl, hl'⟩ := H0.out
      obtain ⟨b, o, rfl, hb, x, hx, hix, c0, c1, c2, c3, c4, c5, c6, c7, c8, c9⟩ := (h.below HH.out.1).at hlt
      obtain ⟨b', o', rfl, hb', y, hy, hiy, d0, d1, d2, d3, d4, d5, d6, d7, d8, d9⟩ := (h'.below HH.out.1).at hlt
      have i1 : (k : Int) < (n : Int) := by omega
      have B0 : Below wr.heap.size wr wr.drew := (Below.refl _ wr).drew
      have hs : w.heap.size ≤ wr.drew.heap.size := by have := HH.out.1.size; exact this
      cases hq : insEq x y
      · have HX := Lib.hid (sameL_no insEq l l' k x y hx hy hq)
        clear h h' hl hl' hx hy
        have D := Lib.hid (And.intro (hix.below B0) (And.intro (hiy.below B0) (And.intro (HH.out.1.trans (B0.mono HH.out.1.size)) hs)))
        clear hix hiy B0 hs
        generalize R k = r at D c0 c1 c2 c3 c4 c5 c6 c7 c8 c9
        generalize R' k = r' at D d0 d1 d2 d3 d4 d5 d6 d7 d8 d9
        have HQ := Lib.hid hq
        clear hq
        obtain ⟨op, ⟨ok, oc, on, ot⟩, args, name, off, labels, cas⟩ := x
        obtain ⟨op', ⟨ok', oc', on', ot'⟩, args', name', off', labels', cas'⟩ := y
        obtain ⟨aa, an, ac, la, ln, lc, ca, cn, cc⟩ := r
        obtain ⟨aa', an', ac', la', ln', lc', ca', cn', cc'⟩ := r'
        dsimp only at c0 c1 c2 c3 c4 c5 c6 c7 c8 c9 d0 d1 d2 d3 d4 d5 d6 d7 d8 d9
        go_wp2_with fail
        go_still_tail 8, (by kernel_rfl)
        go_wp2_with fail
        refine (eq31_v _ _ _ _ _ D.out.1 D.out.2.1).mono ?_
        rintro e w1 ⟨rfl, hb⟩
        rw [HQ.out]
        have B1 := Lib.hid (D.out.2.2.1.trans (hb.mono D.out.2.2.2))
        clear hb
        go_wp2_with fail
        go_ret
        exact ⟨by rw [HX.out]; rfl, B1.out⟩
      · have RR : Hid (∀ (j : Nat) (x y : Ins), j < k + 1 → l[j]? = some x → l'[j]? = some y → insEq x y = true) := Lib.hid (fun j x2 y2 hj h2 h3 => by
          rcases Nat.lt_or_ge j k with h4 | h4
          · exact HH.out.2 j x2 y2 h4 h2 h3
          · obtain rfl : j = k := by omega
            rw [hx] at h2; injection h2 with h2; rw [hy] at h3; injection h3 with h3
            subst h2 h3; exact hq)
        clear h h' hl hl' hx hy
        have D := Lib.hid (And.intro (hix.below B0) (And.intro (hiy.below B0) (And.intro (HH.out.1.trans (B0.mono HH.out.1.size)) hs)))
        clear hix hiy B0 hs
        generalize R k = r at D c0 c1 c2 c3 c4 c5 c6 c7 c8 c9
        generalize R' k = r' at D d0 d1 d2 d3 d4 d5 d6 d7 d8 d9
        have HQ := Lib.hid hq
        clear hq
        obtain ⟨op, ⟨ok, oc, on, ot⟩, args, name, off, labels, cas⟩ := x
        obtain ⟨op', ⟨ok', oc', on', ot'⟩, args', name', off', labels', cas'⟩ := y
        obtain ⟨aa, an, ac, la, ln, lc, ca, cn, cc⟩ := r
        obtain ⟨aa', an', ac', la', ln', lc', ca', cn', cc'⟩ := r'
        dsimp only at c0 c1 c2 c3 c4 c5 c6 c7 c8 c9 d0 d1 d2 d3 d4 d5 d6 d7 d8 d9
        go_wp2_with fail
        go_still_tail 8, (by kernel_rfl)
        go_wp2_with fail
        refine (eq31_v _ _ _ _ _ D.out.1 D.out.2.1).mono ?_
        rintro e w1 ⟨rfl, hb⟩
        rw [HQ.out]
        have B1 := Lib.hid (D.out.2.2.1.trans (hb.mono D.out.2.2.2))
        clear hb
        go_wp2_with fail
        go_roundg (gk - 1)
        case measure => omega
        case rel => exact ⟨k + 1, by omega, by go_num, B1.out, RR.out⟩
    · obtain rfl : k = n := by omega
      have hge : ¬ (k : Int) < (k : Int) := by omega
      have HX := Lib.hid (sameL_yes insEq l l' (by rw [H0.out.2.2.1, H0.out.2.2.2]) (fun j x y hx hy => HH.out.2 j x y (by
        have := (List.getElem?_eq_some_iff.1 hx).1; have := H0.out.2.2.1; omega) hx hy))
      go_wp2_with fail
      go_ret
      exact ⟨by rw [HX.out]; rfl, HH.out.1⟩
set_option maxHeartbeats 2000000 in
theorem eq68_v (A A' : Option Addr) (n n' c c' : Nat) (R R' : Nat → InsV) (l l' : List Ins) (w : World) (h : IsCode w A n R l) (h' : IsCode w A' n' R' l') :
    Calls Try.prog 68 #[.slice A n c, .slice A' n' c', .func (.func 42) #[] #[]] w fun e w' => e = .returned (.bool (sameL insEq l l')) ∧ Below w.heap.size w w' := by
  have hl := h.1
  have hl' := h'.1
  have hm := h.2.1
  by_cases hn : ¬ n = n'
  · rw [sameL_len insEq l l' (by omega)]
    have i1 : ¬ (n : Int) = (n' : Int) := by omega
    clear h h' hl hl'
    go_enter Try.func68, Try.ntmps68
    go_wp2_with fail
    go_ret
    exact ⟨rfl, Below.refl _ _⟩
  have hn := Decidable.not_not.1 hn
  subst hn
  have H0 := Lib.hid (And.intro h (And.intro h' (And.intro hl hl')))
  clear h h' hl hl'
  go_enter Try.func68, Try.ntmps68
  go_wp2_with fail
  go_loopg [17] n (fun gk u wr => ∃ k : Nat, k + gk = n ∧ u = .int .i64 (k : Int) ∧ Hid (Below w.heap.size w wr ∧ ∀ (j : Nat) (x y : Ins), j < k → l[j]? = some x → l'[j]? = some y → insEq x y = true))
  case atStart => exact ⟨0, by omega, rfl, Below.refl _ _, fun j x y hj => by omega⟩
  case round =>
    obtain ⟨k, hk, rfl, HH⟩ := hrel
    by_cases hlt : k < n
    · obtain ⟨h, h', hl, hl'⟩ := H0.out
      obtain ⟨b, o, rfl, hb, x, hx, hix, c0, c1, c2, c3, c4, c5, c6, c7, c8, c9⟩ := (h.below HH.out.1).at hlt
      obtain ⟨b', o', rfl, hb', y, hy, hiy, d0, d1, d2, d3, d4, d5, d6, d7, d8, d9⟩ := (h'.below HH.out.1).at hlt
      have i1 : (k : Int) < (n : Int) := by omega
      have B0 : Below wr.heap.size wr ((wr.alloc (.cells (insR x (R k)) 51)).alloc (.cells (insR y (R' k)) 51)) := ((Below.refl _ wr).alloc (Nat.le_refl _) _).alloc (by simp) _
      have hs : w.heap.size ≤ ((wr.alloc (.cells (insR x (R k)) 51)).alloc (.cells (insR y (R' k)) 51)).heap.size := by have := HH.out.1.size; simp; omega
      cases hq : insEq x y
      · have HX := Lib.hid (sameL_no insEq l l' k x y hx hy hq)
        clear h h' hl hl' hx hy
        have D := Lib.hid (And.intro (hix.below B0) (And.intro (hiy.below B0) (And.intro (HH.out.1.trans (B0.mono HH.out.1.size)) hs)))
        clear hix hiy B0 hs
        generalize R k = r at D c0 c1 c2 c3 c4 c5 c6 c7 c8 c9
        generalize R' k = r' at D d0 d1 d2 d3 d4 d5 d6 d7 d8 d9
        have HQ := Lib.hid hq
        clear hq
        obtain ⟨op, ⟨ok, oc, on, ot⟩, args, name, off, labels, cas⟩ := x
        obtain ⟨op', ⟨ok', oc', on', ot'⟩, args', name', off', labels', cas'⟩ := y
        obtain ⟨aa, an, ac, la, ln, lc, ca, cn, cc⟩ := r
        obtain ⟨aa', an', ac', la', ln', lc', ca', cn', cc'⟩ := r'
        dsimp only at c0 c1 c2 c3 c4 c5 c6 c7 c8 c9 d0 d1 d2 d3 d4 d5 d6 d7 d8 d9
        go_wp2_with fail
        refine (eq42_v _ _ _ _ _ D.out.1 D.out.2.1).mono ?_
        rintro e w1 ⟨rfl, hb⟩
        rw [HQ.out]
        have B1 := Lib.hid (D.out.2.2.1.trans (hb.mono D.out.2.2.2))
        clear hb
        go_wp2_with fail
        go_ret
        exact ⟨by rw [HX.out]; rfl, B1.out⟩
      · have RR : Hid (∀ (j : Nat) (x y : Ins), j < k + 1 → l[j]? = some x → l'[j]? = some y → insEq x y = true) := Lib.hid (fun j x2 y2 hj h2 h3 => by
          rcases Nat.lt_or_ge j k with h4 | h4
          · exact HH.out.2 j x2 y2 h4 h2 h3
          · obtain rfl : j = k := by omega
            rw [hx] at h2; injection h2 with h2; rw [hy] at h3; injection h3 with h3
            subst h2 h3; exact hq)
        clear h h' hl hl' hx hy
        have D := Lib.hid (And.intro (hix.below B0) (And.intro (hiy.below B0) (And.intro (HH.out.1.trans (B0.mono HH.out.1.size)) hs)))
        clear hix hiy B0 hs
        generalize R k = r at D c0 c1 c2 c3 c4 c5 c6 c7 c8 c9
        generalize R' k = r' at D d0 d1 d2 d3 d4 d5 d6 d7 d8 d9
        have HQ := Lib.hid hq
        clear hq
        obtain ⟨op, ⟨ok, oc, on, ot⟩, args, name, off, labels, cas⟩ := x
        obtain ⟨op', ⟨ok', oc', on', ot'⟩, args', name', off', labels', cas'⟩ := y
        obtain ⟨aa, an, ac, la, ln, lc, ca, cn, cc⟩ := r
        obtain ⟨aa', an', ac', la', ln', lc', ca', cn', cc'⟩ := r'
        dsimp only at c0 c1 c2 c3 c4 c5 c6 c7 c8 c9 d0 d1 d2 d3 d4 d5 d6 d7 d8 d9
        go_wp2_with fail
        refine (eq42_v _ _ _ _ _ D.out.1 D.out.2.1).mono ?_
        rintro e w1 ⟨rfl, hb⟩
        rw [HQ.out]
        have B1 := Lib.hid (D.out.2.2.1.trans (hb.mono D.out.2.2.2))
        clear hb
        go_wp2_with fail
        go_roundg (gk - 1)
        case measure => omega
        case rel => exact ⟨k + 1, by omega, by go_num, B1.out, RR.out⟩
    · obtain rfl : k = n := by omega
      have hge : ¬ (k : Int) < (k : Int) := by omega
      have HX := Lib.hid (sameL_yes insEq l l' (by rw [H0.out.2.2.1, H0.out.2.2.2]) (fun j x y hx hy => HH.out.2 j x y (by
        have := (List.getElem?_eq_some_iff.1 hx).1; have := H0.out.2.2.1; omega) hx hy))
      go_wp2_with fail
      go_ret
      exact ⟨by rw [HX.out]; rfl, HH.out.1⟩
end Go.Proofs.Ytocelaebokikcaa
