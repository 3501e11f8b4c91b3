
/- Two lists of numbers held against each other. -/
import Derived.Test.YtojfbcfbnadboaaGraFns
import Derived.Deep.RegionWith
namespace Go.Proofs.Ytojfbcfbnadboaa.Gra
open Go.ChangeShapes Go.WideShapes Go.RowKit
set_option linter.unusedVariables false
set_option maxRecDepth 20000
theorem drewSB {B : Nat} {a w : World} (h : Below B a w) (n : Nat) : Below B a (w.drewN n) := ⟨h.os, h.tape, h.output, h.size, h.block⟩

set_option maxHeartbeats 1000000 in
theorem rints0_v (A A' : Option Addr) (n n' c c' : Nat) (l l' : List Int) (w : World) (h : IsInts w A n l) (h' : IsInts w A' n' l') :
    Calls Try.prog 13 #[.slice A n c, .slice A' n' c'] w fun e w' => e = .returned (.bool (sameL intEq l l')) ∧ Below w.heap.size w w' := by
  have hl := h.1
  have hl' := h'.1
  have hm := h.2.1
  by_cases hn : ¬ n = n'
  · rw [sameL_len intEq l l' (by omega)]
    have i1 : ¬ (n : Int) = (n' : Int) := by omega
    clear h h' hl hl'
    go_enter Try.func13, Try.ntmps13
    go_wp2_with fail
    go_ret
    exact ⟨rfl, Below.refl _ _⟩
  have hn := Decidable.not_not.1 hn
  subst hn
  have H0 := Lib.hid (And.intro h (And.intro h' (And.intro hl hl')))
  clear h h' hl hl'
  go_enter Try.func13, Try.ntmps13
  go_wp2_with fail
  go_loopg [5] n (fun gk u wr => ∃ k : Nat, k + gk = n ∧ u = .int .i64 (k : Int) ∧ Hid (Below w.heap.size w wr ∧ ∀ (j : Nat) (x y : Int), j < k → l[j]? = some x → l'[j]? = some y → intEq x y = true))
  case atStart => exact ⟨0, by omega, rfl, Below.refl _ _, fun j x y hj => by omega⟩
  case round =>
    obtain ⟨k, hk, rfl, HH⟩ := hrel
    by_cases hlt : k < n
    · obtain ⟨h, h', hl, hl'⟩ := H0.out
      obtain ⟨b, o, rfl, hb, x, hx, c0⟩ := (h.below HH.out.1).at hlt
      obtain ⟨b', o', rfl, hb', y, hy, d0⟩ := (h'.below HH.out.1).at hlt
      have i1 : (k : Int) < (n : Int) := by omega
      cases hq : intEq x y
      · have R : sameL intEq l l' = false := sameL_no intEq l l' k x y hx hy hq
        have HX := Lib.hid R
        clear h h' hl hl' R hx hy
        have E : (x == y) = false := hq
        have E' : ¬ x = y := by simpa using E
        clear hq
        go_wp2_with fail
        go_quiet (fail)
        go_wp2_with fail
        go_ret
        exact ⟨by rw [HX.out]; rfl, (drewSB HH.out.1 _)⟩
      · have R : Hid (∀ (j : Nat) (x y : Int), j < k + 1 → l[j]? = some x → l'[j]? = some y → intEq x y = true) := Lib.hid (fun j x2 y2 hj h2 h3 => by
          rcases Nat.lt_or_ge j k with h4 | h4
          · exact HH.out.2 j x2 y2 h4 h2 h3
          · obtain rfl : j = k := by omega
            rw [hx] at h2; injection h2 with h2; rw [hy] at h3; injection h3 with h3
            subst h2 h3; exact hq)
        clear h h' hl hl' hx hy
        have E : (x == y) = true := hq
        have E' : x = y := by simpa using E
        clear hq
        go_wp2_with fail
        go_quiet (fail)
        go_wp2_with fail
        go_roundg (gk - 1)
        case measure => omega
        case rel => exact ⟨k + 1, by omega, by go_num, (drewSB HH.out.1 _), R.out⟩
    · obtain rfl : k = n := by omega
      have hge : ¬ (k : Int) < (k : Int) := by omega
      have R : sameL intEq l l' = true := sameL_yes intEq l l' (by rw [H0.out.2.2.1, H0.out.2.2.2]) (fun j x y hx hy => HH.out.2 j x y (by
        have := (List.getElem?_eq_some_iff.1 hx).1; have := H0.out.2.2.1; omega) hx hy)
      have HX := Lib.hid R
      clear R
      go_wp2_with fail
      go_ret
      exact ⟨by rw [HX.out]; rfl, HH.out.1⟩
theorem sameL_int (l m : List Int) : sameL intEq l m = decide (l = m) := by
  by_cases h : l = m
  · subst h
    rw [sameL_refl intEq (fun x => by unfold intEq; simp)]
    simp
  · rw [decide_eq_false h]
    cases hs : sameL intEq l m with
    | false => rfl
    | true =>
      exfalso
      apply h
      by_cases hl : l.length = m.length
      · apply List.ext_getElem hl
        intro k h1 h2
        cases hq : intEq l[k] m[k] with
        | true => exact eq_of_beq hq
        | false => rw [sameL_no intEq l m k _ _ (List.getElem?_eq_getElem h1) (List.getElem?_eq_getElem h2) hq] at hs; cases hs
      · rw [sameL_len intEq l m hl] at hs
        cases hs
theorem nn_inj {l m : List Nat} : nn l = nn m ↔ l = m := by
  constructor
  · intro h
    unfold nn at h
    exact (List.map_inj_right (fun a b e => by have e : (a : Int) = (b : Int) := e; omega)).1 h
  · rintro rfl; rfl
theorem rints_v (A A' : Option Addr) (n n' c c' : Nat) (l l' : List Nat) (w : World) (h : IsInts w A n (nn l)) (h' : IsInts w A' n' (nn l')) :
    Calls Try.prog 13 #[.slice A n c, .slice A' n' c'] w fun e w' => e = .returned (.bool (decide (l = l'))) ∧ Below w.heap.size w w' := by
  have h1 := rints0_v A A' n n' c c' _ _ w h h'
  rw [sameL_int, decide_eq_decide.2 nn_inj] at h1
  exact h1
end Go.Proofs.Ytojfbcfbnadboaa.Gra
