/- What Swap does with what waits. -/
import Derived.Test.YthnpjaklcebgfaaBasic
import Derived.BigRegion
namespace Go.Proofs.Ythnpjaklcebgfaa
open Go.ChangeShapes Go.WideShapes Go.RowKit
set_option linter.unusedVariables false

set_option maxHeartbeats 4000000 in
set_option maxRecDepth 100000 in
theorem swap_v (B q g cap i j : Nat) (l : List It) (hi : i < l.length) (hj : j < l.length) (w : World) (h : PAt B w q g cap l) :
    Calls Try.prog 47 #[.pointer (some ⟨q, 0, none⟩), .int .i64 (i : Int), .int .i64 (j : Int)] w fun e w' => e = .returned (.tuple #[]) ∧ PAt B w' q g cap (swp l i j) ∧ w.grownBy w' (some g) := by
  have H0 := Lib.hid (And.intro h (And.intro hi hj))
  have c0 := h.slice
  have k1 := h.key hi
  have k2 := h.val hi
  have k3 := h.key hj
  have k4 := h.val hj
  have f1 := h.thaw (i * 2)
  have f2 := h.thaw (i * 2 + 1)
  have f3 := h.thaw (j * 2)
  have f4 := h.thaw (j * 2 + 1)
  have hs := h.small
  obtain ⟨n, hn⟩ : ∃ n, l.length = n := ⟨_, rfl⟩
  rw [hn] at c0 hi hj hs
  have HN := Lib.hid hn
  generalize hx : ia l i = x at *
  generalize hy : ia l j = y at *
  have HX := Lib.hid (And.intro hx hy)
  obtain ⟨a, b⟩ := x
  obtain ⟨c, d⟩ := y
  have i1 : (i : Int) < (n : Int) := by omega
  have i2 : (j : Int) < (n : Int) := by omega
  clear h hn hx hy
  obtain ⟨v1, hv1⟩ := cell?_setCell_some (p := ⟨g, i * 2, none⟩) (x := .int .i64 c) k3
  obtain ⟨v2, hv2⟩ : ∃ v, ((w.setCell ⟨g, i * 2, none⟩ (.int .i64 c)).setCell ⟨g, i * 2 + 1, none⟩ (.int .i64 d)).cell? ⟨g, j * 2 + 1, none⟩ = some v := by
    obtain ⟨v, hv⟩ := cell?_setCell_some (p := ⟨g, i * 2, none⟩) (x := .int .i64 c) k4
    exact cell?_setCell_some hv
  go_enter Try.func47, Try.ntmps47
  go_wp2_with fail
  go_region
  go_end0
  obtain ⟨h, hi, hj⟩ := H0.out
  have hp := h.swap hi hj
  rw [HX.out.1, HX.out.2] at hp
  exact ⟨rfl, hp.drew, gtrans gput (gdrew _ _)⟩
end Go.Proofs.Ythnpjaklcebgfaa
