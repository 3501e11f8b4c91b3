/- What the document's own search for the first one answers. -/
import Derived.Test.YthnpjaklcebgfaaSame
import Derived.IntWalk
namespace Go.Proofs.Ythnpjaklcebgfaa
open Go.ChangeShapes Go.WideShapes Go.RowKit
set_option linter.unusedVariables false

def FirstP (x : List It) (w : World) (e : Ending) (w' : World) : Prop := ∃ best, e = .returned (.int .i64 best) ∧ FstI x x.length best ∧ w.grownBy w' none
set_option maxHeartbeats 4000000 in
set_option maxRecDepth 100000 in
theorem first_v (A : Option Addr) (n c : Nat) (x : List It) (hn : x.length = n) (hn2 : n ≤ 100000) (w : World) (h : Its w A x) :
    Calls Try.prog 23 #[.slice A n c] w (FirstP x w) := by
  have H0 := Lib.hid (And.intro h hn)
  clear h hn
  go_enter Try.func23, Try.ntmps23
  go_wp2_with fail
  go_loopg [3, 4] n (fun gk u3 u4 wr => ∃ (k : Nat) (best : Int), k + gk = n ∧ u4 = .int .i64 (k : Int) ∧ u3 = .int .i64 best ∧ Hid (FstI x k best ∧ w.grownBy wr none))
  case atStart => exact ⟨0, -1, by omega, rfl, rfl, .inl ⟨rfl, rfl⟩, World.grownBy.refl _ _⟩
  case round =>
    obtain ⟨k, best, hk, rfl, rfl, HH⟩ := hrel
    by_cases hlt : k < n
    · obtain ⟨h, hn⟩ := H0.out
      have hkl : k < x.length := by omega
      rcases h.grow HH.out.2 with h0 | ⟨b, o, rfl, hb, hc⟩
      · rw [h0] at hkl; cases hkl
      obtain ⟨d1, d2⟩ := hc k hkl
      obtain ⟨y, hy⟩ : ∃ y, ia x k = y := ⟨_, rfl⟩
      rw [hy] at d1 d2
      obtain ⟨ya, yb⟩ := y
      have i1 : (k : Int) < (n : Int) := by omega
      by_cases hbest : best < 0
      · have HX := Lib.hid (HH.out.1.take (.inl hbest))
        clear hc hkl h hn hy
        go_wp2_with fail
        go_quiet (fail)
        go_wp2_with fail
        go_roundg (gk - 1)
        case measure => omega
        case rel => exact ⟨k + 1, (k : Int), by omega, by go_num, rfl, HX.out, gtrans HH.out.2 (quietN _ _ _)⟩
      · obtain ⟨kb, rfl⟩ : ∃ kb : Nat, best = (kb : Int) := ⟨best.toNat, by omega⟩
        have hkb : kb < k := by
          rcases HH.out.1 with ⟨_, e⟩ | ⟨k', hk', e, _⟩ <;> omega
        obtain ⟨d3, d4⟩ := hc kb (by omega)
        obtain ⟨z, hz⟩ : ∃ z, ia x kb = z := ⟨_, rfl⟩
        rw [hz] at d3 d4
        obtain ⟨za, zb⟩ := z
        have i2 : (kb : Int) < (n : Int) := by omega
        have i3 : (0 : Int) ≤ (kb : Int) := by omega
        have g1 : decide ((kb : Int) < 0) = false := decide_eq_false (by omega)
        have tk : bef (ya, yb) (za, zb) → FstI x (k + 1) (k : Int) := fun hb => HH.out.1.take (.inr ⟨kb, rfl, by rw [hy, hz]; exact hb⟩)
        have lv : ¬ bef (ya, yb) (za, zb) → FstI x (k + 1) (kb : Int) := fun hb => HH.out.1.leave (by rw [hy, hz]; exact hb)
        have HT := Lib.hid (And.intro tk lv)
        clear hc hkl h hn hy hz tk lv hbest
        by_cases t1 : za < ya
        · have HB := Lib.hid (show bef (ya, yb) (za, zb) from .inl t1)
          go_wp2_with fail
          go_quiet (fail)
          go_wp2_with fail
          go_roundg (gk - 1)
          case measure => omega
          case rel => exact ⟨k + 1, (k : Int), by omega, by go_num, rfl, HT.out.1 HB.out, gtrans HH.out.2 (quietN _ _ _)⟩
        · have t1' : decide (za < ya) = false := decide_eq_false t1
          by_cases t2 : ya = za
          · subst t2
            by_cases t3 : yb < zb
            · have HB := Lib.hid (show bef (ya, yb) (ya, zb) from .inr ⟨rfl, t3⟩)
              clear t1
              go_wp2_with fail
              go_quiet (fail)
              go_wp2_with fail
              go_roundg (gk - 1)
              case measure => omega
              case rel => exact ⟨k + 1, (k : Int), by omega, by go_num, rfl, HT.out.1 HB.out, gtrans HH.out.2 (quietN _ _ _)⟩
            · have HB := Lib.hid (show ¬ bef (ya, yb) (ya, zb) by unfold bef; show ¬ (ya < ya ∨ ya = ya ∧ yb < zb); omega)
              have t3' : decide (yb < zb) = false := decide_eq_false t3
              clear t1 t3
              go_wp2_with fail
              go_quiet (fail)
              go_wp2_with fail
              go_roundg (gk - 1)
              case measure => omega
              case rel => exact ⟨k + 1, (kb : Int), by omega, by go_num, rfl, HT.out.2 HB.out, gtrans HH.out.2 (quietN _ _ _)⟩
          · have HB := Lib.hid (show ¬ bef (ya, yb) (za, zb) by unfold bef; show ¬ (za < ya ∨ ya = za ∧ yb < zb); omega)
            have t2' : (ya == za) = false := by simpa using t2
            clear t1 t2
            go_wp2_with fail
            go_quiet (fail)
            go_wp2_with fail
            go_roundg (gk - 1)
            case measure => omega
            case rel => exact ⟨k + 1, (kb : Int), by omega, by go_num, rfl, HT.out.2 HB.out, gtrans HH.out.2 (quietN _ _ _)⟩
    · obtain rfl : k = n := by omega
      have hge : ¬ (k : Int) < (k : Int) := by omega
      go_wp2_with fail
      go_ret
      exact ⟨best, rfl, by rw [H0.out.2]; exact HH.out.1, HH.out.2⟩
end Go.Proofs.Ythnpjaklcebgfaa
