/- What the library's up and down do with what waits. -/
import Derived.Test.YthnpjaklcebgfaaPush
import Derived.Deep.LoopGhost
namespace Go.Proofs.Ythnpjaklcebgfaa
open Go.ChangeShapes Go.WideShapes Go.RowKit
set_option linter.unusedVariables false

theorem mLen (a : Addr) (W : World) : (Go.method 185 47 (.pointer (some a)) "Len").run Try.prog W = .ok (25, .pointer (some a)) W := by kernel_rfl
theorem mLess (a : Addr) (W : World) : (Go.method 185 47 (.pointer (some a)) "Less").run Try.prog W = .ok (44, .pointer (some a)) W := by kernel_rfl
theorem mSwap (a : Addr) (W : World) : (Go.method 185 47 (.pointer (some a)) "Swap").run Try.prog W = .ok (47, .pointer (some a)) W := by kernel_rfl
theorem mPush (a : Addr) (W : World) : (Go.method 185 47 (.pointer (some a)) "Push").run Try.prog W = .ok (46, .pointer (some a)) W := by kernel_rfl
theorem mPop (a : Addr) (W : World) : (Go.method 185 47 (.pointer (some a)) "Pop").run Try.prog W = .ok (45, .pointer (some a)) W := by kernel_rfl
theorem i64_eq {a b : Int} (h : a = b) : Value.int .i64 a = Value.int .i64 b := by rw [h]
/-- What up, and down, leave: the same items, in an order in which none stands ahead of the one above it. -/
structure Laid (B q g cap : Nat) (l : List It) (w w' : World) (m : List It) : Prop where
  at_ : PAt B w' q g cap m
  perm : m.Perm l
  gr : w.grownBy w' (some g)
theorem Laid.grow {B q g cap : Nat} {l m : List It} {w w1 w2 : World} (h : Laid B q g cap l w w1 m) (hg : w1.grownBy w2 none) : Laid B q g cap l w w2 m := ⟨h.at_.grow hg, h.perm, gtrans h.gr (gweak _ hg)⟩
theorem Laid.swap {B q g cap : Nat} {l m : List It} {w w1 w2 : World} {i j : Nat} (h : Laid B q g cap l w w1 m) (hi : i < m.length) (hj : j < m.length) (hp : PAt B w2 q g cap (swp m i j)) (hg : w1.grownBy w2 (some g)) : Laid B q g cap l w w2 (swp m i j) :=
  ⟨hp, (swp_perm hi hj).trans h.perm, gtrans h.gr hg⟩
def UpP (B q g cap : Nat) (l : List It) (w : World) (e : Ending) (w' : World) : Prop := ∃ m, e = .returned (.tuple #[]) ∧ Laid B q g cap l w w' m ∧ Hp m l.length 0
set_option maxHeartbeats 1000000 in
theorem up_v (B q g cap j : Nat) (l : List It) (hj : j < l.length) (hU : UpI l l.length j) (w : World) (h : PAt B w q g cap l) :
    Calls Try.prog 27 #[.iface 47 (.pointer (some ⟨q, 0, none⟩)), .int .i64 (j : Int)] w (UpP B q g cap l w) := by
  have hs := h.small
  have H0 := Lib.hid (And.intro (show Laid B q g cap l w w l from ⟨h, List.Perm.refl _, World.grownBy.refl _ _⟩) hU)
  obtain ⟨n, hn⟩ : ∃ n, l.length = n := ⟨_, rfl⟩
  have HN := Lib.hid hn
  rw [hn] at hj hs
  clear h hU hn
  go_enter Try.func27, Try.ntmps27
  go_wp2_with fail
  go_loopg [1] (j + 1) (fun gk u wr => ∃ (k : Nat) (m : List It), k < gk ∧ k < n ∧ u = .int .i64 (k : Int) ∧ Hid (Laid B q g cap l w wr m ∧ UpI m n k))
  case atStart => exact ⟨j, l, by omega, hj, rfl, H0.out.1, by rw [← HN.out]; exact H0.out.2⟩
  case round =>
    obtain ⟨k, m, hk, hkn, rfl, HH⟩ := hrel
    by_cases k0 : k = 0
    · subst k0
      have e1 : ((((0 : Nat) : Int) - 1).tdiv 2 : Int) = 0 := by decide
      go_wp2_with fail
      go_end0
      exact ⟨m, rfl, HH.out.1, by rw [HN.out]; exact HH.out.2.done (.inl rfl)⟩
    · obtain ⟨p, hp⟩ : ∃ p, par k = p := ⟨_, rfl⟩
      have hpk : p < k := by rw [← hp]; exact par_lt (by omega)
      have e1 : ((k : Int) - 1) / 2 = (p : Int) := by rw [← hp]; unfold par; omega
      have e2 : ((p : Int) == (k : Int)) = false := by rw [beq_eq_false_iff_ne]; omega
      have hml : m.length = n := by rw [HH.out.1.perm.length_eq, HN.out]
      have m1 := mLess ⟨q, 0, none⟩
      have m2 := mSwap ⟨q, 0, none⟩
      have HP := Lib.hid (And.intro hp hml)
      have E1 := Lib.hid e1
      clear hp hml
      by_cases hb : bef (ia m k) (ia m p)
      · go_wp2_with fail
        refine (less_v B q g cap k p m true (by simpa using hb) (by rw [HP.out.2]; exact hkn) (by rw [HP.out.2]; omega) _ HH.out.1.at_).mono ?_
        rintro e w1 ⟨rfl, hg1⟩
        have H1 := Lib.hid (HH.out.1.grow hg1)
        clear hg1
        go_wp2_with fail
        refine (swap_v B q g cap p k m (by rw [HP.out.2]; omega) (by rw [HP.out.2]; exact hkn) _ H1.out.at_).mono ?_
        rintro e w2 ⟨rfl, hp2, hg2⟩
        have H2 := Lib.hid (H1.out.swap (by rw [HP.out.2]; omega) (by rw [HP.out.2]; exact hkn) hp2 hg2)
        clear hp2 hg2
        go_wp2_with fail
        go_roundg (p + 1)
        case measure => omega
        case rel =>
          refine ⟨p, _, by omega, by omega, rfl, H2.out, ?_⟩
          have := HH.out.2.step (by rw [HP.out.2]; exact Nat.le_refl _) hkn (by omega) (by rw [HP.out.1]; exact hb)
          rw [HP.out.1] at this; exact this
      · go_wp2_with fail
        refine (less_v B q g cap k p m false (by simpa using hb) (by rw [HP.out.2]; exact hkn) (by rw [HP.out.2]; omega) _ HH.out.1.at_).mono ?_
        rintro e w1 ⟨rfl, hg1⟩
        have H1 := Lib.hid (HH.out.1.grow hg1)
        clear hg1
        go_wp2_with fail
        go_end0
        exact ⟨m, rfl, H1.out, by rw [HN.out]; exact HH.out.2.done (.inr (by rw [HP.out.1]; exact hb))⟩
end Go.Proofs.Ythnpjaklcebgfaa
