/- What the library's down does with what waits. -/
import Derived.Test.YthnpjaklcebgfaaUp
namespace Go.Proofs.Ythnpjaklcebgfaa
open Go.ChangeShapes Go.WideShapes Go.RowKit
set_option linter.unusedVariables false

/-- Going down: what is so far. -/
structure Dn (B q g cap : Nat) (l : List It) (n lo : Nat) (w w' : World) (m : List It) (i : Nat) : Prop where
  laid : Laid B q g cap l w w' m
  dn : ∃ M : Prop, DnI M m n lo i ∧ (M → i = 0 ∨ par i < lo)
  far : ∀ k, n ≤ k → ia m k = ia l k
theorem Dn.grow {B q g cap : Nat} {l m : List It} {n lo i : Nat} {w w1 w2 : World} (h : Dn B q g cap l n lo w w1 m i) (hg : w1.grownBy w2 none) : Dn B q g cap l n lo w w2 m i := ⟨h.laid.grow hg, h.dn, h.far⟩
theorem Dn.done {B q g cap : Nat} {l m : List It} {n lo i : Nat} {w w1 : World} (h : Dn B q g cap l n lo w w1 m i) (hc : ∀ k, 0 < k → k < n → par k = i → ¬bef (ia m k) (ia m i)) : Hp m n lo := by
  obtain ⟨M, hd, hm⟩ := h.dn
  exact hd.done hc hm
theorem Dn.step {B q g cap : Nat} {l m : List It} {n lo i j : Nat} {w w1 w2 : World} (h : Dn B q g cap l n lo w w1 m i) (hn : n ≤ m.length) (hj : j < n) (hj0 : 0 < j) (hp : par j = i) (hb : bef (ia m j) (ia m i))
    (ho : ∀ k, 0 < k → k < n → par k = i → ¬bef (ia m k) (ia m j)) (ha : PAt B w2 q g cap (swp m i j)) (hg : w1.grownBy w2 (some g)) : Dn B q g cap l n lo w w2 (swp m i j) j := by
  obtain ⟨M, hd, hm⟩ := h.dn
  have hij : i < j := hp ▸ par_lt hj0
  refine ⟨h.laid.swap (by omega) (by omega) ha hg, ⟨False, hd.step hn hj hj0 hp hb ho, False.elim⟩, fun k hk => ?_⟩
  rw [ia_swp (by omega) (by omega), if_neg (by omega), if_neg (by omega)]
  exact h.far k hk
def DownP (B q g cap : Nat) (l : List It) (n lo : Nat) (w : World) (e : Ending) (w' : World) : Prop := ∃ m r, e = .returned (.bool r) ∧ Laid B q g cap l w w' m ∧ Hp m n lo ∧ ∀ k, n ≤ k → ia m k = ia l k
set_option maxHeartbeats 2000000 in
theorem down_v (B q g cap i0 n lo : Nat) (l : List It) (hn : n ≤ l.length) (hi : i0 ≤ n) (hd : DnI True l n lo i0) (hlo : i0 = 0 ∨ par i0 < lo) (w : World) (h : PAt B w q g cap l) :
    Calls Try.prog 26 #[.iface 47 (.pointer (some ⟨q, 0, none⟩)), .int .i64 (i0 : Int), .int .i64 (n : Int)] w (DownP B q g cap l n lo w) := by
  have hs := h.small
  have H0 := Lib.hid (show Dn B q g cap l n lo w w l i0 from ⟨⟨h, List.Perm.refl _, World.grownBy.refl _ _⟩, ⟨True, hd, fun _ => hlo⟩, fun _ _ => rfl⟩)
  have hs2 : n ≤ 1000 := by omega
  have HN := Lib.hid hn
  clear h hd hlo hn hs
  have m1 := mLess ⟨q, 0, none⟩
  have m2 := mSwap ⟨q, 0, none⟩
  go_enter Try.func26, Try.ntmps26
  go_wp2_with fail
  go_loopg [7] (n + 1 - i0) (fun gk u wr => ∃ (i : Nat) (m : List It), n + 1 - i ≤ gk ∧ i ≤ n ∧ u = .int .i64 (i : Int) ∧ Hid (Dn B q g cap l n lo w wr m i))
  case atStart => exact ⟨i0, l, by omega, hi, rfl, H0.out⟩
  case round =>
    obtain ⟨i, m, hk, hin, rfl, HH⟩ := hrel
    have hml : n ≤ m.length := by rw [HH.out.laid.perm.length_eq]; exact HN.out
    have HM := Lib.hid hml
    clear hml
    obtain ⟨j1, hj1⟩ : ∃ j, 2 * i + 1 = j := ⟨_, rfl⟩
    obtain ⟨j2, hj2⟩ : ∃ j, j1 + 1 = j := ⟨_, rfl⟩
    have e1 : 2 * (i : Int) + 1 = (j1 : Int) := by omega
    have e2 : (j1 : Int) + 1 = (j2 : Int) := by omega
    have HJ := Lib.hid (And.intro hj1 hj2)
    have pk : ∀ k, 0 < k → par k = i → k = j1 ∨ k = j2 := fun k k0 kp => by have := (par_iff k0).1 kp; omega
    have p1 : par j1 = i := (par_iff (by omega)).2 (by omega)
    have p2 : par j2 = i := (par_iff (by omega)).2 (by omega)
    have HP := Lib.hid (And.intro pk (And.intro p1 p2))
    have b1 : i < j1 := by omega
    have b2 : j2 ≤ 2002 := by omega
    have b3 : j1 < j2 := by omega
    clear hj1 hj2 pk p1 p2
    by_cases c1 : j1 < n
    · have c1' : (j1 : Int) < (n : Int) := by omega
      by_cases c2 : j2 < n
      · have c2' : (j2 : Int) < (n : Int) := by omega
        by_cases t2 : bef (ia m j2) (ia m j1)
        · have T := Lib.hid t2
          clear t2
          by_cases hb : bef (ia m j2) (ia m i)
          · have HB := Lib.hid hb
            clear hb
            go_wp2_with fail
            refine (less_v B q g cap j2 j1 m true (by simpa using T.out) (by have := HM.out; omega) (by have := HM.out; omega) _ HH.out.laid.at_).mono ?_
            rintro e w1 ⟨rfl, hg1⟩
            have H1 := Lib.hid (HH.out.grow hg1)
            clear hg1
            go_wp2_with fail
            refine (less_v B q g cap j2 i m true (by simpa using HB.out) (by have := HM.out; omega) (by have := HM.out; omega) _ H1.out.laid.at_).mono ?_
            rintro e w2 ⟨rfl, hg2⟩
            have H2 := Lib.hid (H1.out.grow hg2)
            clear hg2
            go_wp2_with fail
            refine (swap_v B q g cap i j2 m (by have := HM.out; omega) (by have := HM.out; omega) _ H2.out.laid.at_).mono ?_
            rintro e w3 ⟨rfl, hp3, hg3⟩
            have H3 := Lib.hid (And.intro hp3 hg3)
            clear hp3 hg3
            go_wp2_with fail
            go_roundg (n + 1 - j2)
            case measure => omega
            case rel =>
              refine ⟨j2, swp m i j2, Nat.le_refl _, by omega, rfl, ?_⟩
              exact H2.out.step HM.out (by omega) (by omega) HP.out.2.2 HB.out (fun k k0 kn kp => by rcases HP.out.1 k k0 kp with rfl | rfl; exact bef_not T.out; exact bef_self _) H3.out.1 H3.out.2
          · have HB := Lib.hid hb
            clear hb
            go_wp2_with fail
            refine (less_v B q g cap j2 j1 m true (by simpa using T.out) (by have := HM.out; omega) (by have := HM.out; omega) _ HH.out.laid.at_).mono ?_
            rintro e w1 ⟨rfl, hg1⟩
            have H1 := Lib.hid (HH.out.grow hg1)
            clear hg1
            go_wp2_with fail
            refine (less_v B q g cap j2 i m false (by simpa using HB.out) (by have := HM.out; omega) (by have := HM.out; omega) _ H1.out.laid.at_).mono ?_
            rintro e w2 ⟨rfl, hg2⟩
            have H2 := Lib.hid (H1.out.grow hg2)
            clear hg2
            go_wp2_with fail
            go_ret
            have hb := HB.out
            exact ⟨m, _, rfl, H2.out.laid, H2.out.done (fun k k0 kn kp => by rcases HP.out.1 k k0 kp with rfl | rfl; exact nbef_trans hb (bef_not T.out); exact hb), H2.out.far⟩
        · have T := Lib.hid t2
          clear t2
          by_cases hb : bef (ia m j1) (ia m i)
          · have HB := Lib.hid hb
            clear hb
            go_wp2_with fail
            refine (less_v B q g cap j2 j1 m false (by simpa using T.out) (by have := HM.out; omega) (by have := HM.out; omega) _ HH.out.laid.at_).mono ?_
            rintro e w1 ⟨rfl, hg1⟩
            have H1 := Lib.hid (HH.out.grow hg1)
            clear hg1
            go_wp2_with fail
            refine (less_v B q g cap j1 i m true (by simpa using HB.out) (by have := HM.out; omega) (by have := HM.out; omega) _ H1.out.laid.at_).mono ?_
            rintro e w2 ⟨rfl, hg2⟩
            have H2 := Lib.hid (H1.out.grow hg2)
            clear hg2
            go_wp2_with fail
            refine (swap_v B q g cap i j1 m (by have := HM.out; omega) (by have := HM.out; omega) _ H2.out.laid.at_).mono ?_
            rintro e w3 ⟨rfl, hp3, hg3⟩
            have H3 := Lib.hid (And.intro hp3 hg3)
            clear hp3 hg3
            go_wp2_with fail
            go_roundg (n + 1 - j1)
            case measure => omega
            case rel =>
              refine ⟨j1, swp m i j1, Nat.le_refl _, by omega, rfl, ?_⟩
              exact H2.out.step HM.out (by omega) (by omega) HP.out.2.1 HB.out (fun k k0 kn kp => by rcases HP.out.1 k k0 kp with rfl | rfl; exact bef_self _; exact T.out) H3.out.1 H3.out.2
          · have HB := Lib.hid hb
            clear hb
            go_wp2_with fail
            refine (less_v B q g cap j2 j1 m false (by simpa using T.out) (by have := HM.out; omega) (by have := HM.out; omega) _ HH.out.laid.at_).mono ?_
            rintro e w1 ⟨rfl, hg1⟩
            have H1 := Lib.hid (HH.out.grow hg1)
            clear hg1
            go_wp2_with fail
            refine (less_v B q g cap j1 i m false (by simpa using HB.out) (by have := HM.out; omega) (by have := HM.out; omega) _ H1.out.laid.at_).mono ?_
            rintro e w2 ⟨rfl, hg2⟩
            have H2 := Lib.hid (H1.out.grow hg2)
            clear hg2
            go_wp2_with fail
            go_ret
            have hb := HB.out
            exact ⟨m, _, rfl, H2.out.laid, H2.out.done (fun k k0 kn kp => by rcases HP.out.1 k k0 kp with rfl | rfl; exact hb; exact nbef_trans hb T.out), H2.out.far⟩
      · have c2' : decide ((j2 : Int) < (n : Int)) = false := decide_eq_false (by omega)
        by_cases hb : bef (ia m j1) (ia m i)
        · have HB := Lib.hid hb
          clear hb
          go_wp2_with fail
          have H1 := HH
          refine (less_v B q g cap j1 i m true (by simpa using HB.out) (by have := HM.out; omega) (by have := HM.out; omega) _ H1.out.laid.at_).mono ?_
          rintro e w2 ⟨rfl, hg2⟩
          have H2 := Lib.hid (H1.out.grow hg2)
          clear hg2
          go_wp2_with fail
          refine (swap_v B q g cap i j1 m (by have := HM.out; omega) (by have := HM.out; omega) _ H2.out.laid.at_).mono ?_
          rintro e w3 ⟨rfl, hp3, hg3⟩
          have H3 := Lib.hid (And.intro hp3 hg3)
          clear hp3 hg3
          go_wp2_with fail
          go_roundg (n + 1 - j1)
          case measure => omega
          case rel =>
            refine ⟨j1, swp m i j1, Nat.le_refl _, by omega, rfl, ?_⟩
            exact H2.out.step HM.out (by omega) (by omega) HP.out.2.1 HB.out (fun k k0 kn kp => by rcases HP.out.1 k k0 kp with rfl | rfl; exact bef_self _; omega) H3.out.1 H3.out.2
        · have HB := Lib.hid hb
          clear hb
          go_wp2_with fail
          have H1 := HH
          refine (less_v B q g cap j1 i m false (by simpa using HB.out) (by have := HM.out; omega) (by have := HM.out; omega) _ H1.out.laid.at_).mono ?_
          rintro e w2 ⟨rfl, hg2⟩
          have H2 := Lib.hid (H1.out.grow hg2)
          clear hg2
          go_wp2_with fail
          go_ret
          have hb := HB.out
          exact ⟨m, _, rfl, H2.out.laid, H2.out.done (fun k k0 kn kp => by rcases HP.out.1 k k0 kp with rfl | rfl; exact hb; omega), H2.out.far⟩
    · have c1' : (n : Int) ≤ (j1 : Int) := by omega
      go_wp2_with fail
      go_ret
      exact ⟨m, _, rfl, HH.out.laid, HH.out.done (fun k k0 kn kp => by rcases HP.out.1 k k0 kp with rfl | rfl <;> omega), HH.out.far⟩
end Go.Proofs.Ythnpjaklcebgfaa
