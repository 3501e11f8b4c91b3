/- What the small check of each statement answers: true. -/
import Derived.Test.YthnpjaklcebgfaaEq
namespace Go.Proofs.Ythnpjaklcebgfaa
open Go.ChangeShapes Go.WideShapes Go.RowKit
set_option linter.unusedVariables false

theorem its_lit (w : World) (l : List It) (cells : Array Value) (hl : cells.toList = cs l) : Its (w.alloc (.cells cells 28)) (some ⟨w.heap.size, 0, none⟩) l := by
  refine .inr ⟨w.heap.size, 0, rfl, by simp, fun k hk => ?_⟩
  have h := heap_alloc_new w (.cells cells 28)
  obtain ⟨k1, k2⟩ := cs_key l k hk
  rw [cell_of_row _ _ _ _ _ _ h, cell_of_row _ _ _ _ _ _ h, Nat.zero_add, ← Array.getElem?_toList, ← Array.getElem?_toList, hl]
  exact ⟨k1, k2⟩
def wl : List It := [(2, 5), (7, 1), (7, 0)]
theorem fst1 : Fst wl 2 := ⟨by decide, by decide⟩
theorem fst2 : Fst [((9 : Int), (5 : Int)), (7, 1)] 0 := ⟨by decide, by decide⟩
set_option maxHeartbeats 2000000 in
theorem works_v (w : World) : Calls Try.prog 6 #[] w fun e w' => e = .returned (.bool true) ∧ w.grownBy w' none := by
  go_enter Try.func6, Try.ntmps6
  go_wp2_with fail
  refine (new_v _ 3 3 wl rfl (by omega) _ (its_lit w wl _ rfl)).mono ?_
  rintro e w1 ⟨p, q, g, cap, m, rfl, hp1, hm1, hg1⟩
  have t1 : ia m 0 = (7, 0) := fst1.eq hp1.hp hm1
  have l1 : 0 < m.length := by rw [hm1.length_eq]; decide
  have H1 := Lib.hid (And.intro hp1 (And.intro hm1 (And.intro (gtrans (galloc w _ none) hg1) (And.intro t1 l1))))
  clear hp1 hm1 hg1 t1 l1
  go_wp2_with fail
  refine (pop_some _ p q g cap m H1.out.2.2.2.2 _ H1.out.1).mono ?_
  rintro e w2 ⟨m2, rfl, hp2, hm2, hk2⟩
  rw [H1.out.2.2.2.1]
  rw [H1.out.2.2.2.1] at hm2
  have pm : m2.Perm [(2, 5), (7, 1)] := by
    have h1 := hm2.symm.trans H1.out.2.1
    have h2 : wl.Perm ((7, 0) :: [(2, 5), (7, 1)]) := by decide
    exact (h1.trans h2).cons_inv
  have H2 := Lib.hid (And.intro hp2 (And.intro pm (hk2.new H1.out.2.2.1 (by have h1 := H1.out.1.at_.lo; simp at h1; omega) (by have h1 := H1.out.1.at_.log; simp at h1; omega))))
  clear hp2 hm2 hk2 pm
  go_wp2_with fail
  refine (pchange_v _ p q g cap m2 5 9 _ (H2.out.1.grow (galloc _ _ _))).mono ?_
  rintro e w3 ⟨m3, rfl, hp3, hm3, hk3⟩
  have c3 : cnt m2 5 = 1 := cnt_perm H2.out.2.1 5
  have pm3 : m3.Perm [(9, 5), (7, 1)] := hm3.trans (chg_perm H2.out.2.1 5 9)
  have t3 : ia m3 0 = (9, 5) := fst2.eq hp3.hp pm3
  have hz := H2.out.2.2.size
  obtain ⟨r, hr⟩ : ∃ r, w2.heap.size = r := ⟨_, rfl⟩
  have hrq : r ≠ q := by have := H2.out.1.at_.lt; omega
  have hrg : r ≠ g := by have := H2.out.1.at_.ltg; omega
  have hr2 : r < (w2.alloc (.cells #[.int .i64 7, .int .i64 0] 28)).heap.size := by simp; omega
  obtain ⟨b1, b2⟩ := box_new w2 28 (.int .i64 7) (.int .i64 0)
  rw [hr] at b1 b2 ⊢
  have d1 := (hk3.cell ⟨r, 0, none⟩ hr2 hrq hrg).trans b1
  have d2 := (hk3.cell ⟨r, 1, none⟩ hr2 hrq hrg).trans b2
  rw [c3]
  have hr3 : r < w3.heap.size := Nat.lt_of_lt_of_le hr2 hk3.size
  have H3 := Lib.hid (And.intro hp3 (And.intro pm3 (And.intro t3 (hk3.new (gtrans H2.out.2.2 (galloc _ _ none)) (by have h1 := H1.out.1.at_.lo; simp at h1; omega) (by have h1 := H1.out.1.at_.log; simp at h1; omega)))))
  clear hp3 hm3 hk3 c3 pm3 t3 hz hr hrq hrg hr2 b1 b2
  go_wp2_with fail
  refine (peek_some _ p q g cap m3 (by rw [H3.out.2.1.length_eq]; decide) _ H3.out.1).mono ?_
  rintro e w4 ⟨rfl, hg4⟩
  rw [H3.out.2.2.1]
  have d3 := (hg4.cell_far ⟨r, 0, none⟩ hr3 (by simp)).trans d1
  have d4 := (hg4.cell_far ⟨r, 1, none⟩ hr3 (by simp)).trans d2
  have hr4 : r < w4.heap.size := Nat.lt_of_lt_of_le hr3 hg4.size
  have H4 := Lib.hid (And.intro (H3.out.1.grow hg4) (gtrans H3.out.2.2.2 hg4))
  clear hg4 d1 d2 hr3
  have E1 := eqIn28 7 0 7 0 true rfl
  have E2 := eqIn28 9 5 9 5 true rfl
  go_wp2_with fail
  clear E1 E2 d3 d4
  have gA := galloc w4 (.cells #[.int .i64 9, .int .i64 5] 28) none
  refine (plen_v _ p q g cap 2 m3 (by rw [H3.out.2.1.length_eq]; rfl) _ (H4.out.1.grow gA)).mono ?_
  rintro e w5 ⟨rfl, rfl⟩
  go_wp2_with fail
  refine (drain_v _ p q g cap m3 1 _ (H4.out.1.grow gA)).mono ?_
  rintro e w6 ⟨A, c, out, m4, rfl, hd, hl⟩
  have hl1 : out.length = 1 := by rw [hl, H3.out.2.1.length_eq]; rfl
  rw [hl1]
  have g6 := hd.kp.new (gtrans H4.out.2 gA) (by have h1 := H1.out.1.at_.lo; simp at h1; omega) (by have h1 := H1.out.1.at_.log; simp at h1; omega)
  have H6 := Lib.hid g6
  clear hd hl hl1 g6
  go_wp2_with fail
  go_ret
  exact ⟨rfl, H6.out⟩
end Go.Proofs.Ythnpjaklcebgfaa
