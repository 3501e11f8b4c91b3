/- What the document's Change answers. -/
import Derived.Test.YthnpjaklcebgfaaRefPop
namespace Go.Proofs.Ythnpjaklcebgfaa
open Go.ChangeShapes Go.WideShapes Go.RowKit
set_option linter.unusedVariables false

def RChP (x : List It) (v key : Int) (w : World) (e : Ending) (w' : World) : Prop :=
  ∃ A' c', e = .returned (.tuple #[.slice A' x.length c', .int .i64 ((cnt x v : Nat) : Int)]) ∧ OwnI w.heap.size w' A' c' (x.map (chg v key)) ∧ w.grownBy w' none
/-- So many of them, changed. -/
def mtk (x : List It) (v key : Int) (k : Nat) : List It := (x.take k).map (chg v key)
theorem map_take {x : List It} {v key : Int} {k : Nat} {y : It} (h : k < x.length) (hy : chg v key (ia x k) = y) : mtk x v key (k + 1) = mtk x v key k ++ [y] := by
  unfold mtk
  rw [List.take_succ_eq_append_getElem h, List.map_append, ← hy, ia_eq h]; rfl
/-- So far. -/
structure Rc (w wr : World) (A : Option Addr) (c : Nat) (m : List It) : Prop where
  own : OwnI w.heap.size wr A c m
  gr : w.grownBy wr none
theorem Rc.step {w wr W w2 : World} {A : Option Addr} {c g' cap' k : Nat} {m : List It} {y : It} (h : Rc w wr A c m) (hk : m.length = k) (hW : wr.grownBy W none) (hown : w2.ownsRow w.heap.size 28 2 (.slice (some ⟨g', 0, none⟩) (k + 1) cap') (k + 1) (cs m ++ cs [y])) (hg : W.grownBy w2 (Value.ownBlock (.slice A k c))) :
    Rc w w2 (some ⟨g', 0, none⟩) cap' (m ++ [y]) := by
  have hr : ∀ i, Value.ownBlock (.slice A k c) = some i → w.heap.size ≤ i := fun i e => (h.own.lo i (by rw [hk]; exact e)).1
  have g1 := gtrans h.gr hW
  refine ⟨?_, ?_⟩
  · unfold OwnI
    have e1 : (m ++ [y]).length = k + 1 := by simp [hk]
    rw [e1, cs_append]; exact hown
  · exact ⟨hg.os.trans g1.os, hg.tape.trans g1.tape, hg.output.trans g1.output, Nat.le_trans g1.size hg.size, fun i hi hne => (hg.block i (Nat.lt_of_lt_of_le hi g1.size) (fun e => by have := hr i e.symm; omega)).trans (g1.block i hi hne)⟩
set_option maxHeartbeats 4000000 in
set_option maxRecDepth 100000 in
theorem rchange_v (A : Option Addr) (n c : Nat) (x : List It) (hn : x.length = n) (hn2 : n ≤ 100000) (v key : Int) (w : World) (h : Its w A x) :
    Calls Try.prog 11 #[.slice A n c, .int .i64 v, .int .i64 key] w (RChP x v key w) := by
  obtain ⟨i0, hi0, hz0, hz1, hz2⟩ := info_parts info28
  have I0 := Lib.hid (And.intro hi0 (And.intro hz0 (And.intro hz1 hz2)))
  have H0 := Lib.hid (And.intro h hn)
  clear hi0 hz0 hz1 hz2 h hn
  go_enter Try.func11, Try.ntmps11
  go_wp2_with fail
  go_loopg [8, 9, 10] n (fun gk u8 u9 u10 wr => ∃ (k z : Nat) (A' : Option Addr) (c' : Nat), k + gk = n ∧ u10 = .int .i64 (k : Int) ∧ u9 = .int .i64 (z : Int) ∧ u8 = .slice A' k c' ∧ z ≤ k ∧ Hid (Rc w wr A' c' (mtk x v key k) ∧ cntd x v k = z))
  case atStart => exact ⟨0, 0, none, 0, by omega, rfl, rfl, rfl, by omega, ⟨OwnI.nil _ _, World.grownBy.refl _ _⟩, rfl⟩
  case round =>
    obtain ⟨k, z, A', c', hk, rfl, rfl, rfl, hz, HH⟩ := hrel
    by_cases hlt : k < n
    · obtain ⟨h, hn⟩ := H0.out
      have hkl : k < x.length := by omega
      rcases h.grow HH.out.1.gr with h0 | ⟨b, o, rfl, hb, hc⟩
      · rw [h0] at hkl; cases hkl
      obtain ⟨d1, d2⟩ := hc k hkl
      obtain ⟨y, hy⟩ : ∃ y, ia x k = y := ⟨_, rfl⟩
      rw [hy] at d1 d2
      obtain ⟨ya, yb⟩ := y
      have i1 : (k : Int) < (n : Int) := by omega
      have hmk : (mtk x v key k).length = k := by unfold mtk; rw [List.length_map, List.length_take]; omega
      have ho : wr.ownsRow w.heap.size 28 2 (.slice A' k c') k (cs (mtk x v key k)) := by have := HH.out.1.own; unfold OwnI at this; rw [hmk] at this; exact this
      have hbs : w.heap.size ≤ wr.heap.size := HH.out.1.gr.size
      have HX := Lib.hid (And.intro hy (And.intro hkl (And.intro hmk ho)))
      clear h hn hc hy hkl hmk ho
      by_cases he : yb = v
      · subst he
        have hnw : ∀ j u, (cs [(key, yb)])[j]? = some u → ((wr.alloc (.cells #[.int .i64 key, .int .i64 yb] 28)).alloc (.cells #[.int .i64 key, .int .i64 yb] 28)).cell? ((⟨wr.heap.size + 1, 0, none⟩ : Addr).add j) = some u := fun j u hj => by
          have := news_new (wr.alloc (.cells #[.int .i64 key, .int .i64 yb] 28)) #[.int .i64 key, .int .i64 yb] 28 (cs [(key, yb)]) rfl j u hj
          simpa using this
        have HW := Lib.hid hnw
        clear hnw
        go_wp2_with (at_builtin; refine wpList_append_lies _ rfl (.tmp 30) (.tmp 32) 22 rfl w.heap.size 28 i0 (.agg #[.int .i64 0, .int .i64 0]) 2 16 Try.underlying22 I0.out.1 I0.out.2.1 I0.out.2.2.1 I0.out.2.2.2 rfl (by decide) (.slice A' k c') k (cs (mtk x yb key k)) rfl ((HX.out.2.2.2.alloc _).alloc _) ⟨wr.heap.size + 1, 0, none⟩ 1 1 (cs [(key, yb)]) rfl rfl HW.out (cs_one _) (by decide) (by unfold maxLen; omega) (by omega) (by simp; omega) _ rfl ?_)
        intro g' cap' w2 hown hgrow _ _
        have H2 := Lib.hid (HH.out.1.step HX.out.2.2.1 (gtrans (galloc _ _ none) (galloc _ _ none)) hown hgrow)
        clear hown hgrow
        go_wp2_with fail
        go_roundg (gk - 1)
        case measure => omega
        case rel =>
          refine ⟨k + 1, z + 1, _, _, by omega, by go_num, by go_num, rfl, by omega, ?_, ?_⟩
          · rw [map_take HX.out.2.1 (y := (key, yb)) (by rw [HX.out.1]; unfold chg; rw [if_pos rfl])]; exact H2.out
          · rw [cntd_hit HX.out.2.1 (by rw [HX.out.1]), HH.out.2]
      · have e1 : (yb == v) = false := by simpa using he
        have hnw : ∀ j u, (cs [(ya, yb)])[j]? = some u → ((wr.alloc (.cells #[.int .i64 ya, .int .i64 yb] 28)).alloc (.cells #[.int .i64 ya, .int .i64 yb] 28)).cell? ((⟨wr.heap.size + 1, 0, none⟩ : Addr).add j) = some u := fun j u hj => by
          have := news_new (wr.alloc (.cells #[.int .i64 ya, .int .i64 yb] 28)) #[.int .i64 ya, .int .i64 yb] 28 (cs [(ya, yb)]) rfl j u hj
          simpa using this
        have HW := Lib.hid hnw
        clear hnw
        go_wp2_with (at_builtin; refine wpList_append_lies _ rfl (.tmp 30) (.tmp 32) 22 rfl w.heap.size 28 i0 (.agg #[.int .i64 0, .int .i64 0]) 2 16 Try.underlying22 I0.out.1 I0.out.2.1 I0.out.2.2.1 I0.out.2.2.2 rfl (by decide) (.slice A' k c') k (cs (mtk x v key k)) rfl ((HX.out.2.2.2.alloc _).alloc _) ⟨wr.heap.size + 1, 0, none⟩ 1 1 (cs [(ya, yb)]) rfl rfl HW.out (cs_one _) (by decide) (by unfold maxLen; omega) (by omega) (by simp; omega) _ rfl ?_)
        intro g' cap' w2 hown hgrow _ _
        have H2 := Lib.hid (HH.out.1.step HX.out.2.2.1 (gtrans (galloc _ _ none) (galloc _ _ none)) hown hgrow)
        clear hown hgrow
        go_wp2_with fail
        go_roundg (gk - 1)
        case measure => omega
        case rel =>
          refine ⟨k + 1, z, _, _, by omega, by go_num, rfl, rfl, by omega, ?_, ?_⟩
          · rw [map_take HX.out.2.1 (y := (ya, yb)) (by rw [HX.out.1]; unfold chg; rw [if_neg he])]; exact H2.out
          · rw [cntd_miss HX.out.2.1 (by rw [HX.out.1]; exact he), HH.out.2]
    · obtain rfl : k = n := by omega
      have hge : ¬ (k : Int) < (k : Int) := by omega
      go_wp2_with fail
      go_ret2
      have h1 := HH.out.1
      have h2 := HH.out.2
      have h3 := H0.out.2
      unfold mtk at h1
      rw [List.take_of_length_le (by omega)] at h1
      rw [← h3] at h2
      rw [cntd_all] at h2
      exact ⟨A', c', by rw [h2, h3]; rfl, h1.own, h1.gr⟩
end Go.Proofs.Ythnpjaklcebgfaa
