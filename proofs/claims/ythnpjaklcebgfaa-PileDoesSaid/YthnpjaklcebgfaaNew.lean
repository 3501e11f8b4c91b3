/- What New answers. -/
import Derived.Test.YthnpjaklcebgfaaPileB
namespace Go.Proofs.Ythnpjaklcebgfaa
open Go.ChangeShapes Go.WideShapes Go.RowKit
set_option linter.unusedVariables false

/-- The items l are those of a slice. -/
def Its (w : World) (A : Option Addr) (l : List It) : Prop :=
  l = [] ∨ ∃ b o, A = some ⟨b, o, none⟩ ∧ b < w.heap.size ∧ ∀ k, k < l.length → w.cell? ⟨b, o + k * 2, none⟩ = some (.int .i64 (ia l k).1) ∧ w.cell? ⟨b, o + k * 2 + 1, none⟩ = some (.int .i64 (ia l k).2)
theorem Its.grow {w w' : World} {A : Option Addr} {l : List It} (h : Its w A l) (hg : w.grownBy w' none) : Its w' A l := by
  rcases h with h | ⟨b, o, rfl, hb, hc⟩
  · exact .inl h
  · exact .inr ⟨b, o, rfl, Nat.lt_of_lt_of_le hb hg.size, fun k hk => ⟨(hg.cell_far ⟨b, o + k * 2, none⟩ hb (by simp)).trans (hc k hk).1, (hg.cell_far ⟨b, o + k * 2 + 1, none⟩ hb (by simp)).trans (hc k hk).2⟩⟩
/-- What New hands back. -/
def NewP (l : List It) (w : World) (e : Ending) (w' : World) : Prop :=
  ∃ p q g cap m, e = .returned (.pointer (some ⟨p, 0, none⟩)) ∧ Pl w.heap.size w' p q g cap m ∧ m.Perm l ∧ w.grownBy w' none
theorem push_in {B q g g' cap cap' n : Nat} {l : List It} {x : It} {w W w1 : World} (h : PAt B w q g cap l) (hn : l.length = n) (hown : w1.ownsRow B 51 2 (.slice (some ⟨g', 0, none⟩) (n + 1) cap') (n + 1) (cs l ++ cs [x]))
    (hf : w1.cell? ⟨q, 0, none⟩ = some (.slice (some ⟨g, 0, none⟩) l.length cap) ∧ w1.cell? ⟨q, 1, none⟩ = some (.func (.func 18) #[] #[]) ∧ w1.frozen? ⟨q, 0, none⟩ = false ∧ q < w1.heap.size)
    (hW : w.grownBy W none) (hg : W.grownBy w1 (some g)) (hat : some g = some g' ∨ g' = W.heap.size) (hl : n < 1000) :
    PAt B (w1.setCell ⟨q, 0, none⟩ (.slice (some ⟨g', 0, none⟩) (n + 1) cap')) q g' cap' (l ++ [x]) ∧ Kp q g w (w1.setCell ⟨q, 0, none⟩ (.slice (some ⟨g', 0, none⟩) (n + 1) cap')) := by
  have e1 : (l ++ [x]).length = n + 1 := by simp [hn]
  have hq : q ≠ g' := by
    rcases hat with e | e
    · injection e with e; rw [← e]; exact h.ne
    · have := h.lt; have := hW.size; omega
  have hp := h.header (w' := w1) (g' := g') (cap' := cap') (l' := l ++ [x]) hf.1 hf.2.1 hf.2.2.1 hf.2.2.2 hq (by rw [e1, cs_append]; exact hown) (by omega)
  rw [e1] at hp
  have k1 : Kp q g w w1 := (Kp.nil hW).trans (Kp.of hg (by simp)) (.inl rfl)
  exact ⟨hp, k1.trans (Kp.of (gset _ _ _ _) (by simp)) (.inl rfl)⟩
theorem new_at {w w1 : World} {n : Nat} (hown : w1.ownsRow w.heap.size 51 2 (.slice (some ⟨w.heap.size, 0, none⟩) 0 n) 0 []) (hg : w.grownBy w1 none) :
    PAt w.heap.size (w1.alloc (.cells #[.slice (some ⟨w.heap.size, 0, none⟩) 0 n, .func (.func 18) #[] #[]] 53)) w1.heap.size w.heap.size n [] := by
  have hlt := (hown.lt w.heap.size rfl).2
  have hb := heap_alloc_new w1 (.cells #[.slice (some ⟨w.heap.size, 0, none⟩) 0 n, .func (.func 18) #[] #[]] 53)
  obtain ⟨b1, b2⟩ := box_new w1 53 (.slice (some ⟨w.heap.size, 0, none⟩) 0 n) (.func (.func 18) #[] #[])
  exact ⟨hg.size, by omega, by simp, b1, b2, frozen_of_row _ _ _ _ _ hb, hown.alloc _, by simp⟩
/-- So many are laid. -/
structure Nw (w wr : World) (q g cap : Nat) (m : List It) : Prop where
  at_ : PAt w.heap.size wr q g cap m
  gr : w.grownBy wr none
theorem new_end {w wr w3 : World} {q g cap : Nat} {l m : List It} (h : Nw w wr q g cap l) (hl : Laid w.heap.size q g cap l wr w3 m) (hh : Hp m l.length 0) :
    NewP l w (.returned (.pointer (some ⟨w3.heap.size, 0, none⟩))) (w3.alloc (.cells #[.pointer (some ⟨q, 0, none⟩)] 56)) := by
  have g3 : w.grownBy w3 none := gnew h.gr hl.gr h.at_.log
  have gA := galloc w3 (.cells #[.pointer (some ⟨q, 0, none⟩)] 56) none
  have a1 := hl.at_.lt
  have a2 := hl.at_.ltg
  refine ⟨w3.heap.size, q, g, cap, m, rfl, ⟨g3.size, by omega, by omega, by simp, ?_, hl.at_.grow gA, by rw [hl.perm.length_eq]; exact hh⟩, hl.perm, gtrans g3 gA⟩
  rw [cell_of_row _ _ _ _ _ _ (heap_alloc_new w3 (.cells #[.pointer (some ⟨q, 0, none⟩)] 56))]; rfl
set_option maxHeartbeats 4000000 in
set_option maxRecDepth 100000 in
theorem new_v (A : Option Addr) (n c : Nat) (l : List It) (hn : l.length = n) (hn2 : n ≤ 900) (w : World) (h : Its w A l) :
    Calls Try.prog 7 #[.slice A n c] w (NewP l w) := by
  obtain ⟨i0, hi0, hz0, hz1, hz2⟩ := info_parts info51
  have I0 := Lib.hid (And.intro hi0 (And.intro hz0 (And.intro hz1 hz2)))
  have H0 := Lib.hid (And.intro h hn)
  clear hi0 hz0 hz1 hz2 h hn
  have q1 : (n : Int) = (n : Int) := rfl
  go_enter Try.func7, Try.ntmps7
  go_wp2_with (at_make; refine wpList_make_own _ rfl _ _ 48 rfl w.heap.size 51 i0 (.agg #[.int .i64 0, .int .i64 0]) 2 Try.underlying48 I0.out.1 I0.out.2.1 I0.out.2.2.1 _ _ _ n rfl rfl rfl (by rw [I0.out.2.2.2]; omega) (by unfold maxLen; omega) (Nat.le_refl _) ?_)
  intro w1 hown hgrow
  have H1 := Lib.hid (Nw.mk (new_at hown hgrow) (gtrans hgrow (galloc _ _ _)))
  clear hown hgrow q1
  go_wp2_with fail
  obtain ⟨q, hq⟩ : ∃ q, w1.heap.size = q := ⟨_, rfl⟩
  rw [hq] at H1 ⊢
  clear hq
  generalize w1.alloc (.cells #[.slice (some ⟨w.heap.size, 0, none⟩) 0 n, .func (.func 18) #[] #[]] 53) = W1 at *
  go_loopg [13] n (fun gk u wr => ∃ (k g cap : Nat), k + gk = n ∧ u = .int .i64 (k : Int) ∧ Hid (Nw w wr q g cap (l.take k)))
  case atStart => exact ⟨0, _, _, by omega, rfl, H1.out⟩
  case round =>
    obtain ⟨k, g, cap, hk, rfl, HH⟩ := hrel
    by_cases hlt : k < n
    · obtain ⟨hi, hn⟩ := H0.out
      have hkl : k < l.length := by omega
      rcases hi.grow HH.out.gr with h0 | ⟨bb, o, rfl, hb, hc⟩
      · rw [h0] at hkl; cases hkl
      · obtain ⟨c1, c2⟩ := hc k hkl
        have c0 := HH.out.at_.slice
        have f0 := HH.out.at_.free
        have hq := HH.out.at_.lt
        have hq2 : q < wr.heap.size + 1 := by omega
        have hlk : (l.take k).length = k := by rw [List.length_take]; omega
        rw [hlk] at c0
        have htk : l.take (k + 1) = l.take k ++ [ia l k] := by rw [List.take_succ_eq_append_getElem hkl, ia_eq hkl]
        obtain ⟨x, hx⟩ : ∃ x, ia l k = x := ⟨_, rfl⟩
        rw [hx] at c1 c2 htk
        obtain ⟨a, b⟩ := x
        have HX := Lib.hid (And.intro htk (And.intro hlk hkl))
        have hbs : w.heap.size ≤ wr.heap.size := HH.out.gr.size
        have i1 : (k : Int) < (n : Int) := by omega
        clear hi hn hkl hc hlk htk hx
        go_wp2_with fail
        go_region_law (refine step_append_lies _ rfl (.tmp 21) (.tmp 23) 48 rfl w.heap.size 51 i0 (.agg #[.int .i64 0, .int .i64 0]) 2 16 Try.underlying48 I0.out.1 I0.out.2.1 I0.out.2.2.1 I0.out.2.2.2 rfl (by decide) (.slice (some ⟨g, 0, none⟩) k cap) k (cs (l.take k)) (by simp [Act.eval]) (by have := HH.out.at_.own; rw [HX.out.2.1] at this; exact ((this.alloc _).alloc _).drew) ⟨wr.heap.size + 1, 0, none⟩ 1 1 (cs [(a, b)]) (by simp [Act.eval]) rfl (fun j u hj => by have := news_new (wr.alloc (.cells #[.int .i64 a, .int .i64 b] 28)) #[.int .i64 a, .int .i64 b] 51 (cs [(a, b)]) rfl j u hj; simpa using this) (cs_one _) (by decide) (by unfold maxLen; omega) (by omega) (by simp; omega) _ rfl ?_; intro g' cap' w2 hown hgrow hat hlt2; have H2 := Lib.hid (And.intro hown (And.intro (push_far HH.out.at_ (gtrans (galloc _ _ _) (gtrans (galloc _ _ _) (gdrew _ _))) hgrow) (And.intro hgrow (And.intro hat hlt2)))); clear hown hgrow hat hlt2; obtain ⟨cq, _, cf, _⟩ := H2.out.2.1)
        all_goals
          go_wp2_with fail
          go_roundg (gk - 1)
          case measure => omega
          case rel =>
            obtain ⟨ha, hkp⟩ := push_in HH.out.at_ HX.out.2.1 H2.out.1 H2.out.2.1 (gtrans (galloc _ _ _) (gtrans (galloc _ _ _) (gdrew _ _))) H2.out.2.2.1 H2.out.2.2.2.1 (by omega)
            refine ⟨k + 1, g', cap', by omega, by go_num, by rw [HX.out.1]; exact ha, hkp.new HH.out.gr HH.out.at_.lo HH.out.at_.log⟩
    · obtain rfl : k = n := by omega
      have hge : ¬ (k : Int) < (k : Int) := by omega
      have h1 := HH.out
      rw [List.take_of_length_le (by have := H0.out.2; omega)] at h1
      have H1 := Lib.hid h1
      clear h1
      go_wp2_with fail
      refine (init_v _ q g cap l _ H1.out.at_).mono ?_
      rintro e w3 ⟨m, rfl, hl3, hh3⟩
      have H3 := Lib.hid (And.intro hl3 hh3)
      clear hl3 hh3
      go_wp2_with fail
      go_ret
      exact new_end H1.out H3.out.1 H3.out.2
end Go.Proofs.Ythnpjaklcebgfaa
