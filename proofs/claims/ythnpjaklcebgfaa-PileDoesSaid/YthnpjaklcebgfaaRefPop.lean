/- What the document's Pop answers. -/
import Derived.Test.YthnpjaklcebgfaaRef
namespace Go.Proofs.Ythnpjaklcebgfaa
open Go.ChangeShapes Go.WideShapes Go.RowKit
set_option linter.unusedVariables false

abbrev three (x : It) (v : Value) (b : Bool) : Ending := .returned (.tuple #[.agg #[.int .i64 x.1, .int .i64 x.2], v, .bool b])
theorem rpop_none (A : Option Addr) (c : Nat) (w : World) : Calls Try.prog 10 #[.slice A 0 c] w fun e w' => e = three (0, 0) (.slice A 0 c) false ∧ w.grownBy w' none := by
  go_enter Try.func10, Try.ntmps10
  go_wp2_with fail
  refine (first_v A 0 c [] rfl (by omega) _ (.inl rfl)).mono ?_
  rintro e w1 ⟨best, rfl, hf, hg⟩
  obtain rfl : best = -1 := by
    rcases hf with ⟨_, h⟩ | ⟨k, hk, _⟩
    · exact h
    · cases hk
  have z1 := (hg.cell_far ⟨w.heap.size, 0, none⟩ (by simp) (by simp)).trans (box_new w 28 (.int .i64 0) (.int .i64 0)).1
  have z2 := (hg.cell_far ⟨w.heap.size, 1, none⟩ (by simp) (by simp)).trans (box_new w 28 (.int .i64 0) (.int .i64 0)).2
  have zf : ∀ k, (w.alloc (.cells #[.int .i64 0, .int .i64 0] 28)).frozen? ⟨w.heap.size, k, none⟩ = false := fun k => frozen_of_row _ _ _ _ _ (heap_alloc_new w _)
  have z3 := (hg.frozen_far ⟨w.heap.size, 0, none⟩ (by simp) (by simp)).trans (zf 0)
  have z4 := (hg.frozen_far ⟨w.heap.size, 1, none⟩ (by simp) (by simp)).trans (zf 1)
  have HG := Lib.hid (gtrans (galloc w (.cells #[.int .i64 0, .int .i64 0] 28) none) hg)
  obtain ⟨r, hr⟩ : ∃ r, w.heap.size = r := ⟨_, rfl⟩
  have HR := Lib.hid hr
  rw [hr] at z1 z2 z3 z4 ⊢
  clear hf hg zf hr
  go_wp2_with fail
  refine bodyPost_ret (v := .tuple #[.agg #[.int .i64 0, .int .i64 0], .slice A 0 c, .bool false]) (by simp [results, Try.results10, go_sem, z1, z2]) rfl ⟨rfl, ?_⟩
  rw [← HR.out]
  exact gnew HG.out (gtrans (gset _ _ _ _) (gset _ _ _ _)) (Nat.le_refl _)
/-- What the document's Pop hands back of a list that has something. -/
def RPopP (x : List It) (w : World) (e : Ending) (w' : World) : Prop :=
  ∃ k A' c', e = three (ia x k) (.slice A' (x.eraseIdx k).length c') true ∧ Fst x k ∧ OwnI w.heap.size w' A' c' (x.eraseIdx k) ∧ w.grownBy w' none
theorem cs_drop (l : List It) (n : Nat) : cs (l.drop n) = (cs l).drop (n * 2) := by
  have h := cs_append (l.take n) (l.drop n)
  rw [List.take_append_drop] at h
  by_cases hn : n ≤ l.length
  · rw [h, List.drop_left' (by rw [cs_len, List.length_take, Nat.min_eq_left hn])]
  · rw [List.drop_eq_nil_of_le (by omega), List.drop_eq_nil_of_le (by rw [cs_len]; omega)]; rfl
theorem pop_kept {M r : Nat} {w w' : World} {A : Option Addr} {c : Nat} {l : List It} (h : OwnI M w A c l) (hg : w.grownBy w' (some r)) (hr : r < M) : OwnI r w' A c l := by
  refine OwnI.mono (N := M) ?_ (by omega)
  refine World.ownsRow.kept h hg ?_
  cases e : Value.ownBlock (.slice A l.length c) with
  | none => exact .inl rfl
  | some k => exact .inr (fun e2 => by injection e2 with e2; have := (h.lo k e).1; omega)
theorem er_len {x : List It} {n k : Nat} (hn : x.length = n) (hk : k < n) : (x.eraseIdx k).length = n - 1 := by rw [List.length_eraseIdx_of_lt (by omega), hn]
theorem er_eq (x : List It) (k : Nat) : cs (x.take k) ++ cs (x.drop (k + 1)) = cs (x.eraseIdx k) := by rw [← cs_append, List.eraseIdx_eq_take_drop_succ]
theorem pop_end {N b c k : Nat} {x : List It} {w w1 w2 w3 : World} {A2 : Option Addr} {c2 : Nat} {v3 : Value} (h : OwnI N w (some ⟨b, 0, none⟩) c x) (hF : Fst x k) (hs : w.heap.size < w1.heap.size) (h1 : OwnI N w1 (some ⟨b, 0, none⟩) c x) (g1 : w.grownBy w1 none) (g2 : w1.grownBy w2 none)
    (h2 : OwnI w1.heap.size w2 A2 c2 (x.take k)) (g3 : w2.grownBy w3 (Value.ownBlock (.slice A2 (x.take k).length c2))) (h3 : w3.ownsRow w1.heap.size 28 2 v3 (x.eraseIdx k).length (cs (x.take k) ++ cs (x.drop (k + 1))))
    (hz : w1.cell? ⟨w.heap.size, 0, none⟩ = some (.int .i64 0) ∧ w1.cell? ⟨w.heap.size, 1, none⟩ = some (.int .i64 0) ∧ w1.frozen? ⟨w.heap.size, 0, none⟩ = false ∧ w1.frozen? ⟨w.heap.size, 1, none⟩ = false) :
    (∃ A3 c3, v3 = .slice A3 (x.eraseIdx k).length c3) ∧ w3.cell? ⟨b, k * 2, none⟩ = some (.int .i64 (ia x k).1) ∧ w3.cell? ⟨b, k * 2 + 1, none⟩ = some (.int .i64 (ia x k).2) ∧
      w3.cell? ⟨w.heap.size, 0, none⟩ = some (.int .i64 0) ∧ w3.cell? ⟨w.heap.size, 1, none⟩ = some (.int .i64 0) ∧ w3.frozen? ⟨w.heap.size, 0, none⟩ = false ∧ w3.frozen? ⟨w.heap.size, 1, none⟩ = false ∧ w.heap.size < w3.heap.size ∧
      (∀ A3 c3, v3 = .slice A3 (x.eraseIdx k).length c3 → OwnI w1.heap.size w3 A3 c3 (x.eraseIdx k)) ∧ w.grownBy w3 none := by
  rw [er_eq] at h3
  have hb := (h.lo b rfl).2
  have far : ∀ t j, t < w1.heap.size → w3.cell? ⟨t, j, none⟩ = w1.cell? ⟨t, j, none⟩ ∧ w3.frozen? ⟨t, j, none⟩ = w1.frozen? ⟨t, j, none⟩ := fun t j ht => by
    have ne : some t ≠ Value.ownBlock (.slice A2 (x.take k).length c2) := fun e => by have := (h2.lo t e.symm).1; omega
    have lt2 : t < w2.heap.size := Nat.lt_of_lt_of_le ht g2.size
    exact ⟨(g3.cell_far ⟨t, j, none⟩ lt2 ne).trans (g2.cell_far ⟨t, j, none⟩ ht (by simp)), (g3.frozen_far ⟨t, j, none⟩ lt2 ne).trans (g2.frozen_far ⟨t, j, none⟩ ht (by simp))⟩
  have hb1 : b < w1.heap.size := by omega
  have k1 := World.ownsRow.cellAt h1 (k * 2) (by have := hF.1; omega)
  have k2 := World.ownsRow.cellAt h1 (k * 2 + 1) (by have := hF.1; omega)
  rw [(cs_key x k hF.1).1] at k1
  rw [(cs_key x k hF.1).2] at k2
  obtain ⟨A3, c3, e3, o3⟩ := own_slice h3
  refine ⟨⟨A3, c3, e3⟩, (far b _ hb1).1.trans k1, (far b _ hb1).1.trans k2, (far _ _ hs).1.trans hz.1, (far _ _ hs).1.trans hz.2.1, (far _ _ hs).2.trans hz.2.2.1, (far _ _ hs).2.trans hz.2.2.2, ?_, ?_, ?_⟩
  · have := g2.size; have := g3.size; omega
  · intro A c e; rw [e] at h3; exact h3
  · have g12 := gtrans g1 g2
    refine ⟨g3.os.trans g12.os, g3.tape.trans g12.tape, g3.output.trans g12.output, Nat.le_trans g12.size g3.size, fun i hi hne => (g3.block i (Nat.lt_of_lt_of_le hi g12.size) (fun e => ?_)).trans (g12.block i hi hne)⟩
    have := (h2.lo i e.symm).1; omega
set_option maxHeartbeats 4000000 in
set_option maxRecDepth 100000 in
theorem rpop_some (N n b c : Nat) (x : List It) (hn : x.length = n) (hn0 : 0 < n) (hn2 : n ≤ 100000) (hc : n ≤ c) (w : World) (h : OwnI N w (some ⟨b, 0, none⟩) c x) :
    Calls Try.prog 10 #[.slice (some ⟨b, 0, none⟩) n c] w (RPopP x w) := by
  obtain ⟨i0, hi0, hz0, hz1, hz2⟩ := info_parts info28
  have I0 := Lib.hid (And.intro hi0 (And.intro hz0 (And.intro hz1 hz2)))
  have hb : b < w.heap.size := (h.lo b rfl).2
  have H0 := Lib.hid (And.intro h hn)
  clear hi0 hz0 hz1 hz2 h hn
  go_enter Try.func10, Try.ntmps10
  go_wp2_with fail
  refine (first_v _ n c x H0.out.2 hn2 _ (H0.out.1.grow (galloc _ _ none)).its).mono ?_
  rintro e w1 ⟨best, rfl, hf, hg⟩
  obtain ⟨k, rfl, hF⟩ : ∃ k : Nat, best = (k : Int) ∧ Fst x k := by
    rcases hf.done with ⟨h0, _⟩ | h1
    · have := H0.out.2; rw [h0] at this; simp at this; omega
    · exact h1
  have hkn : k < n := by have := hF.1; have := H0.out.2; omega
  have HF := Lib.hid hF
  have g1 : w.grownBy w1 none := gtrans (galloc w (.cells #[.int .i64 0, .int .i64 0] 28) none) hg
  have z1 := (hg.cell_far ⟨w.heap.size, 0, none⟩ (by simp) (by simp)).trans (box_new w 28 (.int .i64 0) (.int .i64 0)).1
  have z2 := (hg.cell_far ⟨w.heap.size, 1, none⟩ (by simp) (by simp)).trans (box_new w 28 (.int .i64 0) (.int .i64 0)).2
  have zf : ∀ k, (w.alloc (.cells #[.int .i64 0, .int .i64 0] 28)).frozen? ⟨w.heap.size, k, none⟩ = false := fun k => frozen_of_row _ _ _ _ _ (heap_alloc_new w _)
  have z3 := (hg.frozen_far ⟨w.heap.size, 0, none⟩ (by simp) (by simp)).trans (zf 0)
  have z4 := (hg.frozen_far ⟨w.heap.size, 1, none⟩ (by simp) (by simp)).trans (zf 1)
  have s1 : w.heap.size < w1.heap.size := Nat.lt_of_lt_of_le (by simp) hg.size
  have H1 := Lib.hid (And.intro (H0.out.1.grow g1) (And.intro g1 s1))
  have HZ := Lib.hid (And.intro z1 (And.intro z2 (And.intro z3 z4)))
  clear hf hF hg g1 z1 z2 z3 z4 zf s1
  have kge : decide ((k : Int) < 0) = false := decide_eq_false (by omega)
  have n1 : ∀ j u, (cs (x.take k))[j]? = some u → w1.cell? ((⟨b, 0, none⟩ : Addr).add j) = some u := fun j u hj => by
    rw [cs_take, List.getElem?_take] at hj
    split at hj
    · exact its_news H1.out.1.its _ rfl j u hj
    · cases hj
  have l1 : (cs (x.take k)).length = k * 2 := by rw [cs_len, List.length_take]; have := H0.out.2; omega
  have N1 := Lib.hid (And.intro n1 l1)
  clear n1 l1
  go_wp2_with (at_builtin; refine wpList_append_own _ rfl (.tmp 13) (.tmp 16) 22 rfl w1.heap.size 28 i0 (.agg #[.int .i64 0, .int .i64 0]) 2 16 Try.underlying22 I0.out.1 I0.out.2.1 I0.out.2.2.1 I0.out.2.2.2 rfl (by decide) (.slice none 0 0) 0 [] rfl (World.ownsRow_nil _ _ _ _) ⟨b, 0, none⟩ k c (cs (x.take k)) rfl N1.out.2 N1.out.1 (cs_one _) (by unfold maxLen; omega) (by omega) (Nat.le_refl _) ?_)
  intro v2 w2 hown2 hg2 _
  have hlk : (x.take k).length = k := by rw [List.length_take]; have := H0.out.2; omega
  obtain ⟨A2, c2, rfl, hO2⟩ : ∃ A2 c2, v2 = .slice A2 k c2 ∧ OwnI w1.heap.size w2 A2 c2 (x.take k) := by
    have h1 := own_slice (l := x.take k) (by rw [hlk]; simpa using hown2)
    rw [hlk] at h1; exact h1
  have H2 := Lib.hid (And.intro hO2 (And.intro hg2 hlk))
  clear hown2 hg2 hlk hO2
  have n2 : ∀ j u, (cs (x.drop (k + 1)))[j]? = some u → w2.cell? ((⟨b, (k + 1) * 2, none⟩ : Addr).add j) = some u := fun j u hj => by
    rw [cs_drop, List.getElem?_drop] at hj
    have h1 := its_news (H1.out.1.grow H2.out.2.1).its _ rfl _ u hj
    rw [add_at] at h1 ⊢
    rw [show (k + 1) * 2 + j = 0 + ((k + 1) * 2 + j) by omega]; exact h1
  have l2 : (cs (x.drop (k + 1))).length = (n - (k + 1)) * 2 := by rw [cs_len, List.length_drop]; have := H0.out.2; omega
  have o2 : w2.ownsRow w1.heap.size 28 2 (.slice A2 k c2) k (cs (x.take k)) := by have := H2.out.1; unfold OwnI at this; rw [H2.out.2.2] at this; exact this
  have s2 : w1.heap.size ≤ w2.heap.size := H2.out.2.1.size
  have N2 := Lib.hid (And.intro n2 (And.intro l2 (And.intro o2 s2)))
  clear n2 l2 o2 s2
  by_cases hck : c = k + 1
  · obtain rfl : n = k + 1 := by omega
    subst hck
    go_wp2_with (at_builtin; refine wpList_append_own _ rfl (.tmp 18) (.tmp 22) 22 rfl w1.heap.size 28 i0 (.agg #[.int .i64 0, .int .i64 0]) 2 16 Try.underlying22 I0.out.1 I0.out.2.1 I0.out.2.2.1 I0.out.2.2.2 rfl (by decide) (.slice A2 k c2) k (cs (x.take k)) rfl N2.out.2.2.1 ⟨b, 0, none⟩ 0 0 (cs (x.drop (k + 1))) rfl (by rw [N2.out.2.1]; omega) (fun j u hj => by rw [List.drop_eq_nil_of_le (by have := H0.out.2; omega)] at hj; simp [cs] at hj) (cs_one _) (by unfold maxLen; omega) (by omega) N2.out.2.2.2 ?_)
    intro v3 w3 hown3 hg3 _
    have e0 : k + 0 = (x.eraseIdx k).length := by rw [er_len H0.out.2 hkn]; omega
    have hown4 : w3.ownsRow w1.heap.size 28 2 v3 (x.eraseIdx k).length (cs (x.take k) ++ cs (x.drop (k + 1))) := by rw [← e0]; exact hown3
    have E := Lib.hid (pop_end H0.out.1 HF.out H1.out.2.2 H1.out.1 H1.out.2.1 H2.out.2.1 H2.out.1 (by rw [H2.out.2.2]; exact hg3) hown4 HZ.out)
    clear e0 hown3 hown4 hg3
    obtain ⟨A3, c3, rfl⟩ := E.out.1
    obtain ⟨_, d1, d2, z1, z2, z3, z4, hr, _⟩ := E.out
    obtain ⟨y, hy⟩ : ∃ y, ia x k = y := ⟨_, rfl⟩
    rw [hy] at d1 d2
    obtain ⟨ya, yb⟩ := y
    have HY := Lib.hid hy
    clear hy
    obtain ⟨r, hr0⟩ : ∃ r, w.heap.size = r := ⟨_, rfl⟩
    have HR := Lib.hid hr0
    rw [hr0] at z1 z2 z3 z4 hr ⊢
    clear hr0
    go_wp2_with fail
    refine bodyPost_ret (v := .tuple #[.agg #[.int .i64 ya, .int .i64 yb], .slice A3 (x.eraseIdx k).length c3, .bool true]) (by simp [results, Try.results10, go_sem, z1, z2]) rfl ?_
    have hr0 := HR.out
    subst hr0
    obtain ⟨_, _, _, _, _, _, _, _, hO, hG⟩ := E.out
    refine ⟨k, A3, c3, by rw [HY.out], HF.out, ?_, gnew hG (gtrans (gset _ _ _ _) (gset _ _ _ _)) (Nat.le_refl _)⟩
    exact pop_kept (hO A3 c3 rfl) (gtrans (gset _ _ _ _) (gset _ _ _ _)) H1.out.2.2
  · have hk2 : k + 1 ≤ n := by omega
    go_wp2_with (at_builtin; refine wpList_append_own _ rfl (.tmp 18) (.tmp 22) 22 rfl w1.heap.size 28 i0 (.agg #[.int .i64 0, .int .i64 0]) 2 16 Try.underlying22 I0.out.1 I0.out.2.1 I0.out.2.2.1 I0.out.2.2.2 rfl (by decide) (.slice A2 k c2) k (cs (x.take k)) rfl N2.out.2.2.1 ⟨b, (k + 1) * 2, none⟩ (n - (k + 1)) (c - (k + 1)) (cs (x.drop (k + 1))) rfl N2.out.2.1 N2.out.1 (cs_one _) (by unfold maxLen; omega) (by omega) N2.out.2.2.2 ?_)
    intro v3 w3 hown3 hg3 _
    have e0 : k + (n - (k + 1)) = (x.eraseIdx k).length := by rw [er_len H0.out.2 hkn]; omega
    have hown4 : w3.ownsRow w1.heap.size 28 2 v3 (x.eraseIdx k).length (cs (x.take k) ++ cs (x.drop (k + 1))) := by rw [← e0]; exact hown3
    have E := Lib.hid (pop_end H0.out.1 HF.out H1.out.2.2 H1.out.1 H1.out.2.1 H2.out.2.1 H2.out.1 (by rw [H2.out.2.2]; exact hg3) hown4 HZ.out)
    clear e0 hown3 hown4 hg3
    obtain ⟨A3, c3, rfl⟩ := E.out.1
    obtain ⟨_, d1, d2, z1, z2, z3, z4, hr, _⟩ := E.out
    obtain ⟨y, hy⟩ : ∃ y, ia x k = y := ⟨_, rfl⟩
    rw [hy] at d1 d2
    obtain ⟨ya, yb⟩ := y
    have HY := Lib.hid hy
    clear hy
    obtain ⟨r, hr0⟩ : ∃ r, w.heap.size = r := ⟨_, rfl⟩
    have HR := Lib.hid hr0
    rw [hr0] at z1 z2 z3 z4 hr ⊢
    clear hr0
    go_wp2_with fail
    refine bodyPost_ret (v := .tuple #[.agg #[.int .i64 ya, .int .i64 yb], .slice A3 (x.eraseIdx k).length c3, .bool true]) (by simp [results, Try.results10, go_sem, z1, z2]) rfl ?_
    have hr0 := HR.out
    subst hr0
    obtain ⟨_, _, _, _, _, _, _, _, hO, hG⟩ := E.out
    refine ⟨k, A3, c3, by rw [HY.out], HF.out, ?_, gnew hG (gtrans (gset _ _ _ _) (gset _ _ _ _)) (Nat.le_refl _)⟩
    exact pop_kept (hO A3 c3 rfl) (gtrans (gset _ _ _ _) (gset _ _ _ _)) H1.out.2.2
end Go.Proofs.Ythnpjaklcebgfaa
