/- What the statements' own draining by the document's Pop answers. -/
import Derived.Test.YthnpjaklcebgfaaRefChange
namespace Go.Proofs.Ythnpjaklcebgfaa
open Go.ChangeShapes Go.WideShapes Go.RowKit
set_option linter.unusedVariables false

/-- The block of an own slice. -/
abbrev blk (A : Option Addr) (n c : Nat) : Option Nat := Value.ownBlock (.slice A n c)
theorem OwnI.form {N : Nat} {w : World} {A : Option Addr} {c : Nat} {l : List It} (h : OwnI N w A c l) (hl : 0 < l.length) : ∃ b, A = some ⟨b, 0, none⟩ ∧ l.length ≤ c := by
  rcases World.ownsRow.form h hl with ⟨g, cap, e, _, _⟩
  simp only [Value.slice.injEq, true_and] at e
  obtain ⟨rfl, rfl⟩ := e
  refine ⟨g, rfl, ?_⟩
  rcases h.2 with ⟨e, _⟩ | ⟨g', cap', cur, e, _, _, h1, _⟩
  · simp at e
  · simp only [Value.slice.injEq, Option.some.injEq, Addr.mk.injEq, and_true, true_and] at e
    rw [e.2]; exact h1
theorem OwnI.keep {N : Nat} {w w' : World} {A : Option Addr} {c : Nat} {l : List It} {row : Option Nat} (h : OwnI N w A c l) (hg : w.grownBy w' row) (hr : ∀ k, blk A l.length c = some k → row ≠ some k) : OwnI N w' A c l := by
  refine World.ownsRow.kept h hg ?_
  cases e : Value.ownBlock (.slice A l.length c) with
  | none => exact .inl rfl
  | some k => exact .inr (fun e2 => hr k e e2.symm)
theorem fst_mem {x : List It} {k : Nat} (h : Fst x k) : ∀ b ∈ x, ¬bef b (ia x k) := by
  intro b hb
  obtain ⟨j, hj, rfl⟩ := List.getElem_of_mem hb
  rw [← ia_eq hj]
  exact h.2 j hj
/-- So far: what is left, and what is drained. -/
structure Ld (N : Nat) (w wr : World) (A : Option Addr) (c : Nat) (x : List It) (A1 : Option Addr) (c1 : Nat) (m : List It) (A2 : Option Addr) (c2 : Nat) (out : List It) : Prop where
  rest : OwnI N wr A1 c1 m
  src : ∀ k, blk A1 m.length c1 = some k → blk A x.length c = some k ∨ w.heap.size ≤ k
  got : OwnI w.heap.size wr A2 c2 out
  apart : ∀ k, blk A1 m.length c1 = some k → blk A2 out.length c2 ≠ some k
  drn : Drn x out m
  gr : w.grownBy wr none
theorem Ld.grow {N : Nat} {w wr w2 : World} {A : Option Addr} {c : Nat} {x : List It} {A1 : Option Addr} {c1 : Nat} {m : List It} {A2 : Option Addr} {c2 : Nat} {out : List It} (h : Ld N w wr A c x A1 c1 m A2 c2 out) (hg : wr.grownBy w2 none) : Ld N w w2 A c x A1 c1 m A2 c2 out :=
  ⟨h.rest.grow hg, h.src, h.got.grow hg, h.apart, h.drn, gtrans h.gr hg⟩
theorem Ld.len {N : Nat} {w wr : World} {A : Option Addr} {c : Nat} {x : List It} {A1 : Option Addr} {c1 : Nat} {m : List It} {A2 : Option Addr} {c2 : Nat} {out : List It} (h : Ld N w wr A c x A1 c1 m A2 c2 out) : out.length + m.length = x.length := by
  have := h.drn.1.length_eq
  rw [List.length_append] at this; exact this
theorem Ld.step {N : Nat} {w wr w2 W w3 : World} {A : Option Addr} {c : Nat} {x : List It} {A1 : Option Addr} {c1 : Nat} {m : List It} {A2 : Option Addr} {c2 : Nat} {out : List It} {k t : Nat} {A' : Option Addr} {c' g' cap' : Nat} {y : It}
    (h : Ld N w wr A c x A1 c1 m A2 c2 out) (hN : N ≤ w.heap.size) (hF : Fst m k) (hy : ia m k = y) (ht : out.length = t) (hO : OwnI wr.heap.size w2 A' c' (m.eraseIdx k)) (g2 : wr.grownBy w2 none) (hW : w2.grownBy W none)
    (hown : w3.ownsRow w.heap.size 28 2 (.slice (some ⟨g', 0, none⟩) (t + 1) cap') (t + 1) (cs out ++ cs [y])) (hg : W.grownBy w3 (blk A2 t c2)) (hat : blk A2 t c2 = some g' ∨ g' = W.heap.size) :
    Ld N w w3 A c x A' c' (m.eraseIdx k) (some ⟨g', 0, none⟩) cap' (out ++ [y]) := by
  have e1 : (out ++ [y]).length = t + 1 := by simp [ht]
  have hsz : w.heap.size ≤ wr.heap.size := h.gr.size
  have hob : ∀ i, blk A2 t c2 = some i → w.heap.size ≤ i ∧ i < wr.heap.size := fun i e => h.got.lo i (by rw [ht]; exact e)
  have hrb : ∀ i, blk A' (m.eraseIdx k).length c' = some i → wr.heap.size ≤ i ∧ i < w2.heap.size := fun i e => hO.lo i e
  have gW := gtrans (gtrans h.gr g2) hW
  refine ⟨?_, fun i e => .inr (by have := (hrb i e).1; omega), ?_, fun i e e2 => ?_, ?_, ?_⟩
  · refine OwnI.mono (N := wr.heap.size) ?_ (by omega)
    refine (hO.grow hW).keep hg (fun i e e2 => ?_)
    have a1 := (hrb i e).1
    have a2 := (hob i e2).2
    omega
  · unfold OwnI; rw [e1, cs_append]; exact hown
  · have a1 := hrb i e
    have e3 : g' = i := by simpa [Value.ownBlock] using e2
    subst e3
    rcases hat with e4 | e4
    · have := (hob _ e4).2; omega
    · have := hW.size; omega
  · rw [← hy]
    exact h.drn.next (perm_erase hF.1) (fst_mem hF)
  · exact ⟨hg.os.trans gW.os, hg.tape.trans gW.tape, hg.output.trans gW.output, Nat.le_trans gW.size hg.size, fun i hi hne => (hg.block i (Nat.lt_of_lt_of_le hi gW.size) (fun e => by have := (hob i e.symm).1; omega)).trans (gW.block i hi hne)⟩
def LDrP (N : Nat) (A : Option Addr) (c : Nat) (x : List It) (most : Int) (w : World) (e : Ending) (w' : World) : Prop :=
  ∃ A1 c1 m A2 c2 out, e = .returned (.tuple #[.slice A2 out.length c2, .slice A1 m.length c1]) ∧ Ld N w w' A c x A1 c1 m A2 c2 out ∧ out.length = min most.toNat x.length
set_option maxHeartbeats 4000000 in
set_option maxRecDepth 100000 in
theorem ldrain_v (N : Nat) (A : Option Addr) (n c : Nat) (x : List It) (hn : x.length = n) (hn2 : n ≤ 100000) (most : Int) (w : World) (h : OwnI N w A c x) (hN : N ≤ w.heap.size) :
    Calls Try.prog 14 #[.slice A n c, .int .i64 most] w (LDrP N A c x most w) := by
  obtain ⟨i0, hi0, hz0, hz1, hz2⟩ := info_parts info28
  have I0 := Lib.hid (And.intro hi0 (And.intro hz0 (And.intro hz1 hz2)))
  have H0 := Lib.hid (And.intro hn (show Ld N w w A c x A c x none 0 [] from ⟨h, fun k e => .inl e, OwnI.nil _ _, (fun k _ e => by cases e), Drn.start x x (List.Perm.refl _), World.grownBy.refl _ _⟩))
  clear hi0 hz0 hz1 hz2 h hn
  go_enter Try.func14, Try.ntmps14
  go_wp2_with fail
  go_loopg [0, 6] (n + 1) (fun gk u0 u6 wr => ∃ (A1 : Option Addr) (c1 r : Nat) (m : List It) (A2 : Option Addr) (c2 t : Nat) (out : List It), u0 = .slice A1 r c1 ∧ u6 = .slice A2 t c2 ∧ r < gk ∧ t + r = n ∧ Hid (Ld N w wr A c x A1 c1 m A2 c2 out ∧ m.length = r ∧ out.length = t ∧ t ≤ most.toNat))
  case atStart => exact ⟨A, c, n, x, none, 0, 0, [], rfl, rfl, by omega, by omega, H0.out.2, H0.out.1, rfl, by omega⟩
  case round =>
    obtain ⟨A1, c1, r, m, A2, c2, t, out, rfl, rfl, hk, htr, HH⟩ := hrel
    by_cases hlt : (t : Int) < most
    · by_cases hr : r = 0
      · subst hr
        go_wp2_with fail
        refine (rpop_none A1 c1 _).mono ?_
        rintro e w2 ⟨rfl, hg2⟩
        have H2 := Lib.hid hg2
        clear hg2
        go_wp2_with fail
        go_ret2
        obtain ⟨hd, hm, ht, hmo⟩ := HH.out
        have hlen := hd.len
        have h0 := H0.out.1
        refine ⟨A1, c1, m, A2, c2, out, by rw [hm, ht]; rfl, hd.grow (gtrans H2.out (galloc _ _ none)), by omega⟩
      · have hr0 : 0 < r := by omega
        obtain ⟨b, rfl, hcb⟩ := HH.out.1.rest.form (by rw [HH.out.2.1]; exact hr0)
        have hcb2 : r ≤ c1 := by rw [← HH.out.2.1]; exact hcb
        have HC := Lib.hid hcb2
        clear hcb hcb2 hr
        go_wp2_with fail
        refine (rpop_some N r b c1 m HH.out.2.1 hr0 (by omega) HC.out _ HH.out.1.rest).mono ?_
        rintro e w2 ⟨k, A', c', rfl, hF, hO, hg2⟩
        have hel : (m.eraseIdx k).length = r - 1 := er_len HH.out.2.1 (by have := hF.1; rw [HH.out.2.1] at this; exact this)
        rw [hel]
        obtain ⟨y, hy⟩ : ∃ y, ia m k = y := ⟨_, rfl⟩
        have H2 := Lib.hid (And.intro hF (And.intro hO (And.intro hg2 (And.intro hel hy))))
        rw [hy]
        clear hF hO hg2 hel hy
        obtain ⟨a, d⟩ := y
        have ho : w2.ownsRow w.heap.size 28 2 (.slice A2 t c2) t (cs out) := by
          have h1 := HH.out.1.got.grow H2.out.2.2.1
          unfold OwnI at h1
          rw [HH.out.2.2.1] at h1; exact h1
        have hnw : ∀ j u, (cs [(a, d)])[j]? = some u → ((w2.alloc (.cells #[.int .i64 a, .int .i64 d] 28)).alloc (.cells #[.int .i64 a, .int .i64 d] 28)).cell? ((⟨w2.heap.size + 1, 0, none⟩ : Addr).add j) = some u := fun j u hj => by
          have := news_new (w2.alloc (.cells #[.int .i64 a, .int .i64 d] 28)) #[.int .i64 a, .int .i64 d] 28 (cs [(a, d)]) rfl j u hj
          simpa using this
        have hba : w.heap.size ≤ ((w2.alloc (.cells #[.int .i64 a, .int .i64 d] 28)).alloc (.cells #[.int .i64 a, .int .i64 d] 28)).heap.size := by
          have h1 := HH.out.1.gr.size
          have h2 := H2.out.2.2.1.size
          simp; omega
        have HO := Lib.hid (And.intro ho (And.intro hnw hba))
        clear ho hnw hba
        go_wp2_with (at_builtin; refine wpList_append_lies _ rfl (.tmp 22) (.tmp 24) 22 rfl w.heap.size 28 i0 (.agg #[.int .i64 0, .int .i64 0]) 2 16 Try.underlying22 I0.out.1 I0.out.2.1 I0.out.2.2.1 I0.out.2.2.2 rfl (by decide) (.slice A2 t c2) t (cs out) rfl ((HO.out.1.alloc _).alloc _) ⟨w2.heap.size + 1, 0, none⟩ 1 1 (cs [(a, d)]) rfl rfl HO.out.2.1 (cs_one _) (by decide) (by unfold maxLen; omega) (by omega) HO.out.2.2 _ rfl ?_)
        intro g' cap' w3 hown hgrow hat _
        have H3 := Lib.hid (HH.out.1.step hN H2.out.1 H2.out.2.2.2.2 HH.out.2.2.1 H2.out.2.1 H2.out.2.2.1 (gtrans (galloc _ _ none) (galloc _ _ none)) hown hgrow (by simpa using hat))
        clear hown hgrow hat
        go_wp2_with fail
        go_roundg (gk - 1)
        case measure => omega
        case rel =>
          exact ⟨A', c', r - 1, m.eraseIdx k, _, _, t + 1, out ++ [(a, d)], rfl, rfl, by omega, by omega, H3.out, H2.out.2.2.2.1, by simp [HH.out.2.2.1], by omega⟩
    · have hge : most ≤ (t : Int) := by omega
      go_wp2_with fail
      go_ret2
      obtain ⟨hd, hm, ht, hmo⟩ := HH.out
      have hlen := hd.len
      have h0 := H0.out.1
      refine ⟨A1, c1, m, A2, c2, out, by rw [hm, ht]; rfl, hd, by omega⟩
end Go.Proofs.Ythnpjaklcebgfaa
