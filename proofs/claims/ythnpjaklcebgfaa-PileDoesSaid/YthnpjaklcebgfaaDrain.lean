/- What a pile's Drain answers. -/
import Derived.Test.YthnpjaklcebgfaaNew
namespace Go.Proofs.Ythnpjaklcebgfaa
open Go.ChangeShapes Go.WideShapes Go.RowKit
set_option linter.unusedVariables false

theorem Kp.row {q g : Nat} {w w1 w2 : World} {row : Option Nat} (h : Kp q g w w1) (k : w1.grownBy w2 row) (hr : ∀ k, row = some k → w.heap.size ≤ k) : Kp q g w w2 :=
  ⟨k.os.trans h.os, k.tape.trans h.tape, k.output.trans h.output, Nat.le_trans h.size k.size, fun i hi h1 h2 => (k.block i (Nat.lt_of_lt_of_le hi h.size) (fun e => by have := hr i e.symm; omega)).trans (h.block i hi h1 h2)⟩
/-- A slice of items of the call's own. -/
def OwnI (N : Nat) (w : World) (A : Option Addr) (c : Nat) (l : List It) : Prop := w.ownsRow N 28 2 (.slice A l.length c) l.length (cs l)
theorem OwnI.nil (N : Nat) (w : World) : OwnI N w none 0 [] := World.ownsRow_nil w N 28 2
theorem OwnI.lo {N : Nat} {w : World} {A : Option Addr} {c : Nat} {l : List It} (h : OwnI N w A c l) : ∀ k, Value.ownBlock (.slice A l.length c) = some k → N ≤ k ∧ k < w.heap.size := World.ownsRow.lt h
theorem OwnI.mono {N N' : Nat} {w : World} {A : Option Addr} {c : Nat} {l : List It} (h : OwnI N w A c l) (hN : N' ≤ N) : OwnI N' w A c l := by
  rcases h with ⟨h1, h2⟩
  refine ⟨h1, ?_⟩
  rcases h2 with h2 | ⟨g, cap, cur, e, hb, r⟩
  · exact .inl h2
  · exact .inr ⟨g, cap, cur, e, Nat.le_trans hN hb, r⟩
theorem OwnI.kp {N q g : Nat} {w w' : World} {A : Option Addr} {c : Nat} {l : List It} (h : OwnI N w A c l) (hk : Kp q g w w') (hq : q < N) (hg : g < N) : OwnI N w' A c l :=
  hk.owns h (fun k e => by have := (h.lo k e).1; omega)
theorem OwnI.grow {N : Nat} {w w' : World} {A : Option Addr} {c : Nat} {l : List It} (h : OwnI N w A c l) (hg : w.grownBy w' none) : OwnI N w' A c l := by
  refine World.ownsRow.kept h hg ?_
  cases e : Value.ownBlock (.slice A l.length c) with
  | none => exact .inl rfl
  | some k => exact .inr (by simp)
/-- The items of an own slice are a slice's. -/
theorem OwnI.its {N : Nat} {w : World} {A : Option Addr} {c : Nat} {l : List It} (h : OwnI N w A c l) : Its w A l := by
  by_cases hl : l.length = 0
  · exact .inl (List.eq_nil_of_length_eq_zero hl)
  · obtain ⟨g, cap, e, _, hlt⟩ := World.ownsRow.form h (by omega)
    simp only [Value.slice.injEq, true_and] at e
    obtain ⟨rfl, rfl⟩ := e
    refine .inr ⟨g, 0, rfl, hlt, fun k hk => ?_⟩
    rw [Nat.zero_add]
    rw [World.ownsRow.cellAt h _ (by omega), World.ownsRow.cellAt h _ (by omega)]
    exact cs_key l k hk
/-- What is so, so far. -/
structure Dr (B : Nat) (w wr : World) (p q g cap : Nat) (l : List It) (A : Option Addr) (c : Nat) (out m : List It) : Prop where
  pl : Pl B wr p q g cap m
  drn : Drn l out m
  kp : Kp q g w wr
  own : OwnI w.heap.size wr A c out
theorem Dr.len {B : Nat} {w wr : World} {p q g cap : Nat} {l : List It} {A : Option Addr} {c : Nat} {out m : List It} (h : Dr B w wr p q g cap l A c out m) : out.length + m.length = l.length := by
  have := h.drn.1.length_eq
  rw [List.length_append] at this; exact this
/-- What Drain hands back. -/
def DrP (B p q g cap : Nat) (l : List It) (most : Int) (w : World) (e : Ending) (w' : World) : Prop :=
  ∃ A c out m, e = .returned (.slice A out.length c) ∧ Dr B w w' p q g cap l A c out m ∧ out.length = min most.toNat l.length
theorem drain_step {B : Nat} {w wr w2 W w3 : World} {p q g cap : Nat} {l : List It} {A : Option Addr} {c : Nat} {out m m2 : List It} {x : It} {g' cap' N : Nat} (h : Dr B w wr p q g cap l A c out m) (hm : 0 < m.length) (hx : ia m 0 = x) (hN : out.length = N)
    (h2 : Pl B w2 p q g cap m2 ∧ m.Perm (ia m 0 :: m2) ∧ Kp q g wr w2) (hW : w2.grownBy W none) (hown : w3.ownsRow w.heap.size 28 2 (.slice (some ⟨g', 0, none⟩) (N + 1) cap') (N + 1) (cs out ++ cs [x])) (hg : W.grownBy w3 (Value.ownBlock (.slice A N c)))
    (h0 : p < w.heap.size ∧ q < w.heap.size ∧ g < w.heap.size) : Dr B w w3 p q g cap l (some ⟨g', 0, none⟩) cap' (out ++ [x]) m2 := by
  obtain ⟨p2, m2p, k2⟩ := h2
  have hr : ∀ k, Value.ownBlock (.slice A N c) = some k → w.heap.size ≤ k := fun k e => (h.own.lo k (by rw [hN]; exact e)).1
  refine ⟨?_, ?_, ?_, ?_⟩
  · refine (p2.grow hW).kept hg (fun e => ?_) (fun e => ?_) (fun e => ?_)
    · have := hr p e.symm; omega
    · have := hr q e.symm; omega
    · have := hr g e.symm; omega
  · rw [hx] at m2p
    exact h.drn.next m2p (fun b hb => by rw [← hx]; exact h.pl.hp.mem hb)
  · exact ((h.kp.trans k2 (.inl rfl)).trans (Kp.nil hW) (.inl rfl)).row hg hr
  · unfold OwnI
    have e1 : (out ++ [x]).length = N + 1 := by simp [hN]
    rw [e1, cs_append]; exact hown
set_option maxHeartbeats 2000000 in
theorem drain_v (B p q g cap : Nat) (l : List It) (most : Int) (w : World) (h : Pl B w p q g cap l) :
    Calls Try.prog 13 #[.pointer (some ⟨p, 0, none⟩), .int .i64 most] w (DrP B p q g cap l most w) := by
  obtain ⟨i0, hi0, hz0, hz1, hz2⟩ := info_parts info28
  have I0 := Lib.hid (And.intro hi0 (And.intro hz0 (And.intro hz1 hz2)))
  have hs := h.at_.small
  have HL := Lib.hid (And.intro h.lt (And.intro h.at_.lt h.at_.ltg))
  have H0 := Lib.hid (show Dr B w w p q g cap l none 0 [] l from ⟨h, Drn.start l l (List.Perm.refl _), Kp.refl _ _ _, OwnI.nil _ _⟩)
  obtain ⟨n, hn⟩ : ∃ n, l.length = n := ⟨_, rfl⟩
  have HN := Lib.hid hn
  rw [hn] at hs
  clear hi0 hz0 hz1 hz2 h hn
  go_enter Try.func13, Try.ntmps13
  go_wp2_with fail
  go_loopg [5] (n + 1) (fun gk u wr => ∃ (A : Option Addr) (c N : Nat) (out m : List It), u = .slice A N c ∧ n + 1 - N ≤ gk ∧ N ≤ n ∧ Hid (Dr B w wr p q g cap l A c out m ∧ out.length = N ∧ N ≤ most.toNat))
  case atStart => exact ⟨none, 0, 0, [], l, rfl, by omega, by omega, H0.out, rfl, by omega⟩
  case round =>
    obtain ⟨A, c, N, out, m, rfl, hk, hNn, HH⟩ := hrel
    by_cases hlt : (N : Int) < most
    · by_cases hm : m.length = 0
      · obtain rfl : m = [] := List.eq_nil_of_length_eq_zero hm
        clear hm
        go_wp2_with fail
        refine (pop_none B p q g cap _ HH.out.1.pl).mono ?_
        rintro e w2 ⟨rfl, hg2⟩
        have H2 := Lib.hid hg2
        clear hg2
        go_wp2_with fail
        go_ret
        obtain ⟨hd, hN, hmo⟩ := HH.out
        have hlen := hd.len
        have gA := gtrans H2.out (galloc w2 (.cells #[.int .i64 0, .int .i64 0] 28) none)
        refine ⟨A, c, out, [], by rw [hN]; rfl, ⟨hd.pl.grow gA, hd.drn, hd.kp.row gA (by simp), hd.own.grow gA⟩, ?_⟩
        rw [List.length_nil] at hlen
        omega
      · have hm2 : 0 < m.length := by omega
        have HM := Lib.hid hm2
        clear hm hm2
        go_wp2_with fail
        refine (pop_some B p q g cap m HM.out _ HH.out.1.pl).mono ?_
        rintro e w2 ⟨m2, rfl, hp2, hm2, hk2⟩
        have H2 := Lib.hid (And.intro hp2 (And.intro hm2 hk2))
        clear hp2 hm2 hk2
        generalize hx : ia m 0 = x at ⊢
        have HX := Lib.hid hx
        clear hx
        obtain ⟨a, b⟩ := x
        have hNlt : N < n := by
          have h1 := HH.out.1.len
          have h2 := HM.out
          have h3 := HH.out.2.1
          have h4 := HN.out
          omega
        have ho : w2.ownsRow w.heap.size 28 2 (.slice A N c) N (cs out) := by
          have h1 := HH.out.1.own.kp H2.out.2.2 HL.out.2.1 HL.out.2.2
          unfold OwnI at h1
          rw [HH.out.2.1] at h1; exact h1
        have hnw : ∀ j u, (cs [(a, b)])[j]? = some u → ((w2.alloc (.cells #[.int .i64 a, .int .i64 b] 28)).alloc (.cells #[.int .i64 a, .int .i64 b] 28)).cell? ((⟨w2.heap.size + 1, 0, none⟩ : Addr).add j) = some u := fun j u hj => by
          have := news_new (w2.alloc (.cells #[.int .i64 a, .int .i64 b] 28)) #[.int .i64 a, .int .i64 b] 28 (cs [(a, b)]) rfl j u hj
          simpa using this
        have hba : w.heap.size ≤ ((w2.alloc (.cells #[.int .i64 a, .int .i64 b] 28)).alloc (.cells #[.int .i64 a, .int .i64 b] 28)).heap.size := by
          have h1 := HH.out.1.kp.size
          have h2 := H2.out.2.2.size
          simp; omega
        have HO := Lib.hid (And.intro ho (And.intro hnw hba))
        clear ho hnw hba
        go_wp2_with (at_builtin; refine wpList_append_lies _ rfl (.tmp 19) (.tmp 21) 22 rfl w.heap.size 28 i0 (.agg #[.int .i64 0, .int .i64 0]) 2 16 Try.underlying22 I0.out.1 I0.out.2.1 I0.out.2.2.1 I0.out.2.2.2 rfl (by decide) (.slice A N c) N (cs out) rfl ((HO.out.1.alloc _).alloc _) ⟨w2.heap.size + 1, 0, none⟩ 1 1 (cs [(a, b)]) rfl rfl HO.out.2.1 (cs_one _) (by decide) (by unfold maxLen; omega) (by omega) HO.out.2.2 _ rfl ?_)
        intro g' cap' w3 hown hgrow _ _
        have H3 := Lib.hid (And.intro hown hgrow)
        clear hown hgrow
        go_wp2_with fail
        go_roundg (gk - 1)
        case measure => omega
        case rel =>
          refine ⟨_, _, N + 1, out ++ [(a, b)], m2, rfl, by omega, by omega, ?_, by simp [HH.out.2.1], by omega⟩
          exact drain_step HH.out.1 HM.out HX.out HH.out.2.1 H2.out (gtrans (galloc _ _ _) (galloc _ _ _)) H3.out.1 H3.out.2 HL.out
    · have hge : most ≤ (N : Int) := by omega
      go_wp2_with fail
      go_ret
      obtain ⟨hd, hN, hmo⟩ := HH.out
      have hlen := hd.len
      refine ⟨A, c, out, m, by rw [hN]; rfl, hd, ?_⟩
      omega
set_option maxHeartbeats 1000000 in
theorem drain_nil (most : Int) (w : World) : Calls Try.prog 13 #[.pointer none, .int .i64 most] w fun e w' => e = .returned (.slice none 0 0) ∧ w.grownBy w' none := by
  go_enter Try.func13, Try.ntmps13
  go_wp2_with fail
  go_loopg [5] 1 (fun gk u wr => u = .slice none 0 0 ∧ Hid (w.grownBy wr none))
  case atStart => exact ⟨rfl, World.grownBy.refl _ _⟩
  case round =>
    obtain ⟨rfl, HH⟩ := hrel
    by_cases hlt : 0 < most
    · go_wp2_with fail
      refine (pop_nil _).mono ?_
      rintro e w2 ⟨rfl, hg2⟩
      have H2 := Lib.hid hg2
      clear hg2
      go_wp2_with fail
      go_ret
      exact ⟨rfl, gtrans HH.out (gtrans H2.out (galloc _ _ _))⟩
    · have hge : most ≤ 0 := by omega
      go_wp2_with fail
      go_ret
      exact ⟨rfl, HH.out⟩
end Go.Proofs.Ythnpjaklcebgfaa
