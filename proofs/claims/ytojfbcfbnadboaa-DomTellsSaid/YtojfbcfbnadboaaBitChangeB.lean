
/- What the program's Drop, New and Of answer. -/
import Derived.Test.YtojfbcfbnadboaaBitChange
namespace Go.Proofs.Ytojfbcfbnadboaa.Bit
open Go.ChangeShapes Go.WideShapes Go.RowKit
set_option linter.unusedVariables false

theorem add_v (i : Int) (B p g : Nat) (bs : List Bool) (w : World) (h : SetAt B w p g bs) :
    Calls Try.prog 49 #[.pointer (some ⟨p, 0, none⟩), .int .i64 i] w (PutP B p g bs i true w) := by
  by_cases hi : i < 0
  · exact add_low i B p g bs hi w h
  · obtain ⟨k, rfl⟩ : ∃ k : Nat, i = (k : Int) := ⟨i.toNat, by omega⟩
    by_cases hl : k < bs.length
    · cases hh : has bs k
      · exact add_new k B p g bs hl hh w h
      · exact add_there k B p g bs hl hh w h
    · exact add_past k B p g bs (by omega) w h
/-- Has, at any number. -/
def hasI (bs : List Bool) (i : Int) : Bool := decide (0 ≤ i) && has bs i.toNat
theorem has_v (i : Int) (B p g : Nat) (bs : List Bool) (w : World) (h : SetAt B w p g bs) :
    Calls Try.prog 20 #[.pointer (some ⟨p, 0, none⟩), .int .i64 i] w fun e w' => e = .returned (.bool (hasI bs i)) ∧ ∃ m, w' = w.drewN m := by
  by_cases hi : i < 0
  · have : hasI bs i = false := by unfold hasI; rw [decide_eq_false (by omega)]; rfl
    rw [this]; exact has_low i _ hi w
  · obtain ⟨k, rfl⟩ : ∃ k : Nat, i = (k : Int) := ⟨i.toNat, by omega⟩
    have : hasI bs (k : Int) = has bs k := by unfold hasI; simp
    rw [this]
    by_cases hl : k < bs.length
    · exact has_in k B p g bs _ hl rfl w h
    · rw [has_past (by omega)]; exact has_past' k B p g bs (by omega) w h
theorem info57 : (Try.prog.info? 76).map (fun i => (i.zero, i.size, i.bytes)) = some (some (.int .u64 0), 1, 8) := by kernel_rfl
/-- What New hands back. -/
def NewP (bs : List Bool) (w : World) (e : Ending) (w' : World) : Prop :=
  ∃ p g, e = .returned (.pointer (some ⟨p, 0, none⟩)) ∧ SetAt w.heap.size w' p g bs ∧ w.grownBy w' none
theorem new_at {w w1 : World} {N m : Nat} (hN : N ≤ 300) (hm : words N = m) (hown : w1.ownsRow w.heap.size 76 1 (.slice (some ⟨w.heap.size, 0, none⟩) m m) m (madeCells #[Value.int .u64 0] m).toList) (hg : w.grownBy w1 none) :
    SetAt w.heap.size (w1.alloc (.cells #[.int .i64 (N : Int), .slice (some ⟨w.heap.size, 0, none⟩) m m] 79)) w1.heap.size w.heap.size (List.replicate N false) := by
  have hlt := (hown.lt w.heap.size rfl).2
  have hl : (List.replicate N false).length = N := by simp
  have hgr := galloc w1 (.cells #[.int .i64 (N : Int), .slice (some ⟨w.heap.size, 0, none⟩) m m] 79) none
  have hb := heap_alloc_new w1 (.cells #[.int .i64 (N : Int), .slice (some ⟨w.heap.size, 0, none⟩) m m] 79)
  refine ⟨Nat.le_of_lt hlt, Nat.le_refl _, by omega, by rw [hl]; exact hN, by simp, ?_, ?_, ?_, ?_, ?_⟩
  · rw [hl, Lib.cell_of_heap hb]; rfl
  · rw [hl, hm, Lib.cell_of_heap hb]; rfl
  · exact Nat.lt_of_lt_of_le hlt hgr.size
  · intro k hk
    rw [hl, hm] at hk
    rw [hgr.cell_far ⟨w.heap.size, k, none⟩ hlt (by simp), hown.cellAt k (by omega), word_none]
    rw [toList_madeCells_one, List.getElem?_replicate, if_pos (by omega)]; rfl
  · intro k
    rw [hgr.frozen_far ⟨w.heap.size, k, none⟩ hlt (by simp)]; exact hown.frozenAt k
theorem new_nat (N : Nat) (hN : N ≤ 300) (w : World) : Calls Try.prog 47 #[.int .i64 (N : Int)] w (NewP (List.replicate N false) w) := by
  obtain ⟨i0, hi0, hz0, hz1, hz2⟩ := info_parts info57
  have I0 := Lib.hid (And.intro hi0 (And.intro hz0 (And.intro hz1 hz2)))
  clear hi0 hz0 hz1 hz2
  obtain ⟨m, hm⟩ : ∃ m, words N = m := ⟨_, rfl⟩
  have hm5 : m ≤ 5 := by rw [← hm]; exact words_le hN
  have q1 : ((N : Int) + 64 - 1) / 64 = (m : Int) := by rw [← hm]; unfold words; omega
  have HM := Lib.hid hm
  clear hm
  go_enter Try.func47, Try.ntmps47
  go_wp2_with (at_make; refine wpList_make_full _ rfl _ _ 77 rfl w.heap.size 76 i0 (.int .u64 0) 1 Try.underlying77 I0.out.1 I0.out.2.1 I0.out.2.2.1 _ _ _ _ m rfl rfl q1 q1 (by rw [I0.out.2.2.2]; omega) (by unfold maxLen; omega) (Nat.le_refl _) ?_)
  intro w1 hown hgrow
  have H1 := Lib.hid (And.intro hown hgrow)
  clear hown hgrow q1
  go_wp2_with fail
  go_ret
  exact ⟨_, _, rfl, new_at hN HM.out H1.out.1 H1.out.2, gtrans H1.out.2 (galloc _ _ _)⟩
theorem new_neg (n : Int) (hn : n < 0) (w : World) : Calls Try.prog 47 #[.int .i64 n] w (NewP (List.replicate 0 false) w) := by
  obtain ⟨i0, hi0, hz0, hz1, hz2⟩ := info_parts info57
  have I0 := Lib.hid (And.intro hi0 (And.intro hz0 (And.intro hz1 hz2)))
  clear hi0 hz0 hz1 hz2
  go_enter Try.func47, Try.ntmps47
  go_wp2_with (at_make; refine wpList_make_full _ rfl _ _ 77 rfl w.heap.size 76 i0 (.int .u64 0) 1 Try.underlying77 I0.out.1 I0.out.2.1 I0.out.2.2.1 _ _ _ _ 0 rfl rfl rfl rfl (by rw [I0.out.2.2.2]; omega) (by unfold maxLen; omega) (Nat.le_refl _) ?_)
  intro w1 hown hgrow
  have H1 := Lib.hid (And.intro hown hgrow)
  clear hown hgrow
  go_wp2_with fail
  go_ret
  exact ⟨_, _, rfl, new_at (N := 0) (by omega) rfl H1.out.1 H1.out.2, gtrans H1.out.2 (galloc _ _ _)⟩
theorem new_v (n : Int) (N : Nat) (hN : n.toNat = N) (hn : n ≤ 300) (w : World) : Calls Try.prog 47 #[.int .i64 n] w (NewP (List.replicate N false) w) := by
  by_cases h : n < 0
  · obtain rfl : N = 0 := by omega
    exact new_neg n h w
  · obtain rfl : n = (N : Int) := by omega
    exact new_nat N (by omega) w
/-- Some numbers one behind the other into a set. -/
def puts (bs : List Bool) (l : List Int) : List Bool := l.foldl (fun b i => wth b i true) bs
theorem puts_len (bs : List Bool) (l : List Int) : (puts bs l).length = bs.length := by
  unfold puts
  induction l generalizing bs with
  | nil => rfl
  | cons i l ih => rw [List.foldl_cons, ih, wth_len]
theorem puts_take (bs : List Bool) (l : List Int) (k : Nat) (h : k < l.length) : puts bs (l.take (k + 1)) = wth (puts bs (l.take k)) l[k] true := by
  unfold puts; rw [List.take_succ_eq_append_getElem h, List.foldl_append]; rfl
/-- The numbers l are those of a slice. -/
def Ints (w : World) (A : Option Addr) (l : List Int) : Prop := l = [] ∨ ∃ b o, A = some ⟨b, o, none⟩ ∧ b < w.heap.size ∧ ∀ k (h : k < l.length), w.cell? ⟨b, o + k, none⟩ = some (.int .i64 l[k])
theorem Ints.kept {w w' : World} {A : Option Addr} {l : List Int} {row : Option Nat} (h : Ints w A l) (hg : w.grownBy w' row) (hr : ∀ k, row = some k → w.heap.size ≤ k) : Ints w' A l := by
  rcases h with h | ⟨b, o, rfl, hb, hc⟩
  · exact .inl h
  · exact .inr ⟨b, o, rfl, Nat.lt_of_lt_of_le hb hg.size, fun k hk => (hg.cell_far ⟨b, o + k, none⟩ hb (fun e => by have := hr b e.symm; omega)).trans (hc k hk)⟩
set_option maxRecDepth 100000 in
set_option maxHeartbeats 1000000 in
theorem of_v (n : Int) (N : Nat) (hN : n.toNat = N) (hn : n ≤ 300) (A : Option Addr) (M c : Nat) (l : List Int) (hM : l.length = M) (hM2 : M ≤ 1000) (w : World) (hl : Ints w A l) :
    Calls Try.prog 44 #[.int .i64 n, .slice A M c] w (NewP (puts (List.replicate N false) l) w) := by
  have HQ := Lib.hid (And.intro hN (And.intro hn (And.intro hM hl)))
  clear hN hn hM hl
  go_enter Try.func44, Try.ntmps44
  go_wp2_with fail
  refine (new_v n N HQ.out.1 HQ.out.2.1 _).mono ?_
  rintro e w1 ⟨p, g, rfl, hs, hg⟩
  have H1 := Lib.hid (And.intro hs hg)
  clear hs hg
  go_wp2_with fail
  go_loopg [12] M (fun gk u wr => ∃ k : Nat, k + gk = M ∧ u = .int .i64 (k : Int) ∧ Hid (SetAt w.heap.size wr p g (puts (List.replicate N false) (l.take k)) ∧ w.grownBy wr none))
  case atStart => exact ⟨0, by omega, rfl, H1.out⟩
  case round =>
    obtain ⟨k, hk, rfl, HH⟩ := hrel
    by_cases hlt : k < M
    · obtain ⟨hs, hg⟩ := HH.out
      obtain ⟨_, _, hM, hl⟩ := HQ.out
      have hkl : k < l.length := by omega
      rcases hl.kept hg (by simp) with h0 | ⟨b, o, rfl, hb, hc⟩
      · rw [h0] at hkl; cases hkl
      · have c0 := hc k hkl
        obtain ⟨x, hx⟩ : ∃ x, l[k] = x := ⟨_, rfl⟩
        rw [hx] at c0
        have HX := Lib.hid (show ∃ h : k < l.length, l[k]'h = x from ⟨hkl, hx⟩)
        clear hs hg hM hl hb hc hkl hx
        go_wp2_with fail
        refine (add_v x w.heap.size p g _ _ HH.out.1).mono ?_
        rintro e w2 ⟨rfl, hs2, hg2⟩
        have H2 := Lib.hid (And.intro hs2 hg2)
        clear hs2 hg2
        go_wp2_with fail
        go_roundg (gk - 1)
        case measure => omega
        case rel =>
          refine ⟨k + 1, by omega, by go_num, ?_, gnew HH.out.2 H2.out.2 HH.out.1.log⟩
          obtain ⟨hkl, hx⟩ := HX.out
          rw [puts_take _ _ _ hkl, hx]; exact H2.out.1
    · obtain rfl : k = M := by omega
      have hge : ¬ (k : Int) < (k : Int) := by omega
      go_wp2_with fail
      go_ret
      have h1 := HH.out
      rw [List.take_of_length_le (by have := HQ.out.2.2.1; omega)] at h1
      exact ⟨p, g, rfl, h1⟩
end Go.Proofs.Ytojfbcfbnadboaa.Bit
