/- What the document's own New, Has, List and Same answer; and how its sets lie in memory. -/
import Derived.Test.YtgckoiepclgofaaDoorChangeB
import Derived.RangeFuncBox
import Derived.Laws.ResultCell
namespace Go.Proofs.YtgckoiepclgofaaDoor
open Go.ChangeShapes Go.WideShapes Go.RowKit
set_option linter.unusedVariables false

/-- The bools bs in block g. -/
structure Bl (w : World) (g : Nat) (bs : List Bool) : Prop where
  lt : g < w.heap.size
  small : bs.length ≤ 300
  cell : ∀ k, k < bs.length → w.cell? ⟨g, k, none⟩ = some (.bool (has bs k))
  free : ∀ k, w.frozen? ⟨g, k, none⟩ = false
theorem Bl.kept {w w' : World} {g : Nat} {bs : List Bool} {row : Option Nat} (h : Bl w g bs) (hg : w.grownBy w' row) (h1 : some g ≠ row) : Bl w' g bs :=
  ⟨Nat.lt_of_lt_of_le h.lt hg.size, h.small, fun k hk => (hg.cell_far ⟨g, k, none⟩ h.lt h1).trans (h.cell k hk), fun k => (hg.frozen_far ⟨g, k, none⟩ h.lt h1).trans (h.free k)⟩
theorem Bl.grow {w w' : World} {g : Nat} {bs : List Bool} (h : Bl w g bs) (hg : w.grownBy w' none) : Bl w' g bs := h.kept hg (by simp)
theorem info4 : (Tryd.prog.info? 4).map (fun i => (i.zero, i.size, i.bytes)) = some (some (.bool false), 1, 1) := by kernel_rfl
/-- What the document's New hands back: the slice's block is new. -/
def RefP (bs : List Bool) (n : Nat) (w : World) (e : Ending) (w' : World) : Prop :=
  ∃ g c, e = .returned (.agg #[.slice (some ⟨g, 0, none⟩) n c]) ∧ w.heap.size ≤ g ∧ Bl w' g bs ∧ w.grownBy w' none
theorem rnew_at {w w1 : World} {N : Nat} (hN : N ≤ 300) (hown : w1.ownsRow (w.heap.size + 1) 4 1 (.slice (some ⟨w.heap.size + 1, 0, none⟩) N N) N (madeCells #[Value.bool false] N).toList)
    (hg : (w.alloc (.cells #[.slice none 0 0] 29)).grownBy w1 none) (v : Value) : w.heap.size ≤ w.heap.size + 1 ∧ Bl (w1.setCell ⟨w.heap.size, 0, none⟩ v) (w.heap.size + 1) (List.replicate N false) ∧ w.grownBy (w1.setCell ⟨w.heap.size, 0, none⟩ v) none := by
  have hlt := (hown.lt (w.heap.size + 1) rfl).2
  have hl : (List.replicate N false).length = N := by simp
  have hgr := gset w1 w.heap.size 0 v
  refine ⟨by omega, ⟨Nat.lt_of_lt_of_le hlt hgr.size, by rw [hl]; exact hN, fun k hk => ?_, fun k => by rw [World.frozen?_setCell]; exact hown.frozenAt k⟩, gnew (gtrans (galloc w _ none) hg) hgr (Nat.le_refl _)⟩
  rw [hl] at hk
  rw [hgr.cell_far ⟨w.heap.size + 1, k, none⟩ hlt (by simp), hown.cellAt k (by omega), has_none, toList_madeCells_one, List.getElem?_replicate, if_pos hk]
theorem rnew_nat (N : Nat) (hN : N ≤ 300) (w : World) : Calls Tryd.prog 8 #[.int .i64 (N : Int)] w (RefP (List.replicate N false) N w) := by
  obtain ⟨i0, hi0, hz0, hz1, hz2⟩ := info_parts info4
  have I0 := Lib.hid (And.intro hi0 (And.intro hz0 (And.intro hz1 hz2)))
  clear hi0 hz0 hz1 hz2
  have hge : ¬ (N : Int) < 0 := by omega
  go_enter Tryd.func8, Tryd.ntmps8
  go_wp2_with (at_make; refine wpList_make_full _ rfl _ _ 27 rfl (w.heap.size + 1) 4 i0 (.bool false) 1 Tryd.underlying27 I0.out.1 I0.out.2.1 I0.out.2.2.1 _ _ _ _ N rfl rfl rfl rfl (by rw [I0.out.2.2.2]; omega) (by unfold maxLen; omega) (by simp) ?_)
  intro w1 hown hgrow
  have bx : Boxed w1 w.heap.size 29 (.slice none 0 0) := (Boxed.new w 29 (.slice none 0 0)).kept hgrow (by simp)
  have hc := bx.cell
  have hf := bx.frozen
  have hr := (bx.set (.slice (some ⟨w.heap.size + 1, 0, none⟩) N N)).cell
  have H1 := Lib.hid (And.intro hown hgrow)
  clear hown hgrow
  go_wp2_with fail
  refine bodyPost_ret (v := .agg #[.slice (some ⟨w.heap.size + 1, 0, none⟩) N N]) (by simp [results, Tryd.f8, go_sem, hr]) rfl ?_
  exact ⟨_, _, rfl, rnew_at hN H1.out.1 H1.out.2 _⟩
theorem rnew_neg (n : Int) (hn : n < 0) (w : World) : Calls Tryd.prog 8 #[.int .i64 n] w (RefP (List.replicate 0 false) 0 w) := by
  obtain ⟨i0, hi0, hz0, hz1, hz2⟩ := info_parts info4
  have I0 := Lib.hid (And.intro hi0 (And.intro hz0 (And.intro hz1 hz2)))
  clear hi0 hz0 hz1 hz2
  go_enter Tryd.func8, Tryd.ntmps8
  go_wp2_with (at_make; refine wpList_make_full _ rfl _ _ 27 rfl (w.heap.size + 1) 4 i0 (.bool false) 1 Tryd.underlying27 I0.out.1 I0.out.2.1 I0.out.2.2.1 _ _ _ _ 0 rfl rfl rfl rfl (by rw [I0.out.2.2.2]; omega) (by unfold maxLen; omega) (by simp) ?_)
  intro w1 hown hgrow
  have bx : Boxed w1 w.heap.size 29 (.slice none 0 0) := (Boxed.new w 29 (.slice none 0 0)).kept hgrow (by simp)
  have hc := bx.cell
  have hf := bx.frozen
  have hr := (bx.set (.slice (some ⟨w.heap.size + 1, 0, none⟩) 0 0)).cell
  have H1 := Lib.hid (And.intro hown hgrow)
  clear hown hgrow
  go_wp2_with fail
  refine bodyPost_ret (v := .agg #[.slice (some ⟨w.heap.size + 1, 0, none⟩) 0 0]) (by simp [results, Tryd.f8, go_sem, hr]) rfl ?_
  exact ⟨_, _, rfl, rnew_at (N := 0) (by omega) H1.out.1 H1.out.2 _⟩
theorem rnew_v (n : Int) (N : Nat) (hN : n.toNat = N) (hn : n ≤ 300) (w : World) : Calls Tryd.prog 8 #[.int .i64 n] w (RefP (List.replicate N false) N w) := by
  by_cases h : n < 0
  · obtain rfl : N = 0 := by omega
    exact rnew_neg n h w
  · obtain rfl : n = (N : Int) := by omega
    exact rnew_nat N (by omega) w
theorem rhas_v (i : Int) (g n c : Nat) (bs : List Bool) (hn : bs.length = n) (w : World) (h : Bl w g bs) :
    Calls Tryd.prog 15 #[.agg #[.slice (some ⟨g, 0, none⟩) n c], .int .i64 i] w fun e w' => e = .returned (.bool (hasI bs i)) ∧ w.grownBy w' none := by
  by_cases hi : i < 0
  · have hb : hasI bs i = false := by unfold hasI; rw [decide_eq_false (by omega)]; rfl
    have h1 : decide ((0 : Int) ≤ i) = false := by rw [decide_eq_false_iff_not]; omega
    rw [hb]
    clear h hb hi
    go_enter Tryd.func15, Tryd.ntmps15
    go_wp2_with fail
    go_ret
    exact ⟨rfl, galloc _ _ _⟩
  · obtain ⟨k, rfl⟩ : ∃ k : Nat, i = (k : Int) := ⟨i.toNat, by omega⟩
    have hb : hasI bs (k : Int) = has bs k := by unfold hasI; simp
    rw [hb]
    have h1 : decide ((0 : Int) ≤ (k : Int)) = true := by simp
    by_cases hl : k < n
    · have hlt := h.lt
      have c0 := (Below.refl _ w).alloc (Nat.le_refl _) (.cells #[.slice (some ⟨g, 0, none⟩) n c] 29) |>.cell (p := ⟨g, k, none⟩) hlt |>.trans (h.cell k (by omega))
      have h2 : decide ((k : Int) < (n : Int)) = true := by simpa using hl
      have h3 : decide (k < n) = true := by simpa using hl
      have h4 : (k : Int) < (n : Int) := by omega
      obtain ⟨b, hbb⟩ : ∃ b, has bs k = b := ⟨_, rfl⟩
      rw [hbb] at c0 ⊢
      clear h hb hi hlt hbb
      go_enter Tryd.func15, Tryd.ntmps15
      go_wp2_with fail
      go_ret
      exact ⟨rfl, galloc _ _ _⟩
    · have h2 : decide ((k : Int) < (n : Int)) = false := by simp; omega
      have h3 : decide (k < n) = false := by simp; omega
      rw [has_past (by omega)]
      clear h hb hi
      go_enter Tryd.func15, Tryd.ntmps15
      go_wp2_with fail
      go_ret
      exact ⟨rfl, galloc _ _ _⟩
end Go.Proofs.YtgckoiepclgofaaDoor
