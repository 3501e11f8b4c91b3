/- What is asked of what is open: what it comes to, and how it goes on. -/
import Derived.Test.YtgjaajofhfhadaaDoorFoldSmall
import Derived.Deep.RegionHeld3
namespace Go.Proofs.YtgjaajofhfhadaaDoor.Fol
open Go.ChangeShapes Go.WideShapes Go.RowKit Lex
set_option linter.unusedVariables false
set_option maxRecDepth 20000

/-- What is open, in memory: four cells. -/
structure OpAt (w : World) (g i : Nat) (o : Opn) : Prop where
  c0 : w.cell? ⟨g, i, none⟩ = some (.bool o.minus)
  c1 : w.cell? ⟨g, i + 1, none⟩ = some (.int .i64 o.sum)
  c2 : w.cell? ⟨g, i + 2, none⟩ = some (.int .i64 o.joins)
  c3 : w.cell? ⟨g, i + 3, none⟩ = some (.int .i64 o.product)
theorem closed_v (g i : Nat) (o : Opn) (v : Int) (h : o.closed = v) (w : World) (hc : OpAt w g i o) :
    Calls Tryd.prog 23 #[.pointer (some ⟨g, i, none⟩)] w fun e w' => e = .returned (.int .i64 v) ∧ Below w.heap.size w w' := by
  obtain ⟨m, su, j, p⟩ := o
  obtain ⟨c0, c1, c2, c3⟩ := hc
  obtain ⟨x, hx⟩ : ∃ x, reck j su p = x := ⟨_, rfl⟩
  have hv : (if m then reck 2 0 x else x) = v := by rw [← h, ← hx]; rfl
  have HX : Hid (∀ w : World, Calls Tryd.prog 30 #[.int .i64 j, .int .i64 su, .int .i64 p] w fun e w' => e = .returned (.int .i64 x) ∧ w' = w) := fun w => (reck_v _ _ _ _ hx w).mono fun e w' k => ⟨k.1, k.2.symm⟩
  have H := Lib.hid hv
  clear h hx hv
  cases m
  · go_enter Tryd.func23, Tryd.ntmps23
    go_wp2_with fail
    go_quiet (first | (go_at_call_of 30 (Value.int .i64 j); exact Calls.quiet_of_same (HX.out _)))
    go_wp2_with fail
    go_ret
    exact ⟨by rw [← H.out]; rfl, Quo.below_drewN _ _ _⟩
  · go_enter Tryd.func23, Tryd.ntmps23
    go_wp2_with fail
    go_quiet (first | (go_at_call_of 30 (Value.int .i64 j); exact Calls.quiet_of_same (HX.out _)))
    go_wp2_with fail
    refine (reck_v _ _ _ v (by rw [← H.out]; rfl) _).mono ?_
    rintro e w1 ⟨rfl, rfl⟩
    go_wp2_with fail
    go_ret
    exact ⟨rfl, Quo.below_drewN _ _ _⟩
theorem join_v (g i : Nat) (o : Opn) (op v : Int) (h : o.all = v) (w : World) (hc : OpAt w g i o) (hf1 : w.frozen? ⟨g, i + 1, none⟩ = false) (hf2 : w.frozen? ⟨g, i + 2, none⟩ = false) (hf3 : w.frozen? ⟨g, i + 3, none⟩ = false) :
    Calls Tryd.prog 24 #[.pointer (some ⟨g, i, none⟩), .int .i64 op] w fun e w' => e = .returned (.tuple #[]) ∧ w' = (((w.setCell ⟨g, i + 1, none⟩ (.int .i64 v)).setCell ⟨g, i + 2, none⟩ (.int .i64 op)).setCell ⟨g, i + 3, none⟩ (.int .i64 1)).drew := by
  obtain ⟨m, su, j, p⟩ := o
  obtain ⟨c0, c1, c2, c3⟩ := hc
  have hx : reck j su p = v := h
  have HX : Hid (∀ w : World, Calls Tryd.prog 30 #[.int .i64 j, .int .i64 su, .int .i64 p] w fun e w' => e = .returned (.int .i64 v) ∧ w' = w) := fun w => (reck_v _ _ _ _ hx w).mono fun e w' k => ⟨k.1, k.2.symm⟩
  have HX2 := Lib.hid hx
  clear h hx
  go_enter Tryd.func24, Tryd.ntmps24
  go_wp2_with fail
  refine wp_region_still_tail 16 (by kernel_rfl) (by kernel_rfl) ?_
  simp only [List.take_succ_cons, List.take_zero, List.drop_succ_cons, List.drop_zero]
  repeat still_step
  still_call (HX.out _)
  repeat still_step
  refine wpStill_nil ?_
  go_wp2_with fail

  go_end0
  exact ⟨rfl, rfl⟩
theorem wrong_v (l : List Tok) (N g c : Nat) (a : Nat) (code : Int) (hcode : ¬ code = 0) (t : Tok) (ht : l[a]? = some t) (w : World) (ho : OwnK N w (some ⟨g, 0, none⟩) c l) :
    Calls Tryd.prog 19 #[.slice (some ⟨g, 0, none⟩) l.length c, .int .i64 (a : Int), .int .i64 code] w fun e w' => e = .returned (.tuple #[.int .i64 0, .int .i64 0, Fau.bare code (t.at_ : Int)]) ∧ w = w' := by
  obtain ⟨c0, c1, c2, c3, c4⟩ := cells5t ho a t ht
  have hal : a < l.length := (List.getElem?_eq_some_iff.1 ht).1
  obtain ⟨L, hL⟩ : ∃ L, l.length = L := ⟨_, rfl⟩
  rw [hL] at hal ⊢
  have a1 : (a : Int) < (L : Int) := by omega
  have a0 : (0 : Int) ≤ (a : Int) := by omega
  have HC := Lib.hid hcode
  clear hcode c0 c1 c2 c3 ht hL ho
  go_enter Tryd.func19, Tryd.ntmps19
  go_wp2_with fail
  refine (Fau.new_v _ _ HC.out _).mono ?_
  rintro e w1 ⟨rfl, rfl⟩
  unfold Fau.bare
  go_wp2_with fail
  go_ret3
  exact ⟨rfl, rfl⟩
end Go.Proofs.YtgjaajofhfhadaaDoor.Fol
