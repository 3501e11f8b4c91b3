/- What slices.AppendSeq, slices.Collect and the program's List answer. -/
import Derived.Test.YtgckoiepclgofaaDoorRange
import Derived.Test.YtgckoiepclgofaaDoorRefB
import Derived.Test.YtgckoiepclgofaaDoorSame
namespace Go.Proofs.YtgckoiepclgofaaDoor
open Go.ChangeShapes Go.WideShapes Go.RowKit
set_option linter.unusedVariables false
attribute [local go_sem] Oper.semAt_some

theorem own_form {W : World} {b n : Nat} {v : Value} {xs : List Value} (h : W.ownsRow b 3 1 v n xs) : ∃ A c, v = .slice A n c := by
  rcases h.2 with ⟨rfl, h0⟩ | ⟨g, cap, cur, rfl, _⟩
  · exact ⟨none, 0, by rw [h0]⟩
  · exact ⟨_, _, rfl⟩
theorem nums_snoc (t : List Nat) (x : Nat) : nums (t ++ [x]) = nums t ++ [.int .i64 (x : Int)] := by unfold nums; rw [List.map_append]; rfl
set_option maxRecDepth 100000 in
set_option maxHeartbeats 1000000 in
theorem appendSeq_v (B p g : Nat) (bs : List Bool) (w : World) (h : SetAt B w p g bs) (hG : Glob w) :
    Calls Tryd.prog 41 #[.slice none 0 0, .func (.func 34) #[.pointer (some ⟨p, 0, none⟩)] #[]] w (ListP (all bs) w) := by
  refine (callsIn_wide (n := 3)).1 ?_
  obtain ⟨i0, hi0, hz0, hz1, hz2⟩ := info_parts info3
  have I0 := Lib.hid (And.intro hi0 (And.intro hz0 (And.intro hz1 hz2)))
  clear hi0 hz0 hz1 hz2
  have hs := h.small
  have HS := Lib.hid (And.intro h hG)
  clear h hG
  refine callsIn_of_wp_marks Tryd.func41 rfl trivial ?_ rfl
  simp only [Tryd.ntmps41, List.size_toArray, List.length_cons, List.length_nil, Nat.reduceAdd, Nat.reduceSub, Array.replicate_succ, Array.replicate_zero, List.push_toArray, List.append_toArray, List.nil_append, List.cons_append]
  gi_wp2_with fail
  have bO := Boxed.new w 33 (.slice none 0 0)
  have hB0 : Below w.heap.size w (w.alloc (.cells #[.slice none 0 0] 33)) := (Below.refl _ w).alloc (Nat.le_refl _) _
  have hSet : ∀ W, Below w.heap.size w W → SetAt B W p g bs ∧ Glob W := fun W hb => ⟨HS.out.1.below hb HS.out.1.lt HS.out.1.row.lt, HS.out.2.below hb HS.out.2.1⟩
  refine range_v B p g bs rfl
    (fun s W => (∃ v, Boxed W w.heap.size 33 v ∧ W.ownsRow w.heap.size 3 1 v s.length (nums s) ∧ True) ∧ Below w.heap.size w W)
    (fun _ _ _ => False)
    (OwnFrom.and (Own.from (holdsRow_own w.heap.size w.heap.size 33 3 1 (fun s => s.length) (fun s => nums s) (fun s v => True)) _) (ownFrom_below (Nat.le_refl _) (by simp)))
    (fun _ _ _ _ _ hs _ _ => hs)
    (fun s W hW => hSet W hW.2)
    ⟨⟨_, bO, World.ownsRow_nil _ _ _ _, trivial⟩, hB0⟩
    (fun x => { tmps := #[.slice none 0 0, .func (.func 34) #[.pointer (some ⟨p, 0, none⟩)] #[], .pointer (some ⟨w.heap.size, 0, none⟩), undef, .slice none 0 0, .int .i64 (x : Int), .func (.func 34) #[.pointer (some ⟨p, 0, none⟩)] #[], .int .i64 (x : Int), undef, undef, undef, undef, undef], defers := [] }) ?assign ?body ?done ?stop
  case assign =>
    intro l x W K hK
    gi_wp2_with fail
    exact hK
  case body =>
    rintro l x W hx ⟨⟨v, hv, hrow, _⟩, hB⟩
    have hc := hv.cell
    have hpl : (low bs x).length ≤ x := low_len _ _
    have hxl := has_lt hx
    gi_wp2_with (gi_at_builtin; refine wpListIn_append_own _ rfl _ _ 33 rfl w.heap.size 3 i0 (.int .i64 0) 1 8 Tryd.underlying33 I0.out.1 I0.out.2.1 I0.out.2.2.1 I0.out.2.2.2 rfl (by decide) _ _ _ rfl (hrow.alloc _) ⟨W.heap.size, 0, none⟩ 1 1 [.int .i64 (x : Int)] rfl rfl (cell_one_new _ _ _) (by simp [Value.oneCell']) (by unfold maxLen; omega) (by omega) (by have := hB.size; simp; omega) ?_; intro v' w1 hown' hgrow _; obtain ⟨g', cap', rfl⟩ := ownsRow_succ hown'; obtain ⟨hv1, hv2, hr2, hk2, hb2⟩ := hv.appended (by decide) hrow hB.size (Nat.le_refl _) hown' hgrow; have hc1 := hv1.cell; have hf1 := hv1.frozen)
    exact ⟨hk2.from _, trivial, ⟨_, hv2, by rw [low_hit hx, nums_snoc]; simpa using hr2, trivial⟩, hB.trans hb2⟩
  case done =>
    rintro D W hD ⟨⟨v, hv, hrow, _⟩, hB⟩ hK
    have hc := hv.cell
    gi_wp2
    refine ⟨by simp, .inl ⟨_, _, rfl, run_takeDeferred hK, ?_⟩⟩
    obtain ⟨A, c, rfl⟩ := own_form hrow
    exact ⟨_, results_tmp rfl _ _ _, A, c, rfl, ownsRow_putObj hrow _ hK rfl, below_grown (hB.trans (belowK_b (w := w) (Nat.le_refl _) W D _ _ (by simp at hD; omega) hK rfl rfl))⟩
  case stop =>
    rintro D c x W _ _ h _
    exact h.elim
theorem collect_v (B p g : Nat) (bs : List Bool) (w : World) (h : SetAt B w p g bs) (hG : Glob w) :
    Calls Tryd.prog 29 #[.func (.func 34) #[.pointer (some ⟨p, 0, none⟩)] #[]] w (ListP (all bs) w) := by
  have HC := Lib.hid (appendSeq_v B p g bs w h hG)
  clear h hG
  go_enter Tryd.func29, Tryd.ntmps29
  go_wp2_with fail
  refine HC.out.mono ?_
  rintro e w1 ⟨A, c, rfl, h1, h2⟩
  have H1 := Lib.hid (And.intro h1 h2)
  clear h1 h2
  go_wp2_with fail
  go_ret
  exact ⟨A, c, rfl, H1.out⟩
theorem list_v (B p g : Nat) (bs : List Bool) (w : World) (h : SetAt B w p g bs) (hG : Glob w) :
    Calls Tryd.prog 12 #[.pointer (some ⟨p, 0, none⟩)] w (ListP (all bs) w) := by
  have HC := Lib.hid (collect_v B p g bs w h hG)
  clear h hG
  go_enter Tryd.func12, Tryd.ntmps12
  go_wp2_with fail
  refine (all_func p _).mono ?_
  rintro e w1 ⟨rfl, rfl⟩
  go_wp2_with fail
  refine HC.out.mono ?_
  rintro e w2 ⟨A, c, rfl, h1, h2⟩
  have H1 := Lib.hid (And.intro h1 h2)
  clear h1 h2
  go_wp2_with fail
  go_ret
  exact ⟨A, c, rfl, H1.out⟩
end Go.Proofs.YtgckoiepclgofaaDoor
