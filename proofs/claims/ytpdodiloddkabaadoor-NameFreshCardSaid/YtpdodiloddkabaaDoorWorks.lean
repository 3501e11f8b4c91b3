/- The small check that each of the three runs. -/
import Derived.Test.YtpdodiloddkabaaDoorFresh
namespace Go.Proofs.YtpdodiloddkabaaDoor
open Go.ChangeShapes Go.WideShapes Go.RowKit
set_option linter.unusedVariables false

theorem strs_two (w : World) (s t : ByteArray) (hs : s.size ≤ 10) (ht : t.size ≤ 10) : Strs (w.alloc (.cells #[.string s, .string t] 9)) (some ⟨w.heap.size, 0, none⟩) [s, t] := by
  refine ⟨by intro x hx; simp at hx; unfold maxLen; rcases hx with rfl | rfl <;> omega, .inr ⟨w.heap.size, 0, rfl, by simp, fun j hj => ?_⟩⟩
  simp at hj
  have h := heap_alloc_new w (.cells #[.string s, .string t] 9)
  rcases (by omega : j = 0 ∨ j = 1) with rfl | rfl
  · simp only [World.cell?, h]; rfl
  · simp only [World.cell?, h]; rfl
set_option maxHeartbeats 1000000 in
theorem works_v (w : World) : Calls Tryd.prog 6 #[] w fun e w' => e = .returned (.bool true) ∧ Below w.heap.size w w' := by
  go_enter Tryd.func6, Tryd.ntmps6
  go_wp2_with fail
  refine (ends_v ⟨#[97, 46, 98, 95, 49]⟩ [97] [98, 95, 49] true (by decide) (by decide +kernel) _).mono ?_
  rintro e w1 ⟨rfl, hb⟩
  have B1 := Lib.hid hb
  clear hb
  unfold E3
  go_wp2_with fail
  refine (right_v ⟨#[120, 57]⟩ true (by decide +kernel) _).mono ?_
  rintro e w2 ⟨rfl, rfl⟩
  go_wp2_with fail
  refine (right_v ⟨#[57, 120]⟩ false (by decide +kernel) _).mono ?_
  rintro e w2 ⟨rfl, rfl⟩
  go_wp2_with fail
  refine (scan_v ⟨#[97, 98, 32, 99]⟩ 0 2 (by decide) (by decide +kernel) _).mono ?_
  rintro e w2 ⟨rfl, rfl⟩
  go_wp2_with fail
  refine (edge_v ⟨#[112]⟩ ⟨#[113]⟩ _ (by decide)).mono ?_
  rintro e w2 ⟨rfl, rfl⟩
  go_wp2_with fail
  refine (fresh_v _ ⟨#[98]⟩ _ 2 [⟨#[98, 48]⟩, ⟨#[98, 50]⟩] [98, 49] (by decide) (by decide) (strs_two w1 _ _ (by decide) (by decide)) (by decide +kernel)).mono ?_
  rintro e w2 ⟨rfl, hb⟩
  have B2 := Lib.hid (B1.out.trans (((Below.refl _ w1).alloc (Nat.le_refl _) _).trans (hb.mono (by simp)) |>.mono B1.out.size))
  clear hb
  go_wp2_with fail
  refine (letter_v 95 true (by decide +kernel) _).mono ?_
  rintro e w3 ⟨rfl, rfl⟩
  go_wp2_with fail
  refine (sign_v 48 true (by decide +kernel) _).mono ?_
  rintro e w3 ⟨rfl, rfl⟩
  go_wp2_with fail
  refine (label_v ⟨#[97, 46, 98]⟩ true true (by decide) (by decide +kernel) _).mono ?_
  rintro e w3 ⟨rfl, hb⟩
  have B3 := Lib.hid (B2.out.trans (hb.mono B2.out.size))
  clear hb
  go_wp2_with fail
  refine (label_v ⟨#[97, 46, 98]⟩ false false (by decide) (by decide +kernel) _).mono ?_
  rintro e w4 ⟨rfl, hb⟩
  have B4 := Lib.hid (B3.out.trans (hb.mono B3.out.size))
  clear hb
  go_wp2_with fail
  go_ret
  exact ⟨rfl, B4.out⟩
end Go.Proofs.YtpdodiloddkabaaDoor
