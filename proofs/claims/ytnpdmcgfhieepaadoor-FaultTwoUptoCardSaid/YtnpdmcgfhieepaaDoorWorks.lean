/- The small check that each of the three runs. -/
import Derived.Test.YtnpdmcgfhieepaaDoorRefText
namespace Go.Proofs.YtnpdmcgfhieepaaDoor
open Go.RowKit Go.Extern.Stop Go.Stop Go.Extern
set_option linter.unusedVariables false

theorem fit_small (n : Int) (h1 : -1000 ≤ n) (h2 : n ≤ 1000) : Deci.fit n := ⟨by omega, by omega⟩
theorem Glob.next {w w1 : World} (h : Glob w) (hb : Below w.heap.size w w1) : Glob w1 := h.below hb h.pos
theorem full_func : full 32 7 [⟨#[102, 117, 110, 99]⟩] = (⟨#[102, 117, 110, 99, 58, 32, 51, 50, 32, 97, 116, 32, 55]⟩ : ByteArray).data.toList := by decide +kernel
set_option maxRecDepth 100000 in
set_option maxHeartbeats 2000000 in
theorem works_v (w : World) (hg : Glob w) : Calls Tryd.prog 6 #[] w fun e w' => e = .returned (.bool true) ∧ Below w.heap.size w w' := by
  have G0 := Lib.hid hg
  clear hg
  go_enter Tryd.func6, Tryd.ntmps6
  go_wp2_with fail
  refine (new_v 32 7 (by decide) _).mono ?_
  rintro e w1 ⟨rfl, rfl⟩
  go_wp2_with fail
  refine (in_v ⟨#[102, 117, 110, 99]⟩ 32 7 [] _).mono ?_
  rintro e w1 ⟨rfl, rfl⟩
  go_wp2_with fail
  refine (of_v 32 7 [⟨#[102, 117, 110, 99]⟩] _ G0.out).mono ?_
  rintro e w1 ⟨rfl, hb⟩
  have B1 := Lib.hid hb
  clear hb
  go_wp2_with fail
  refine (at_v 32 7 [⟨#[102, 117, 110, 99]⟩] _ (G0.out.next B1.out)).mono ?_
  rintro e w2 ⟨rfl, hb⟩
  have B2 := Lib.hid (B1.out.trans (hb.mono B1.out.size))
  clear hb
  go_wp2_with fail
  refine (has_v 32 7 32 [⟨#[102, 117, 110, 99]⟩] true (by decide) _).mono ?_
  rintro e w3 ⟨rfl, hb⟩
  have B3 := Lib.hid (B2.out.trans (hb.mono B2.out.size))
  clear hb
  go_wp2_with fail
  refine (has_v 32 7 31 [⟨#[102, 117, 110, 99]⟩] false (by decide) _).mono ?_
  rintro e w4 ⟨rfl, hb⟩
  have B4 := Lib.hid (B3.out.trans (hb.mono B3.out.size))
  clear hb
  go_wp2_with fail
  refine (text_v 32 7 [⟨#[102, 117, 110, 99]⟩] ⟨#[102, 117, 110, 99, 58, 32, 51, 50, 32, 97, 116, 32, 55]⟩ (by decide) (by decide +kernel) (fit_small _ (by decide) (by decide)) (fit_small _ (by decide) (by decide)) full_func _ (G0.out.next B4.out)).mono ?_
  rintro e w5 ⟨rfl, hb⟩
  have B5 := Lib.hid (B4.out.trans (hb.mono B4.out.size))
  clear hb
  go_wp2_with fail
  refine (path_v 32 7 [⟨#[102, 117, 110, 99]⟩] (by decide) _ (G0.out.next B5.out)).mono ?_
  rintro e w6 ⟨A, c, rfl, _, hb⟩
  have B6 := Lib.hid (B5.out.trans (hb.mono B5.out.size))
  clear hb
  go_wp2_with fail
  refine (of_nil _).mono ?_
  rintro e w7 ⟨rfl, hb⟩
  have B7 := Lib.hid (B6.out.trans (hb.mono B6.out.size))
  clear hb
  go_wp2_with fail
  go_ret
  exact ⟨rfl, B7.out⟩
end Go.Proofs.YtnpdmcgfhieepaaDoor
