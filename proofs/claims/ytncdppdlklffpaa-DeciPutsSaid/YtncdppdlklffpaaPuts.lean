/- The walk of the statement DeciPuts: any number's text, with blanks ahead or without, and how long it is, is what the chapter says. -/
import Derived.Test.YtncdppdlklffpaaRefPad
import Derived.Test.YtncdppdlklffpaaWorks
namespace Go.Proofs.Ytncdppdlklffpaa
open Go.ChangeShapes Go.WideShapes Go.RowKit
set_option linter.unusedVariables false

theorem puts_big (n wide : Int) (h : 300 < wide) (w : World) : Calls Try.prog 3 #[.int .i64 n, .int .i64 wide] w fun e w' => e = .returned (.bool true) ∧ Below w.heap.size w w' := by
  go_enter Try.func3, Try.ntmps3
  go_wp2_with fail
  refine (works_is _).mono ?_
  rintro e w3 ⟨rfl, hb3⟩
  go_wp2_with fail
  go_ret
  exact ⟨rfl, hb3⟩
theorem puts_small (n wide : Int) (hn : fit n) (h : ¬ 300 < wide) (w : World) : Calls Try.prog 3 #[.int .i64 n, .int .i64 wide] w fun e w' => e = .returned (.bool true) ∧ Below w.heap.size w w' := by
  obtain ⟨l, hl⟩ : ∃ l, txt n = l := ⟨_, rfl⟩
  obtain ⟨p, hp⟩ : ∃ p, pad l wide = p := ⟨_, rfl⟩
  have hw : wide ≤ 300 := by omega
  have HP : ∀ W : World, Hid (Calls Try.prog 9 #[.int .i64 n, .int .i64 wide] W fun e w' => e = .returned (.string ⟨p.toArray⟩) ∧ Below W.heap.size W w') := fun W => by
    subst hp; exact pad_v n wide l hl hn hw W
  have HR : ∀ W : World, Hid (Calls Try.prog 10 #[.int .i64 n, .int .i64 wide] W fun e w' => e = .returned (.string ⟨p.toArray⟩) ∧ Below W.heap.size W w') := fun W => by
    subst hp; exact refpad_v n wide l hl hn hw W
  have HL := Lib.hid hl
  have HN := Lib.hid hn
  clear hl hp hn
  go_enter Try.func3, Try.ntmps3
  go_wp2_with fail
  refine (put_v n l HL.out HN.out _).mono ?_
  rintro e w1 ⟨rfl, hb⟩
  have B1 := Lib.hid hb
  clear hb
  go_wp2_with fail
  refine (refput_v n l HL.out HN.out _).mono ?_
  rintro e w2 ⟨rfl, hb⟩
  have B2 := Lib.hid (B1.out.trans (hb.mono B1.out.size))
  clear hb B1
  go_wp2_with fail
  refine (HP _).out.mono ?_
  rintro e w3 ⟨rfl, hb⟩
  have B3 := Lib.hid (B2.out.trans (hb.mono B2.out.size))
  clear hb B2
  go_wp2_with fail
  refine (HR _).out.mono ?_
  rintro e w4 ⟨rfl, hb⟩
  have B4 := Lib.hid (B3.out.trans (hb.mono B3.out.size))
  clear hb B3
  go_wp2_with fail
  refine (long_v n l HL.out HN.out _).mono ?_
  rintro e w5 ⟨rfl, hb⟩
  have B5 := Lib.hid (B4.out.trans (hb.mono B4.out.size))
  clear hb B4
  go_wp2_with fail
  refine (refput_v n l HL.out HN.out _).mono ?_
  rintro e w6 ⟨rfl, hb⟩
  have B6 := Lib.hid (B5.out.trans (hb.mono B5.out.size))
  clear hb B5
  go_wp2_with fail
  refine (works_is _).mono ?_
  rintro e w7 ⟨rfl, hb⟩
  have B7 := Lib.hid (B6.out.trans (hb.mono B6.out.size))
  clear hb B6
  go_wp2_with fail
  go_ret
  exact ⟨rfl, B7.out⟩
theorem puts_walk (n wide : Int) (hn : fit n) (w : World) : Calls Try.prog 3 #[.int .i64 n, .int .i64 wide] w fun e w' => e = .returned (.bool true) ∧ Below w.heap.size w w' := by
  by_cases h : 300 < wide
  · exact puts_big n wide h w
  · exact puts_small n wide hn h w
end Go.Proofs.Ytncdppdlklffpaa
