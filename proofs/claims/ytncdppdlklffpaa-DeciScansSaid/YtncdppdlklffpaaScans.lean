/- The walk of the statement DeciScans: the number at any place of any text, and where it ends, or why there is none, is what the chapter says. -/
import Derived.Test.YtncdppdlklffpaaRefTop
import Derived.Test.YtncdppdlklffpaaWorks
namespace Go.Proofs.Ytncdppdlklffpaa
open Go.ChangeShapes Go.WideShapes Go.RowKit
set_option linter.unusedVariables false

theorem scan_both (s : ByteArray) (z : Int) (hs : s.size ≤ 9223372036854775807) : ∃ x y c : Int,
    (∀ w : World, Calls Try.prog 12 #[.string s, .int .i64 z] w fun e w' => e = .returned (.tuple #[.int .i64 x, .int .i64 y, .int .i64 c]) ∧ w = w') ∧
    (∀ w : World, Calls Try.prog 13 #[.string s, .int .i64 z] w fun e w' => e = .returned (.tuple #[.int .i64 x, .int .i64 y, .int .i64 c]) ∧ w = w') := by
  by_cases h : z < 0 ∨ (s.size : Int) < z
  · exact ⟨0, 0, 1, scan_arg s z h, refscan_arg s z h⟩
  · obtain ⟨a, rfl⟩ : ∃ a : Nat, z = a := ⟨z.toNat, by omega⟩
    obtain ⟨m, fr, fin, hS⟩ := Scn.exists s a (by omega)
    obtain ⟨x, y, c, ht⟩ : ∃ x y c, scanT (dgs s fr fin) m fin = (x, y, c) := ⟨_, _, _, rfl⟩
    exact ⟨x, y, c, scan_v s a m fr fin x y c hs hS ht, refscan_v s a m fr fin x y c hs hS ht⟩
theorem get_both (s : ByteArray) (hs : s.size ≤ 9223372036854775807) : ∃ x c : Int,
    (∀ w : World, Calls Try.prog 14 #[.string s] w fun e w' => e = .returned (.tuple #[.int .i64 x, .int .i64 c]) ∧ w = w') ∧
    (∀ w : World, Calls Try.prog 15 #[.string s] w fun e w' => e = .returned (.tuple #[.int .i64 x, .int .i64 c]) ∧ w = w') := by
  obtain ⟨m, fr, fin, hS⟩ := Scn.exists s 0 (by omega)
  obtain ⟨x, y, c, ht⟩ : ∃ x y c, scanT (dgs s fr fin) m fin = (x, y, c) := ⟨_, _, _, rfl⟩
  obtain ⟨k, g, hg⟩ : ∃ k g, getT s.size (x, y, c) = (k, g) := ⟨_, _, rfl⟩
  exact ⟨k, g, get_v s m fr fin x y c k g hs hS ht hg, refget_v s m fr fin x y c k g hs hS ht hg⟩
theorem scans_big (s : ByteArray) (z : Int) (h : (200 : Int) < (s.size : Int)) (w : World) : Calls Try.prog 4 #[.string s, .int .i64 z] w fun e w' => e = .returned (.bool true) ∧ Below w.heap.size w w' := by
  go_enter Try.func4, Try.ntmps4
  go_wp2_with fail
  refine (works_is _).mono ?_
  rintro e w3 ⟨rfl, hb3⟩
  go_wp2_with fail
  go_ret
  exact ⟨rfl, hb3⟩
theorem scans_small (s : ByteArray) (z : Int) (h : (s.size : Int) ≤ 200) (w : World) : Calls Try.prog 4 #[.string s, .int .i64 z] w fun e w' => e = .returned (.bool true) ∧ Below w.heap.size w w' := by
  obtain ⟨x, y, c, k1, k2⟩ := scan_both s z (by omega)
  obtain ⟨k, g, k3, k4⟩ := get_both s (by omega)
  have K1 := Lib.hid k1
  have K2 := Lib.hid k2
  have K3 := Lib.hid k3
  have K4 := Lib.hid k4
  clear k1 k2 k3 k4
  go_enter Try.func4, Try.ntmps4
  go_wp2_with fail
  refine (K1.out _).mono ?_
  rintro e w' ⟨rfl, rfl⟩
  go_wp2_with fail
  refine (K2.out _).mono ?_
  rintro e w' ⟨rfl, rfl⟩
  go_wp2_with fail
  refine (K3.out _).mono ?_
  rintro e w' ⟨rfl, rfl⟩
  go_wp2_with fail
  refine (K4.out _).mono ?_
  rintro e w' ⟨rfl, rfl⟩
  go_wp2_with fail
  refine (works_is _).mono ?_
  rintro e w3 ⟨rfl, hb3⟩
  go_wp2_with fail
  go_ret
  exact ⟨rfl, hb3⟩
theorem scans_walk (s : ByteArray) (z : Int) (w : World) : Calls Try.prog 4 #[.string s, .int .i64 z] w fun e w' => e = .returned (.bool true) ∧ Below w.heap.size w w' := by
  by_cases h : (200 : Int) < (s.size : Int)
  · exact scans_big s z h w
  · exact scans_small s z (by omega) w
end Go.Proofs.Ytncdppdlklffpaa
