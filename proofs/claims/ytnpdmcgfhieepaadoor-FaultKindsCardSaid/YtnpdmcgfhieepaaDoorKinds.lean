/- FaultKinds: an error is of its own code alone. -/
import Derived.Test.YtnpdmcgfhieepaaDoorWorks
namespace Go.Proofs.YtnpdmcgfhieepaaDoor
open Go.RowKit Go.Extern.Stop Go.Stop Go.Extern
set_option linter.unusedVariables false

set_option maxRecDepth 100000 in
set_option maxHeartbeats 2000000 in
theorem kinds_v (code place other : Int) (hc : ¬ code = 0) (A : Option Addr) (cap N : Nat) (ss : List ByteArray) (hN : ss.length = N) (hl : N ≤ 30) (w : World) (h : Strs w A ss) (hg : Glob w) :
    Calls Tryd.prog 4 #[.int .i64 code, .int .i64 place, .slice A N cap, .int .i64 other] w fun e w' => e = .returned (.bool true) ∧ Below w.heap.size w w' := by
  have HN := Lib.hid (And.intro hN (And.intro h (And.intro hg hc)))
  have hb0 := int_beq hc
  have hb1 : (code != 0) = true := by simpa using hc
  have d1 : decide (30 < N) = false := by rw [decide_eq_false_iff_not]; omega
  have d2 : N ≤ 1000 := by omega
  clear hN h hg
  obtain ⟨z, hz⟩ : ∃ z, (code == other) = z := ⟨_, rfl⟩
  go_enter Tryd.func4, Tryd.ntmps4
  go_wp2_with fail
  refine (made_v code place HN.out.2.2.2 A cap N ss HN.out.1 d2 _ HN.out.2.1).mono ?_
  rintro e w1 ⟨rfl, rfl⟩
  go_wp2_with fail
  refine (has_v code place other ss z hz _).mono ?_
  rintro e w1 ⟨rfl, hb⟩
  have B1 := Lib.hid hb
  clear hb
  cases z
  all_goals
    go_wp2_with fail
    refine (has_nil code _).mono ?_
    rintro e w2 ⟨rfl, rfl⟩
    go_wp2_with fail
    refine (works_v _ (HN.out.2.2.1.next B1.out)).mono ?_
    rintro e w2 ⟨rfl, hb⟩
    have B2 := Lib.hid (B1.out.trans (hb.mono B1.out.size))
    clear hb
    go_wp2_with fail
    go_ret
    exact ⟨rfl, B2.out⟩
set_option maxRecDepth 100000 in
theorem kinds_ok (place other : Int) (A : Option Addr) (cap N : Nat) (ss : List ByteArray) (hN : ss.length = N) (hl : N ≤ 30) (w : World) (h : Strs w A ss) (hg : Glob w) :
    Calls Tryd.prog 4 #[.int .i64 0, .int .i64 place, .slice A N cap, .int .i64 other] w fun e w' => e = .returned (.bool true) ∧ Below w.heap.size w w' := by
  have HN := Lib.hid (And.intro hN (And.intro h hg))
  have d1 : decide (30 < N) = false := by rw [decide_eq_false_iff_not]; omega
  have d2 : N ≤ 1000 := by omega
  clear hN h hg
  go_enter Tryd.func4, Tryd.ntmps4
  go_wp2_with fail
  refine (made_nil place A cap N ss HN.out.1 d2 _ HN.out.2.1).mono ?_
  rintro e w1 ⟨rfl, rfl⟩
  go_wp2_with fail
  refine (has_nil other _).mono ?_
  rintro e w1 ⟨rfl, rfl⟩
  go_wp2_with fail
  refine (has_nil 0 _).mono ?_
  rintro e w2 ⟨rfl, rfl⟩
  go_wp2_with fail
  refine (works_v _ HN.out.2.2).mono ?_
  rintro e w2 ⟨rfl, hb⟩
  have B2 := Lib.hid hb
  clear hb
  go_wp2_with fail
  go_ret
  exact ⟨rfl, B2.out⟩
theorem kinds_long (code place other : Int) (A : Option Addr) (cap N : Nat) (hl : 30 < N) (w : World) (hg : Glob w) :
    Calls Tryd.prog 4 #[.int .i64 code, .int .i64 place, .slice A N cap, .int .i64 other] w fun e w' => e = .returned (.bool true) ∧ Below w.heap.size w w' := by
  have d1 : decide (30 < N) = true := decide_eq_true hl
  have HG := Lib.hid hg
  clear hg
  go_enter Tryd.func4, Tryd.ntmps4
  go_wp2_with fail
  refine (works_v _ HG.out).mono ?_
  rintro e w2 ⟨rfl, hb⟩
  have B2 := Lib.hid hb
  clear hb
  go_wp2_with fail
  go_ret
  exact ⟨rfl, B2.out⟩
theorem kinds_walk (w : World) (code place other : Int) (A : Option Addr) (cap : Nat) (ss : List ByteArray) (h : Strs w A ss) (hg : Glob w) :
    Calls Tryd.prog 4 #[.int .i64 code, .int .i64 place, .slice A ss.length cap, .int .i64 other] w fun e w' => e = .returned (.bool true) ∧ Below w.heap.size w w' := by
  by_cases h1 : 30 < ss.length
  · exact kinds_long code place other A cap _ h1 w hg
  · by_cases h2 : code = 0
    · subst h2; exact kinds_ok place other A cap _ ss rfl (by omega) w h hg
    · exact kinds_v code place other h2 A cap _ ss rfl (by omega) w h hg
end Go.Proofs.YtnpdmcgfhieepaaDoor
