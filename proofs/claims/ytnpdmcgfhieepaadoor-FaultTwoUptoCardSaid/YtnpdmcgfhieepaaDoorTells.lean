/- FaultTells: what an error is, at which place, within what, and as a text, is what was said. -/
import Derived.Test.YtnpdmcgfhieepaaDoorWorks
import Derived.Deep.QuietTactic
import Derived.BigQuiet
namespace Go.Proofs.YtnpdmcgfhieepaaDoor
open Go.RowKit Go.Extern.Stop Go.Stop Go.Extern
set_option linter.unusedVariables false

theorem below_drewN (B : Nat) (w : World) (n : Nat) : Below B w (w.drewN n) := ⟨rfl, rfl, rfl, Nat.le_refl _, fun _ _ => rfl⟩
theorem Owns.below {base : Nat} {w w' : World} {A : Option Addr} {c : Nat} {t : List ByteArray} (h : Owns base w A c t) (hb : Below w.heap.size w w') : Owns base w' A c t :=
  h.keeps (Keeps.below hb)
set_option maxRecDepth 100000 in
set_option maxHeartbeats 4000000 in
theorem tells_v (code place : Int) (hc : ¬ code = 0) (A : Option Addr) (cap N : Nat) (ss : List ByteArray) (hN : ss.length = N) (hl : N ≤ 30) (hs : (heads ss).length ≤ 100000000) (fc : Deci.fit code) (fp : Deci.fit place) (w : World) (h : Strs w A ss) (hg : Glob w) :
    Calls Tryd.prog 3 #[.int .i64 code, .int .i64 place, .slice A N cap] w fun e w' => e = .returned (.bool true) ∧ Below w.heap.size w w' := by
  have HN := Lib.hid (And.intro hN (And.intro h (And.intro hg (And.intro hc (And.intro hs (And.intro fc fp))))))
  have hb0 := int_beq hc
  have d1 : decide (30 < N) = false := by rw [decide_eq_false_iff_not]; omega
  have d2 : N ≤ 1000 := by omega
  obtain ⟨R, hR⟩ : ∃ R : ByteArray, full code place ss = R.data.toList := ⟨⟨(full code place ss).toArray⟩, rfl⟩
  have HR := Lib.hid hR
  clear hN h hg hs fc fp hR
  go_enter Tryd.func3, Tryd.ntmps3
  go_wp2_with fail
  refine (made_v code place HN.out.2.2.2.1 A cap N ss HN.out.1 d2 _ HN.out.2.1).mono ?_
  rintro e w1 ⟨rfl, rfl⟩
  go_wp2_with fail
  refine (path_v code place ss (by rw [HN.out.1]; exact d2) _ HN.out.2.2.1).mono ?_
  rintro e w1 ⟨P, c, rfl, ho, hb⟩
  rw [HN.out.1]
  have B1 := Lib.hid (And.intro ho hb)
  clear ho hb
  go_wp2_with fail
  go_loopg [9] N (fun gk i wr => ∃ k : Nat, k + gk = N ∧ i = .int .i64 (k : Int) ∧ Hid (Below w1.heap.size w1 wr))
  case atStart => exact ⟨0, by omega, rfl, Below.refl _ _⟩
  case round =>
    obtain ⟨k, hk, rfl, HH⟩ := hrel
    have B2 := Lib.hid (B1.out.2.trans (HH.out.mono B1.out.2.size))
    by_cases hgk : gk = 0
    · subst hgk
      obtain rfl : k = N := by omega
      clear hk
      go_wp2_with fail
      refine (of_v code place ss _ (HN.out.2.2.1.next B2.out)).mono ?_
      rintro e w2 ⟨rfl, hb⟩
      have B3 := Lib.hid (B2.out.trans (hb.mono B2.out.size))
      clear hb
      go_wp2_with fail
      refine (at_v code place ss _ (HN.out.2.2.1.next B3.out)).mono ?_
      rintro e w3 ⟨rfl, hb⟩
      have B4 := Lib.hid (B3.out.trans (hb.mono B3.out.size))
      clear hb
      go_wp2_with fail
      refine (text_v code place ss R (by rw [HN.out.1]; exact d2) HN.out.2.2.2.2.1 HN.out.2.2.2.2.2.1 HN.out.2.2.2.2.2.2 HR.out _ (HN.out.2.2.1.next B4.out)).mono ?_
      rintro e w4 ⟨rfl, hb⟩
      have B5 := Lib.hid (B4.out.trans (hb.mono B4.out.size))
      clear hb
      go_wp2_with fail
      refine (reftext_v code place HN.out.2.2.2.1 A cap k ss R HN.out.1 d2 HN.out.2.2.2.2.1 HN.out.2.2.2.2.2.1 HN.out.2.2.2.2.2.2 HR.out _ (HN.out.2.1.below B5.out)).mono ?_
      rintro e w5 ⟨rfl, hb⟩
      have B6 := Lib.hid (B5.out.trans (hb.mono B5.out.size))
      clear hb
      go_wp2_with fail
      refine (works_v _ (HN.out.2.2.1.next B6.out)).mono ?_
      rintro e w6 ⟨rfl, hb⟩
      have B7 := Lib.hid (B6.out.trans (hb.mono B6.out.size))
      clear hb
      go_wp2_with fail
      go_ret
      exact ⟨rfl, B7.out⟩
    · obtain ⟨q, rfl⟩ : ∃ q, gk = q + 1 := ⟨gk - 1, by omega⟩
      have hq : k < ss.length := by rw [HN.out.1]; omega
      obtain ⟨b, off, p, hA, hp, hcell⟩ := (HN.out.2.1.below B2.out).at k hq
      obtain ⟨g, hP, hcell2⟩ := (B1.out.1.below HH.out).at k hq
      rw [hp] at hcell2
      have hqN : k < N := by omega
      have hqN' : (k : Int) < (N : Int) := by omega
      have HK := Lib.hid hk
      clear hp hk hgk hq
      subst hA hP
      go_wp2_with fail
      go_quiet (fail)
      go_wp2_with fail
      go_roundg q
      case measure => omega
      case rel => exact ⟨k + 1, by have := HK.out; omega, by go_num, HH.out.trans (below_drewN _ _ _)⟩
set_option maxRecDepth 100000 in
theorem tells_ok (place : Int) (A : Option Addr) (cap N : Nat) (ss : List ByteArray) (hN : ss.length = N) (hl : N ≤ 30) (w : World) (h : Strs w A ss) (hg : Glob w) :
    Calls Tryd.prog 3 #[.int .i64 0, .int .i64 place, .slice A N cap] w fun e w' => e = .returned (.bool true) ∧ Below w.heap.size w w' := by
  have HN := Lib.hid (And.intro hN (And.intro h hg))
  have d1 : decide (30 < N) = false := by rw [decide_eq_false_iff_not]; omega
  have d2 : N ≤ 1000 := by omega
  clear hN h hg
  go_enter Tryd.func3, Tryd.ntmps3
  go_wp2_with fail
  refine (made_nil place A cap N ss HN.out.1 d2 _ HN.out.2.1).mono ?_
  rintro e w1 ⟨rfl, rfl⟩
  go_wp2_with fail
  refine (of_nil _).mono ?_
  rintro e w1 ⟨rfl, hb⟩
  have B1 := Lib.hid hb
  clear hb
  go_wp2_with fail
  refine (at_nil _).mono ?_
  rintro e w2 ⟨rfl, hb⟩
  have B2 := Lib.hid (B1.out.trans (hb.mono B1.out.size))
  clear hb
  go_wp2_with fail
  refine (text_nil _).mono ?_
  rintro e w3 ⟨rfl, rfl⟩
  go_wp2_with fail
  refine (path_nil _).mono ?_
  rintro e w3 ⟨rfl, hb⟩
  have B3 := Lib.hid (B2.out.trans (hb.mono B2.out.size))
  clear hb
  go_wp2_with fail
  refine (works_v _ (HN.out.2.2.next B3.out)).mono ?_
  rintro e w4 ⟨rfl, hb⟩
  have B4 := Lib.hid (B3.out.trans (hb.mono B3.out.size))
  clear hb
  go_wp2_with fail
  go_ret
  exact ⟨rfl, B4.out⟩
theorem tells_long (code place : Int) (A : Option Addr) (cap N : Nat) (hl : 30 < N) (w : World) (hg : Glob w) :
    Calls Tryd.prog 3 #[.int .i64 code, .int .i64 place, .slice A N cap] w fun e w' => e = .returned (.bool true) ∧ Below w.heap.size w w' := by
  have d1 : decide (30 < N) = true := decide_eq_true hl
  have HG := Lib.hid hg
  clear hg
  go_enter Tryd.func3, Tryd.ntmps3
  go_wp2_with fail
  refine (works_v _ HG.out).mono ?_
  rintro e w2 ⟨rfl, hb⟩
  have B2 := Lib.hid hb
  clear hb
  go_wp2_with fail
  go_ret
  exact ⟨rfl, B2.out⟩
theorem tells_walk (w : World) (code place : Int) (A : Option Addr) (cap : Nat) (ss : List ByteArray) (fc : Deci.fit code) (fp : Deci.fit place) (hs : (heads ss).length ≤ 100000000) (h : Strs w A ss) (hg : Glob w) :
    Calls Tryd.prog 3 #[.int .i64 code, .int .i64 place, .slice A ss.length cap] w fun e w' => e = .returned (.bool true) ∧ Below w.heap.size w w' := by
  by_cases h1 : 30 < ss.length
  · exact tells_long code place A cap _ h1 w hg
  · by_cases h2 : code = 0
    · subst h2; exact tells_ok place A cap _ ss rfl (by omega) w h hg
    · exact tells_v code place h2 A cap _ ss rfl (by omega) hs fc fp w h hg
end Go.Proofs.YtnpdmcgfhieepaaDoor
