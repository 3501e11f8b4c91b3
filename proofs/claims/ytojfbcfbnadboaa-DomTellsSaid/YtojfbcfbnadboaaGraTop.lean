
/- The program's graph in memory; its small methods. -/
import Derived.Test.YtojfbcfbnadboaaGraIn
namespace Go.Proofs.Ytojfbcfbnadboaa.Gra
open Go.ChangeShapes Go.WideShapes Go.RowKit
set_option linter.unusedVariables false
set_option maxRecDepth 20000

structure GV where
  A : Option Addr
  n : Nat
  c : Nat
  B : Option Addr
  d : Nat
structure IsG (w : World) (p : Nat) (q : GV) (s t : Gr) : Prop where
  box : w.heap[p]? = some (.cells #[.slice q.A q.n q.c, .slice q.B q.n q.d] 69 (0, 0))
  su : IsGr w q.A q.n s
  pr : IsGr w q.B q.n t
theorem IsG.below {w w' : World} {p : Nat} {q : GV} {s t : Gr} (h : IsG w p q s t) (hb : Below w.heap.size w w') : IsG w' p q s t :=
  ⟨kept_box h.box hb, h.su.below hb, h.pr.below hb⟩
theorem glen_v (p : Nat) (q : GV) (s t : Gr) (w : World) (h : IsG w p q s t) : Calls Try.prog 11 #[.pointer (some ⟨p, 0, none⟩)] w fun e w' => e = .returned (.int .i64 (q.n : Int)) ∧ w = w' := by
  have c0 := cell_i h.box 0
  have c1 := cell_i h.box 1
  clear h
  go_enter Try.func11, Try.ntmps11
  go_wp2_with fail
  go_ret
  exact ⟨rfl, rfl⟩
def hasI (n : Nat) (i : Int) : Bool := decide (0 ≤ i ∧ i < (n : Int))
theorem ghas_v (p : Nat) (q : GV) (s t : Gr) (i : Int) (w : World) (h : IsG w p q s t) : Calls Try.prog 42 #[.pointer (some ⟨p, 0, none⟩), .int .i64 i] w fun e w' => e = .returned (.bool (hasI q.n i)) ∧ w = w' := by
  have H := Lib.hid h
  obtain ⟨b, hb⟩ : ∃ b, hasI q.n i = b := ⟨_, rfl⟩
  rw [hb]
  have HB := Lib.hid hb
  clear h hb
  go_enter Try.func42, Try.ntmps42
  by_cases h0 : 0 ≤ i
  · by_cases h1 : i < (q.n : Int)
    · have hb : b = true := by rw [← HB.out]; unfold hasI; simp; omega
      subst hb
      go_wp2_with fail
      refine (glen_v p q s t w H.out).mono ?_
      rintro e w1 ⟨rfl, rfl⟩
      go_wp2_with fail
      go_ret
      exact ⟨rfl, rfl⟩
    · have hb : b = false := by rw [← HB.out]; unfold hasI; simp; omega
      subst hb
      go_wp2_with fail
      refine (glen_v p q s t w H.out).mono ?_
      rintro e w1 ⟨rfl, rfl⟩
      go_wp2_with fail
      go_ret
      exact ⟨by show Ending.returned (.bool (decide (i < (q.n : Int)))) = _; rw [decide_eq_false (by omega)], rfl⟩
  · have hb : b = false := by rw [← HB.out]; unfold hasI; simp; omega
    subst hb
    go_wp2_with fail
    go_ret
    exact ⟨rfl, rfl⟩
end Go.Proofs.Ytojfbcfbnadboaa.Gra
