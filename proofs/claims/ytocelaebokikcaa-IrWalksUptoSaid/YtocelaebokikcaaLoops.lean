/- Two lists held against each other: the library's Equal, and the document's own loops. -/
import Derived.Test.YtocelaebokikcaaEq
import Derived.ProofKit
import Derived.OwnWalk
import Derived.Laws.OwnMore
import Derived.Deep.Light
import Derived.BigQuiet
import Derived.Deep.QuietTactic
import Derived.StillTailTactics
import Derived.Laws.Strings
namespace Go.Proofs.Ytocelaebokikcaa
open Go.ChangeShapes Go.WideShapes Go.RowKit
set_option linter.unusedVariables false

theorem Below.drewQ {B : Nat} {a w : World} (h : Below B a w) (n : Nat) : Below B a (w.drewN n) := ⟨h.os, h.tape, h.output, h.size, h.block⟩
set_option maxHeartbeats 1000000 in
theorem eq45_v (A A' : Option Addr) (n n' c c' : Nat) (l l' : List Opn) (w : World) (h : IsOps w A n l) (h' : IsOps w A' n' l') :
    Calls Try.prog 45 #[.slice A n c, .slice A' n' c'] w fun e w' => e = .returned (.bool (sameL opEq l l')) ∧ Below w.heap.size w w' := by
  have hl := h.1
  have hl' := h'.1
  have hm := h.2.1
  by_cases hn : ¬ n = n'
  · rw [sameL_len opEq l l' (by omega)]
    have i1 : ¬ (n : Int) = (n' : Int) := by omega
    clear h h' hl hl'
    go_enter Try.func45, Try.ntmps45
    go_wp2_with fail
    go_ret
    exact ⟨rfl, Below.refl _ _⟩
  have hn := Decidable.not_not.1 hn
  subst hn
  have H0 := Lib.hid (And.intro h (And.intro h' (And.intro hl hl')))
  clear h h' hl hl'
  go_enter Try.func45, Try.ntmps45
  go_wp2_with fail
  go_loopg [13] n (fun gk u wr => ∃ k : Nat, k + gk = n ∧ u = .int .i64 (k : Int) ∧ Hid (Below w.heap.size w wr ∧ ∀ (j : Nat) (x y : Opn), j < k → l[j]? = some x → l'[j]? = some y → opEq x y = true))
  case atStart => exact ⟨0, by omega, rfl, Below.refl _ _, fun j x y hj => by omega⟩
  case round =>
    obtain ⟨k, hk, rfl, HH⟩ := hrel
    by_cases hlt : k < n
    · obtain ⟨h, h', hl, hl'⟩ := H0.out
      obtain ⟨b, o, rfl, hb, x, hx, c0, c1, c2, c3⟩ := (h.below HH.out.1).at hlt
      obtain ⟨b', o', rfl, hb', y, hy, d0, d1, d2, d3⟩ := (h'.below HH.out.1).at hlt
      have i1 : (k : Int) < (n : Int) := by omega
      cases hq : opEq x y
      · have R : sameL opEq l l' = false := sameL_no opEq l l' k x y hx hy hq
        have HX := Lib.hid R
        clear h h' hl hl' R hx hy
        obtain ⟨pk, pc, pn, pt⟩ := x
        obtain ⟨qk, qc, qn, qt⟩ := y
        dsimp only at c0 c1 c2 c3 d0 d1 d2 d3
        unfold opEq at hq; dsimp only at hq
        have E := neq44 pk pc pn pt qk qc qn qt true (by simpa using hq)
        clear hq
        go_wp2_with fail
        go_quiet (fail)
        go_wp2_with fail
        go_ret
        exact ⟨by rw [HX.out]; rfl, (Below.drewQ HH.out.1 _)⟩
      · have R : Hid (∀ (j : Nat) (x y : Opn), j < k + 1 → l[j]? = some x → l'[j]? = some y → opEq x y = true) := Lib.hid (fun j x2 y2 hj h2 h3 => by
          rcases Nat.lt_or_ge j k with h4 | h4
          · exact HH.out.2 j x2 y2 h4 h2 h3
          · obtain rfl : j = k := by omega
            rw [hx] at h2; injection h2 with h2; rw [hy] at h3; injection h3 with h3
            subst h2 h3; exact hq)
        clear h h' hl hl' hx hy
        obtain ⟨pk, pc, pn, pt⟩ := x
        obtain ⟨qk, qc, qn, qt⟩ := y
        dsimp only at c0 c1 c2 c3 d0 d1 d2 d3
        unfold opEq at hq; dsimp only at hq
        have E := neq44 pk pc pn pt qk qc qn qt false (by simpa using hq)
        clear hq
        go_wp2_with fail
        go_quiet (fail)
        go_wp2_with fail
        go_roundg (gk - 1)
        case measure => omega
        case rel => exact ⟨k + 1, by omega, by go_num, (Below.drewQ HH.out.1 _), R.out⟩
    · obtain rfl : k = n := by omega
      have hge : ¬ (k : Int) < (k : Int) := by omega
      have R : sameL opEq l l' = true := sameL_yes opEq l l' (by rw [H0.out.2.2.1, H0.out.2.2.2]) (fun j x y hx hy => HH.out.2 j x y (by
        have := (List.getElem?_eq_some_iff.1 hx).1; have := H0.out.2.2.1; omega) hx hy)
      have HX := Lib.hid R
      clear R
      go_wp2_with fail
      go_ret
      exact ⟨by rw [HX.out]; rfl, HH.out.1⟩
set_option maxHeartbeats 1000000 in
theorem eq44_v (A A' : Option Addr) (n n' c c' : Nat) (l l' : List Rg) (w : World) (h : IsRegs w A n l) (h' : IsRegs w A' n' l') :
    Calls Try.prog 44 #[.slice A n c, .slice A' n' c'] w fun e w' => e = .returned (.bool (sameL rgEq l l')) ∧ Below w.heap.size w w' := by
  have hl := h.1
  have hl' := h'.1
  have hm := h.2.1
  by_cases hn : ¬ n = n'
  · rw [sameL_len rgEq l l' (by omega)]
    have i1 : ¬ (n : Int) = (n' : Int) := by omega
    clear h h' hl hl'
    go_enter Try.func44, Try.ntmps44
    go_wp2_with fail
    go_ret
    exact ⟨rfl, Below.refl _ _⟩
  have hn := Decidable.not_not.1 hn
  subst hn
  have H0 := Lib.hid (And.intro h (And.intro h' (And.intro hl hl')))
  clear h h' hl hl'
  go_enter Try.func44, Try.ntmps44
  go_wp2_with fail
  go_loopg [13] n (fun gk u wr => ∃ k : Nat, k + gk = n ∧ u = .int .i64 (k : Int) ∧ Hid (Below w.heap.size w wr ∧ ∀ (j : Nat) (x y : Rg), j < k → l[j]? = some x → l'[j]? = some y → rgEq x y = true))
  case atStart => exact ⟨0, by omega, rfl, Below.refl _ _, fun j x y hj => by omega⟩
  case round =>
    obtain ⟨k, hk, rfl, HH⟩ := hrel
    by_cases hlt : k < n
    · obtain ⟨h, h', hl, hl'⟩ := H0.out
      obtain ⟨b, o, rfl, hb, x, hx, c0, c1⟩ := (h.below HH.out.1).at hlt
      obtain ⟨b', o', rfl, hb', y, hy, d0, d1⟩ := (h'.below HH.out.1).at hlt
      have i1 : (k : Int) < (n : Int) := by omega
      cases hq : rgEq x y
      · have R : sameL rgEq l l' = false := sameL_no rgEq l l' k x y hx hy hq
        have HX := Lib.hid R
        clear h h' hl hl' R hx hy
        obtain ⟨pid, pcl⟩ := x
        obtain ⟨qid, qcl⟩ := y
        dsimp only at c0 c1 d0 d1
        unfold rgEq at hq; dsimp only at hq
        have E := neq71 pid pcl qid qcl true (by simpa using hq)
        clear hq
        go_wp2_with fail
        go_quiet (fail)
        go_wp2_with fail
        go_ret
        exact ⟨by rw [HX.out]; rfl, (Below.drewQ HH.out.1 _)⟩
      · have R : Hid (∀ (j : Nat) (x y : Rg), j < k + 1 → l[j]? = some x → l'[j]? = some y → rgEq x y = true) := Lib.hid (fun j x2 y2 hj h2 h3 => by
          rcases Nat.lt_or_ge j k with h4 | h4
          · exact HH.out.2 j x2 y2 h4 h2 h3
          · obtain rfl : j = k := by omega
            rw [hx] at h2; injection h2 with h2; rw [hy] at h3; injection h3 with h3
            subst h2 h3; exact hq)
        clear h h' hl hl' hx hy
        obtain ⟨pid, pcl⟩ := x
        obtain ⟨qid, qcl⟩ := y
        dsimp only at c0 c1 d0 d1
        unfold rgEq at hq; dsimp only at hq
        have E := neq71 pid pcl qid qcl false (by simpa using hq)
        clear hq
        go_wp2_with fail
        go_quiet (fail)
        go_wp2_with fail
        go_roundg (gk - 1)
        case measure => omega
        case rel => exact ⟨k + 1, by omega, by go_num, (Below.drewQ HH.out.1 _), R.out⟩
    · obtain rfl : k = n := by omega
      have hge : ¬ (k : Int) < (k : Int) := by omega
      have R : sameL rgEq l l' = true := sameL_yes rgEq l l' (by rw [H0.out.2.2.1, H0.out.2.2.2]) (fun j x y hx hy => HH.out.2 j x y (by
        have := (List.getElem?_eq_some_iff.1 hx).1; have := H0.out.2.2.1; omega) hx hy)
      have HX := Lib.hid R
      clear R
      go_wp2_with fail
      go_ret
      exact ⟨by rw [HX.out]; rfl, HH.out.1⟩
set_option maxHeartbeats 1000000 in
theorem eq50_v (A A' : Option Addr) (n n' c c' : Nat) (l l' : List Sg) (w : World) (h : IsSegs w A n l) (h' : IsSegs w A' n' l') :
    Calls Try.prog 50 #[.slice A n c, .slice A' n' c'] w fun e w' => e = .returned (.bool (sameL sgEq l l')) ∧ Below w.heap.size w w' := by
  have hl := h.1
  have hl' := h'.1
  have hm := h.2.1
  by_cases hn : ¬ n = n'
  · rw [sameL_len sgEq l l' (by omega)]
    have i1 : ¬ (n : Int) = (n' : Int) := by omega
    clear h h' hl hl'
    go_enter Try.func50, Try.ntmps50
    go_wp2_with fail
    go_ret
    exact ⟨rfl, Below.refl _ _⟩
  have hn := Decidable.not_not.1 hn
  subst hn
  have H0 := Lib.hid (And.intro h (And.intro h' (And.intro hl hl')))
  clear h h' hl hl'
  go_enter Try.func50, Try.ntmps50
  go_wp2_with fail
  go_loopg [13] n (fun gk u wr => ∃ k : Nat, k + gk = n ∧ u = .int .i64 (k : Int) ∧ Hid (Below w.heap.size w wr ∧ ∀ (j : Nat) (x y : Sg), j < k → l[j]? = some x → l'[j]? = some y → sgEq x y = true))
  case atStart => exact ⟨0, by omega, rfl, Below.refl _ _, fun j x y hj => by omega⟩
  case round =>
    obtain ⟨k, hk, rfl, HH⟩ := hrel
    by_cases hlt : k < n
    · obtain ⟨h, h', hl, hl'⟩ := H0.out
      obtain ⟨b, o, rfl, hb, x, hx, c0, c1, c2, c3, c4, c5⟩ := (h.below HH.out.1).at hlt
      obtain ⟨b', o', rfl, hb', y, hy, d0, d1, d2, d3, d4, d5⟩ := (h'.below HH.out.1).at hlt
      have i1 : (k : Int) < (n : Int) := by omega
      cases hq : sgEq x y
      · have R : sameL sgEq l l' = false := sameL_no sgEq l l' k x y hx hy hq
        have HX := Lib.hid R
        clear h h' hl hl' R hx hy
        obtain ⟨pv, pf, pt, pk, pc, pn⟩ := x
        obtain ⟨qv, qf, qt, qk, qc, qn⟩ := y
        dsimp only at c0 c1 c2 c3 c4 c5 d0 d1 d2 d3 d4 d5
        unfold sgEq at hq; dsimp only at hq
        have E := neq89 pv pf pt pk pc pn qv qf qt qk qc qn true (by simpa using hq)
        clear hq
        go_wp2_with fail
        go_quiet (fail)
        go_wp2_with fail
        go_ret
        exact ⟨by rw [HX.out]; rfl, (Below.drewQ HH.out.1 _)⟩
      · have R : Hid (∀ (j : Nat) (x y : Sg), j < k + 1 → l[j]? = some x → l'[j]? = some y → sgEq x y = true) := Lib.hid (fun j x2 y2 hj h2 h3 => by
          rcases Nat.lt_or_ge j k with h4 | h4
          · exact HH.out.2 j x2 y2 h4 h2 h3
          · obtain rfl : j = k := by omega
            rw [hx] at h2; injection h2 with h2; rw [hy] at h3; injection h3 with h3
            subst h2 h3; exact hq)
        clear h h' hl hl' hx hy
        obtain ⟨pv, pf, pt, pk, pc, pn⟩ := x
        obtain ⟨qv, qf, qt, qk, qc, qn⟩ := y
        dsimp only at c0 c1 c2 c3 c4 c5 d0 d1 d2 d3 d4 d5
        unfold sgEq at hq; dsimp only at hq
        have E := neq89 pv pf pt pk pc pn qv qf qt qk qc qn false (by simpa using hq)
        clear hq
        go_wp2_with fail
        go_quiet (fail)
        go_wp2_with fail
        go_roundg (gk - 1)
        case measure => omega
        case rel => exact ⟨k + 1, by omega, by go_num, (Below.drewQ HH.out.1 _), R.out⟩
    · obtain rfl : k = n := by omega
      have hge : ¬ (k : Int) < (k : Int) := by omega
      have R : sameL sgEq l l' = true := sameL_yes sgEq l l' (by rw [H0.out.2.2.1, H0.out.2.2.2]) (fun j x y hx hy => HH.out.2 j x y (by
        have := (List.getElem?_eq_some_iff.1 hx).1; have := H0.out.2.2.1; omega) hx hy)
      have HX := Lib.hid R
      clear R
      go_wp2_with fail
      go_ret
      exact ⟨by rw [HX.out]; rfl, HH.out.1⟩
set_option maxHeartbeats 1000000 in
theorem eq51_v (A A' : Option Addr) (n n' c c' : Nat) (l l' : List Int) (w : World) (h : IsInts w A n l) (h' : IsInts w A' n' l') :
    Calls Try.prog 51 #[.slice A n c, .slice A' n' c'] w fun e w' => e = .returned (.bool (sameL intEq l l')) ∧ Below w.heap.size w w' := by
  have hl := h.1
  have hl' := h'.1
  have hm := h.2.1
  by_cases hn : ¬ n = n'
  · rw [sameL_len intEq l l' (by omega)]
    have i1 : ¬ (n : Int) = (n' : Int) := by omega
    clear h h' hl hl'
    go_enter Try.func51, Try.ntmps51
    go_wp2_with fail
    go_ret
    exact ⟨rfl, Below.refl _ _⟩
  have hn := Decidable.not_not.1 hn
  subst hn
  have H0 := Lib.hid (And.intro h (And.intro h' (And.intro hl hl')))
  clear h h' hl hl'
  go_enter Try.func51, Try.ntmps51
  go_wp2_with fail
  go_loopg [13] n (fun gk u wr => ∃ k : Nat, k + gk = n ∧ u = .int .i64 (k : Int) ∧ Hid (Below w.heap.size w wr ∧ ∀ (j : Nat) (x y : Int), j < k → l[j]? = some x → l'[j]? = some y → intEq x y = true))
  case atStart => exact ⟨0, by omega, rfl, Below.refl _ _, fun j x y hj => by omega⟩
  case round =>
    obtain ⟨k, hk, rfl, HH⟩ := hrel
    by_cases hlt : k < n
    · obtain ⟨h, h', hl, hl'⟩ := H0.out
      obtain ⟨b, o, rfl, hb, x, hx, c0⟩ := (h.below HH.out.1).at hlt
      obtain ⟨b', o', rfl, hb', y, hy, d0⟩ := (h'.below HH.out.1).at hlt
      have i1 : (k : Int) < (n : Int) := by omega
      cases hq : intEq x y
      · have R : sameL intEq l l' = false := sameL_no intEq l l' k x y hx hy hq
        have HX := Lib.hid R
        clear h h' hl hl' R hx hy
        have E : (x == y) = false := hq
        have E' : ¬ x = y := by simpa using E
        clear hq
        go_wp2_with fail
        go_quiet (fail)
        go_wp2_with fail
        go_ret
        exact ⟨by rw [HX.out]; rfl, (Below.drewQ HH.out.1 _)⟩
      · have R : Hid (∀ (j : Nat) (x y : Int), j < k + 1 → l[j]? = some x → l'[j]? = some y → intEq x y = true) := Lib.hid (fun j x2 y2 hj h2 h3 => by
          rcases Nat.lt_or_ge j k with h4 | h4
          · exact HH.out.2 j x2 y2 h4 h2 h3
          · obtain rfl : j = k := by omega
            rw [hx] at h2; injection h2 with h2; rw [hy] at h3; injection h3 with h3
            subst h2 h3; exact hq)
        clear h h' hl hl' hx hy
        have E : (x == y) = true := hq
        have E' : x = y := by simpa using E
        clear hq
        go_wp2_with fail
        go_quiet (fail)
        go_wp2_with fail
        go_roundg (gk - 1)
        case measure => omega
        case rel => exact ⟨k + 1, by omega, by go_num, (Below.drewQ HH.out.1 _), R.out⟩
    · obtain rfl : k = n := by omega
      have hge : ¬ (k : Int) < (k : Int) := by omega
      have R : sameL intEq l l' = true := sameL_yes intEq l l' (by rw [H0.out.2.2.1, H0.out.2.2.2]) (fun j x y hx hy => HH.out.2 j x y (by
        have := (List.getElem?_eq_some_iff.1 hx).1; have := H0.out.2.2.1; omega) hx hy)
      have HX := Lib.hid R
      clear R
      go_wp2_with fail
      go_ret
      exact ⟨by rw [HX.out]; rfl, HH.out.1⟩
set_option maxHeartbeats 1000000 in
theorem eq65_v (A A' : Option Addr) (n n' c c' : Nat) (l l' : List ByteArray) (w : World) (h : IsStrs w A n l) (h' : IsStrs w A' n' l') :
    Calls Try.prog 65 #[.slice A n c, .slice A' n' c'] w fun e w' => e = .returned (.bool (sameL strEq l l')) ∧ Below w.heap.size w w' := by
  have hl := h.1
  have hl' := h'.1
  have hm := h.2.1
  by_cases hn : ¬ n = n'
  · rw [sameL_len strEq l l' (by omega)]
    have i1 : ¬ (n : Int) = (n' : Int) := by omega
    clear h h' hl hl'
    go_enter Try.func65, Try.ntmps65
    go_wp2_with fail
    go_ret
    exact ⟨rfl, Below.refl _ _⟩
  have hn := Decidable.not_not.1 hn
  subst hn
  have H0 := Lib.hid (And.intro h (And.intro h' (And.intro hl hl')))
  clear h h' hl hl'
  go_enter Try.func65, Try.ntmps65
  go_wp2_with fail
  go_loopg [13] n (fun gk u wr => ∃ k : Nat, k + gk = n ∧ u = .int .i64 (k : Int) ∧ Hid (Below w.heap.size w wr ∧ ∀ (j : Nat) (x y : ByteArray), j < k → l[j]? = some x → l'[j]? = some y → strEq x y = true))
  case atStart => exact ⟨0, by omega, rfl, Below.refl _ _, fun j x y hj => by omega⟩
  case round =>
    obtain ⟨k, hk, rfl, HH⟩ := hrel
    by_cases hlt : k < n
    · obtain ⟨h, h', hl, hl'⟩ := H0.out
      obtain ⟨b, o, rfl, hb, x, hx, c0⟩ := (h.below HH.out.1).at hlt
      obtain ⟨b', o', rfl, hb', y, hy, d0⟩ := (h'.below HH.out.1).at hlt
      have i1 : (k : Int) < (n : Int) := by omega
      cases hq : strEq x y
      · have R : sameL strEq l l' = false := sameL_no strEq l l' k x y hx hy hq
        have HX := Lib.hid R
        clear h h' hl hl' R hx hy
        have E : (x.toList == y.toList) = false := hq
        have E' : ¬ x.toList = y.toList := by simpa using E
        clear hq
        go_wp2_with fail
        go_quiet (fail)
        go_wp2_with fail
        go_ret
        exact ⟨by rw [HX.out]; rfl, (Below.drewQ HH.out.1 _)⟩
      · have R : Hid (∀ (j : Nat) (x y : ByteArray), j < k + 1 → l[j]? = some x → l'[j]? = some y → strEq x y = true) := Lib.hid (fun j x2 y2 hj h2 h3 => by
          rcases Nat.lt_or_ge j k with h4 | h4
          · exact HH.out.2 j x2 y2 h4 h2 h3
          · obtain rfl : j = k := by omega
            rw [hx] at h2; injection h2 with h2; rw [hy] at h3; injection h3 with h3
            subst h2 h3; exact hq)
        clear h h' hl hl' hx hy
        have E : (x.toList == y.toList) = true := hq
        have E' : x.toList = y.toList := by simpa using E
        clear hq
        go_wp2_with fail
        go_quiet (fail)
        go_wp2_with fail
        go_roundg (gk - 1)
        case measure => omega
        case rel => exact ⟨k + 1, by omega, by go_num, (Below.drewQ HH.out.1 _), R.out⟩
    · obtain rfl : k = n := by omega
      have hge : ¬ (k : Int) < (k : Int) := by omega
      have R : sameL strEq l l' = true := sameL_yes strEq l l' (by rw [H0.out.2.2.1, H0.out.2.2.2]) (fun j x y hx hy => HH.out.2 j x y (by
        have := (List.getElem?_eq_some_iff.1 hx).1; have := H0.out.2.2.1; omega) hx hy)
      have HX := Lib.hid R
      clear R
      go_wp2_with fail
      go_ret
      exact ⟨by rw [HX.out]; rfl, HH.out.1⟩
set_option maxHeartbeats 1000000 in
theorem eq48_v (A A' : Option Addr) (n n' c c' : Nat) (l l' : List Opn) (w : World) (h : IsOps w A n l) (h' : IsOps w A' n' l') :
    Calls Try.prog 48 #[.slice A n c, .slice A' n' c'] w fun e w' => e = .returned (.bool (sameL opEq l l')) ∧ Below w.heap.size w w' := by
  have hl := h.1
  have hl' := h'.1
  have hm := h.2.1
  by_cases hn : ¬ n = n'
  · rw [sameL_len opEq l l' (by omega)]
    have i1 : ¬ (n : Int) = (n' : Int) := by omega
    clear h h' hl hl'
    go_enter Try.func48, Try.ntmps48
    go_wp2_with fail
    go_ret
    exact ⟨rfl, Below.refl _ _⟩
  have hn := Decidable.not_not.1 hn
  subst hn
  have H0 := Lib.hid (And.intro h (And.intro h' (And.intro hl hl')))
  clear h h' hl hl'
  go_enter Try.func48, Try.ntmps48
  go_wp2_with fail
  go_loopg [5] n (fun gk u wr => ∃ k : Nat, k + gk = n ∧ u = .int .i64 (k : Int) ∧ Hid (Below w.heap.size w wr ∧ ∀ (j : Nat) (x y : Opn), j < k → l[j]? = some x → l'[j]? = some y → opEq x y = true))
  case atStart => exact ⟨0, by omega, rfl, Below.refl _ _, fun j x y hj => by omega⟩
  case round =>
    obtain ⟨k, hk, rfl, HH⟩ := hrel
    by_cases hlt : k < n
    · obtain ⟨h, h', hl, hl'⟩ := H0.out
      obtain ⟨b, o, rfl, hb, x, hx, c0, c1, c2, c3⟩ := (h.below HH.out.1).at hlt
      obtain ⟨b', o', rfl, hb', y, hy, d0, d1, d2, d3⟩ := (h'.below HH.out.1).at hlt
      have i1 : (k : Int) < (n : Int) := by omega
      cases hq : opEq x y
      · have R : sameL opEq l l' = false := sameL_no opEq l l' k x y hx hy hq
        have HX := Lib.hid R
        clear h h' hl hl' R hx hy
        obtain ⟨pk, pc, pn, pt⟩ := x
        obtain ⟨qk, qc, qn, qt⟩ := y
        dsimp only at c0 c1 c2 c3 d0 d1 d2 d3
        unfold opEq at hq; dsimp only at hq
        have E := neq44 pk pc pn pt qk qc qn qt true (by simpa using hq)
        clear hq
        go_wp2_with fail
        go_quiet (fail)
        go_wp2_with fail
        go_ret
        exact ⟨by rw [HX.out]; rfl, (Below.drewQ HH.out.1 _)⟩
      · have R : Hid (∀ (j : Nat) (x y : Opn), j < k + 1 → l[j]? = some x → l'[j]? = some y → opEq x y = true) := Lib.hid (fun j x2 y2 hj h2 h3 => by
          rcases Nat.lt_or_ge j k with h4 | h4
          · exact HH.out.2 j x2 y2 h4 h2 h3
          · obtain rfl : j = k := by omega
            rw [hx] at h2; injection h2 with h2; rw [hy] at h3; injection h3 with h3
            subst h2 h3; exact hq)
        clear h h' hl hl' hx hy
        obtain ⟨pk, pc, pn, pt⟩ := x
        obtain ⟨qk, qc, qn, qt⟩ := y
        dsimp only at c0 c1 c2 c3 d0 d1 d2 d3
        unfold opEq at hq; dsimp only at hq
        have E := neq44 pk pc pn pt qk qc qn qt false (by simpa using hq)
        clear hq
        go_wp2_with fail
        go_quiet (fail)
        go_wp2_with fail
        go_roundg (gk - 1)
        case measure => omega
        case rel => exact ⟨k + 1, by omega, by go_num, (Below.drewQ HH.out.1 _), R.out⟩
    · obtain rfl : k = n := by omega
      have hge : ¬ (k : Int) < (k : Int) := by omega
      have R : sameL opEq l l' = true := sameL_yes opEq l l' (by rw [H0.out.2.2.1, H0.out.2.2.2]) (fun j x y hx hy => HH.out.2 j x y (by
        have := (List.getElem?_eq_some_iff.1 hx).1; have := H0.out.2.2.1; omega) hx hy)
      have HX := Lib.hid R
      clear R
      go_wp2_with fail
      go_ret
      exact ⟨by rw [HX.out]; rfl, HH.out.1⟩
set_option maxHeartbeats 1000000 in
theorem eq63_v (A A' : Option Addr) (n n' c c' : Nat) (l l' : List ByteArray) (w : World) (h : IsStrs w A n l) (h' : IsStrs w A' n' l') :
    Calls Try.prog 63 #[.slice A n c, .slice A' n' c'] w fun e w' => e = .returned (.bool (sameL strEq l l')) ∧ Below w.heap.size w w' := by
  have hl := h.1
  have hl' := h'.1
  have hm := h.2.1
  by_cases hn : ¬ n = n'
  · rw [sameL_len strEq l l' (by omega)]
    have i1 : ¬ (n : Int) = (n' : Int) := by omega
    clear h h' hl hl'
    go_enter Try.func63, Try.ntmps63
    go_wp2_with fail
    go_ret
    exact ⟨rfl, Below.refl _ _⟩
  have hn := Decidable.not_not.1 hn
  subst hn
  have H0 := Lib.hid (And.intro h (And.intro h' (And.intro hl hl')))
  clear h h' hl hl'
  go_enter Try.func63, Try.ntmps63
  go_wp2_with fail
  go_loopg [5] n (fun gk u wr => ∃ k : Nat, k + gk = n ∧ u = .int .i64 (k : Int) ∧ Hid (Below w.heap.size w wr ∧ ∀ (j : Nat) (x y : ByteArray), j < k → l[j]? = some x → l'[j]? = some y → strEq x y = true))
  case atStart => exact ⟨0, by omega, rfl, Below.refl _ _, fun j x y hj => by omega⟩
  case round =>
    obtain ⟨k, hk, rfl, HH⟩ := hrel
    by_cases hlt : k < n
    · obtain ⟨h, h', hl, hl'⟩ := H0.out
      obtain ⟨b, o, rfl, hb, x, hx, c0⟩ := (h.below HH.out.1).at hlt
      obtain ⟨b', o', rfl, hb', y, hy, d0⟩ := (h'.below HH.out.1).at hlt
      have i1 : (k : Int) < (n : Int) := by omega
      cases hq : strEq x y
      · have R : sameL strEq l l' = false := sameL_no strEq l l' k x y hx hy hq
        have HX := Lib.hid R
        clear h h' hl hl' R hx hy
        have E : (x.toList == y.toList) = false := hq
        have E' : ¬ x.toList = y.toList := by simpa using E
        clear hq
        go_wp2_with fail
        go_quiet (fail)
        go_wp2_with fail
        go_ret
        exact ⟨by rw [HX.out]; rfl, (Below.drewQ HH.out.1 _)⟩
      · have R : Hid (∀ (j : Nat) (x y : ByteArray), j < k + 1 → l[j]? = some x → l'[j]? = some y → strEq x y = true) := Lib.hid (fun j x2 y2 hj h2 h3 => by
          rcases Nat.lt_or_ge j k with h4 | h4
          · exact HH.out.2 j x2 y2 h4 h2 h3
          · obtain rfl : j = k := by omega
            rw [hx] at h2; injection h2 with h2; rw [hy] at h3; injection h3 with h3
            subst h2 h3; exact hq)
        clear h h' hl hl' hx hy
        have E : (x.toList == y.toList) = true := hq
        have E' : x.toList = y.toList := by simpa using E
        clear hq
        go_wp2_with fail
        go_quiet (fail)
        go_wp2_with fail
        go_roundg (gk - 1)
        case measure => omega
        case rel => exact ⟨k + 1, by omega, by go_num, (Below.drewQ HH.out.1 _), R.out⟩
    · obtain rfl : k = n := by omega
      have hge : ¬ (k : Int) < (k : Int) := by omega
      have R : sameL strEq l l' = true := sameL_yes strEq l l' (by rw [H0.out.2.2.1, H0.out.2.2.2]) (fun j x y hx hy => HH.out.2 j x y (by
        have := (List.getElem?_eq_some_iff.1 hx).1; have := H0.out.2.2.1; omega) hx hy)
      have HX := Lib.hid R
      clear R
      go_wp2_with fail
      go_ret
      exact ⟨by rw [HX.out]; rfl, HH.out.1⟩
set_option maxHeartbeats 1000000 in
theorem eq33_v (A A' : Option Addr) (n n' c c' : Nat) (l l' : List Int) (w : World) (h : IsInts w A n l) (h' : IsInts w A' n' l') :
    Calls Try.prog 33 #[.slice A n c, .slice A' n' c'] w fun e w' => e = .returned (.bool (sameL intEq l l')) ∧ Below w.heap.size w w' := by
  have hl := h.1
  have hl' := h'.1
  have hm := h.2.1
  by_cases hn : ¬ n = n'
  · rw [sameL_len intEq l l' (by omega)]
    have i1 : ¬ (n : Int) = (n' : Int) := by omega
    clear h h' hl hl'
    go_enter Try.func33, Try.ntmps33
    go_wp2_with fail
    go_ret
    exact ⟨rfl, Below.refl _ _⟩
  have hn := Decidable.not_not.1 hn
  subst hn
  have H0 := Lib.hid (And.intro h (And.intro h' (And.intro hl hl')))
  clear h h' hl hl'
  go_enter Try.func33, Try.ntmps33
  go_wp2_with fail
  go_loopg [5] n (fun gk u wr => ∃ k : Nat, k + gk = n ∧ u = .int .i64 (k : Int) ∧ Hid (Below w.heap.size w wr ∧ ∀ (j : Nat) (x y : Int), j < k → l[j]? = some x → l'[j]? = some y → intEq x y = true))
  case atStart => exact ⟨0, by omega, rfl, Below.refl _ _, fun j x y hj => by omega⟩
  case round =>
    obtain ⟨k, hk, rfl, HH⟩ := hrel
    by_cases hlt : k < n
    · obtain ⟨h, h', hl, hl'⟩ := H0.out
      obtain ⟨b, o, rfl, hb, x, hx, c0⟩ := (h.below HH.out.1).at hlt
      obtain ⟨b', o', rfl, hb', y, hy, d0⟩ := (h'.below HH.out.1).at hlt
      have i1 : (k : Int) < (n : Int) := by omega
      cases hq : intEq x y
      · have R : sameL intEq l l' = false := sameL_no intEq l l' k x y hx hy hq
        have HX := Lib.hid R
        clear h h' hl hl' R hx hy
        have E : (x == y) = false := hq
        have E' : ¬ x = y := by simpa using E
        clear hq
        go_wp2_with fail
        go_quiet (fail)
        go_wp2_with fail
        go_ret
        exact ⟨by rw [HX.out]; rfl, (Below.drewQ HH.out.1 _)⟩
      · have R : Hid (∀ (j : Nat) (x y : Int), j < k + 1 → l[j]? = some x → l'[j]? = some y → intEq x y = true) := Lib.hid (fun j x2 y2 hj h2 h3 => by
          rcases Nat.lt_or_ge j k with h4 | h4
          · exact HH.out.2 j x2 y2 h4 h2 h3
          · obtain rfl : j = k := by omega
            rw [hx] at h2; injection h2 with h2; rw [hy] at h3; injection h3 with h3
            subst h2 h3; exact hq)
        clear h h' hl hl' hx hy
        have E : (x == y) = true := hq
        have E' : x = y := by simpa using E
        clear hq
        go_wp2_with fail
        go_quiet (fail)
        go_wp2_with fail
        go_roundg (gk - 1)
        case measure => omega
        case rel => exact ⟨k + 1, by omega, by go_num, (Below.drewQ HH.out.1 _), R.out⟩
    · obtain rfl : k = n := by omega
      have hge : ¬ (k : Int) < (k : Int) := by omega
      have R : sameL intEq l l' = true := sameL_yes intEq l l' (by rw [H0.out.2.2.1, H0.out.2.2.2]) (fun j x y hx hy => HH.out.2 j x y (by
        have := (List.getElem?_eq_some_iff.1 hx).1; have := H0.out.2.2.1; omega) hx hy)
      have HX := Lib.hid R
      clear R
      go_wp2_with fail
      go_ret
      exact ⟨by rw [HX.out]; rfl, HH.out.1⟩
end Go.Proofs.Ytocelaebokikcaa
