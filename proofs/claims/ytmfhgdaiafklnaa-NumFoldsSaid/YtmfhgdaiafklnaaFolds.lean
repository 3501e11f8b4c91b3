/- The walk of the statement NumFolds: what Fold makes is what the document's own answers make one behind the other. -/
import Derived.Test.YtmfhgdaiafklnaaFold
import Derived.Test.YtmfhgdaiafklnaaRefG
import Derived.Deep.RegionHeld3
namespace Go.Proofs.Ytmfhgdaiafklnaa
open Go.ChangeShapes Go.WideShapes Go.ChangeAt Go.RowKit
set_option linter.unusedVariables false

theorem rdo_w (op a b v : Int) (t : Bool) (h : doV op a b = (v, t)) (ha : fit a) (hb : fit b) (w : World) : Calls Try.prog 9 #[.int .i64 op, .int .i64 a, .int .i64 b] w fun e w' => e = .returned (.tuple #[.int .i64 v, .bool t]) ∧ Below w.heap.size w w' := by
  have k := rdo_any op a b ha hb w
  unfold DoE at k
  rw [h] at k; exact k
theorem fold_n (a : Int) (b1 o1 b2 o2 n c1 c2 : Nat) (f g : Nat → Int) (w : World) (hn : n ≤ 60)
    (hf : ∀ i, i < n → w.cell? ⟨b1, o1 + i, none⟩ = some (.int .i64 (f i))) (hg : ∀ i, i < n → w.cell? ⟨b2, o2 + i, none⟩ = some (.int .i64 (g i))) (hR : foldN f g n 0 a = none) :
    Calls Try.prog 14 #[.int .i64 a, .slice (some ⟨b1, o1, none⟩) n c1, .slice (some ⟨b2, o2, none⟩) n c2] w fun e w' => e = .returned (.tuple #[.int .i64 0, .bool false]) ∧ w = w' := by
  have k := fold_some a b1 o1 b2 o2 n c1 c2 f g w (by omega) hf hg
  rw [hR] at k; exact k
theorem fold_s (a y : Int) (b1 o1 b2 o2 n c1 c2 : Nat) (f g : Nat → Int) (w : World) (hn : n ≤ 60)
    (hf : ∀ i, i < n → w.cell? ⟨b1, o1 + i, none⟩ = some (.int .i64 (f i))) (hg : ∀ i, i < n → w.cell? ⟨b2, o2 + i, none⟩ = some (.int .i64 (g i))) (hR : foldN f g n 0 a = some y) :
    Calls Try.prog 14 #[.int .i64 a, .slice (some ⟨b1, o1, none⟩) n c1, .slice (some ⟨b2, o2, none⟩) n c2] w fun e w' => e = .returned (.tuple #[.int .i64 y, .bool true]) ∧ w = w' := by
  have k := fold_some a b1 o1 b2 o2 n c1 c2 f g w (by omega) hf hg
  rw [hR] at k; exact k

theorem step_S {w wr w1 : World} {b1 b2 p1 p2 : Nat} {v1 v2 : Value} (l1 : b1 < w.heap.size) (l2 : b2 < w.heap.size) (d1 : wr.cell? ⟨b1, p1, none⟩ = some v1) (d2 : wr.cell? ⟨b2, p2, none⟩ = some v2)
    (hb : Below w.heap.size w wr) (h1 : Below wr.heap.size wr w1) : Hid (w1.cell? ⟨b1, p1, none⟩ = some v1 ∧ w1.cell? ⟨b2, p2, none⟩ = some v2 ∧ Below w.heap.size w w1) :=
  ⟨by rw [h1.cell (p := ⟨b1, p1, none⟩) (Nat.lt_of_lt_of_le l1 hb.size)]; exact d1, by rw [h1.cell (p := ⟨b2, p2, none⟩) (Nat.lt_of_lt_of_le l2 hb.size)]; exact d2, hb.trans (h1.mono hb.size)⟩
theorem walk_none (a : Int) (b1 o1 b2 o2 n c1 c2 : Nat) (f g : Nat → Int) (w : World) (hn : n ≤ 60) (hp : 0 < n)
    (hf : ∀ i, i < n → w.cell? ⟨b1, o1 + i, none⟩ = some (.int .i64 (f i))) (hg : ∀ i, i < n → w.cell? ⟨b2, o2 + i, none⟩ = some (.int .i64 (g i)))
    (fa : fit a) (fg : ∀ i, i < n → fit (g i)) (hR : foldN f g n 0 a = none) :
    Calls Try.prog 6 #[.int .i64 a, .slice (some ⟨b1, o1, none⟩) n c1, .slice (some ⟨b2, o2, none⟩) n c2] w fun e w' => e = .returned (.bool true) ∧ Below w.heap.size w w' := by
  have l1 := block_lt_of_cell (hf 0 hp)
  have l2 := block_lt_of_cell (hg 0 hp)
  have HF := Lib.hid hf
  have HG := Lib.hid hg
  have FA := Lib.hid fa
  have FG := Lib.hid fg
  have HR := Lib.hid hR
  have L := Lib.hid (And.intro l1 l2)
  have hne : ((n : Int) != (n : Int)) = false := by simp
  have h60 : decide ((60 : Int) < (n : Int)) = false := by rw [decide_eq_false_iff_not]; omega
  clear hf hg fa fg hR l1 l2
  go_enter Try.func6, Try.ntmps6
  go_wp2_with fail
  (refine (fold_n _ _ _ _ _ _ _ _ f g _ hn HF.out HG.out HR.out).mono ?_)
  rintro e w' ⟨rfl, rfl⟩
  go_wp2_with fail
  go_loopg [0, 9] n (fun gk t i wr => ∃ (k : Nat) (x : Int), k + gk = n ∧ i = .int .i64 k ∧ t = .int .i64 x ∧ Hid (fit x ∧ foldN f g (n - k) k x = none ∧ Below w.heap.size w wr))
  case atStart => exact ⟨0, a, by omega, rfl, rfl, FA.out, HR.out, Below.refl _ _⟩
  case round =>
    obtain ⟨k, x, hk, rfl, rfl, HH⟩ := hrel
    by_cases hlt : k < n
    · have d1 : wr.cell? ⟨b1, o1 + k, none⟩ = some (.int .i64 (f k)) := by rw [HH.out.2.2.cell (p := ⟨b1, o1 + k, none⟩) L.out.1]; exact HF.out k hlt
      have d2 : wr.cell? ⟨b2, o2 + k, none⟩ = some (.int .i64 (g k)) := by rw [HH.out.2.2.cell (p := ⟨b2, o2 + k, none⟩) L.out.2]; exact HG.out k hlt
      obtain ⟨v, t, hv⟩ : ∃ v t, doV (f k) x (g k) = (v, t) := ⟨_, _, rfl⟩
      have HV := Lib.hid hv
      clear hv
      cases t
      · go_wp2_with fail
        go_region_held3 (fun W => W.cell? ⟨b1, o1 + k, none⟩ = some (.int .i64 (f k)) ∧ W.cell? ⟨b2, o2 + k, none⟩ = some (.int .i64 (g k)) ∧ Below w.heap.size w W)
          (first | exact ⟨d1, d2, HH.out.2.2⟩ | exact ⟨d1, d2, HH.out.2.2.drew⟩ | exact S1.out)
          ((go_at_call 9; (refine (rdo_w (f k) x (g k) v false HV.out HH.out.1 (FG.out k hlt) _).mono ?_); rintro e w1 ⟨rfl, hb1⟩; have S1 := step_S (wr := wr.drew) L.out.1 L.out.2 d1 d2 HH.out.2.2.drew hb1; clear hb1))
        go_wp2_with fail
        (refine (works_is _).mono ?_)
        rintro e w3 ⟨rfl, hb3⟩
        go_wp2_with fail
        go_ret
        exact ⟨rfl, S1.out.2.2.trans (hb3.mono S1.out.2.2.size)⟩
      · have hfit : fit v := by have := doV_fit (f k) x (g k) HH.out.1 (FG.out k hlt); rw [HV.out] at this; exact this
        have hnx : foldN f g (n - (k + 1)) (k + 1) v = none := by
          have := foldN_yes (a := x) hlt (by rw [HV.out])
          rw [HV.out] at this
          rw [← HH.out.2.1, this]
        have HNX := Lib.hid (And.intro hfit hnx)
        clear hfit hnx
        go_wp2_with fail
        go_region_held3 (fun W => W.cell? ⟨b1, o1 + k, none⟩ = some (.int .i64 (f k)) ∧ W.cell? ⟨b2, o2 + k, none⟩ = some (.int .i64 (g k)) ∧ Below w.heap.size w W)
          (first | exact ⟨d1, d2, HH.out.2.2⟩ | exact ⟨d1, d2, HH.out.2.2.drew⟩ | exact S1.out)
          ((go_at_call 9; (refine (rdo_w (f k) x (g k) v true HV.out HH.out.1 (FG.out k hlt) _).mono ?_); rintro e w1 ⟨rfl, hb1⟩; have S1 := step_S (wr := wr.drew) L.out.1 L.out.2 d1 d2 HH.out.2.2.drew hb1; clear hb1))
        go_wp2_with fail
        go_roundg (gk - 1)
        case measure => omega
        case rel => exact ⟨k + 1, v, by omega, by go_num, rfl, HNX.out.1, HNX.out.2, S1.out.2.2⟩
    · exfalso
      obtain rfl : k = n := by omega
      have := HH.out.2.1
      rw [foldN_end] at this
      exact absurd this (by simp)
theorem walk_some (a y : Int) (b1 o1 b2 o2 n c1 c2 : Nat) (f g : Nat → Int) (w : World) (hn : n ≤ 60) (hp : 0 < n)
    (hf : ∀ i, i < n → w.cell? ⟨b1, o1 + i, none⟩ = some (.int .i64 (f i))) (hg : ∀ i, i < n → w.cell? ⟨b2, o2 + i, none⟩ = some (.int .i64 (g i)))
    (fa : fit a) (fg : ∀ i, i < n → fit (g i)) (hR : foldN f g n 0 a = some y) :
    Calls Try.prog 6 #[.int .i64 a, .slice (some ⟨b1, o1, none⟩) n c1, .slice (some ⟨b2, o2, none⟩) n c2] w fun e w' => e = .returned (.bool true) ∧ Below w.heap.size w w' := by
  have l1 := block_lt_of_cell (hf 0 hp)
  have l2 := block_lt_of_cell (hg 0 hp)
  have HF := Lib.hid hf
  have HG := Lib.hid hg
  have FA := Lib.hid fa
  have FG := Lib.hid fg
  have HR := Lib.hid hR
  have L := Lib.hid (And.intro l1 l2)
  have hne : ((n : Int) != (n : Int)) = false := by simp
  have h60 : decide ((60 : Int) < (n : Int)) = false := by rw [decide_eq_false_iff_not]; omega
  clear hf hg fa fg hR l1 l2
  go_enter Try.func6, Try.ntmps6
  go_wp2_with fail
  (refine (fold_s _ y _ _ _ _ _ _ _ f g _ hn HF.out HG.out HR.out).mono ?_)
  rintro e w' ⟨rfl, rfl⟩
  go_wp2_with fail
  go_loopg [0, 9] n (fun gk t i wr => ∃ (k : Nat) (x : Int), k + gk = n ∧ i = .int .i64 k ∧ t = .int .i64 x ∧ Hid (fit x ∧ foldN f g (n - k) k x = some y ∧ Below w.heap.size w wr))
  case atStart => exact ⟨0, a, by omega, rfl, rfl, FA.out, HR.out, Below.refl _ _⟩
  case round =>
    obtain ⟨k, x, hk, rfl, rfl, HH⟩ := hrel
    by_cases hlt : k < n
    · have d1 : wr.cell? ⟨b1, o1 + k, none⟩ = some (.int .i64 (f k)) := by rw [HH.out.2.2.cell (p := ⟨b1, o1 + k, none⟩) L.out.1]; exact HF.out k hlt
      have d2 : wr.cell? ⟨b2, o2 + k, none⟩ = some (.int .i64 (g k)) := by rw [HH.out.2.2.cell (p := ⟨b2, o2 + k, none⟩) L.out.2]; exact HG.out k hlt
      obtain ⟨v, t, hv⟩ : ∃ v t, doV (f k) x (g k) = (v, t) := ⟨_, _, rfl⟩
      have HV := Lib.hid hv
      clear hv
      cases t
      · exfalso
        have := foldN_no (a := x) hlt (by rw [HV.out])
        rw [HH.out.2.1] at this
        exact absurd this (by simp)
      · have hfit : fit v := by have := doV_fit (f k) x (g k) HH.out.1 (FG.out k hlt); rw [HV.out] at this; exact this
        have hnx : foldN f g (n - (k + 1)) (k + 1) v = some y := by
          have := foldN_yes (a := x) hlt (by rw [HV.out])
          rw [HV.out] at this
          rw [← HH.out.2.1, this]
        have HNX := Lib.hid (And.intro hfit hnx)
        clear hfit hnx
        go_wp2_with fail
        go_region_held3 (fun W => W.cell? ⟨b1, o1 + k, none⟩ = some (.int .i64 (f k)) ∧ W.cell? ⟨b2, o2 + k, none⟩ = some (.int .i64 (g k)) ∧ Below w.heap.size w W)
          (first | exact ⟨d1, d2, HH.out.2.2⟩ | exact ⟨d1, d2, HH.out.2.2.drew⟩ | exact S1.out)
          ((go_at_call 9; (refine (rdo_w (f k) x (g k) v true HV.out HH.out.1 (FG.out k hlt) _).mono ?_); rintro e w1 ⟨rfl, hb1⟩; have S1 := step_S (wr := wr.drew) L.out.1 L.out.2 d1 d2 HH.out.2.2.drew hb1; clear hb1))
        go_wp2_with fail
        go_roundg (gk - 1)
        case measure => omega
        case rel => exact ⟨k + 1, v, by omega, by go_num, rfl, HNX.out.1, HNX.out.2, S1.out.2.2⟩
    · obtain rfl : k = n := by omega
      have hxy : x = y := by
        have := HH.out.2.1
        rw [foldN_end] at this
        exact Option.some.inj this
      have hq : (y == x) = true := by rw [hxy]; simp
      clear hxy
      go_wp2_with fail
      (refine (works_is _).mono ?_)
      rintro e w3 ⟨rfl, hb3⟩
      go_wp2_with fail
      go_ret
      exact ⟨rfl, HH.out.2.2.trans (hb3.mono HH.out.2.2.size)⟩
theorem walk_big1 (a : Int) (a1 a2 : Option Addr) (n1 n2 c1 c2 : Nat) (w : World) (h : decide ((60 : Int) < (n1 : Int)) = true) :
    Calls Try.prog 6 #[.int .i64 a, .slice a1 n1 c1, .slice a2 n2 c2] w fun e w' => e = .returned (.bool true) ∧ Below w.heap.size w w' := by
  go_enter Try.func6, Try.ntmps6
  go_wp2_with fail
  (refine (works_is _).mono ?_)
  rintro e w3 ⟨rfl, hb3⟩
  go_wp2_with fail
  go_ret
  exact ⟨rfl, hb3⟩
theorem walk_big2 (a : Int) (a1 a2 : Option Addr) (n1 n2 c1 c2 : Nat) (w : World) (h : decide ((60 : Int) < (n1 : Int)) = false) (h2 : decide ((60 : Int) < (n2 : Int)) = true) :
    Calls Try.prog 6 #[.int .i64 a, .slice a1 n1 c1, .slice a2 n2 c2] w fun e w' => e = .returned (.bool true) ∧ Below w.heap.size w w' := by
  go_enter Try.func6, Try.ntmps6
  go_wp2_with fail
  (refine (works_is _).mono ?_)
  rintro e w3 ⟨rfl, hb3⟩
  go_wp2_with fail
  go_ret
  exact ⟨rfl, hb3⟩
theorem fold_len0 (a : Int) (a1 a2 : Option Addr) (n1 n2 c1 c2 : Nat) (w : World) (h : ((n1 : Int) != (n2 : Int)) = true) :
    Calls Try.prog 14 #[.int .i64 a, .slice a1 n1 c1, .slice a2 n2 c2] w fun e w' => e = .returned (.tuple #[.int .i64 0, .bool false]) ∧ w = w' := fold_len a a1 a2 n1 n2 c1 c2 w h
theorem fold_empty0 (a : Int) (a1 a2 : Option Addr) (c1 c2 : Nat) (w : World) :
    Calls Try.prog 14 #[.int .i64 a, .slice a1 0 c1, .slice a2 0 c2] w fun e w' => e = .returned (.tuple #[.int .i64 a, .bool true]) ∧ w = w' := fold_empty a a1 a2 c1 c2 w
theorem walk_len (a : Int) (a1 a2 : Option Addr) (n1 n2 c1 c2 : Nat) (w : World) (h : decide ((60 : Int) < (n1 : Int)) = false) (h2 : decide ((60 : Int) < (n2 : Int)) = false) (hne : ((n1 : Int) != (n2 : Int)) = true) :
    Calls Try.prog 6 #[.int .i64 a, .slice a1 n1 c1, .slice a2 n2 c2] w fun e w' => e = .returned (.bool true) ∧ Below w.heap.size w w' := by
  go_enter Try.func6, Try.ntmps6
  go_wp2_with fail
  (refine (fold_len0 _ _ _ _ _ _ _ _ hne).mono ?_)
  rintro e w' ⟨rfl, rfl⟩
  go_wp2_with fail
  (refine (works_is _).mono ?_)
  rintro e w3 ⟨rfl, hb3⟩
  go_wp2_with fail
  go_ret
  exact ⟨rfl, hb3⟩
theorem walk_empty (a : Int) (a1 a2 : Option Addr) (c1 c2 : Nat) (w : World) :
    Calls Try.prog 6 #[.int .i64 a, .slice a1 0 c1, .slice a2 0 c2] w fun e w' => e = .returned (.bool true) ∧ Below w.heap.size w w' := by
  go_enter Try.func6, Try.ntmps6
  go_wp2_with fail
  (refine (fold_empty0 _ _ _ _ _ _).mono ?_)
  rintro e w' ⟨rfl, rfl⟩
  go_wp2_with fail
  go_loopg [0, 9] 0 (fun gk t i wr => t = .int .i64 a ∧ i = .int .i64 0 ∧ Hid (w = wr))
  case atStart => exact ⟨rfl, rfl, rfl⟩
  case round =>
    obtain ⟨rfl, rfl, HH⟩ := hrel
    obtain rfl : w = wr := HH.out
    go_wp2_with fail
    (refine (works_is _).mono ?_)
    rintro e w3 ⟨rfl, hb3⟩
    go_wp2_with fail
    go_ret
    exact ⟨rfl, hb3⟩
end Go.Proofs.Ytmfhgdaiafklnaa
