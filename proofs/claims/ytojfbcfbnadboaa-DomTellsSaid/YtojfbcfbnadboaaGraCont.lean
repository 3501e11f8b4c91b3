
/- slices.Index and slices.Contains at numbers, as the program calls them. -/
import Derived.Test.YtojfbcfbnadboaaGraFns
namespace Go.Proofs.Ytojfbcfbnadboaa.Gra
open Go.ChangeShapes Go.WideShapes Go.RowKit
set_option linter.unusedVariables false
set_option maxRecDepth 20000

theorem index_v (A : Option Addr) (n c : Nat) (l : List Int) (x : Int) (w : World) (h : IsInts w A n l) :
    Calls Try.prog 69 #[.slice A n c, .int .i64 x] w fun e w' => (∃ z : Int, e = .returned (.int .i64 z) ∧ (0 ≤ z ↔ x ∈ l)) ∧ w = w' := by
  have hm := h.2.1
  have H0 := Lib.hid h
  clear h
  go_enter Try.func69, Try.ntmps69
  go_wp2_with fail
  go_loopg [8] n (fun gk u wr => ∃ k : Nat, k + gk = n ∧ u = .int .i64 (k : Int) ∧ wr = w ∧ Hid (x ∉ l.take k))
  case atStart => exact ⟨0, by omega, rfl, rfl, Lib.hid (by simp)⟩
  case round =>
    obtain ⟨k, hk, rfl, rfl, HH⟩ := hrel
    by_cases hlt : k < n
    · obtain ⟨b, o, rfl, hb, y, hy, c0⟩ := H0.out.at hlt
      have i1 : (k : Int) < (n : Int) := by omega
      have HY := Lib.hid hy
      clear hy
      cases hq : (x == y)
      · go_wp2_with fail
        have hne := beq_eq_false_iff_ne.1 hq
        go_roundg (gk - 1)
        case measure => omega
        case rel => exact ⟨k + 1, by omega, by go_num, rfl, Lib.hid (by
          rw [List.take_add_one, HY.out]
          intro hx
          rcases List.mem_append.1 hx with h | h
          · exact HH.out h
          · rw [Option.toList_some, List.mem_singleton] at h
            exact hne h)⟩
      · have he := eq_of_beq hq
        have hin := Lib.hid (show x ∈ l by rw [he]; exact List.mem_of_getElem? HY.out)
        clear he
        go_wp2_with fail
        go_ret
        exact ⟨⟨(k : Int), rfl, fun _ => hin.out, fun _ => by omega⟩, rfl⟩
    · obtain rfl : k = n := by omega
      have hge : ¬ (k : Int) < (k : Int) := by omega
      have hout := Lib.hid (show x ∉ l by
        have h1 := HH.out
        rw [List.take_of_length_le (by have := H0.out.1; omega)] at h1
        exact h1)
      go_wp2_with fail
      go_ret
      exact ⟨⟨-1, rfl, fun h => by omega, fun h => (hout.out h).elim⟩, rfl⟩
theorem contains_v (A : Option Addr) (n c : Nat) (l : List Int) (x : Int) (w : World) (h : IsInts w A n l) :
    Calls Try.prog 63 #[.slice A n c, .int .i64 x] w fun e w' => e = .returned (.bool (decide (x ∈ l))) ∧ w = w' := by
  have H := Lib.hid h
  obtain ⟨q, hq⟩ : ∃ q, decide (x ∈ l) = q := ⟨_, rfl⟩
  rw [hq]
  have HQ := Lib.hid hq
  clear h hq
  go_enter Try.func63, Try.ntmps63
  go_wp2_with fail
  refine (index_v A n c l x w H.out).mono ?_
  rintro e w1 ⟨⟨z, rfl, hz⟩, rfl⟩
  have HZ := Lib.hid hz
  clear hz
  by_cases h0 : z ≥ 0
  · have hd : q = true := by rw [← HQ.out]; exact decide_eq_true (HZ.out.1 h0)
    subst hd
    go_wp2_with fail
    go_ret
    exact ⟨rfl, rfl⟩
  · have hd : q = false := by rw [← HQ.out]; exact decide_eq_false (fun h => h0 (HZ.out.2 h))
    subst hd
    go_wp2_with fail
    go_ret
    exact ⟨by show Ending.returned (.bool (decide (0 ≤ z))) = _; rw [decide_eq_false (by omega)], rfl⟩
end Go.Proofs.Ytojfbcfbnadboaa.Gra
